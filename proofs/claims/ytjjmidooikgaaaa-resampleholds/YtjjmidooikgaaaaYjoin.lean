/-
  Package rollup: Join, and the document's own.
-/
import Derived.Test.YtjjmidooikgaaaaYbk
import Derived.Test.YtjjmidooikgaaaaYnum
import Derived.Test.YtjjmidooikgaaaaDlast
import Derived.Test.YtjjmidooikgaaaaWlast
import Derived.Deep.RegionHeld3
namespace Go.Proofs.Ytjjmidooikgaaaa.Ru
open Go Go.RowKit Go.Proofs.Lys
set_option linter.unusedVariables false
set_option linter.unusedSimpArgs false

theorem Try.sizeB : (Try.prog.info? 62).map (·.size) = some 6 := by kernel_rfl
def bk0 : Bk := ⟨0, 0, 0, 0, 0, 0⟩
/-- The three boxes of Join. -/
def W3 (w : World) (a b : Bk) : World := ((w.alloc (bkO a)).alloc (bkO b)).alloc (bkO bk0)
theorem w3_boxes (w : World) (a b : Bk) : Blk (W3 w a b) w.heap.size (bkC a) 62 ∧ Blk (W3 w a b) (w.heap.size + 1) (bkC b) 62 ∧ Blk (W3 w a b) (w.heap.size + 1 + 1) (bkC bk0) 62 ∧ Kept w (W3 w a b) := by
  have b0 : Blk (w.alloc (bkO a)) w.heap.size (bkC a) 62 := Blk.new w (bkC a) 62
  have b1 : Blk ((w.alloc (bkO a)).alloc (bkO b)) (w.heap.size + 1) (bkC b) 62 := by
    have := Blk.new (w.alloc (bkO a)) (bkC b) 62
    rw [World.size_alloc] at this
    exact this
  have b2 : Blk (W3 w a b) (w.heap.size + 1 + 1) (bkC bk0) 62 := by
    have := Blk.new ((w.alloc (bkO a)).alloc (bkO b)) (bkC bk0) 62
    rw [World.size_alloc, World.size_alloc] at this
    exact this
  exact ⟨(b0.alloc _).alloc _, b1.alloc _, b2, (((Only.refl _ w).alloc _).alloc _).alloc _⟩

/-- Six cells written. -/
def put6 (w : World) (b o : Nat) (v0 v1 v2 v3 v4 v5 : Value) : World := (((((w.setCell ⟨b, o, none⟩ v0).setCell ⟨b, o + 1, none⟩ v1).setCell ⟨b, o + 2, none⟩ v2).setCell ⟨b, o + 3, none⟩ v3).setCell ⟨b, o + 4, none⟩ v4).setCell ⟨b, o + 5, none⟩ v5
theorem six_ret {fn : Func} {p : Tmp} (h : fn.results = #[.cell p 62]) {w : World} {b : Nat} {x0 x1 x2 x3 x4 x5 : Value} (hb : Blk w b [x0, x1, x2, x3, x4, x5] 62) (tmps : Array Value) (hp : tmps.getD p undef = .pointer (some ⟨b, 0, none⟩)) (v0 v1 v2 v3 v4 v5 : Value) :
    (results fn tmps).run Try.prog (((((((w.setCell ⟨b, 0, none⟩ v0).setCell ⟨b, 1, none⟩ v1).setCell ⟨b, 2, none⟩ v2).setCell ⟨b, 3, none⟩ v3).setCell ⟨b, 4, none⟩ v4).setCell ⟨b, 5, none⟩ v5).drew) = .ok (.agg #[v0, v1, v2, v3, v4, v5]) (((((((w.setCell ⟨b, 0, none⟩ v0).setCell ⟨b, 1, none⟩ v1).setCell ⟨b, 2, none⟩ v2).setCell ⟨b, 3, none⟩ v3).setCell ⟨b, 4, none⟩ v4).setCell ⟨b, 5, none⟩ v5).drew) := by
  have hf : Blk ((((((w.setCell ⟨b, 0, none⟩ v0).setCell ⟨b, 1, none⟩ v1).setCell ⟨b, 2, none⟩ v2).setCell ⟨b, 3, none⟩ v3).setCell ⟨b, 4, none⟩ v4).setCell ⟨b, 5, none⟩ v5) b [v0, v1, v2, v3, v4, v5] 62 := (((((hb.set 0 v0).set 1 v1).set 2 v2).set 3 v3).set 4 v4).set 5 v5
  generalize ((((((w.setCell ⟨b, 0, none⟩ v0).setCell ⟨b, 1, none⟩ v1).setCell ⟨b, 2, none⟩ v2).setCell ⟨b, 3, none⟩ v3).setCell ⟨b, 4, none⟩ v4).setCell ⟨b, 5, none⟩ v5) = wf at hf ⊢
  exact results_cell_row h tmps wf.drew b 62 #[v0, v1, v2, v3, v4, v5] (0, 0) _ hp hf.drew Try.underlying62 rfl Try.sizeB
theorem six_kept {w0 w : World} (k : Kept w0 w) {b : Nat} (hb : w0.heap.size ≤ b) (v0 v1 v2 v3 v4 v5 : Value) : Kept w0 (((((((w.setCell ⟨b, 0, none⟩ v0).setCell ⟨b, 1, none⟩ v1).setCell ⟨b, 2, none⟩ v2).setCell ⟨b, 3, none⟩ v3).setCell ⟨b, 4, none⟩ v4).setCell ⟨b, 5, none⟩ v5).drew) := by
  have hn : ∀ i : Nat, (⟨b, i, none⟩ : Addr).block < w0.heap.size → False := fun i h => by have : b < w0.heap.size := h; omega
  exact ((((((k.setCell (hn _) _).setCell (hn _) _).setCell (hn _) _).setCell (hn _) _).setCell (hn _) _).setCell (hn _) _).drew
set_option maxRecDepth 100000 in
set_option maxHeartbeats 3200000 in
theorem join_any (w : World) (a b : Bk) (m k : Nat) (ha : BkOk m a) (hb : BkOk k b) (hm : m + k ≤ 1000000000) :
    Calls Try.prog 29 #[bkV a, bkV b] w fun e w' => e = .returned (bkV (joinB a b)) ∧ Kept w w' := by
  obtain ⟨hA, hB, hC, hK⟩ := w3_boxes w a b
  obtain ⟨w3, hw3⟩ : ∃ W, W3 w a b = W := ⟨_, rfl⟩
  rw [hw3] at hA hB hC hK
  unfold W3 bkO bk0 at hw3
  have HW := hid hw3
  have hc1 := ha.c; have hc2 := ha.c'; have hd1 := hb.c; have hd2 := hb.c'
  have hAdd := hid (fun W => add_any a.s b.s W ha.s hb.s)
  have HJ : Hid (bkV (joinB a b) = .agg #[.int .i64 a.t, .int .i64 (a.c + b.c), .int .i64 (addC a.s b.s), .int .i64 (min a.mn b.mn), .int .i64 (max a.mx b.mx), .int .i64 b.la]) := hid rfl
  obtain ⟨a0, a1, a2, a3, a4, a5⟩ := a
  obtain ⟨b0, b1, b2, b3, b4, b5⟩ := b
  obtain ⟨V, hV⟩ : ∃ V, bkV (joinB ⟨a0, a1, a2, a3, a4, a5⟩ ⟨b0, b1, b2, b3, b4, b5⟩) = V := ⟨_, rfl⟩
  rw [hV] at HJ ⊢
  unfold bkV
  simp only [bkC] at hA hB hC hc1 hc2 hd1 hd2 hAdd HJ HW ⊢
  clear hV
  obtain ⟨S, hS⟩ : ∃ S, addC a2 b2 = S := ⟨_, rfl⟩
  rw [hS] at hAdd HJ
  have HA := hid hA
  have HB := hid hB
  have HCC := hid hC
  have HK := hid hK
  have x0 := hA.cell 0 rfl
  have x1 := hA.cell 1 rfl
  have x2 := hA.cell 2 rfl
  have x3 := hA.cell 3 rfl
  have x4 := hA.cell 4 rfl
  have y0 := hB.cell 0 rfl
  have y1 := hB.cell 1 rfl
  have y2 := hB.cell 2 rfl
  have y3 := hB.cell 3 rfl
  have y4 := hB.cell 4 rfl
  have y5 := hB.cell 5 rfl
  have z0 := hC.frozen 0
  have z1 := hC.frozen 1
  have z2 := hC.frozen 2
  have z3 := hC.frozen 3
  have z4 := hC.frozen 4
  have z5 := hC.frozen 5
  have hlt := hC.lt
  have v0 := hC.cell 0 rfl
  have v1 := hC.cell 1 rfl
  have v2 := hC.cell 2 rfl
  have v3 := hC.cell 3 rfl
  have v4 := hC.cell 4 rfl
  have v5 := hC.cell 5 rfl
  have e1 : (a1 == 0) = false := by simp; omega
  have e2 : (b1 == 0) = false := by simp; omega
  clear hA hB hK hw3 hS ha hb hC
  go_enter Try.func29, Try.ntmps29
  go_wp2_with fail
  rw [HW.out]
  refine wp_region_noPanic ?_
  refine wp_region_last (L := 25) (S := fun w' => w'.cell? ⟨w.heap.size, 0, none⟩ = some (.int .i64 a0) ∧ w'.cell? ⟨w.heap.size, 1, none⟩ = some (.int .i64 a1) ∧ w'.cell? ⟨w.heap.size, 2, none⟩ = some (.int .i64 a2) ∧ w'.cell? ⟨w.heap.size, 3, none⟩ = some (.int .i64 a3) ∧ w'.cell? ⟨w.heap.size, 4, none⟩ = some (.int .i64 a4) ∧ w'.cell? ⟨w.heap.size + 1, 1, none⟩ = some (.int .i64 b1) ∧ w'.cell? ⟨w.heap.size + 1, 2, none⟩ = some (.int .i64 b2) ∧ w'.cell? ⟨w.heap.size + 1, 3, none⟩ = some (.int .i64 b3) ∧ w'.cell? ⟨w.heap.size + 1, 4, none⟩ = some (.int .i64 b4) ∧ w'.cell? ⟨w.heap.size + 1, 5, none⟩ = some (.int .i64 b5)) (by kernel_rfl) ?_
  have hS : (fun w' : World => w'.cell? ⟨w.heap.size, 0, none⟩ = some (.int .i64 a0) ∧ w'.cell? ⟨w.heap.size, 1, none⟩ = some (.int .i64 a1) ∧ w'.cell? ⟨w.heap.size, 2, none⟩ = some (.int .i64 a2) ∧ w'.cell? ⟨w.heap.size, 3, none⟩ = some (.int .i64 a3) ∧ w'.cell? ⟨w.heap.size, 4, none⟩ = some (.int .i64 a4) ∧ w'.cell? ⟨w.heap.size + 1, 1, none⟩ = some (.int .i64 b1) ∧ w'.cell? ⟨w.heap.size + 1, 2, none⟩ = some (.int .i64 b2) ∧ w'.cell? ⟨w.heap.size + 1, 3, none⟩ = some (.int .i64 b3) ∧ w'.cell? ⟨w.heap.size + 1, 4, none⟩ = some (.int .i64 b4) ∧ w'.cell? ⟨w.heap.size + 1, 5, none⟩ = some (.int .i64 b5)) w3.drew := ⟨x0, x1, x2, x3, x4, y1, y2, y3, y4, y5⟩
  refine wpAnyL_take (i := 0) (v := .pointer (some ⟨w.heap.size, 0, none⟩)) rfl (by kernel_rfl) (by kernel_rfl) (by kernel_rfl) (by kernel_rfl) (by kernel_rfl) (fun _ _ _ h => h) (Or.inl ⟨by kernel_rfl, ?_⟩) hS ?_
  · (intro w' hSw; obtain ⟨x0, x1, x2, x3, x4, y1, y2, y3, y4, y5⟩ := hSw; go_simp)
  (try simp only [List.getElem_toArray, List.getElem_cons_succ, List.getElem_cons_zero])
  go_frame
  refine wpAnyL_take (i := 1) (v := .int .i64 a0) rfl (by kernel_rfl) (by kernel_rfl) (by kernel_rfl) (by kernel_rfl) (by kernel_rfl) (fun _ _ _ h => h) (Or.inl ⟨by kernel_rfl, ?_⟩) hS ?_
  · (intro w' hSw; obtain ⟨x0, x1, x2, x3, x4, y1, y2, y3, y4, y5⟩ := hSw; go_simp)
  (try simp only [List.getElem_toArray, List.getElem_cons_succ, List.getElem_cons_zero])
  go_frame
  refine wpAnyL_take (i := 2) (v := .pointer (some ⟨w.heap.size, 1, none⟩)) rfl (by kernel_rfl) (by kernel_rfl) (by kernel_rfl) (by kernel_rfl) (by kernel_rfl) (fun _ _ _ h => h) (Or.inl ⟨by kernel_rfl, ?_⟩) hS ?_
  · (intro w' hSw; obtain ⟨x0, x1, x2, x3, x4, y1, y2, y3, y4, y5⟩ := hSw; go_simp)
  (try simp only [List.getElem_toArray, List.getElem_cons_succ, List.getElem_cons_zero])
  go_frame
  refine wpAnyL_take (i := 3) (v := .int .i64 a1) rfl (by kernel_rfl) (by kernel_rfl) (by kernel_rfl) (by kernel_rfl) (by kernel_rfl) (fun _ _ _ h => h) (Or.inl ⟨by kernel_rfl, ?_⟩) hS ?_
  · (intro w' hSw; obtain ⟨x0, x1, x2, x3, x4, y1, y2, y3, y4, y5⟩ := hSw; go_simp)
  (try simp only [List.getElem_toArray, List.getElem_cons_succ, List.getElem_cons_zero])
  go_frame
  refine wpAnyL_take (i := 4) (v := .pointer (some ⟨w.heap.size + 1, 1, none⟩)) rfl (by kernel_rfl) (by kernel_rfl) (by kernel_rfl) (by kernel_rfl) (by kernel_rfl) (fun _ _ _ h => h) (Or.inl ⟨by kernel_rfl, ?_⟩) hS ?_
  · (intro w' hSw; obtain ⟨x0, x1, x2, x3, x4, y1, y2, y3, y4, y5⟩ := hSw; go_simp)
  (try simp only [List.getElem_toArray, List.getElem_cons_succ, List.getElem_cons_zero])
  go_frame
  refine wpAnyL_take (i := 5) (v := .int .i64 b1) rfl (by kernel_rfl) (by kernel_rfl) (by kernel_rfl) (by kernel_rfl) (by kernel_rfl) (fun _ _ _ h => h) (Or.inl ⟨by kernel_rfl, ?_⟩) hS ?_
  · (intro w' hSw; obtain ⟨x0, x1, x2, x3, x4, y1, y2, y3, y4, y5⟩ := hSw; go_simp)
  (try simp only [List.getElem_toArray, List.getElem_cons_succ, List.getElem_cons_zero])
  go_frame
  refine wpAnyL_take (i := 6) (v := .int .i64 (a1 + b1)) rfl (by kernel_rfl) (by kernel_rfl) (by kernel_rfl) (by kernel_rfl) (by kernel_rfl) (fun _ _ _ h => h) (Or.inl ⟨by kernel_rfl, ?_⟩) hS ?_
  · (intro w' hSw; obtain ⟨x0, x1, x2, x3, x4, y1, y2, y3, y4, y5⟩ := hSw; go_simp; rw [IntKind.wrap_i64]; omega)
  (try simp only [List.getElem_toArray, List.getElem_cons_succ, List.getElem_cons_zero])
  go_frame
  refine wpAnyL_take (i := 7) (v := .pointer (some ⟨w.heap.size, 2, none⟩)) rfl (by kernel_rfl) (by kernel_rfl) (by kernel_rfl) (by kernel_rfl) (by kernel_rfl) (fun _ _ _ h => h) (Or.inl ⟨by kernel_rfl, ?_⟩) hS ?_
  · (intro w' hSw; obtain ⟨x0, x1, x2, x3, x4, y1, y2, y3, y4, y5⟩ := hSw; go_simp)
  (try simp only [List.getElem_toArray, List.getElem_cons_succ, List.getElem_cons_zero])
  go_frame
  refine wpAnyL_take (i := 8) (v := .int .i64 a2) rfl (by kernel_rfl) (by kernel_rfl) (by kernel_rfl) (by kernel_rfl) (by kernel_rfl) (fun _ _ _ h => h) (Or.inl ⟨by kernel_rfl, ?_⟩) hS ?_
  · (intro w' hSw; obtain ⟨x0, x1, x2, x3, x4, y1, y2, y3, y4, y5⟩ := hSw; go_simp)
  (try simp only [List.getElem_toArray, List.getElem_cons_succ, List.getElem_cons_zero])
  go_frame
  refine wpAnyL_take (i := 9) (v := .pointer (some ⟨w.heap.size + 1, 2, none⟩)) rfl (by kernel_rfl) (by kernel_rfl) (by kernel_rfl) (by kernel_rfl) (by kernel_rfl) (fun _ _ _ h => h) (Or.inl ⟨by kernel_rfl, ?_⟩) hS ?_
  · (intro w' hSw; obtain ⟨x0, x1, x2, x3, x4, y1, y2, y3, y4, y5⟩ := hSw; go_simp)
  (try simp only [List.getElem_toArray, List.getElem_cons_succ, List.getElem_cons_zero])
  go_frame
  refine wpAnyL_take (i := 10) (v := .int .i64 b2) rfl (by kernel_rfl) (by kernel_rfl) (by kernel_rfl) (by kernel_rfl) (by kernel_rfl) (fun _ _ _ h => h) (Or.inl ⟨by kernel_rfl, ?_⟩) hS ?_
  · (intro w' hSw; obtain ⟨x0, x1, x2, x3, x4, y1, y2, y3, y4, y5⟩ := hSw; go_simp)
  (try simp only [List.getElem_toArray, List.getElem_cons_succ, List.getElem_cons_zero])
  go_frame
  refine wpAnyL_take (i := 12) (v := .pointer (some ⟨w.heap.size, 3, none⟩)) rfl (by kernel_rfl) (by kernel_rfl) (by kernel_rfl) (by kernel_rfl) (by kernel_rfl) (fun _ _ _ h => h) (Or.inl ⟨by kernel_rfl, ?_⟩) hS ?_
  · (intro w' hSw; obtain ⟨x0, x1, x2, x3, x4, y1, y2, y3, y4, y5⟩ := hSw; go_simp)
  (try simp only [List.getElem_toArray, List.getElem_cons_succ, List.getElem_cons_zero])
  go_frame
  refine wpAnyL_take (i := 13) (v := .int .i64 a3) rfl (by kernel_rfl) (by kernel_rfl) (by kernel_rfl) (by kernel_rfl) (by kernel_rfl) (fun _ _ _ h => h) (Or.inl ⟨by kernel_rfl, ?_⟩) hS ?_
  · (intro w' hSw; obtain ⟨x0, x1, x2, x3, x4, y1, y2, y3, y4, y5⟩ := hSw; go_simp)
  (try simp only [List.getElem_toArray, List.getElem_cons_succ, List.getElem_cons_zero])
  go_frame
  refine wpAnyL_take (i := 14) (v := .pointer (some ⟨w.heap.size + 1, 3, none⟩)) rfl (by kernel_rfl) (by kernel_rfl) (by kernel_rfl) (by kernel_rfl) (by kernel_rfl) (fun _ _ _ h => h) (Or.inl ⟨by kernel_rfl, ?_⟩) hS ?_
  · (intro w' hSw; obtain ⟨x0, x1, x2, x3, x4, y1, y2, y3, y4, y5⟩ := hSw; go_simp)
  (try simp only [List.getElem_toArray, List.getElem_cons_succ, List.getElem_cons_zero])
  go_frame
  refine wpAnyL_take (i := 15) (v := .int .i64 b3) rfl (by kernel_rfl) (by kernel_rfl) (by kernel_rfl) (by kernel_rfl) (by kernel_rfl) (fun _ _ _ h => h) (Or.inl ⟨by kernel_rfl, ?_⟩) hS ?_
  · (intro w' hSw; obtain ⟨x0, x1, x2, x3, x4, y1, y2, y3, y4, y5⟩ := hSw; go_simp)
  (try simp only [List.getElem_toArray, List.getElem_cons_succ, List.getElem_cons_zero])
  go_frame
  refine wpAnyL_take (i := 16) (v := .int .i64 (min a3 b3)) rfl (by kernel_rfl) (by kernel_rfl) (by kernel_rfl) (by kernel_rfl) (by kernel_rfl) (fun _ _ _ h => h) (Or.inl ⟨by kernel_rfl, ?_⟩) hS ?_
  · (intro w' hSw; obtain ⟨x0, x1, x2, x3, x4, y1, y2, y3, y4, y5⟩ := hSw; go_simp; split <;> omega)
  (try simp only [List.getElem_toArray, List.getElem_cons_succ, List.getElem_cons_zero])
  go_frame
  refine wpAnyL_take (i := 17) (v := .pointer (some ⟨w.heap.size, 4, none⟩)) rfl (by kernel_rfl) (by kernel_rfl) (by kernel_rfl) (by kernel_rfl) (by kernel_rfl) (fun _ _ _ h => h) (Or.inl ⟨by kernel_rfl, ?_⟩) hS ?_
  · (intro w' hSw; obtain ⟨x0, x1, x2, x3, x4, y1, y2, y3, y4, y5⟩ := hSw; go_simp)
  (try simp only [List.getElem_toArray, List.getElem_cons_succ, List.getElem_cons_zero])
  go_frame
  refine wpAnyL_take (i := 18) (v := .int .i64 a4) rfl (by kernel_rfl) (by kernel_rfl) (by kernel_rfl) (by kernel_rfl) (by kernel_rfl) (fun _ _ _ h => h) (Or.inl ⟨by kernel_rfl, ?_⟩) hS ?_
  · (intro w' hSw; obtain ⟨x0, x1, x2, x3, x4, y1, y2, y3, y4, y5⟩ := hSw; go_simp)
  (try simp only [List.getElem_toArray, List.getElem_cons_succ, List.getElem_cons_zero])
  go_frame
  refine wpAnyL_take (i := 19) (v := .pointer (some ⟨w.heap.size + 1, 4, none⟩)) rfl (by kernel_rfl) (by kernel_rfl) (by kernel_rfl) (by kernel_rfl) (by kernel_rfl) (fun _ _ _ h => h) (Or.inl ⟨by kernel_rfl, ?_⟩) hS ?_
  · (intro w' hSw; obtain ⟨x0, x1, x2, x3, x4, y1, y2, y3, y4, y5⟩ := hSw; go_simp)
  (try simp only [List.getElem_toArray, List.getElem_cons_succ, List.getElem_cons_zero])
  go_frame
  refine wpAnyL_take (i := 20) (v := .int .i64 b4) rfl (by kernel_rfl) (by kernel_rfl) (by kernel_rfl) (by kernel_rfl) (by kernel_rfl) (fun _ _ _ h => h) (Or.inl ⟨by kernel_rfl, ?_⟩) hS ?_
  · (intro w' hSw; obtain ⟨x0, x1, x2, x3, x4, y1, y2, y3, y4, y5⟩ := hSw; go_simp)
  (try simp only [List.getElem_toArray, List.getElem_cons_succ, List.getElem_cons_zero])
  go_frame
  refine wpAnyL_take (i := 21) (v := .int .i64 (max a4 b4)) rfl (by kernel_rfl) (by kernel_rfl) (by kernel_rfl) (by kernel_rfl) (by kernel_rfl) (fun _ _ _ h => h) (Or.inl ⟨by kernel_rfl, ?_⟩) hS ?_
  · (intro w' hSw; obtain ⟨x0, x1, x2, x3, x4, y1, y2, y3, y4, y5⟩ := hSw; go_simp; split <;> omega)
  (try simp only [List.getElem_toArray, List.getElem_cons_succ, List.getElem_cons_zero])
  go_frame
  refine wpAnyL_take (i := 22) (v := .pointer (some ⟨w.heap.size + 1, 5, none⟩)) rfl (by kernel_rfl) (by kernel_rfl) (by kernel_rfl) (by kernel_rfl) (by kernel_rfl) (fun _ _ _ h => h) (Or.inl ⟨by kernel_rfl, ?_⟩) hS ?_
  · (intro w' hSw; obtain ⟨x0, x1, x2, x3, x4, y1, y2, y3, y4, y5⟩ := hSw; go_simp)
  (try simp only [List.getElem_toArray, List.getElem_cons_succ, List.getElem_cons_zero])
  go_frame
  refine wpAnyL_take (i := 23) (v := .int .i64 b5) rfl (by kernel_rfl) (by kernel_rfl) (by kernel_rfl) (by kernel_rfl) (by kernel_rfl) (fun _ _ _ h => h) (Or.inl ⟨by kernel_rfl, ?_⟩) hS ?_
  · (intro w' hSw; obtain ⟨x0, x1, x2, x3, x4, y1, y2, y3, y4, y5⟩ := hSw; go_simp)
  (try simp only [List.getElem_toArray, List.getElem_cons_succ, List.getElem_cons_zero])
  go_frame
  refine wpAnyL_one (i := 11) (by kernel_rfl) rfl rfl ?_
  go_simp
  refine (hAdd.out _).mono ?_
  rintro e w2 ⟨rfl, rfl⟩
  refine ⟨hS, ?_⟩
  refine wpAnyL_one (i := 24) (by kernel_rfl) rfl rfl ?_
  go_simp
  refine wpAnyL_last (by kernel_rfl) (by kernel_rfl) rfl rfl ?_
  go_simp
  refine NoPanic.normal ?_
  have HZ := hid (six_kept HK.out (b := w.heap.size + 1 + 1) (by omega) (.int .i64 a0) (.int .i64 (a1 + b1)) (.int .i64 S) (.int .i64 (min a3 b3)) (.int .i64 (max a4 b4)) (.int .i64 b5))
  go_wp2
  refine bodyPost_ret (six_ret (fn := Try.f29) (p := 4) rfl HCC.out _ (by rfl) _ _ _ _ _ _) rfl ?_
  exact ⟨by rw [HJ.out], HZ.out⟩
end Go.Proofs.Ytjjmidooikgaaaa.Ru
