/-
  Package rollup: the document's own Join.
-/
import Derived.Test.YtdepgplbcfbopaaYjoin
namespace Go.Proofs.Lys
open Go
section
variable {P : Program} {ops : Array Oper} {Q : Exit → Act → World → Prop} {md : Region.Mode} {S : World → Prop} {L : Nat}
/-- Two may come up. -/
theorem wpAnyL_two {i j : Nat} {oi oj : Oper} {fuel : Nat} {listed : Array Bool} {a : Act} {w : World} (hr : Region.ready md ops listed = [i, j]) (hoi : ops[i]? = some oi) (hoj : ops[j]? = some oj) (hwi : Region.wanted oi (yielded ops a.tmps) = true) (hwj : Region.wanted oj (yielded ops a.tmps) = true)
    (h1 : Oper.wp P oi a w (fun a' w' => S w' ∧ wpAnyL P md ops Q S L fuel (listed.setIfInBounds i true) a' w') Q)
    (h2 : Oper.wp P oj a w (fun a' w' => S w' ∧ wpAnyL P md ops Q S L fuel (listed.setIfInBounds j true) a' w') Q) : wpAnyL P md ops Q S L (fuel + 1) listed a w := by
  refine ⟨fun h0 => (by rw [hr] at h0; cases h0), fun q hq => ?_⟩
  rw [hr] at hq
  have e : q = i ∨ q = j := by simpa using hq
  rcases e with rfl | rfl
  · refine wpOp_step hoi (fun K hK => ?_)
    rw [if_pos hwi]
    exact Oper.wp_mono (fun a' w' h' => hK a' w' ⟨fun _ => h'.1, h'.2⟩) h1
  · refine wpOp_step hoj (fun K hK => ?_)
    rw [if_pos hwj]
    exact Oper.wp_mono (fun a' w' h' => hK a' w' ⟨fun _ => h'.1, h'.2⟩) h2
end
/-- A region whose ways meet again in one frame. -/
theorem wp_region_meet0 {P : Program} {id : Nat} {ops : Array Oper} {b : Bool} {Q : Exit → Act → World → Prop} {a : Act} {w : World} {A : Act} (D : World → Prop)
    (h1 : (Code.region id ops b).wp P (fun e a' w' => e = .normal ∧ a' = A ∧ D w') a w) (h2 : ∀ w', D w' → Q .normal A w') : (Code.region id ops b).wp P Q a w :=
  Code.wp_mono (fun e a' w' h => by obtain ⟨rfl, rfl, hD⟩ := h; exact h2 w' hD) h1
end Go.Proofs.Lys
namespace Go.Proofs.Ytdepgplbcfbopaa.Ru
open Go Go.RowKit Go.Proofs.Lys
set_option linter.unusedVariables false
set_option linter.unusedSimpArgs false
theorem six_ret0 {fn : Func} {p : Tmp} (h : fn.results = #[.cell p 38]) {w : World} {b : Nat} {x0 x1 x2 x3 x4 x5 : Value} (hb : Blk w b [x0, x1, x2, x3, x4, x5] 38) (tmps : Array Value) (hp : tmps.getD p undef = .pointer (some ⟨b, 0, none⟩)) (v0 v1 v2 v3 v4 v5 : Value) :
    (results fn tmps).run Try.prog ((((((w.setCell ⟨b, 0, none⟩ v0).setCell ⟨b, 1, none⟩ v1).setCell ⟨b, 2, none⟩ v2).setCell ⟨b, 3, none⟩ v3).setCell ⟨b, 4, none⟩ v4).setCell ⟨b, 5, none⟩ v5) = .ok (.agg #[v0, v1, v2, v3, v4, v5]) ((((((w.setCell ⟨b, 0, none⟩ v0).setCell ⟨b, 1, none⟩ v1).setCell ⟨b, 2, none⟩ v2).setCell ⟨b, 3, none⟩ v3).setCell ⟨b, 4, none⟩ v4).setCell ⟨b, 5, none⟩ v5) := by
  have hf : Blk ((((((w.setCell ⟨b, 0, none⟩ v0).setCell ⟨b, 1, none⟩ v1).setCell ⟨b, 2, none⟩ v2).setCell ⟨b, 3, none⟩ v3).setCell ⟨b, 4, none⟩ v4).setCell ⟨b, 5, none⟩ v5) b [v0, v1, v2, v3, v4, v5] 38 := (((((hb.set 0 v0).set 1 v1).set 2 v2).set 3 v3).set 4 v4).set 5 v5
  generalize ((((((w.setCell ⟨b, 0, none⟩ v0).setCell ⟨b, 1, none⟩ v1).setCell ⟨b, 2, none⟩ v2).setCell ⟨b, 3, none⟩ v3).setCell ⟨b, 4, none⟩ v4).setCell ⟨b, 5, none⟩ v5) = wf at hf ⊢
  exact results_cell_row h tmps wf b 38 #[v0, v1, v2, v3, v4, v5] (0, 0) _ hp hf Try.underlying38 rfl Try.sizeB
theorem six_kept0 {w0 w : World} (k : Kept w0 w) {b : Nat} (hb : w0.heap.size ≤ b) (v0 v1 v2 v3 v4 v5 : Value) : Kept w0 ((((((w.setCell ⟨b, 0, none⟩ v0).setCell ⟨b, 1, none⟩ v1).setCell ⟨b, 2, none⟩ v2).setCell ⟨b, 3, none⟩ v3).setCell ⟨b, 4, none⟩ v4).setCell ⟨b, 5, none⟩ v5) := by
  have hn : ∀ i : Nat, (⟨b, i, none⟩ : Addr).block < w0.heap.size → False := fun i h => by have : b < w0.heap.size := h; omega
  exact (((((k.setCell (hn _) _).setCell (hn _) _).setCell (hn _) _).setCell (hn _) _).setCell (hn _) _).setCell (hn _) _
set_option maxRecDepth 100000 in
set_option maxHeartbeats 3200000 in
theorem rjoin_any (w : World) (a b : Bk) (m k : Nat) (ha : BkOk m a) (hb : BkOk k b) (hm : m + k ≤ 1000000000) :
    Calls Try.prog 19 #[bkV a, bkV b] w fun e w' => e = .returned (bkV (joinB a b)) ∧ Kept w w' := by
  obtain ⟨hA, hB, hC, hK⟩ := w3_boxes w a b
  obtain ⟨w3, hw3⟩ : ∃ W, W3 w a b = W := ⟨_, rfl⟩
  rw [hw3] at hA hB hC hK
  unfold W3 bkO bk0 at hw3
  have HW := hid hw3
  have hc1 := ha.c; have hc2 := ha.c'; have hd1 := hb.c; have hd2 := hb.c'
  have hAdd := hid (fun W => radd_any a.s b.s W ha.s hb.s)
  have HJ : Hid (bkV (joinB a b) = .agg #[.int .i64 a.t, .int .i64 (a.c + b.c), .int .i64 (addC a.s b.s), .int .i64 (min a.mn b.mn), .int .i64 (max a.mx b.mx), .int .i64 b.la]) := hid rfl
  obtain ⟨a0, a1, a2, a3, a4, a5⟩ := a
  obtain ⟨b0, b1, b2, b3, b4, b5⟩ := b
  obtain ⟨V, hV⟩ : ∃ V, bkV (joinB ⟨a0, a1, a2, a3, a4, a5⟩ ⟨b0, b1, b2, b3, b4, b5⟩) = V := ⟨_, rfl⟩
  rw [hV] at HJ ⊢
  unfold bkV
  simp only [bkC] at hA hB hC hc1 hc2 hd1 hd2 hAdd HJ HW ⊢
  clear hV
  obtain ⟨S, hS⟩ : ∃ S, addC a2 b2 = S := ⟨_, rfl⟩
  rw [hS] at hAdd HJ
  have HA := hid hA
  have HB := hid hB
  have HCC := hid hC
  have HK := hid hK
  have x0 := hA.cell 0 rfl
  have x1 := hA.cell 1 rfl
  have x2 := hA.cell 2 rfl
  have x3 := hA.cell 3 rfl
  have x4 := hA.cell 4 rfl
  have y0 := hB.cell 0 rfl
  have y1 := hB.cell 1 rfl
  have y2 := hB.cell 2 rfl
  have y3 := hB.cell 3 rfl
  have y4 := hB.cell 4 rfl
  have y5 := hB.cell 5 rfl
  have z0 := hC.frozen 0
  have z1 := hC.frozen 1
  have z2 := hC.frozen 2
  have z3 := hC.frozen 3
  have z4 := hC.frozen 4
  have z5 := hC.frozen 5
  have hlt := hC.lt
  have v0 := hC.cell 0 rfl
  have v1 := hC.cell 1 rfl
  have v2 := hC.cell 2 rfl
  have v3 := hC.cell 3 rfl
  have v4 := hC.cell 4 rfl
  have v5 := hC.cell 5 rfl
  have e1 : (a1 == 0) = false := by simp; omega
  have e2 : (b1 == 0) = false := by simp; omega
  clear hA hB hK hw3 hS ha hb hC
  go_enter Try.func19, Try.ntmps19
  go_wp2_with fail
  rw [HW.out]
  have HOB : Hid (∀ W, Kept w3 W → W.cell? ⟨w.heap.size, 0, none⟩ = some (.int .i64 a0) ∧ W.cell? ⟨w.heap.size, 1, none⟩ = some (.int .i64 a1) ∧ W.cell? ⟨w.heap.size, 2, none⟩ = some (.int .i64 a2) ∧ W.cell? ⟨w.heap.size, 3, none⟩ = some (.int .i64 a3) ∧ W.cell? ⟨w.heap.size, 4, none⟩ = some (.int .i64 a4) ∧ W.cell? ⟨w.heap.size + 1, 1, none⟩ = some (.int .i64 b1) ∧ W.cell? ⟨w.heap.size + 1, 2, none⟩ = some (.int .i64 b2) ∧ W.cell? ⟨w.heap.size + 1, 5, none⟩ = some (.int .i64 b5)) := hid (fun W k => by
    have hA := Only.blk k HA.out (fun f => f)
    have hB := Only.blk k HB.out (fun f => f)
    exact ⟨hA.cell 0 rfl, hA.cell 1 rfl, hA.cell 2 rfl, hA.cell 3 rfl, hA.cell 4 rfl, hB.cell 1 rfl, hB.cell 2 rfl, hB.cell 5 rfl⟩)
  apply wp_region_meet0 (fun W => Kept w3 W ∧ Blk W w3.heap.size [.int .i64 a0, .int .i64 (a1 + b1), .int .i64 S, .int .i64 a3, .int .i64 a4, .int .i64 b5] 38)
  · refine wp_region_noPanic ?_
    refine wp_region_last (L := 20) (S := fun w' => Kept w3 w') (by kernel_rfl) ?_
    have hS : (fun w' : World => Kept w3 w') w3.drew := (Only.refl _ w3).drew
    refine wpAnyL_take (i := 0) (v := .pointer (some ⟨w.heap.size, 0, none⟩)) rfl (by kernel_rfl) (by kernel_rfl) (by kernel_rfl) (by kernel_rfl) (by kernel_rfl) (fun _ _ _ h => h) (Or.inl ⟨by kernel_rfl, ?_⟩) hS ?_
    · (intro w' hSw; obtain ⟨x0, x1, x2, x3, x4, y1, y2, y5⟩ := HOB.out w' hSw; clear hSw; go_simp)
    (try simp only [List.getElem_toArray, List.getElem_cons_succ, List.getElem_cons_zero])
    go_frame
    refine wpAnyL_take (i := 1) (v := .int .i64 a0) rfl (by kernel_rfl) (by kernel_rfl) (by kernel_rfl) (by kernel_rfl) (by kernel_rfl) (fun _ _ _ h => h) (Or.inl ⟨by kernel_rfl, ?_⟩) hS ?_
    · (intro w' hSw; obtain ⟨x0, x1, x2, x3, x4, y1, y2, y5⟩ := HOB.out w' hSw; clear hSw; go_simp)
    (try simp only [List.getElem_toArray, List.getElem_cons_succ, List.getElem_cons_zero])
    go_frame
    refine wpAnyL_take (i := 2) (v := .pointer (some ⟨w.heap.size, 1, none⟩)) rfl (by kernel_rfl) (by kernel_rfl) (by kernel_rfl) (by kernel_rfl) (by kernel_rfl) (fun _ _ _ h => h) (Or.inl ⟨by kernel_rfl, ?_⟩) hS ?_
    · (intro w' hSw; obtain ⟨x0, x1, x2, x3, x4, y1, y2, y5⟩ := HOB.out w' hSw; clear hSw; go_simp)
    (try simp only [List.getElem_toArray, List.getElem_cons_succ, List.getElem_cons_zero])
    go_frame
    refine wpAnyL_take (i := 3) (v := .int .i64 a1) rfl (by kernel_rfl) (by kernel_rfl) (by kernel_rfl) (by kernel_rfl) (by kernel_rfl) (fun _ _ _ h => h) (Or.inl ⟨by kernel_rfl, ?_⟩) hS ?_
    · (intro w' hSw; obtain ⟨x0, x1, x2, x3, x4, y1, y2, y5⟩ := HOB.out w' hSw; clear hSw; go_simp)
    (try simp only [List.getElem_toArray, List.getElem_cons_succ, List.getElem_cons_zero])
    go_frame
    refine wpAnyL_take (i := 4) (v := .pointer (some ⟨w.heap.size + 1, 1, none⟩)) rfl (by kernel_rfl) (by kernel_rfl) (by kernel_rfl) (by kernel_rfl) (by kernel_rfl) (fun _ _ _ h => h) (Or.inl ⟨by kernel_rfl, ?_⟩) hS ?_
    · (intro w' hSw; obtain ⟨x0, x1, x2, x3, x4, y1, y2, y5⟩ := HOB.out w' hSw; clear hSw; go_simp)
    (try simp only [List.getElem_toArray, List.getElem_cons_succ, List.getElem_cons_zero])
    go_frame
    refine wpAnyL_take (i := 5) (v := .int .i64 b1) rfl (by kernel_rfl) (by kernel_rfl) (by kernel_rfl) (by kernel_rfl) (by kernel_rfl) (fun _ _ _ h => h) (Or.inl ⟨by kernel_rfl, ?_⟩) hS ?_
    · (intro w' hSw; obtain ⟨x0, x1, x2, x3, x4, y1, y2, y5⟩ := HOB.out w' hSw; clear hSw; go_simp)
    (try simp only [List.getElem_toArray, List.getElem_cons_succ, List.getElem_cons_zero])
    go_frame
    refine wpAnyL_take (i := 6) (v := .int .i64 (a1 + b1)) rfl (by kernel_rfl) (by kernel_rfl) (by kernel_rfl) (by kernel_rfl) (by kernel_rfl) (fun _ _ _ h => h) (Or.inl ⟨by kernel_rfl, ?_⟩) hS ?_
    · (intro w' hSw; obtain ⟨x0, x1, x2, x3, x4, y1, y2, y5⟩ := HOB.out w' hSw; clear hSw; go_simp; rw [IntKind.wrap_i64]; omega)
    (try simp only [List.getElem_toArray, List.getElem_cons_succ, List.getElem_cons_zero])
    go_frame
    refine wpAnyL_take (i := 7) (v := .pointer (some ⟨w.heap.size, 2, none⟩)) rfl (by kernel_rfl) (by kernel_rfl) (by kernel_rfl) (by kernel_rfl) (by kernel_rfl) (fun _ _ _ h => h) (Or.inl ⟨by kernel_rfl, ?_⟩) hS ?_
    · (intro w' hSw; obtain ⟨x0, x1, x2, x3, x4, y1, y2, y5⟩ := HOB.out w' hSw; clear hSw; go_simp)
    (try simp only [List.getElem_toArray, List.getElem_cons_succ, List.getElem_cons_zero])
    go_frame
    refine wpAnyL_take (i := 8) (v := .int .i64 a2) rfl (by kernel_rfl) (by kernel_rfl) (by kernel_rfl) (by kernel_rfl) (by kernel_rfl) (fun _ _ _ h => h) (Or.inl ⟨by kernel_rfl, ?_⟩) hS ?_
    · (intro w' hSw; obtain ⟨x0, x1, x2, x3, x4, y1, y2, y5⟩ := HOB.out w' hSw; clear hSw; go_simp)
    (try simp only [List.getElem_toArray, List.getElem_cons_succ, List.getElem_cons_zero])
    go_frame
    refine wpAnyL_take (i := 9) (v := .pointer (some ⟨w.heap.size + 1, 2, none⟩)) rfl (by kernel_rfl) (by kernel_rfl) (by kernel_rfl) (by kernel_rfl) (by kernel_rfl) (fun _ _ _ h => h) (Or.inl ⟨by kernel_rfl, ?_⟩) hS ?_
    · (intro w' hSw; obtain ⟨x0, x1, x2, x3, x4, y1, y2, y5⟩ := HOB.out w' hSw; clear hSw; go_simp)
    (try simp only [List.getElem_toArray, List.getElem_cons_succ, List.getElem_cons_zero])
    go_frame
    refine wpAnyL_take (i := 10) (v := .int .i64 b2) rfl (by kernel_rfl) (by kernel_rfl) (by kernel_rfl) (by kernel_rfl) (by kernel_rfl) (fun _ _ _ h => h) (Or.inl ⟨by kernel_rfl, ?_⟩) hS ?_
    · (intro w' hSw; obtain ⟨x0, x1, x2, x3, x4, y1, y2, y5⟩ := HOB.out w' hSw; clear hSw; go_simp)
    (try simp only [List.getElem_toArray, List.getElem_cons_succ, List.getElem_cons_zero])
    go_frame
    refine wpAnyL_take (i := 12) (v := .pointer (some ⟨w.heap.size, 3, none⟩)) rfl (by kernel_rfl) (by kernel_rfl) (by kernel_rfl) (by kernel_rfl) (by kernel_rfl) (fun _ _ _ h => h) (Or.inl ⟨by kernel_rfl, ?_⟩) hS ?_
    · (intro w' hSw; obtain ⟨x0, x1, x2, x3, x4, y1, y2, y5⟩ := HOB.out w' hSw; clear hSw; go_simp)
    (try simp only [List.getElem_toArray, List.getElem_cons_succ, List.getElem_cons_zero])
    go_frame
    refine wpAnyL_take (i := 13) (v := .int .i64 a3) rfl (by kernel_rfl) (by kernel_rfl) (by kernel_rfl) (by kernel_rfl) (by kernel_rfl) (fun _ _ _ h => h) (Or.inl ⟨by kernel_rfl, ?_⟩) hS ?_
    · (intro w' hSw; obtain ⟨x0, x1, x2, x3, x4, y1, y2, y5⟩ := HOB.out w' hSw; clear hSw; go_simp)
    (try simp only [List.getElem_toArray, List.getElem_cons_succ, List.getElem_cons_zero])
    go_frame
    refine wpAnyL_take (i := 14) (v := .pointer (some ⟨w.heap.size, 4, none⟩)) rfl (by kernel_rfl) (by kernel_rfl) (by kernel_rfl) (by kernel_rfl) (by kernel_rfl) (fun _ _ _ h => h) (Or.inl ⟨by kernel_rfl, ?_⟩) hS ?_
    · (intro w' hSw; obtain ⟨x0, x1, x2, x3, x4, y1, y2, y5⟩ := HOB.out w' hSw; clear hSw; go_simp)
    (try simp only [List.getElem_toArray, List.getElem_cons_succ, List.getElem_cons_zero])
    go_frame
    refine wpAnyL_take (i := 15) (v := .int .i64 a4) rfl (by kernel_rfl) (by kernel_rfl) (by kernel_rfl) (by kernel_rfl) (by kernel_rfl) (fun _ _ _ h => h) (Or.inl ⟨by kernel_rfl, ?_⟩) hS ?_
    · (intro w' hSw; obtain ⟨x0, x1, x2, x3, x4, y1, y2, y5⟩ := HOB.out w' hSw; clear hSw; go_simp)
    (try simp only [List.getElem_toArray, List.getElem_cons_succ, List.getElem_cons_zero])
    go_frame
    refine wpAnyL_take (i := 16) (v := .pointer (some ⟨w.heap.size + 1, 5, none⟩)) rfl (by kernel_rfl) (by kernel_rfl) (by kernel_rfl) (by kernel_rfl) (by kernel_rfl) (fun _ _ _ h => h) (Or.inl ⟨by kernel_rfl, ?_⟩) hS ?_
    · (intro w' hSw; obtain ⟨x0, x1, x2, x3, x4, y1, y2, y5⟩ := HOB.out w' hSw; clear hSw; go_simp)
    (try simp only [List.getElem_toArray, List.getElem_cons_succ, List.getElem_cons_zero])
    go_frame
    refine wpAnyL_take (i := 17) (v := .int .i64 b5) rfl (by kernel_rfl) (by kernel_rfl) (by kernel_rfl) (by kernel_rfl) (by kernel_rfl) (fun _ _ _ h => h) (Or.inl ⟨by kernel_rfl, ?_⟩) hS ?_
    · (intro w' hSw; obtain ⟨x0, x1, x2, x3, x4, y1, y2, y5⟩ := HOB.out w' hSw; clear hSw; go_simp)
    (try simp only [List.getElem_toArray, List.getElem_cons_succ, List.getElem_cons_zero])
    go_frame
    refine wpAnyL_two (i := 11) (j := 19) (by kernel_rfl) rfl rfl (by kernel_rfl) (by kernel_rfl) ?_ ?_
    · go_simp
      refine (hAdd.out _).mono ?_
      rintro e w2 ⟨rfl, rfl⟩
      refine ⟨hS, ?_⟩
      (try simp only [List.getElem_toArray, List.getElem_cons_succ, List.getElem_cons_zero])
      (try go_frame)
      refine wpAnyL_take (i := 18) (v := .agg #[.int .i64 a0, .int .i64 (a1 + b1), .int .i64 S, .int .i64 a3, .int .i64 a4, .int .i64 b5]) rfl (by kernel_rfl) (by kernel_rfl) (by kernel_rfl) (by kernel_rfl) (by kernel_rfl) (fun _ _ _ h => h) (Or.inl ⟨by kernel_rfl, ?_⟩) hS ?_
      · (intro w' hSw; obtain ⟨x0, x1, x2, x3, x4, y1, y2, y5⟩ := HOB.out w' hSw; clear hSw; go_simp)
      (try simp only [List.getElem_toArray, List.getElem_cons_succ, List.getElem_cons_zero])
      go_frame
      refine wpAnyL_one (i := 19) (by kernel_rfl) rfl rfl ?_
      go_simp
      refine ⟨hS.alloc _, ?_⟩
      (try go_frame)
      refine wpAnyL_last (by kernel_rfl) (by kernel_rfl) rfl rfl ?_
      go_simp
      exact NoPanic.normal ⟨rfl, rfl, ((Only.refl _ w3).alloc _).drew, (Blk.new w3 [.int .i64 a0, .int .i64 (a1 + b1), .int .i64 S, .int .i64 a3, .int .i64 a4, .int .i64 b5] 38).drew⟩
    · go_simp
      refine ⟨hS.alloc _, ?_⟩
      (try simp only [List.getElem_toArray, List.getElem_cons_succ, List.getElem_cons_zero])
      (try go_frame)
      refine wpAnyL_one (i := 11) (by kernel_rfl) rfl rfl ?_
      go_simp
      refine (hAdd.out _).mono ?_
      rintro e w2 ⟨rfl, rfl⟩
      refine ⟨hS.alloc _, ?_⟩
      refine wpAnyL_one (i := 18) (by kernel_rfl) rfl rfl ?_
      go_simp
      refine ⟨hS.alloc _, ?_⟩
      (try go_frame)
      refine wpAnyL_last (by kernel_rfl) (by kernel_rfl) rfl rfl ?_
      go_simp
      exact NoPanic.normal ⟨rfl, rfl, ((Only.refl _ w3).alloc _).drew, (Blk.new w3 [.int .i64 a0, .int .i64 (a1 + b1), .int .i64 S, .int .i64 a3, .int .i64 a4, .int .i64 b5] 38).drew⟩
  · clear x0 x1 x2 x3 x4 y0 y1 y2 y3 y4 y5 z0 z1 z2 z3 z4 z5 v0 v1 v2 v3 v4 v5 e1 e2
    rintro W ⟨kW, hW⟩
    have hA := Only.blk kW HA.out (fun f => f)
    have hB := Only.blk kW HB.out (fun f => f)
    have hC := Only.blk kW HCC.out (fun f => f)
    obtain ⟨N, hN⟩ : ∃ N, w3.heap.size = N := ⟨_, rfl⟩
    rw [hN] at hW
    have hlt3 : w.heap.size + 1 + 1 < N := by rw [← hN]; exact hlt
    have x3 := hA.cell 3 rfl
    have x4 := hA.cell 4 rfl
    have y3 := hB.cell 3 rfl
    have y4 := hB.cell 4 rfl
    have c0 := hW.cell 0 rfl
    have c1 := hW.cell 1 rfl
    have c2 := hW.cell 2 rfl
    have c3 := hW.cell 3 rfl
    have c4 := hW.cell 4 rfl
    have c5 := hW.cell 5 rfl
    have f3 := hW.frozen 3
    have f4 := hW.frozen 4
    have z0 := hC.frozen 0
    have z1 := hC.frozen 1
    have z2 := hC.frozen 2
    have z3 := hC.frozen 3
    have z4 := hC.frozen 4
    have z5 := hC.frozen 5
    have v0 := hC.cell 0 rfl
    have v1 := hC.cell 1 rfl
    have v2 := hC.cell 2 rfl
    have v3 := hC.cell 3 rfl
    have v4 := hC.cell 4 rfl
    have v5 := hC.cell 5 rfl
    have KW := hid (HK.out.trans kW (fun _ _ f => f))
    have HC := hid hC
    have HLT := hid hlt3
    have HNw : Hid (w.heap.size ≤ N) := hid (by omega)
    clear hA hB hC hW kW hlt
    by_cases h3 : b3 < a3
    · rw [show min a3 b3 = b3 by omega] at HJ
      by_cases h4 : a4 < b4
      · rw [show max a4 b4 = b4 by omega] at HJ
        go_wp2
        refine bodyPost_ret (six_ret0 (fn := Try.f19) (p := 4) rfl ((HC.out.other (show w.heap.size + 1 + 1 ≠ N by have := HLT.out; omega) _).other (show w.heap.size + 1 + 1 ≠ N by have := HLT.out; omega) _) _ (by rfl) _ _ _ _ _ _) rfl ?_
        exact ⟨by rw [HJ.out], six_kept0 ((KW.out.setCell (fun h => by have h2 : N < w.heap.size := h; have := HNw.out; omega) _).setCell (fun h => by have h2 : N < w.heap.size := h; have := HNw.out; omega) _) (by omega) _ _ _ _ _ _⟩
      · rw [show max a4 b4 = a4 by omega] at HJ
        go_wp2
        refine bodyPost_ret (six_ret0 (fn := Try.f19) (p := 4) rfl (HC.out.other (show w.heap.size + 1 + 1 ≠ N by have := HLT.out; omega) _) _ (by rfl) _ _ _ _ _ _) rfl ?_
        exact ⟨by rw [HJ.out], six_kept0 (KW.out.setCell (fun h => by have h2 : N < w.heap.size := h; have := HNw.out; omega) _) (by omega) _ _ _ _ _ _⟩
    · rw [show min a3 b3 = a3 by omega] at HJ
      by_cases h4 : a4 < b4
      · rw [show max a4 b4 = b4 by omega] at HJ
        go_wp2
        refine bodyPost_ret (six_ret0 (fn := Try.f19) (p := 4) rfl (HC.out.other (show w.heap.size + 1 + 1 ≠ N by have := HLT.out; omega) _) _ (by rfl) _ _ _ _ _ _) rfl ?_
        exact ⟨by rw [HJ.out], six_kept0 (KW.out.setCell (fun h => by have h2 : N < w.heap.size := h; have := HNw.out; omega) _) (by omega) _ _ _ _ _ _⟩
      · rw [show max a4 b4 = a4 by omega] at HJ
        go_wp2
        refine bodyPost_ret (six_ret0 (fn := Try.f19) (p := 4) rfl HC.out _ (by rfl) _ _ _ _ _ _) rfl ?_
        exact ⟨by rw [HJ.out], six_kept0 KW.out (by omega) _ _ _ _ _ _⟩
end Go.Proofs.Ytdepgplbcfbopaa.Ru
