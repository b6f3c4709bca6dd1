/-
  Package rollup: a bucket put into a row.
-/
import Derived.Test.YtjjmidooikgaaaaYrjoin
namespace Go.Proofs.Lys
open Go Go.RowKit
theorem oper_appendH {P : Program} {w : World} {o : Oper} {a : Act} {K : Act → World → Prop} {Q : Exit → Act → World → Prop} (s x : Operand) (t : TypeId)
    (ho : o.op = .call { callee := .builtin .append, args := #[s, x], argTypes := #[t, t] }) {sv xv : Value} (hs : a.eval s = sv) (hx : a.eval x = xv) {v : Value} {w' : World}
    (hrun : Hid ((Builtin.append_ #[t, t] 0 #[sv, xv]).run P w = .ok v w')) (h : K (a.put o.dst v) w') : Oper.wp P o a w K Q := by
  have hr : (Builtin.append_ #[t, t] o.type #[sv, xv]).run P w = .ok v w' := hrun.out
  unfold Oper.wp execOp
  simp only [ho, resolve, invoke, builtin, Sem.run_bind, Sem.run_pure, Result.andThen_ok, List.map_toArray, List.map_cons, List.map_nil, hs, hx, hr]
  exact h
end Go.Proofs.Lys
namespace Go.Proofs.Ytjjmidooikgaaaa.Ru
open Go Go.RowKit Go.Proofs.Lys
set_option linter.unusedVariables false
set_option linter.unusedSimpArgs false

/-- What join leaves of a row at P. -/
def RowP (W : World) (P B : Nat) (v : Value) (l : Bks) (e : Ending) (w' : World) : Prop :=
  e = .returned (.tuple #[]) ∧ ∃ v', Blk w' P [v'] 57 ∧ BkAt w' B v' l ∧ Only (fun j => j = P ∨ v.ownBlock = some j) W w'
theorem push_two (t : Bks) (x b : Bk) (h : x.t ≠ b.t) : push (t ++ [x]) b = (t ++ [x]) ++ [b] := by
  rw [push_snoc, if_neg h, List.append_assoc]
  rfl
theorem push_one (t : Bks) (x b : Bk) (h : x.t = b.t) : push (t ++ [x]) b = (t ++ [x]).set t.length (joinB x b) := by
  rw [push_snoc, if_pos h, List.set_append_right _ _ (Nat.le_refl _)]
  simp
theorem last_at (t : Bks) (x : Bk) (h : t.length < (t ++ [x]).length) : (t ++ [x])[t.length] = x := by simp
theorem bk_cells {w : World} {B g cap n : Nat} {t : Bks} {x : Bk} (h : BkAt w B (.slice (some ⟨g, 0, none⟩) n cap) (t ++ [x])) (hn : n = t.length + 1) : BkC w g (t.length * 6) x := by
  subst hn
  have hl : (t ++ [x]).length = t.length + 1 := by simp
  have h1 : BkAt w B (.slice (some ⟨g, 0, none⟩) (t ++ [x]).length cap) (t ++ [x]) := by rw [hl]; exact h
  have h2 := h1.at_ t.length (by omega)
  rw [last_at t x (by omega)] at h2
  exact h2
theorem bkC_stay {w W : World} {g o : Nat} {x : Bk} {O : Nat → Prop} (h : BkC w g o x) (k : Only O w W) (hO : ¬ O g) : BkC W g o x := fun i u hu => by
  have hx := h i u hu
  rw [World.cell?_of_block (w := w) (w' := W) (a := ⟨g, o + i, none⟩) (k.block g (World.block_lt_of_cell? w _ hx) hO)]
  exact hx
theorem results_none1 {fn : Func} (h : fn.results = #[]) (tmps : Array Value) (P : Program) (w : World) : (results fn tmps).run P w = .ok (.tuple #[]) w := results_none h _ _ _
theorem kept_drewN {w w' : World} (h : Kept w w') (n : Nat) : Kept w (w'.drewN n) := by
  induction n with
  | zero => exact h
  | succ n ih => exact ih.drew
/-- A bucket that is put behind the others. -/
theorem app_step {W X : World} {P B : Nat} {v : Value} {acc : Bks} (b : Bk) (k : Kept W X) (hP : Blk X P [v] 57) (hR : BkAt X B v acc) (hB : B ≤ X.heap.size) (hPB : P < B) (hl : acc.length ≤ 100000) :
    ∃ g cap w3, Hid ((Builtin.append_ #[44, 44] 0 #[v, .slice (some ⟨X.heap.size, 0, none⟩) 1 1]).run Try.prog (X.alloc (bkO b)) = .ok (.slice (some ⟨g, 0, none⟩) (acc.length + 1) cap) w3) ∧
      Only (fun j => v.ownBlock = some j) X w3 ∧ w3.cell? ⟨P, 0, none⟩ = some v ∧ w3.frozen? ⟨P, 0, none⟩ = false ∧ RowP W P B v (acc ++ [b]) (.returned (.tuple #[])) (w3.setCell ⟨P, 0, none⟩ (.slice (some ⟨g, 0, none⟩) (acc.length + 1) cap)) := by
  have hPlt := hP.lt
  have hlow : ∀ j, v.ownBlock = some j → B ≤ j ∧ j < X.heap.size := fun j hj => ownN_lt hR hj
  obtain ⟨g, cap, w3, HR, h3, o3, hg⟩ := bk_app hR b hl hB
  have hP3 := Only.blk o3 hP (fun e => by have := hlow _ e; omega)
  have hglt : g ≠ P := by
    rcases hg with e | e
    · have := hlow g e.symm; omega
    · omega
  refine ⟨g, cap, w3, HR, o3, hP3.cell 0 rfl, hP3.frozen 0, rfl, _, hP3.set 0 _, ?_, ?_⟩
  · have hn : (acc ++ [b]).length = acc.length + 1 := by simp
    have h4 : BkAt w3 B (.slice (some ⟨g, 0, none⟩) (acc.length + 1) cap) (acc ++ [b]) := h3
    exact ownN_only h4 ((Only.refl (fun j => j = P) w3).setCell (fun _ => rfl) _) (fun j hj e => hglt ((by simpa [Value.ownBlock] using hj : g = j).trans e))
  · have hx : Only (fun j => j = P ∨ v.ownBlock = some j) W w3 := (k.mono (O' := fun j => j = P ∨ v.ownBlock = some j) (fun _ _ f => f.elim)).trans o3 (fun j _ h => .inr h)
    exact hx.setCell (fun _ => .inl rfl) _

set_option maxRecDepth 100000 in
set_option maxHeartbeats 3200000 in
theorem row_nil (W : World) (P B : Nat) (v : Value)  (b : Bk) (hP : Blk W P [v] 57) (hR : BkAt W B v ([])) (hB : B ≤ W.heap.size) (hPB : P < B) :
    Calls Try.prog 25 #[.pointer (some ⟨P, 0, none⟩), bkV b] W (RowP W P B v [b]) := by
  obtain ⟨PQ, hPQ⟩ : ∃ PQ, RowP W P B v ([b]) = PQ := ⟨_, rfl⟩
  rw [hPQ]
  have HPQ := hid hPQ
  obtain ⟨w1, hw1⟩ : ∃ w1, W.alloc (bkO b) = w1 := ⟨_, rfl⟩
  have k1 : Kept W w1 := by rw [← hw1]; exact (Only.refl _ W).alloc _
  have hbx : Blk w1 W.heap.size (bkC b) 62 := by rw [← hw1]; exact Blk.new W (bkC b) 62
  have hP1 := Only.blk k1 hP (fun f => f)
  have hR1 := ownN_stay hR k1
  have hPlt := hP.lt
  have hlow : ∀ j, v.ownBlock = some j → B ≤ j ∧ j < W.heap.size := fun j hj => ownN_lt hR hj
  obtain ⟨SVB, hSVB⟩ : ∃ SVB, v.ownBlock = SVB := ⟨_, rfl⟩
  have HOB : Hid (∀ X, Only (fun j => SVB = some j) w1 X → X.cell? ⟨P, 0, none⟩ = some v ∧ X.cell? ⟨W.heap.size, 0, none⟩ = some (.int .i64 b.t) ∧ X.cell? ⟨W.heap.size, 1, none⟩ = some (.int .i64 b.c) ∧ X.cell? ⟨W.heap.size, 2, none⟩ = some (.int .i64 b.s) ∧ X.cell? ⟨W.heap.size, 3, none⟩ = some (.int .i64 b.mn) ∧ X.cell? ⟨W.heap.size, 4, none⟩ = some (.int .i64 b.mx) ∧ X.cell? ⟨W.heap.size, 5, none⟩ = some (.int .i64 b.la)) := hid (fun X k => by
    have h1 := Only.blk k hbx (fun e => by have := hlow _ (hSVB.trans e); omega)
    have h2 := Only.blk k hP1 (fun e => by have := hlow _ (hSVB.trans e); omega)
    exact ⟨h2.cell 0 rfl, h1.cell 0 rfl, h1.cell 1 rfl, h1.cell 2 rfl, h1.cell 3 rfl, h1.cell 4 rfl, h1.cell 5 rfl⟩)
  have HAPP : Hid (∀ X, Kept w1 X → ∃ g cap w3, Hid ((Builtin.append_ #[44, 44] 0 #[v, .slice (some ⟨X.heap.size, 0, none⟩) 1 1]).run Try.prog (X.alloc (bkO b)) = .ok (.slice (some ⟨g, 0, none⟩) (1) cap) w3) ∧
      Only (fun j => SVB = some j) X w3 ∧ w3.cell? ⟨P, 0, none⟩ = some v ∧ w3.frozen? ⟨P, 0, none⟩ = false ∧ PQ (.returned (.tuple #[])) (w3.setCell ⟨P, 0, none⟩ (.slice (some ⟨g, 0, none⟩) (1) cap))) := hid (fun X k => by
    rw [← hPQ, ← hSVB]
    have h := app_step (W := W) b (k1.trans k (fun _ _ f => f)) (Only.blk k hP1 (fun f => f)) (ownN_stay hR1 k) (Nat.le_trans hB (Nat.le_trans k1.size k.size)) hPB (Nat.zero_le _)
    rw [List.nil_append, List.length_nil, Nat.zero_add] at h
    exact h)
  obtain ⟨va, vc, hvs⟩ := ownN_slice hR
  rw [List.length_nil] at hvs
  subst hvs
  have HW := hid hw1
  obtain ⟨b0, b1, b2, b3, b4, b5⟩ := b
  unfold bkO at HW
  unfold bkV
  simp only at HOB HW ⊢
  have p0 := hP1.cell 0 rfl
  have p00 := hP.cell 0 rfl
  have HP1 := hid hP1
  clear hP hR hPQ k1 hP1 hR1 hw1 hbx hlow hSVB
  go_enter Try.func25, Try.ntmps25
  go_wp2_with fail
  rw [HW.out]
  clear p00
  go_quiet (fail)
  go_wp2_with fail
  obtain ⟨g, cap, w3, HR, hON, hc3, hf3, hF⟩ := HAPP.out (w1.drewN nq).drew ((kept_drewN (Only.refl _ w1) nq).drew)
  have HON := hid hON
  have HF := hid hF
  have hS : (fun w' : World => Only (fun j => SVB = some j) w1 w') (w1.drewN nq).drew := ((kept_drewN (Only.refl _ w1) nq).drew).mono (fun _ _ f => f.elim)
  have HON2 : Hid (Only (fun j => SVB = some j) w1 w3) := hid (hS.trans hON (fun _ _ h => h))
  clear hON hF
  refine wp_region_noPanic ?_
  refine wp_region_last (L := 10) (S := fun w' => Only (fun j => SVB = some j) w1 w') (by kernel_rfl) ?_
  refine wpAnyL_take (i := 0) (v := .pointer (some ⟨P, 0, none⟩)) rfl (by kernel_rfl) (by kernel_rfl) (by kernel_rfl) (by kernel_rfl) (by kernel_rfl) (fun _ _ _ h => h) (Or.inl ⟨by kernel_rfl, ?_⟩) hS ?_
  · (intro w' hSw; obtain ⟨x0, y0, y1, y2, y3, y4, y5⟩ := HOB.out w' hSw; clear hSw; go_simp)
  (try simp only [List.getElem_toArray, List.getElem_cons_succ, List.getElem_cons_zero])
  go_frame
  refine wpAnyL_take (i := 1) (v := .pointer (some ⟨P, 0, none⟩)) rfl (by kernel_rfl) (by kernel_rfl) (by kernel_rfl) (by kernel_rfl) (by kernel_rfl) (fun _ _ _ h => h) (Or.inl ⟨by kernel_rfl, ?_⟩) hS ?_
  · (intro w' hSw; obtain ⟨x0, y0, y1, y2, y3, y4, y5⟩ := HOB.out w' hSw; clear hSw; go_simp)
  (try simp only [List.getElem_toArray, List.getElem_cons_succ, List.getElem_cons_zero])
  go_frame
  refine wpAnyL_take (i := 2) (v := .pointer (some ⟨P, 0, none⟩)) rfl (by kernel_rfl) (by kernel_rfl) (by kernel_rfl) (by kernel_rfl) (by kernel_rfl) (fun _ _ _ h => h) (Or.inl ⟨by kernel_rfl, ?_⟩) hS ?_
  · (intro w' hSw; obtain ⟨x0, y0, y1, y2, y3, y4, y5⟩ := HOB.out w' hSw; clear hSw; go_simp)
  (try simp only [List.getElem_toArray, List.getElem_cons_succ, List.getElem_cons_zero])
  go_frame
  refine wpAnyL_take (i := 3) (v := .pointer (some ⟨P, 0, none⟩)) rfl (by kernel_rfl) (by kernel_rfl) (by kernel_rfl) (by kernel_rfl) (by kernel_rfl) (fun _ _ _ h => h) (Or.inl ⟨by kernel_rfl, ?_⟩) hS ?_
  · (intro w' hSw; obtain ⟨x0, y0, y1, y2, y3, y4, y5⟩ := HOB.out w' hSw; clear hSw; go_simp)
  (try simp only [List.getElem_toArray, List.getElem_cons_succ, List.getElem_cons_zero])
  go_frame
  refine wpAnyL_take (i := 4) (v := .slice va 0 vc) rfl (by kernel_rfl) (by kernel_rfl) (by kernel_rfl) (by kernel_rfl) (by kernel_rfl) (fun _ _ _ h => h) (Or.inl ⟨by kernel_rfl, ?_⟩) hS ?_
  · (intro w' hSw; obtain ⟨x0, y0, y1, y2, y3, y4, y5⟩ := HOB.out w' hSw; clear hSw; go_simp)
  (try simp only [List.getElem_toArray, List.getElem_cons_succ, List.getElem_cons_zero])
  go_frame
  refine wpAnyL_take (i := 5) (v := .agg #[.int .i64 b0, .int .i64 b1, .int .i64 b2, .int .i64 b3, .int .i64 b4, .int .i64 b5]) rfl (by kernel_rfl) (by kernel_rfl) (by kernel_rfl) (by kernel_rfl) (by kernel_rfl) (fun _ _ _ h => h) (Or.inl ⟨by kernel_rfl, ?_⟩) hS ?_
  · (intro w' hSw; obtain ⟨x0, y0, y1, y2, y3, y4, y5⟩ := HOB.out w' hSw; clear hSw; go_simp)
  (try simp only [List.getElem_toArray, List.getElem_cons_succ, List.getElem_cons_zero])
  go_frame
  refine wpAnyL_one (i := 6) (by kernel_rfl) rfl (by kernel_rfl) ?_
  go_simp
  refine ⟨hS.alloc _, ?_⟩
  (try go_frame)
  refine wpAnyL_one (i := 7) (by kernel_rfl) rfl (by kernel_rfl) (oper_appendH _ _ _ rfl rfl rfl HR ?_)
  refine ⟨HON2.out, ?_⟩
  (try go_frame)
  refine wpAnyL_one (i := 8) (by kernel_rfl) rfl (by kernel_rfl) ?_
  go_simp
  refine ⟨HON2.out, ?_⟩
  refine wpAnyL_one (i := 9) (by kernel_rfl) rfl (by kernel_rfl) ?_
  go_simp
  refine ⟨HON2.out, ?_⟩
  refine wpAnyL_last (by kernel_rfl) (by kernel_rfl) rfl (by kernel_rfl) ?_
  go_simp
  refine NoPanic.normal ?_
  go_wp2
  refine bodyPost_ret (results_none1 rfl _ _ _) rfl ?_
  exact HF.out

set_option maxRecDepth 100000 in
set_option maxHeartbeats 3200000 in
theorem row_snoc (W : World) (P B : Nat) (v : Value) (t : Bks) (x : Bk) (b : Bk) (hP : Blk W P [v] 57) (hR : BkAt W B v (t ++ [x])) (hB : B ≤ W.heap.size) (hPB : P < B) (hl : t.length ≤ 90000) (m k : Nat) (hx : BkOk m x) (hb : BkOk k b) (hmk : m + k ≤ 1000000000) :
    Calls Try.prog 25 #[.pointer (some ⟨P, 0, none⟩), bkV b] W (RowP W P B v (push (t ++ [x]) b)) := by
  obtain ⟨PQ, hPQ⟩ : ∃ PQ, RowP W P B v (push (t ++ [x]) b) = PQ := ⟨_, rfl⟩
  rw [hPQ]
  have HPQ := hid hPQ
  obtain ⟨w1, hw1⟩ : ∃ w1, W.alloc (bkO b) = w1 := ⟨_, rfl⟩
  have k1 : Kept W w1 := by rw [← hw1]; exact (Only.refl _ W).alloc _
  have hbx : Blk w1 W.heap.size (bkC b) 62 := by rw [← hw1]; exact Blk.new W (bkC b) 62
  have hP1 := Only.blk k1 hP (fun f => f)
  have hR1 := ownN_stay hR k1
  have hPlt := hP.lt
  have hlow : ∀ j, v.ownBlock = some j → B ≤ j ∧ j < W.heap.size := fun j hj => ownN_lt hR hj
  obtain ⟨SVB, hSVB⟩ : ∃ SVB, v.ownBlock = SVB := ⟨_, rfl⟩
  have HOB : Hid (∀ X, Only (fun j => SVB = some j) w1 X → X.cell? ⟨P, 0, none⟩ = some v ∧ X.cell? ⟨W.heap.size, 0, none⟩ = some (.int .i64 b.t) ∧ X.cell? ⟨W.heap.size, 1, none⟩ = some (.int .i64 b.c) ∧ X.cell? ⟨W.heap.size, 2, none⟩ = some (.int .i64 b.s) ∧ X.cell? ⟨W.heap.size, 3, none⟩ = some (.int .i64 b.mn) ∧ X.cell? ⟨W.heap.size, 4, none⟩ = some (.int .i64 b.mx) ∧ X.cell? ⟨W.heap.size, 5, none⟩ = some (.int .i64 b.la)) := hid (fun X k => by
    have h1 := Only.blk k hbx (fun e => by have := hlow _ (hSVB.trans e); omega)
    have h2 := Only.blk k hP1 (fun e => by have := hlow _ (hSVB.trans e); omega)
    exact ⟨h2.cell 0 rfl, h1.cell 0 rfl, h1.cell 1 rfl, h1.cell 2 rfl, h1.cell 3 rfl, h1.cell 4 rfl, h1.cell 5 rfl⟩)
  obtain ⟨L, hL⟩ : ∃ L, t.length = L := ⟨_, rfl⟩
  have hLa : (t ++ [x]).length = L + 1 := by simp [hL]
  have hR2 : W.ownsRow B 62 6 v (L + 1) (bkL (t ++ [x])) := by
    have h := hR
    unfold BkAt at h
    rw [hLa] at h
    exact h
  have hR3 := ownN_stay hR2 k1
  obtain ⟨g, vc, hvs⟩ := ownN_some hR2 (by omega)
  subst hvs
  have hgB := (hlow g rfl).1
  have hx1 := bk_cells (t := t) (x := x) (w := w1) (B := B) (g := g) (cap := vc) (n := L + 1) hR1 (by omega)
  rw [hL] at hx1
  have HX1 := hid hx1
  have xt := hx1.six.1
  have p0 := hP1.cell 0 rfl
  have p00 := hP.cell 0 rfl
  have bt := hbx.cell 0 rfl
  have HP1 := hid hP1
  have HW := hid hw1
  by_cases hne : x.t = b.t
  · rw [push_one t x b hne, hL] at hPQ
    have HJ : Hid (∀ X, Kept w1 X → Calls Try.prog 29 #[bkV x, bkV b] X fun e w' => e = .returned (bkV (joinB x b)) ∧ Kept X w') := hid (fun X _ => join_any X x b m k hx hb hmk)
    have HST : Hid (∀ X, Kept w1 X → (∀ i, X.frozen? ⟨g, i, none⟩ = false) ∧ (∀ k u, (bkC x)[k]? = some u → X.cell? ⟨g, L * 6 + k, none⟩ = some u) ∧ PQ (.returned (.tuple #[])) (put6 X g (L * 6) (.int .i64 (joinB x b).t) (.int .i64 (joinB x b).c) (.int .i64 (joinB x b).s) (.int .i64 (joinB x b).mn) (.int .i64 (joinB x b).mx) (.int .i64 (joinB x b).la))) := hid (fun X kX => by
      have h1 : BkAt X B (.slice (some ⟨g, 0, none⟩) (t ++ [x]).length vc) (t ++ [x]) := by rw [hLa]; exact ownN_stay hR1 kX
      have h2 := bk_set h1 (k := L) (by omega) (joinB x b)
      have hn : ∀ i : Nat, (⟨g, i, none⟩ : Addr).block = g := fun _ => rfl
      have hP6 : Only (fun j => j = g) X (put6 X g (L * 6) (.int .i64 (joinB x b).t) (.int .i64 (joinB x b).c) (.int .i64 (joinB x b).s) (.int .i64 (joinB x b).mn) (.int .i64 (joinB x b).mx) (.int .i64 (joinB x b).la)) :=
        (((((Only.refl (fun j => j = g) X |>.setCell (fun _ => hn _) _).setCell (fun _ => hn _) _).setCell (fun _ => hn _) _).setCell (fun _ => hn _) _).setCell (fun _ => hn _) _).setCell (fun _ => hn _) _
      refine ⟨h2.1, bkC_stay HX1.out kX (fun f => f), ?_⟩
      rw [← hPQ]
      refine ⟨rfl, _, Only.blk hP6 (Only.blk kX HP1.out (fun f => f)) (fun e => by omega), ?_, ?_⟩
      · have h3 := h2.2
        have hls : ((t ++ [x]).set L (joinB x b)).length = L + 1 := by rw [List.length_set, hLa]
        show World.ownsRow _ _ _ _ _ _ _
        rw [hls]
        unfold BkAt at h3
        rw [hls, hLa] at h3
        exact h3
      · exact (((k1.trans kX (fun _ _ f => f)).mono (O' := fun j => j = P ∨ Value.ownBlock (.slice (some ⟨g, 0, none⟩) (L + 1) vc) = some j) (fun _ _ f => f.elim)).trans hP6 (fun j _ h => .inr (by rw [h]; rfl))))
    obtain ⟨b0, b1, b2, b3, b4, b5⟩ := b
    obtain ⟨x0, x1, x2, x3, x4, x5⟩ := x
    have HSX : Hid (∀ X, Kept w1 X → X.cell? ⟨g, L * 6, none⟩ = some (.int .i64 x0) ∧ X.cell? ⟨g, L * 6 + 1, none⟩ = some (.int .i64 x1) ∧ X.cell? ⟨g, L * 6 + 2, none⟩ = some (.int .i64 x2) ∧ X.cell? ⟨g, L * 6 + 3, none⟩ = some (.int .i64 x3) ∧ X.cell? ⟨g, L * 6 + 4, none⟩ = some (.int .i64 x4) ∧ X.cell? ⟨g, L * 6 + 5, none⟩ = some (.int .i64 x5)) := hid (fun X k => (bkC_stay HX1.out k (fun f => f)).six)
    have HST2 : Hid (∀ X, Kept w1 X → (∀ i, X.frozen? ⟨g, i, none⟩ = false) ∧ PQ (.returned (.tuple #[])) (put6 X g (L * 6) (.int .i64 x0) (.int .i64 (x1 + b1)) (.int .i64 (addC x2 b2)) (.int .i64 (min x3 b3)) (.int .i64 (max x4 b4)) (.int .i64 b5))) := hid (fun X k => ⟨(HST.out X k).1, (HST.out X k).2.2⟩)
    unfold bkO at HW
    unfold bkV at HJ ⊢
    simp only [joinB] at HOB HW HJ hne xt bt ⊢
    subst hne
    have hd0 : decide ((L : Int) < 0) = false := by simp
    obtain ⟨M, hM⟩ : ∃ M, L + 1 = M := ⟨_, rfl⟩
    have hM1 : (M : Int) - 1 = (L : Int) := by omega
    have hML : L < M := by omega
    rw [hM] at p0 p00 HOB
    obtain ⟨JS, hJS⟩ : ∃ JS, addC x2 b2 = JS := ⟨_, rfl⟩
    obtain ⟨JM, hJM⟩ : ∃ JM, min x3 b3 = JM := ⟨_, rfl⟩
    obtain ⟨JX, hJX⟩ : ∃ JX, max x4 b4 = JX := ⟨_, rfl⟩
    obtain ⟨JC, hJC⟩ : ∃ JC, x1 + b1 = JC := ⟨_, rfl⟩
    rw [hJS, hJM, hJX, hJC] at HJ HST2
    have HOW : Hid (∀ X, Kept w1 X → Only (fun j => SVB = some j) w1 X) := hid (fun X k => k.mono (fun _ _ f => f.elim))
    clear hM hP hR hPQ k1 hP1 hR1 hR2 hR3 hw1 hbx hlow hSVB hx1 hx hb HST hJS hJM hJX hJC HX1
    go_enter Try.func25, Try.ntmps25
    go_wp2_with fail
    rw [HW.out]
    clear p00
    go_quiet (fail)
    go_wp2_with fail
    have hS : (fun w' : World => Kept w1 w') (w1.drewN nq).drew := (kept_drewN (Only.refl _ w1) nq).drew
    refine wp_region_noPanic ?_
    refine wp_region_last (L := 15) (S := fun w' => Kept w1 w') (by kernel_rfl) ?_
    refine wpAnyL_take (i := 0) (v := .pointer (some ⟨P, 0, none⟩)) rfl (by kernel_rfl) (by kernel_rfl) (by kernel_rfl) (by kernel_rfl) (by kernel_rfl) (fun _ _ _ h => h) (Or.inl ⟨by kernel_rfl, ?_⟩) hS ?_
    · (intro w' hSw; obtain ⟨q0, y0, y1, y2, y3, y4, y5⟩ := HOB.out w' (HOW.out w' hSw); obtain ⟨z0, z1, z2, z3, z4, z5⟩ := HSX.out w' hSw; clear hSw; go_simp)
    (try simp only [List.getElem_toArray, List.getElem_cons_succ, List.getElem_cons_zero])
    go_frame
    refine wpAnyL_take (i := 1) (v := .pointer (some ⟨P, 0, none⟩)) rfl (by kernel_rfl) (by kernel_rfl) (by kernel_rfl) (by kernel_rfl) (by kernel_rfl) (fun _ _ _ h => h) (Or.inl ⟨by kernel_rfl, ?_⟩) hS ?_
    · (intro w' hSw; obtain ⟨q0, y0, y1, y2, y3, y4, y5⟩ := HOB.out w' (HOW.out w' hSw); obtain ⟨z0, z1, z2, z3, z4, z5⟩ := HSX.out w' hSw; clear hSw; go_simp)
    (try simp only [List.getElem_toArray, List.getElem_cons_succ, List.getElem_cons_zero])
    go_frame
    refine wpAnyL_take (i := 2) (v := .pointer (some ⟨P, 0, none⟩)) rfl (by kernel_rfl) (by kernel_rfl) (by kernel_rfl) (by kernel_rfl) (by kernel_rfl) (fun _ _ _ h => h) (Or.inl ⟨by kernel_rfl, ?_⟩) hS ?_
    · (intro w' hSw; obtain ⟨q0, y0, y1, y2, y3, y4, y5⟩ := HOB.out w' (HOW.out w' hSw); obtain ⟨z0, z1, z2, z3, z4, z5⟩ := HSX.out w' hSw; clear hSw; go_simp)
    (try simp only [List.getElem_toArray, List.getElem_cons_succ, List.getElem_cons_zero])
    go_frame
    refine wpAnyL_take (i := 3) (v := .slice (some ⟨g, 0, none⟩) M vc) rfl (by kernel_rfl) (by kernel_rfl) (by kernel_rfl) (by kernel_rfl) (by kernel_rfl) (fun _ _ _ h => h) (Or.inl ⟨by kernel_rfl, ?_⟩) hS ?_
    · (intro w' hSw; obtain ⟨q0, y0, y1, y2, y3, y4, y5⟩ := HOB.out w' (HOW.out w' hSw); obtain ⟨z0, z1, z2, z3, z4, z5⟩ := HSX.out w' hSw; clear hSw; go_simp)
    (try simp only [List.getElem_toArray, List.getElem_cons_succ, List.getElem_cons_zero])
    go_frame
    refine wpAnyL_take (i := 4) (v := .int .i64 (L : Int)) rfl (by kernel_rfl) (by kernel_rfl) (by kernel_rfl) (by kernel_rfl) (by kernel_rfl) (fun _ _ _ h => h) (Or.inl ⟨by kernel_rfl, ?_⟩) hS ?_
    · (intro w' hSw; obtain ⟨q0, y0, y1, y2, y3, y4, y5⟩ := HOB.out w' (HOW.out w' hSw); obtain ⟨z0, z1, z2, z3, z4, z5⟩ := HSX.out w' hSw; clear hSw; go_simp)
    (try simp only [List.getElem_toArray, List.getElem_cons_succ, List.getElem_cons_zero])
    go_frame
    refine wpAnyL_take (i := 5) (v := .pointer (some ⟨P, 0, none⟩)) rfl (by kernel_rfl) (by kernel_rfl) (by kernel_rfl) (by kernel_rfl) (by kernel_rfl) (fun _ _ _ h => h) (Or.inl ⟨by kernel_rfl, ?_⟩) hS ?_
    · (intro w' hSw; obtain ⟨q0, y0, y1, y2, y3, y4, y5⟩ := HOB.out w' (HOW.out w' hSw); obtain ⟨z0, z1, z2, z3, z4, z5⟩ := HSX.out w' hSw; clear hSw; go_simp)
    (try simp only [List.getElem_toArray, List.getElem_cons_succ, List.getElem_cons_zero])
    go_frame
    refine wpAnyL_take (i := 6) (v := .pointer (some ⟨P, 0, none⟩)) rfl (by kernel_rfl) (by kernel_rfl) (by kernel_rfl) (by kernel_rfl) (by kernel_rfl) (fun _ _ _ h => h) (Or.inl ⟨by kernel_rfl, ?_⟩) hS ?_
    · (intro w' hSw; obtain ⟨q0, y0, y1, y2, y3, y4, y5⟩ := HOB.out w' (HOW.out w' hSw); obtain ⟨z0, z1, z2, z3, z4, z5⟩ := HSX.out w' hSw; clear hSw; go_simp)
    (try simp only [List.getElem_toArray, List.getElem_cons_succ, List.getElem_cons_zero])
    go_frame
    refine wpAnyL_take (i := 7) (v := .pointer (some ⟨P, 0, none⟩)) rfl (by kernel_rfl) (by kernel_rfl) (by kernel_rfl) (by kernel_rfl) (by kernel_rfl) (fun _ _ _ h => h) (Or.inl ⟨by kernel_rfl, ?_⟩) hS ?_
    · (intro w' hSw; obtain ⟨q0, y0, y1, y2, y3, y4, y5⟩ := HOB.out w' (HOW.out w' hSw); obtain ⟨z0, z1, z2, z3, z4, z5⟩ := HSX.out w' hSw; clear hSw; go_simp)
    (try simp only [List.getElem_toArray, List.getElem_cons_succ, List.getElem_cons_zero])
    go_frame
    refine wpAnyL_take (i := 8) (v := .slice (some ⟨g, 0, none⟩) M vc) rfl (by kernel_rfl) (by kernel_rfl) (by kernel_rfl) (by kernel_rfl) (by kernel_rfl) (fun _ _ _ h => h) (Or.inl ⟨by kernel_rfl, ?_⟩) hS ?_
    · (intro w' hSw; obtain ⟨q0, y0, y1, y2, y3, y4, y5⟩ := HOB.out w' (HOW.out w' hSw); obtain ⟨z0, z1, z2, z3, z4, z5⟩ := HSX.out w' hSw; clear hSw; go_simp)
    (try simp only [List.getElem_toArray, List.getElem_cons_succ, List.getElem_cons_zero])
    go_frame
    refine wpAnyL_take (i := 9) (v := .int .i64 (L : Int)) rfl (by kernel_rfl) (by kernel_rfl) (by kernel_rfl) (by kernel_rfl) (by kernel_rfl) (fun _ _ _ h => h) (Or.inl ⟨by kernel_rfl, ?_⟩) hS ?_
    · (intro w' hSw; obtain ⟨q0, y0, y1, y2, y3, y4, y5⟩ := HOB.out w' (HOW.out w' hSw); obtain ⟨z0, z1, z2, z3, z4, z5⟩ := HSX.out w' hSw; clear hSw; go_simp)
    (try simp only [List.getElem_toArray, List.getElem_cons_succ, List.getElem_cons_zero])
    go_frame
    refine wpAnyL_take (i := 10) (v := .pointer (some ⟨g, L * 6, none⟩)) rfl (by kernel_rfl) (by kernel_rfl) (by kernel_rfl) (by kernel_rfl) (by kernel_rfl) (fun _ _ _ h => h) (Or.inl ⟨by kernel_rfl, ?_⟩) hS ?_
    · (intro w' hSw; obtain ⟨q0, y0, y1, y2, y3, y4, y5⟩ := HOB.out w' (HOW.out w' hSw); obtain ⟨z0, z1, z2, z3, z4, z5⟩ := HSX.out w' hSw; clear hSw; go_simp)
    (try simp only [List.getElem_toArray, List.getElem_cons_succ, List.getElem_cons_zero])
    go_frame
    refine wpAnyL_take (i := 11) (v := .agg #[.int .i64 x0, .int .i64 x1, .int .i64 x2, .int .i64 x3, .int .i64 x4, .int .i64 x5]) rfl (by kernel_rfl) (by kernel_rfl) (by kernel_rfl) (by kernel_rfl) (by kernel_rfl) (fun _ _ _ h => h) (Or.inl ⟨by kernel_rfl, ?_⟩) hS ?_
    · (intro w' hSw; obtain ⟨q0, y0, y1, y2, y3, y4, y5⟩ := HOB.out w' (HOW.out w' hSw); obtain ⟨z0, z1, z2, z3, z4, z5⟩ := HSX.out w' hSw; clear hSw; go_simp)
    (try simp only [List.getElem_toArray, List.getElem_cons_succ, List.getElem_cons_zero])
    go_frame
    refine wpAnyL_take (i := 12) (v := .agg #[.int .i64 x0, .int .i64 b1, .int .i64 b2, .int .i64 b3, .int .i64 b4, .int .i64 b5]) rfl (by kernel_rfl) (by kernel_rfl) (by kernel_rfl) (by kernel_rfl) (by kernel_rfl) (fun _ _ _ h => h) (Or.inl ⟨by kernel_rfl, ?_⟩) hS ?_
    · (intro w' hSw; obtain ⟨q0, y0, y1, y2, y3, y4, y5⟩ := HOB.out w' (HOW.out w' hSw); obtain ⟨z0, z1, z2, z3, z4, z5⟩ := HSX.out w' hSw; clear hSw; go_simp)
    (try simp only [List.getElem_toArray, List.getElem_cons_succ, List.getElem_cons_zero])
    go_frame
    refine wpAnyL_one (i := 13) (by kernel_rfl) rfl (by kernel_rfl) ?_
    go_simp
    have hSn : Kept w1 (w1.drewN (nq + 1)) := kept_drewN (Only.refl _ w1) (nq + 1)
    refine (HJ.out _ hSn).mono ?_
    rintro e w4 ⟨rfl, k4⟩
    have hS4 : Kept w1 w4 := Only.trans hSn k4 (fun _ _ f => f)
    refine ⟨hS4, ?_⟩
    refine wpAnyL_one (i := 14) (by kernel_rfl) rfl (by kernel_rfl) ?_
    go_simp
    (first | refine ⟨hS4, ?_⟩ | skip)
    (try go_frame)
    obtain ⟨hfz, hF⟩ := HST2.out _ hS4
    have HF := hid hF
    obtain ⟨z0, z1, z2, z3, z4, z5⟩ := HSX.out _ hS4
    have HFZ := hid hfz
    have f0 := hfz (L * 6)
    have f1 := hfz (L * 6 + 1)
    have f2 := hfz (L * 6 + 2)
    have f3 := hfz (L * 6 + 3)
    have f4 := hfz (L * 6 + 4)
    have f5 := hfz (L * 6 + 5)
    clear hfz hF
    refine wpAnyL_last (by kernel_rfl) (by kernel_rfl) rfl (by kernel_rfl) ?_
    go_simp
    refine NoPanic.normal ?_
    go_wp2
    refine bodyPost_ret (results_none1 rfl _ _ _) rfl ?_
    exact HF.out
  · rw [push_two t x b hne] at hPQ
    have HAPP : Hid (∀ X, Kept w1 X → ∃ g2 cap w3, Hid ((Builtin.append_ #[44, 44] 0 #[.slice (some ⟨g, 0, none⟩) (L + 1) vc, .slice (some ⟨X.heap.size, 0, none⟩) 1 1]).run Try.prog (X.alloc (bkO b)) = .ok (.slice (some ⟨g2, 0, none⟩) (L + 1 + 1) cap) w3) ∧
            Only (fun j => SVB = some j) X w3 ∧ w3.cell? ⟨P, 0, none⟩ = some (.slice (some ⟨g, 0, none⟩) (L + 1) vc) ∧ w3.frozen? ⟨P, 0, none⟩ = false ∧ PQ (.returned (.tuple #[])) (w3.setCell ⟨P, 0, none⟩ (.slice (some ⟨g2, 0, none⟩) (L + 1 + 1) cap))) := hid (fun X k => by
        rw [← hPQ, ← hSVB]
        have h := app_step (W := W) b (k1.trans k (fun _ _ f => f)) (Only.blk k hP1 (fun f => f)) (ownN_stay hR1 k) (Nat.le_trans hB (Nat.le_trans k1.size k.size)) hPB (by omega)
        rw [hLa] at h
        exact h)
    have HPQ2 := hid hPQ
    obtain ⟨b0, b1, b2, b3, b4, b5⟩ := b
    obtain ⟨x0, x1, x2, x3, x4, x5⟩ := x
    have hd : (x0 != b0) = true := by simpa using hne
    have hd0 : decide ((L : Int) < 0) = false := by simp
    obtain ⟨M, hM⟩ : ∃ M, L + 1 = M := ⟨_, rfl⟩
    have hM1 : (M : Int) - 1 = (L : Int) := by omega
    have hML : L < M := by omega
    rw [hM] at p0 p00 HAPP HOB
    clear hM
    unfold bkO at HW
    unfold bkV
    simp only [bkC] at HOB HW xt bt ⊢
    clear hP hR hPQ k1 hP1 hR1 hR2 hR3 hw1 hbx hlow hSVB hne hx1 hx hb
    go_enter Try.func25, Try.ntmps25
    go_wp2_with fail
    rw [HW.out]
    clear p00
    go_quiet (fail)
    go_wp2_with fail
    obtain ⟨g2, cap, w3, HR, hON, hc3, hf3, hF⟩ := HAPP.out (w1.drewN nq).drew ((kept_drewN (Only.refl _ w1) nq).drew)
    have HON := hid hON
    have HF := hid hF
    have hS : (fun w' : World => Only (fun j => SVB = some j) w1 w') (w1.drewN nq).drew := ((kept_drewN (Only.refl _ w1) nq).drew).mono (fun _ _ f => f.elim)
    have HON2 : Hid (Only (fun j => SVB = some j) w1 w3) := hid (hS.trans hON (fun _ _ h => h))
    clear hON hF
    refine wp_region_noPanic ?_
    refine wp_region_last (L := 10) (S := fun w' => Only (fun j => SVB = some j) w1 w') (by kernel_rfl) ?_
    refine wpAnyL_take (i := 0) (v := .pointer (some ⟨P, 0, none⟩)) rfl (by kernel_rfl) (by kernel_rfl) (by kernel_rfl) (by kernel_rfl) (by kernel_rfl) (fun _ _ _ h => h) (Or.inl ⟨by kernel_rfl, ?_⟩) hS ?_
    · (intro w' hSw; obtain ⟨x0, y0, y1, y2, y3, y4, y5⟩ := HOB.out w' hSw; clear hSw; go_simp)
    (try simp only [List.getElem_toArray, List.getElem_cons_succ, List.getElem_cons_zero])
    go_frame
    refine wpAnyL_take (i := 1) (v := .pointer (some ⟨P, 0, none⟩)) rfl (by kernel_rfl) (by kernel_rfl) (by kernel_rfl) (by kernel_rfl) (by kernel_rfl) (fun _ _ _ h => h) (Or.inl ⟨by kernel_rfl, ?_⟩) hS ?_
    · (intro w' hSw; obtain ⟨x0, y0, y1, y2, y3, y4, y5⟩ := HOB.out w' hSw; clear hSw; go_simp)
    (try simp only [List.getElem_toArray, List.getElem_cons_succ, List.getElem_cons_zero])
    go_frame
    refine wpAnyL_take (i := 2) (v := .pointer (some ⟨P, 0, none⟩)) rfl (by kernel_rfl) (by kernel_rfl) (by kernel_rfl) (by kernel_rfl) (by kernel_rfl) (fun _ _ _ h => h) (Or.inl ⟨by kernel_rfl, ?_⟩) hS ?_
    · (intro w' hSw; obtain ⟨x0, y0, y1, y2, y3, y4, y5⟩ := HOB.out w' hSw; clear hSw; go_simp)
    (try simp only [List.getElem_toArray, List.getElem_cons_succ, List.getElem_cons_zero])
    go_frame
    refine wpAnyL_take (i := 3) (v := .pointer (some ⟨P, 0, none⟩)) rfl (by kernel_rfl) (by kernel_rfl) (by kernel_rfl) (by kernel_rfl) (by kernel_rfl) (fun _ _ _ h => h) (Or.inl ⟨by kernel_rfl, ?_⟩) hS ?_
    · (intro w' hSw; obtain ⟨x0, y0, y1, y2, y3, y4, y5⟩ := HOB.out w' hSw; clear hSw; go_simp)
    (try simp only [List.getElem_toArray, List.getElem_cons_succ, List.getElem_cons_zero])
    go_frame
    refine wpAnyL_take (i := 4) (v := .slice (some ⟨g, 0, none⟩) M vc) rfl (by kernel_rfl) (by kernel_rfl) (by kernel_rfl) (by kernel_rfl) (by kernel_rfl) (fun _ _ _ h => h) (Or.inl ⟨by kernel_rfl, ?_⟩) hS ?_
    · (intro w' hSw; obtain ⟨x0, y0, y1, y2, y3, y4, y5⟩ := HOB.out w' hSw; clear hSw; go_simp)
    (try simp only [List.getElem_toArray, List.getElem_cons_succ, List.getElem_cons_zero])
    go_frame
    refine wpAnyL_take (i := 5) (v := .agg #[.int .i64 b0, .int .i64 b1, .int .i64 b2, .int .i64 b3, .int .i64 b4, .int .i64 b5]) rfl (by kernel_rfl) (by kernel_rfl) (by kernel_rfl) (by kernel_rfl) (by kernel_rfl) (fun _ _ _ h => h) (Or.inl ⟨by kernel_rfl, ?_⟩) hS ?_
    · (intro w' hSw; obtain ⟨x0, y0, y1, y2, y3, y4, y5⟩ := HOB.out w' hSw; clear hSw; go_simp)
    (try simp only [List.getElem_toArray, List.getElem_cons_succ, List.getElem_cons_zero])
    go_frame
    refine wpAnyL_one (i := 6) (by kernel_rfl) rfl (by kernel_rfl) ?_
    go_simp
    refine ⟨hS.alloc _, ?_⟩
    (try go_frame)
    refine wpAnyL_one (i := 7) (by kernel_rfl) rfl (by kernel_rfl) (oper_appendH _ _ _ rfl rfl rfl HR ?_)
    refine ⟨HON2.out, ?_⟩
    (try go_frame)
    refine wpAnyL_one (i := 8) (by kernel_rfl) rfl (by kernel_rfl) ?_
    go_simp
    refine ⟨HON2.out, ?_⟩
    refine wpAnyL_one (i := 9) (by kernel_rfl) rfl (by kernel_rfl) ?_
    go_simp
    refine ⟨HON2.out, ?_⟩
    refine wpAnyL_last (by kernel_rfl) (by kernel_rfl) rfl (by kernel_rfl) ?_
    go_simp
    refine NoPanic.normal ?_
    go_wp2
    refine bodyPost_ret (results_none1 rfl _ _ _) rfl ?_
    exact HF.out
end Go.Proofs.Ytjjmidooikgaaaa.Ru
