/-
  Rows of blocks of a manifest: four numbers each.
-/
import Derived.Test.YtjifcgphlidimaaDoorBase
import Derived.Test.YtjifcgphlidimaaDoorProg
import Derived.BigQuiet
import Derived.Deep.WholeRow
import Derived.Deep.Slices
namespace Go.Proofs.YtjifcgphlidimaaDoor.J
open Go.RowKit Go.Proofs.Lys
set_option linter.unusedVariables false

abbrev Rf := Int × Int × Int × Int
theorem Tryd.infoR : (Tryd.prog.info? 54).map (fun i => (i.zero, i.size, i.bytes)) = some (some (.agg #[.int .i64 0, .int .i64 0, .int .i64 0, .int .i64 0]), 4, 32) := by kernel_rfl
/-- Blocks, cell by cell. -/
def rfL : List Rf → List Value
  | [] => []
  | p :: r => .int .i64 p.1 :: .int .i64 p.2.1 :: .int .i64 p.2.2.1 :: .int .i64 p.2.2.2 :: rfL r
theorem rfL_len (l : List Rf) : (rfL l).length = l.length * 4 := by
  induction l with
  | nil => rfl
  | cons p r ih => rw [rfL, List.length_cons, List.length_cons, List.length_cons, List.length_cons, ih, List.length_cons]; omega
theorem rfL_app (l r : List Rf) : rfL (l ++ r) = rfL l ++ rfL r := by
  induction l with
  | nil => rfl
  | cons p l ih => rw [List.cons_append, rfL, ih, rfL]; rfl
theorem rfL_at (l : List Rf) (i : Nat) (h : i < l.length) : (rfL l)[i * 4]? = some (.int .i64 l[i].1) ∧ (rfL l)[i * 4 + 1]? = some (.int .i64 l[i].2.1) ∧ (rfL l)[i * 4 + 2]? = some (.int .i64 l[i].2.2.1) ∧ (rfL l)[i * 4 + 3]? = some (.int .i64 l[i].2.2.2) := by
  induction l generalizing i with
  | nil => simp at h
  | cons p r ih =>
    cases i with
    | zero => exact ⟨rfl, rfl, rfl, rfl⟩
    | succ i =>
      have := ih i (by simpa using h)
      rw [show (i + 1) * 4 = i * 4 + 4 by omega]
      exact this
theorem rfL_one (l : List Rf) : ∀ u ∈ rfL l, u.oneCell' = true := by
  induction l with
  | nil => intro u hu; cases hu
  | cons p r ih =>
    intro u hu
    rw [rfL] at hu
    simp only [List.mem_cons] at hu
    rcases hu with rfl | rfl | rfl | rfl | hu
    · rfl
    · rfl
    · rfl
    · rfl
    · exact ih u hu

/-- The four cells of a block. -/
def RfC (w : World) (b o : Nat) (x : Rf) : Prop := w.cell? ⟨b, o, none⟩ = some (.int .i64 x.1) ∧ w.cell? ⟨b, o + 1, none⟩ = some (.int .i64 x.2.1) ∧ w.cell? ⟨b, o + 2, none⟩ = some (.int .i64 x.2.2.1) ∧ w.cell? ⟨b, o + 3, none⟩ = some (.int .i64 x.2.2.2)
/-- Blocks that are read. -/
def RfSrc (w : World) (v : Value) (l : List Rf) : Prop :=
  (∃ a c, v = .slice a 0 c ∧ l = []) ∨
  (0 < l.length ∧ ∃ b o c, v = .slice (some ⟨b, o, none⟩) l.length c ∧ ∀ i (hi : i < l.length), RfC w b (o + i * 4) l[i])
theorem RfSrc.len {w : World} {v : Value} {l : List Rf} (h : RfSrc w v l) : ∃ a c, v = .slice a l.length c := by
  rcases h with ⟨a, c, rfl, rfl⟩ | ⟨_, b, o, c, rfl, _⟩
  · exact ⟨a, c, rfl⟩
  · exact ⟨_, c, rfl⟩
theorem each_cell {w W : World} (k : Kept w W) : ∀ a u, w.cell? a = some u → W.cell? a = some u := fun a u hc => by
    rw [World.cell?_of_block (w := w) (w' := W) (a := a) (k.block a.block (World.block_lt_of_cell? w a hc) (fun f => f))]
    exact hc
theorem RfSrc.stay {w W : World} {v : Value} {l : List Rf} (h : RfSrc w v l) (k : Kept w W) : RfSrc W v l := by
  have each := each_cell k
  rcases h with h | ⟨h0, b, o, c, rfl, hc⟩
  · exact .inl h
  · exact .inr ⟨h0, b, o, c, rfl, fun i hi => ⟨each _ _ (hc i hi).1, each _ _ (hc i hi).2.1, each _ _ (hc i hi).2.2.1, each _ _ (hc i hi).2.2.2⟩⟩
theorem RfSrc.cell {w : World} {a : Option Addr} {c M : Nat} {l : List Rf} (h : RfSrc w (.slice a M c) l) (hM : l.length = M) (k : Nat) (hk : k < M) : ∃ b o, a = some ⟨b, o, none⟩ ∧ RfC w b (o + k * 4) (l[k]'(by omega)) := by
  rcases h with ⟨a, c, e, e2⟩ | ⟨hpos, b, o, c, e1, hc⟩
  · subst e2
    simp at hM
    omega
  · rw [hM] at e1
    cases e1
    exact ⟨b, o, rfl, hc k (by omega)⟩

section
variable {w w' : World} {base : Nat} {e : TypeId} {z : Nat} {v : Value} {n : Nat} {xs : List Value}
theorem ownN_slice (h : w.ownsRow base e z v n xs) : ∃ a cap, v = .slice a n cap := by
  rcases h.2 with ⟨rfl, rfl⟩ | ⟨g, cap, cur, rfl, _⟩
  · exact ⟨none, 0, rfl⟩
  · exact ⟨_, cap, rfl⟩
theorem ownN_some (h : w.ownsRow base e z v n xs) (h0 : 0 < n) : ∃ g cap, v = .slice (some ⟨g, 0, none⟩) n cap := by
  rcases h.2 with ⟨rfl, rfl⟩ | ⟨g, cap, cur, rfl, _⟩
  · omega
  · exact ⟨g, cap, rfl⟩
theorem ownN_block (h : w.ownsRow base e z v n xs) (hk : ∀ k, v.ownBlock = some k → w'.heap[k]? = w.heap[k]?) : w'.ownsRow base e z v n xs := by
  rcases h with ⟨hl, hn | ⟨g, cap, cur, rfl, hb, hg, rest⟩⟩
  · exact ⟨hl, .inl hn⟩
  · exact ⟨hl, .inr ⟨g, cap, cur, rfl, hb, (hk g rfl).trans hg, rest⟩⟩
theorem ownN_typed (h : w.ownsRow base e z v n xs) {k : Nat} (hk : v.ownBlock = some k) : Typed w k e := by
  rcases h.2 with ⟨rfl, _⟩ | ⟨g, cap, cur, rfl, hb, hg, _⟩
  · cases hk
  · have : g = k := by simpa [Value.ownBlock] using hk
    subst this
    exact ⟨_, _, hg⟩
theorem ownN_lt (h : w.ownsRow base e z v n xs) {k : Nat} (hk : v.ownBlock = some k) : base ≤ k ∧ k < w.heap.size := by
  rcases h.2 with ⟨rfl, _⟩ | ⟨g, cap, cur, rfl, hb, hg, _⟩
  · cases hk
  · have : g = k := by simpa [Value.ownBlock] using hk
    subst this
    exact ⟨hb, (Array.getElem?_eq_some_iff.1 hg).1⟩
theorem ownN_only {O : Nat → Prop} (h : w.ownsRow base e z v n xs) (k : Only O w w') (hO : ∀ b, v.ownBlock = some b → ¬ O b) : w'.ownsRow base e z v n xs :=
  ownN_block h (fun b hb => k.block b ((ownN_lt h hb).2) (hO b hb))
theorem ownN_stay (h : w.ownsRow base e z v n xs) (k : Kept w w') : w'.ownsRow base e z v n xs := ownN_only h k (fun _ _ f => f)
theorem ownN_base (h : w.ownsRow base e z v n xs) {b' : Nat} (hb : b' ≤ base) : w.ownsRow b' e z v n xs := by
  rcases h with ⟨hl, hn | ⟨g, cap, cur, rfl, hb', hg, rest⟩⟩
  · exact ⟨hl, .inl hn⟩
  · exact ⟨hl, .inr ⟨g, cap, cur, rfl, Nat.le_trans hb hb', hg, rest⟩⟩
end


/-- A row of blocks that is owned. -/
abbrev RfAt (w : World) (B : Nat) (v : Value) (l : List Rf) : Prop := w.ownsRow B 54 4 v l.length (rfL l)

theorem RfAt.src {w : World} {B : Nat} {v : Value} {l : List Rf} (h : RfAt w B v l) : RfSrc w v l := by
  by_cases h0 : l.length = 0
  · have : l = [] := List.length_eq_zero_iff.1 h0
    subst this
    obtain ⟨a, c, rfl⟩ := ownN_slice h
    exact .inl ⟨a, c, rfl, rfl⟩
  · obtain ⟨g, cap, rfl⟩ := ownN_some h (by omega)
    refine .inr ⟨by omega, g, 0, cap, rfl, fun i hi => ?_⟩
    have hx := rfL_at l i hi
    rw [Nat.zero_add]
    exact ⟨by rw [h.cellAt (i * 4) (by omega)]; exact hx.1, by rw [h.cellAt (i * 4 + 1) (by omega)]; exact hx.2.1, by rw [h.cellAt (i * 4 + 2) (by omega)]; exact hx.2.2.1, by rw [h.cellAt (i * 4 + 3) (by omega)]; exact hx.2.2.2⟩

/-- What blocks that are read append to a row of blocks. -/
theorem rf_append {w : World} {B : Nat} {v xv : Value} {l q : List Rf} (hown : RfAt w B v l) (hsrc : RfSrc w xv q) (hl : l.length + q.length ≤ 1000000) (hB : B ≤ w.heap.size) :
    ∃ v' w', (Builtin.append_ #[22, 22] 0 #[v, xv]).run Tryd.prog w = .ok v' w' ∧ RfAt w' B v' (l ++ q) ∧ w.grownBy w' v.ownBlock ∧ (v'.ownBlock = v.ownBlock ∨ v'.ownBlock = some w.heap.size) := by
  obtain ⟨i0, hi0, hz0, hz1, hz2⟩ := info_parts Tryd.infoR
  have hm : l.length + q.length ≤ maxLen := by unfold maxLen; omega
  have ht := Tryd.underlying22
  have hll : (l ++ q).length = l.length + q.length := List.length_append
  have main : ∀ (a : Addr) (c : Nat), xv = .slice (some a) q.length c → (∀ j u, (rfL q)[j]? = some u → w.cell? (a.add j) = some u) → ∃ v' w', (Builtin.append_ #[22, 22] 0 #[v, xv]).run Tryd.prog w = .ok v' w' ∧ RfAt w' B v' (l ++ q) ∧ w.grownBy w' v.ownBlock ∧ (v'.ownBlock = v.ownBlock ∨ v'.ownBlock = some w.heap.size) := by
    intro a c e hc
    subst e
    obtain ⟨v', w', hr, h2, h3, _, h5⟩ := run_append_own_at (P := Tryd.prog) w B _ 0 _ i0 _ 4 32 ht hi0 hz0 hz1 hz2 rfl (by decide) v l.length (rfL l) hown a q.length c (rfL q) (rfL_len q)
      hc (rfL_one q) hm (by omega) hB
    refine ⟨v', w', hr, ?_, h3, h5⟩
    unfold RfAt
    rw [hll, rfL_app]
    exact h2
  rcases hsrc with ⟨a, c, rfl, rfl⟩ | ⟨h0, b, o, c, rfl, hc⟩
  · cases a with
    | none =>
      refine ⟨v, w, ?_, by rw [List.append_nil]; exact hown, World.grownBy.refl _ _, .inl rfl⟩
      rcases hown.2 with ⟨rfl, h0⟩ | ⟨g, cap, cur, rfl, hbg, hg, hnc, hcm, hcs, htake⟩
      · simp [Builtin.append_, run_underlying ht, sizeOf, typeInfo, hi0, Builtin.lenOf, Builtin.firstCells]
      · simp [Builtin.append_, run_underlying ht, sizeOf, typeInfo, hi0, Builtin.lenOf, Builtin.firstCells, hnc, storeCells]
    | some a => exact main a c rfl (fun j u hu => by simp [rfL] at hu)
  · refine main _ c rfl (fun j u hu => ?_)
    rw [add_none]
    have hj : j < (rfL q).length := (List.getElem?_eq_some_iff.1 hu).1
    rw [rfL_len] at hj
    have hx := rfL_at q (j / 4) (by omega)
    have hcc := hc (j / 4) (by omega)
    have hp : j % 4 = 0 ∨ j % 4 = 1 ∨ j % 4 = 2 ∨ j % 4 = 3 := by omega
    rcases hp with hp | hp | hp | hp
    · have ej : j = j / 4 * 4 := by omega
      rw [ej] at hu ⊢
      rw [hx.1] at hu
      cases hu
      exact hcc.1
    · have ej : j = j / 4 * 4 + 1 := by omega
      rw [ej] at hu ⊢
      rw [hx.2.1] at hu
      cases hu
      rw [← Nat.add_assoc]
      exact hcc.2.1
    · have ej : j = j / 4 * 4 + 2 := by omega
      rw [ej] at hu ⊢
      rw [hx.2.2.1] at hu
      cases hu
      rw [← Nat.add_assoc]
      exact hcc.2.2.1
    · have ej : j = j / 4 * 4 + 3 := by omega
      rw [ej] at hu ⊢
      rw [hx.2.2.2] at hu
      cases hu
      rw [← Nat.add_assoc]
      exact hcc.2.2.2

/-- A block that was laid just now. -/
abbrev rfO (p : Rf) : Obj := .cells #[.int .i64 p.1, .int .i64 p.2.1, .int .i64 p.2.2.1, .int .i64 p.2.2.2] 54
theorem rf_lit (w : World) (p : Rf) : RfSrc (w.alloc (rfO p)) (.slice (some ⟨w.heap.size, 0, none⟩) 1 1) [p] := by
  have hb := Blk.new w [.int .i64 p.1, .int .i64 p.2.1, .int .i64 p.2.2.1, .int .i64 p.2.2.2] 54
  refine .inr ⟨by simp, w.heap.size, 0, 1, rfl, fun i hi => ?_⟩
  have : i = 0 := by simpa using hi
  subst this
  exact ⟨hb.cell 0 rfl, hb.cell 1 rfl, hb.cell 2 rfl, hb.cell 3 rfl⟩

/-- A row grows by a block. -/
theorem rf_one {w : World} {B : Nat} {v : Value} {l : List Rf} (hown : RfAt w B v l) (hB : B ≤ w.heap.size) (p : Rf) (hl : l.length < 1000000) :
    ∃ g cap w', Hid ((Builtin.append_ #[22, 22] 0 #[v, .slice (some ⟨w.heap.size, 0, none⟩) 1 1]).run Tryd.prog (w.alloc (rfO p)) = .ok (.slice (some ⟨g, 0, none⟩) (l.length + 1) cap) w') ∧ RfAt w' B (.slice (some ⟨g, 0, none⟩) (l.length + 1) cap) (l ++ [p]) ∧ Only (fun k => v.ownBlock = some k) w w' := by
  have k1 : Kept w (w.alloc (rfO p)) := (Only.refl _ w).alloc _
  obtain ⟨v', w', hr, h1, h2, h3⟩ := rf_append (ownN_stay hown k1) (rf_lit w p) (by simp; omega) (Nat.le_trans hB k1.size)
  obtain ⟨g, cap, rfl⟩ := ownN_some h1 (by simp)
  have hn : (l ++ [p]).length = l.length + 1 := by simp
  rw [hn] at hr h1
  exact ⟨g, cap, w', hr, h1, ((Only.refl _ w).alloc _).grown h2 (fun j hj _ => hj)⟩
theorem rf_step {w0 w : World} {v : Value} {l : List Rf} (hown : RfAt w w0.heap.size v l) (hk : Kept w0 w) (p : Rf) (hl : l.length < 1000000) :
    ∃ g cap w', Hid ((Builtin.append_ #[22, 22] 0 #[v, .slice (some ⟨w.heap.size, 0, none⟩) 1 1]).run Tryd.prog (w.alloc (rfO p)) = .ok (.slice (some ⟨g, 0, none⟩) (l.length + 1) cap) w') ∧ RfAt w' w0.heap.size (.slice (some ⟨g, 0, none⟩) (l.length + 1) cap) (l ++ [p]) ∧ Kept w0 w' := by
  obtain ⟨g, cap, w', hr, h1, h2⟩ := rf_one hown hk.size p hl
  exact ⟨g, cap, w', hr, h1, hk.trans h2 (fun j hj e => by have := (ownN_lt hown e).1; omega)⟩
theorem rf_copy {w : World} {xv : Value} {q : List Rf} (hsrc : RfSrc w xv q) (hl : q.length ≤ 100000) :
    ∃ a cap w', Hid ((Builtin.append_ #[22, 22] 0 #[.slice none 0 0, xv]).run Tryd.prog w = .ok (.slice a q.length cap) w') ∧ RfAt w' w.heap.size (.slice a q.length cap) q ∧ Kept w w' := by
  obtain ⟨v', w', hr, h1, h2, h3⟩ := rf_append (w := w) (B := w.heap.size) (v := .slice none 0 0) (l := []) ⟨rfl, .inl ⟨rfl, rfl⟩⟩ hsrc (by simp; omega) (Nat.le_refl _)
  rw [List.nil_append] at h1
  obtain ⟨a, cap, rfl⟩ := ownN_slice h1
  exact ⟨a, cap, w', hr, h1, (Only.refl _ w).grown h2 (fun j hj => by cases hj)⟩
end Go.Proofs.YtjifcgphlidimaaDoor.J
