/-
  Mrow.
-/
import Derived.Test.YteknpfldemgmnaaGreatQ07
import Derived.Test.YteknpfldemgmnaaGreatQ06

/-
  Rows of matchers: a kind and two texts each.
-/
namespace Go.Proofs.YteknpfldemgmnaaGreat.N
open Go.RowKit Go.Proofs.Lys
set_option linter.unusedVariables false

theorem Tryz.infoMat : (Tryz.prog.info? 49).map (fun i => (i.zero, i.size, i.bytes)) = some (some (.agg #[.int .i64 0, .string ⟨#[]⟩, .string ⟨#[]⟩]), 3, 40) := by kernel_rfl
/-- Matchers, cell by cell. -/
def matL : Mats → List Value
  | [] => []
  | p :: r => .int .i64 p.1 :: .string p.2.1 :: .string p.2.2 :: matL r
theorem matL_len (l : Mats) : (matL l).length = l.length * 3 := by
  induction l with
  | nil => rfl
  | cons p r ih => rw [matL, List.length_cons, List.length_cons, List.length_cons, ih, List.length_cons]; omega
theorem matL_app (l r : Mats) : matL (l ++ r) = matL l ++ matL r := by
  induction l with
  | nil => rfl
  | cons p l ih => rw [List.cons_append, matL, ih, matL]; rfl
theorem matL_at (l : Mats) (i : Nat) (h : i < l.length) : (matL l)[i * 3]? = some (.int .i64 l[i].1) ∧ (matL l)[i * 3 + 1]? = some (.string l[i].2.1) ∧ (matL l)[i * 3 + 2]? = some (.string l[i].2.2) := by
  induction l generalizing i with
  | nil => simp at h
  | cons p r ih =>
    cases i with
    | zero => exact ⟨rfl, rfl, rfl⟩
    | succ i =>
      have := ih i (by simpa using h)
      rw [show (i + 1) * 3 = i * 3 + 3 by omega]
      exact this

/-- Matchers that are read. -/
def MatSrc (w : World) (v : Value) (l : Mats) : Prop :=
  (∃ a c, v = .slice a 0 c ∧ l = []) ∨
  (0 < l.length ∧ ∃ b o c, v = .slice (some ⟨b, o, none⟩) l.length c ∧ ∀ i (hi : i < l.length), w.cell? ⟨b, o + i * 3, none⟩ = some (.int .i64 l[i].1) ∧ w.cell? ⟨b, o + i * 3 + 1, none⟩ = some (.string l[i].2.1) ∧ w.cell? ⟨b, o + i * 3 + 2, none⟩ = some (.string l[i].2.2))
theorem MatSrc.len {w : World} {v : Value} {l : Mats} (h : MatSrc w v l) : ∃ a c, v = .slice a l.length c := by
  rcases h with ⟨a, c, rfl, rfl⟩ | ⟨_, b, o, c, rfl, _⟩
  · exact ⟨a, c, rfl⟩
  · exact ⟨_, c, rfl⟩
theorem MatSrc.stay {w W : World} {v : Value} {l : Mats} (h : MatSrc w v l) (k : Kept w W) : MatSrc W v l := by
  have each : ∀ a u, w.cell? a = some u → W.cell? a = some u := fun a u hc => by
    rw [World.cell?_of_block (w := w) (w' := W) (a := a) (k.block a.block (World.block_lt_of_cell? w a hc) (fun f => f))]
    exact hc
  rcases h with h | ⟨h0, b, o, c, rfl, hc⟩
  · exact .inl h
  · exact .inr ⟨h0, b, o, c, rfl, fun i hi => ⟨each _ _ (hc i hi).1, each _ _ (hc i hi).2.1, each _ _ (hc i hi).2.2⟩⟩
theorem matL_one (l : Mats) : ∀ u ∈ matL l, u.oneCell' = true := by
  induction l with
  | nil => intro u hu; cases hu
  | cons p r ih =>
    intro u hu
    rw [matL] at hu
    simp only [List.mem_cons] at hu
    rcases hu with rfl | rfl | rfl | hu
    · rfl
    · rfl
    · rfl
    · exact ih u hu

/-- A row of matchers that is owned. -/
abbrev MatAt (w : World) (B : Nat) (v : Value) (l : Mats) : Prop := w.ownsRow B 49 3 v l.length (matL l)

theorem MatAt.src {w : World} {B : Nat} {v : Value} {l : Mats} (h : MatAt w B v l) : MatSrc w v l := by
  by_cases h0 : l.length = 0
  · have : l = [] := List.length_eq_zero_iff.1 h0
    subst this
    obtain ⟨a, c, rfl⟩ := ownN_slice h
    exact .inl ⟨a, c, rfl, rfl⟩
  · obtain ⟨g, cap, rfl⟩ := ownN_some h (by omega)
    refine .inr ⟨by omega, g, 0, cap, rfl, fun i hi => ?_⟩
    have hx := matL_at l i hi
    rw [Nat.zero_add]
    exact ⟨by rw [h.cellAt (i * 3) (by omega)]; exact hx.1, by rw [h.cellAt (i * 3 + 1) (by omega)]; exact hx.2.1, by rw [h.cellAt (i * 3 + 2) (by omega)]; exact hx.2.2⟩

/-- What matchers that are read append to a row of matchers. -/
theorem mat_append {w : World} {B : Nat} {v xv : Value} {l q : Mats} (hown : MatAt w B v l) (hsrc : MatSrc w xv q) (hq : 0 < q.length) (hl : l.length + q.length ≤ 1000000) (hB : B ≤ w.heap.size) :
    ∃ v' w', (Builtin.append_ #[50, 50] 0 #[v, xv]).run Tryz.prog w = .ok v' w' ∧ MatAt w' B v' (l ++ q) ∧ w.grownBy w' v.ownBlock ∧ (v'.ownBlock = v.ownBlock ∨ v'.ownBlock = some w.heap.size) := by
  obtain ⟨i0, hi0, hz0, hz1, hz2⟩ := info_parts Tryz.infoMat
  have hm : l.length + q.length ≤ maxLen := by unfold maxLen; omega
  have ht := Tryz.underlying50
  have hll : (l ++ q).length = l.length + q.length := List.length_append
  have main : ∀ (a : Addr) (c : Nat), xv = .slice (some a) q.length c → (∀ j u, (matL q)[j]? = some u → w.cell? (a.add j) = some u) → ∃ v' w', (Builtin.append_ #[50, 50] 0 #[v, xv]).run Tryz.prog w = .ok v' w' ∧ MatAt w' B v' (l ++ q) ∧ w.grownBy w' v.ownBlock ∧ (v'.ownBlock = v.ownBlock ∨ v'.ownBlock = some w.heap.size) := by
    intro a c e hc
    subst e
    obtain ⟨v', w', hr, h2, h3, _, h5⟩ := run_append_own_at (P := Tryz.prog) w B _ 0 _ i0 _ 3 40 ht hi0 hz0 hz1 hz2 rfl (by decide) v l.length (matL l) hown a q.length c (matL q) (matL_len q)
      hc (matL_one q) hm (by omega) hB
    refine ⟨v', w', hr, ?_, h3, h5⟩
    unfold MatAt
    rw [hll, matL_app]
    exact h2
  rcases hsrc with ⟨a, c, rfl, rfl⟩ | ⟨h0, b, o, c, rfl, hc⟩
  · simp at hq
  · refine main _ c rfl (fun j u hu => ?_)
    rw [add_none]
    have hj : j < (matL q).length := (List.getElem?_eq_some_iff.1 hu).1
    rw [matL_len] at hj
    have hx := matL_at q (j / 3) (by omega)
    have hcc := hc (j / 3) (by omega)
    have h3 : j % 3 = 0 ∨ j % 3 = 1 ∨ j % 3 = 2 := by omega
    rcases h3 with hp | hp | hp
    · have ej : j = j / 3 * 3 := by omega
      rw [ej] at hu ⊢
      rw [hx.1] at hu
      cases hu
      exact hcc.1
    · have ej : j = j / 3 * 3 + 1 := by omega
      rw [ej] at hu ⊢
      rw [hx.2.1] at hu
      cases hu
      rw [← Nat.add_assoc]
      exact hcc.2.1
    · have ej : j = j / 3 * 3 + 2 := by omega
      rw [ej] at hu ⊢
      rw [hx.2.2] at hu
      cases hu
      rw [← Nat.add_assoc]
      exact hcc.2.2

/-- A matcher that was laid just now. -/
theorem mat_lit (w : World) (p : Mat) : MatSrc (w.alloc (.cells #[.int .i64 p.1, .string p.2.1, .string p.2.2] 49)) (.slice (some ⟨w.heap.size, 0, none⟩) 1 1) [p] := by
  have hb := Blk.new w [.int .i64 p.1, .string p.2.1, .string p.2.2] 49
  refine .inr ⟨by simp, w.heap.size, 0, 1, rfl, fun i hi => ?_⟩
  have : i = 0 := by simpa using hi
  subst this
  exact ⟨hb.cell 0 rfl, hb.cell 1 rfl, hb.cell 2 rfl⟩

/-- A row grows by a matcher. -/
theorem mat_step {w0 w : World} {v : Value} {l : Mats} (hown : MatAt w w0.heap.size v l) (hk : Kept w0 w) (p : Mat) (hl : l.length < 1000000) :
    ∃ g cap w', Hid ((Builtin.append_ #[50, 50] 0 #[v, .slice (some ⟨w.heap.size, 0, none⟩) 1 1]).run Tryz.prog (w.alloc (.cells #[.int .i64 p.1, .string p.2.1, .string p.2.2] 49)) = .ok (.slice (some ⟨g, 0, none⟩) (l.length + 1) cap) w') ∧ MatAt w' w0.heap.size (.slice (some ⟨g, 0, none⟩) (l.length + 1) cap) (l ++ [p]) ∧ Kept w0 w' := by
  have k1 : Kept w (w.alloc (.cells #[.int .i64 p.1, .string p.2.1, .string p.2.2] 49)) := (Only.refl _ w).alloc _
  obtain ⟨v', w', hr, h1, h2, h3⟩ := mat_append (ownN_stay hown k1) (mat_lit w p) (by simp) (by simp; omega) (Nat.le_trans hk.size k1.size)
  obtain ⟨g, cap, rfl⟩ := ownN_some h1 (by simp)
  have hn : (l ++ [p]).length = l.length + 1 := by simp
  rw [hn] at hr h1
  refine ⟨g, cap, w', hr, h1, ?_⟩
  · exact (hk.trans k1 (fun _ _ f => f)).grown h2 (fun j hj hlt => by have := (ownN_lt hown hj).1; omega)

theorem MatSrc.cell {w : World} {a : Option Addr} {c M : Nat} {l : Mats} (h : MatSrc w (.slice a M c) l) (hM : l.length = M) (k : Nat) (hk : k < M) : ∃ b o, a = some ⟨b, o, none⟩ ∧ w.cell? ⟨b, o + k * 3, none⟩ = some (.int .i64 (l[k]'(by omega)).1) ∧ w.cell? ⟨b, o + k * 3 + 1, none⟩ = some (Value.string (l[k]'(by omega)).2.1) ∧ w.cell? ⟨b, o + k * 3 + 2, none⟩ = some (.string (l[k]'(by omega)).2.2) := by
  rcases h with ⟨a, c, e, e2⟩ | ⟨hpos, b, o, c, e1, hc⟩
  · subst e2
    simp at hM
    omega
  · rw [hM] at e1
    cases e1
    exact ⟨b, o, rfl, (hc k (by omega)).1, (hc k (by omega)).2.1, (hc k (by omega)).2.2⟩
end Go.Proofs.YteknpfldemgmnaaGreat.N
