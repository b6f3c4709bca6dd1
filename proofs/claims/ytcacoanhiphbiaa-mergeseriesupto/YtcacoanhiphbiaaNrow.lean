/-
  Rows of labels: two texts each.
-/
import Derived.Test.YtcacoanhiphbiaaNtext
import Derived.Test.YtcacoanhiphbiaaProg
namespace Go.Proofs.Ytcacoanhiphbiaa.N
open Go.RowKit Go.Proofs.Lys
set_option linter.unusedVariables false

theorem Try.infoLab : (Try.prog.info? 45).map (fun i => (i.zero, i.size, i.bytes)) = some (some (.agg #[.string ⟨#[]⟩, .string ⟨#[]⟩]), 2, 32) := by kernel_rfl
/-- Labels, cell by cell. -/
def labL : Labs → List Value
  | [] => []
  | p :: r => .string p.1 :: .string p.2 :: labL r
theorem labL_len (l : Labs) : (labL l).length = l.length * 2 := by
  induction l with
  | nil => rfl
  | cons p r ih => rw [labL, List.length_cons, List.length_cons, ih, List.length_cons]; omega
theorem labL_app (l r : Labs) : labL (l ++ r) = labL l ++ labL r := by
  induction l with
  | nil => rfl
  | cons p l ih => rw [List.cons_append, labL, ih, labL]; rfl
theorem labL_at (l : Labs) (i : Nat) (h : i < l.length) : (labL l)[i * 2]? = some (.string l[i].1) ∧ (labL l)[i * 2 + 1]? = some (.string l[i].2) := by
  induction l generalizing i with
  | nil => simp at h
  | cons p r ih =>
    cases i with
    | zero => exact ⟨rfl, rfl⟩
    | succ i =>
      have := ih i (by simpa using h)
      rw [show (i + 1) * 2 = i * 2 + 2 by omega]
      exact this

/-- Labels that are read. -/
def LabSrc (w : World) (v : Value) (l : Labs) : Prop :=
  (∃ a c, v = .slice a 0 c ∧ l = []) ∨
  (0 < l.length ∧ ∃ b o c, v = .slice (some ⟨b, o, none⟩) l.length c ∧ ∀ i (hi : i < l.length), w.cell? ⟨b, o + i * 2, none⟩ = some (.string l[i].1) ∧ w.cell? ⟨b, o + i * 2 + 1, none⟩ = some (.string l[i].2))
theorem LabSrc.len {w : World} {v : Value} {l : Labs} (h : LabSrc w v l) : ∃ a c, v = .slice a l.length c := by
  rcases h with ⟨a, c, rfl, rfl⟩ | ⟨_, b, o, c, rfl, _⟩
  · exact ⟨a, c, rfl⟩
  · exact ⟨_, c, rfl⟩
theorem LabSrc.stay {w W : World} {v : Value} {l : Labs} (h : LabSrc w v l) (k : Kept w W) : LabSrc W v l := by
  have each : ∀ a u, w.cell? a = some u → W.cell? a = some u := fun a u hc => by
    rw [World.cell?_of_block (w := w) (w' := W) (a := a) (k.block a.block (World.block_lt_of_cell? w a hc) (fun f => f))]
    exact hc
  rcases h with h | ⟨h0, b, o, c, rfl, hc⟩
  · exact .inl h
  · exact .inr ⟨h0, b, o, c, rfl, fun i hi => ⟨each _ _ (hc i hi).1, each _ _ (hc i hi).2⟩⟩

theorem labL_one (l : Labs) : ∀ u ∈ labL l, u.oneCell' = true := by
  induction l with
  | nil => intro u hu; cases hu
  | cons p r ih =>
    intro u hu
    rw [labL] at hu
    simp only [List.mem_cons] at hu
    rcases hu with rfl | rfl | hu
    · rfl
    · rfl
    · exact ih u hu

section
variable {w w' : World} {base : Nat} {e : TypeId} {z : Nat} {v : Value} {n : Nat} {xs : List Value}
theorem ownN_slice (h : w.ownsRow base e z v n xs) : ∃ a cap, v = .slice a n cap := by
  rcases h.2 with ⟨rfl, rfl⟩ | ⟨g, cap, cur, rfl, _⟩
  · exact ⟨none, 0, rfl⟩
  · exact ⟨_, cap, rfl⟩
theorem ownN_some (h : w.ownsRow base e z v n xs) (h0 : 0 < n) : ∃ g cap, v = .slice (some ⟨g, 0, none⟩) n cap := by
  rcases h.2 with ⟨rfl, rfl⟩ | ⟨g, cap, cur, rfl, _⟩
  · omega
  · exact ⟨g, cap, rfl⟩
theorem ownN_block (h : w.ownsRow base e z v n xs) (hk : ∀ k, v.ownBlock = some k → w'.heap[k]? = w.heap[k]?) : w'.ownsRow base e z v n xs := by
  rcases h with ⟨hl, hn | ⟨g, cap, cur, rfl, hb, hg, rest⟩⟩
  · exact ⟨hl, .inl hn⟩
  · exact ⟨hl, .inr ⟨g, cap, cur, rfl, hb, (hk g rfl).trans hg, rest⟩⟩
theorem ownN_typed (h : w.ownsRow base e z v n xs) {k : Nat} (hk : v.ownBlock = some k) : Typed w k e := by
  rcases h.2 with ⟨rfl, _⟩ | ⟨g, cap, cur, rfl, hb, hg, _⟩
  · cases hk
  · have : g = k := by simpa [Value.ownBlock] using hk
    subst this
    exact ⟨_, _, hg⟩
theorem ownN_lt (h : w.ownsRow base e z v n xs) {k : Nat} (hk : v.ownBlock = some k) : base ≤ k ∧ k < w.heap.size := by
  rcases h.2 with ⟨rfl, _⟩ | ⟨g, cap, cur, rfl, hb, hg, _⟩
  · cases hk
  · have : g = k := by simpa [Value.ownBlock] using hk
    subst this
    exact ⟨hb, (Array.getElem?_eq_some_iff.1 hg).1⟩
theorem ownN_only {O : Nat → Prop} (h : w.ownsRow base e z v n xs) (k : Only O w w') (hO : ∀ b, v.ownBlock = some b → ¬ O b) : w'.ownsRow base e z v n xs :=
  ownN_block h (fun b hb => k.block b ((ownN_lt h hb).2) (hO b hb))
theorem ownN_stay (h : w.ownsRow base e z v n xs) (k : Kept w w') : w'.ownsRow base e z v n xs := ownN_only h k (fun _ _ f => f)
theorem ownN_base (h : w.ownsRow base e z v n xs) {b' : Nat} (hb : b' ≤ base) : w.ownsRow b' e z v n xs := by
  rcases h with ⟨hl, hn | ⟨g, cap, cur, rfl, hb', hg, rest⟩⟩
  · exact ⟨hl, .inl hn⟩
  · exact ⟨hl, .inr ⟨g, cap, cur, rfl, Nat.le_trans hb hb', hg, rest⟩⟩
end

/-- A row of labels that is owned. -/
abbrev LabAt (w : World) (B : Nat) (v : Value) (l : Labs) : Prop := w.ownsRow B 45 2 v l.length (labL l)

theorem LabAt.src {w : World} {B : Nat} {v : Value} {l : Labs} (h : LabAt w B v l) : LabSrc w v l := by
  by_cases h0 : l.length = 0
  · have : l = [] := List.length_eq_zero_iff.1 h0
    subst this
    obtain ⟨a, c, rfl⟩ := ownN_slice h
    exact .inl ⟨a, c, rfl, rfl⟩
  · obtain ⟨g, cap, rfl⟩ := ownN_some h (by omega)
    refine .inr ⟨by omega, g, 0, cap, rfl, fun i hi => ?_⟩
    have hx := labL_at l i hi
    rw [Nat.zero_add]
    exact ⟨by rw [h.cellAt (i * 2) (by omega)]; exact hx.1, by rw [h.cellAt (i * 2 + 1) (by omega)]; exact hx.2⟩

/-- What labels that are read append to a row of labels. -/
theorem lab_append {w : World} {B : Nat} {v xv : Value} {l q : Labs} (hown : LabAt w B v l) (hsrc : LabSrc w xv q) (hl : l.length + q.length ≤ 1000000) (hB : B ≤ w.heap.size) :
    ∃ v' w', (Builtin.append_ #[26, 26] 0 #[v, xv]).run Try.prog w = .ok v' w' ∧ LabAt w' B v' (l ++ q) ∧ w.grownBy w' v.ownBlock ∧ (v'.ownBlock = v.ownBlock ∨ v'.ownBlock = some w.heap.size) := by
  obtain ⟨i0, hi0, hz0, hz1, hz2⟩ := info_parts Try.infoLab
  have hm : l.length + q.length ≤ maxLen := by unfold maxLen; omega
  have ht := Try.underlying26
  have hll : (l ++ q).length = l.length + q.length := List.length_append
  have main : ∀ (a : Addr) (c : Nat), xv = .slice (some a) q.length c → (∀ j u, (labL q)[j]? = some u → w.cell? (a.add j) = some u) → ∃ v' w', (Builtin.append_ #[26, 26] 0 #[v, xv]).run Try.prog w = .ok v' w' ∧ LabAt w' B v' (l ++ q) ∧ w.grownBy w' v.ownBlock ∧ (v'.ownBlock = v.ownBlock ∨ v'.ownBlock = some w.heap.size) := by
    intro a c e hc
    subst e
    obtain ⟨v', w', hr, h2, h3, _, h5⟩ := run_append_own_at (P := Try.prog) w B _ 0 _ i0 _ 2 32 ht hi0 hz0 hz1 hz2 rfl (by decide) v l.length (labL l) hown a q.length c (labL q) (labL_len q)
      hc (labL_one q) hm (by omega) hB
    refine ⟨v', w', hr, ?_, h3, h5⟩
    unfold LabAt
    rw [hll, labL_app]
    exact h2
  rcases hsrc with ⟨a, c, rfl, rfl⟩ | ⟨h0, b, o, c, rfl, hc⟩
  · cases a with
    | none =>
      refine ⟨v, w, ?_, by rw [List.append_nil]; exact hown, World.grownBy.refl _ _, .inl rfl⟩
      rcases hown.2 with ⟨rfl, h0⟩ | ⟨g, cap, cur, rfl, hbg, hg, hnc, hcm, hcs, htake⟩
      · simp [Builtin.append_, run_underlying ht, sizeOf, typeInfo, hi0, Builtin.lenOf, Builtin.firstCells]
      · simp [Builtin.append_, run_underlying ht, sizeOf, typeInfo, hi0, Builtin.lenOf, Builtin.firstCells, hnc, storeCells]
    | some a => exact main a c rfl (fun j u hu => by simp [labL] at hu)
  · refine main _ c rfl (fun j u hu => ?_)
    rw [add_none]
    have hj : j < (labL q).length := (List.getElem?_eq_some_iff.1 hu).1
    rw [labL_len] at hj
    have hx := labL_at q (j / 2) (by omega)
    have hcc := hc (j / 2) (by omega)
    rcases Nat.mod_two_eq_zero_or_one j with hp | hp
    · have ej : j = j / 2 * 2 := by omega
      rw [ej] at hu ⊢
      rw [hx.1] at hu
      cases hu
      exact hcc.1
    · have ej : j = j / 2 * 2 + 1 := by omega
      rw [ej] at hu ⊢
      rw [hx.2] at hu
      cases hu
      rw [← Nat.add_assoc]
      exact hcc.2

/-- A label that was laid just now. -/
theorem lab_lit (w : World) (p : Lab) : LabSrc (w.alloc (.cells #[.string p.1, .string p.2] 45)) (.slice (some ⟨w.heap.size, 0, none⟩) 1 1) [p] := by
  have hb := Blk.new w [.string p.1, .string p.2] 45
  refine .inr ⟨by simp, w.heap.size, 0, 1, rfl, fun i hi => ?_⟩
  have : i = 0 := by simpa using hi
  subst this
  exact ⟨hb.cell 0 rfl, hb.cell 1 rfl⟩

/-- A row grows by a label. -/
theorem lab_step {w0 w : World} {v : Value} {l : Labs} (hown : LabAt w w0.heap.size v l) (hk : Kept w0 w) (p : Lab) (hl : l.length < 1000000) :
    ∃ g cap w', Hid ((Builtin.append_ #[26, 26] 0 #[v, .slice (some ⟨w.heap.size, 0, none⟩) 1 1]).run Try.prog (w.alloc (.cells #[.string p.1, .string p.2] 45)) = .ok (.slice (some ⟨g, 0, none⟩) (l.length + 1) cap) w') ∧ LabAt w' w0.heap.size (.slice (some ⟨g, 0, none⟩) (l.length + 1) cap) (l ++ [p]) ∧ Kept w0 w' := by
  have k1 : Kept w (w.alloc (.cells #[.string p.1, .string p.2] 45)) := (Only.refl _ w).alloc _
  obtain ⟨v', w', hr, h1, h2, h3⟩ := lab_append (ownN_stay hown k1) (lab_lit w p) (by simp; omega) (Nat.le_trans hk.size k1.size)
  obtain ⟨g, cap, rfl⟩ := ownN_some h1 (by simp)
  have hn : (l ++ [p]).length = l.length + 1 := by simp
  rw [hn] at hr h1
  refine ⟨g, cap, w', hr, h1, ?_⟩
  · exact (hk.trans k1 (fun _ _ f => f)).grown h2 (fun j hj hlt => by have := (ownN_lt hown hj).1; omega)

theorem LabSrc.cell {w : World} {a : Option Addr} {c M : Nat} {l : Labs} (h : LabSrc w (.slice a M c) l) (hM : l.length = M) (k : Nat) (hk : k < M) : ∃ b o, a = some ⟨b, o, none⟩ ∧ w.cell? ⟨b, o + k * 2, none⟩ = some (Value.string (l[k]'(by omega)).1) ∧ w.cell? ⟨b, o + k * 2 + 1, none⟩ = some (.string (l[k]'(by omega)).2) := by
  rcases h with ⟨a, c, e, e2⟩ | ⟨hpos, b, o, c, e1, hc⟩
  · subst e2
    simp at hM
    omega
  · rw [hM] at e1
    cases e1
    exact ⟨b, o, rfl, (hc k (by omega)).1, (hc k (by omega)).2⟩

theorem lab_copy {w : World} {xv : Value} {q : Labs} (hsrc : LabSrc w xv q) (hl : q.length ≤ 100000) :
    ∃ a cap w', Hid ((Builtin.append_ #[26, 26] 0 #[.slice none 0 0, xv]).run Try.prog w = .ok (.slice a q.length cap) w') ∧ LabAt w' w.heap.size (.slice a q.length cap) q ∧ Kept w w' := by
  obtain ⟨v', w', hr, h1, h2, h3⟩ := lab_append (w := w) (B := w.heap.size) (v := .slice none 0 0) (l := []) ⟨rfl, .inl ⟨rfl, rfl⟩⟩ hsrc (by simp; omega) (Nat.le_refl _)
  rw [List.nil_append] at h1
  obtain ⟨a, cap, rfl⟩ := ownN_slice h1
  exact ⟨a, cap, w', hr, h1, (Only.refl _ w).grown h2 (fun j hj => by cases hj)⟩

end Go.Proofs.Ytcacoanhiphbiaa.N
