/-
  Package season's laws: SeasonRepeats.
-/
import Derived.Test.YtkhbkjnjhojnbaaSelaw
namespace Go.Proofs.Ytkhbkjnjhojnbaa.Se
open Go Go.RowKit Go.Proofs.Lys
set_option linter.unusedVariables false
set_option linter.unusedSimpArgs false

/-- A part so many times. -/
def rep (p : List Int) : Nat → List Int
  | 0 => []
  | k + 1 => rep p k ++ p
theorem rep_len (p : List Int) (k : Nat) : (rep p k).length = k * p.length := by
  induction k with
  | zero => simp [rep]
  | succ k ih => simp [rep, ih, Nat.succ_mul]
theorem rep_get (p : List Int) (k j r : Nat) (hj : j < k) (hr : r < p.length) : (rep p k).getD (j * p.length + r) 0 = p.getD r 0 := by
  induction k with
  | zero => omega
  | succ k ih =>
    show (rep p k ++ p).getD _ 0 = _
    have hl := rep_len p k
    by_cases h : j < k
    · rw [← ih h, List.getD_eq_getElem?_getD, List.getD_eq_getElem?_getD, List.getElem?_append_left]
      rw [hl]
      have : (j + 1) * p.length ≤ k * p.length := Nat.mul_le_mul_right _ h
      rw [Nat.succ_mul] at this
      omega
    · have e : j = k := by omega
      subst e
      rw [List.getD_eq_getElem?_getD, List.getD_eq_getElem?_getD, List.getElem?_append_right (by omega), hl]
      rw [show j * p.length + r - j * p.length = r by omega]
theorem rep_in {p : List Int} (h : ∀ i, In64 (p.getD i 0)) (k : Nat) : ∀ i, In64 ((rep p k).getD i 0) := by
  induction k with
  | zero =>
    intro i
    simp [rep]
    exact ⟨by decide, by decide⟩
  | succ k ih =>
    intro i
    show In64 ((rep p k ++ p).getD i 0)
    by_cases hi : i < (rep p k).length
    · have := ih i
      rw [List.getD_eq_getElem?_getD] at this ⊢
      rw [List.getElem?_append_left hi]
      exact this
    · have := h (i - (rep p k).length)
      rw [List.getD_eq_getElem?_getD] at this ⊢
      rw [List.getElem?_append_right (by omega)]
      exact this
theorem mul_facts {P T : Nat} (h1 : 1 ≤ P) (h2 : P ≤ 100) (h3 : 2 ≤ T) (h4 : T ≤ 10) : T * P = (T - 1) * P + P ∧ (T - 1) * P = (T - 2) * P + P ∧ P ≤ (T - 1) * P ∧ T * P ≤ 1000 := by
  obtain ⟨t, rfl⟩ : ∃ t, T = t + 2 := ⟨T - 2, by omega⟩
  have e : (t + 2 - 1) * P = (t + 2 - 2) * P + P := by
    rw [show t + 2 - 1 = (t + 2 - 2) + 1 by omega, Nat.succ_mul]
  refine ⟨?_, e, by omega, Nat.mul_le_mul (show t + 2 ≤ 10 by omega) h2⟩
  rw [show t + 2 = (t + 2 - 1) + 1 by omega, Nat.succ_mul]
  simp
theorem rep_may {P T : Nat} (h1 : 1 ≤ P) (h2 : P ≤ 100) (h3 : 2 ≤ T) (h4 : T ≤ 10) : MayB (T * P) (P : Int) := by
  have := mul_facts h1 h2 h3 h4
  exact ⟨by omega, by omega, by omega⟩
theorem rep_castE {P T : Nat} {d : Int} (h1 : 1 ≤ P) (h2 : P ≤ 100) (h3 : 2 ≤ T) (h4 : T ≤ 10) (h5 : 1 ≤ d) (h6 : d ≤ 1000) : castE (T * P) (P : Int) d = 0 := castE_ok (rep_may h1 h2 h3 h4) h5 (by omega)
theorem rep_missE {P T : Nat} (h1 : 1 ≤ P) (h2 : P ≤ 100) (h3 : 2 ≤ T) (h4 : T ≤ 10) : missE (T * P) (P : Int) (P : Int) = 0 := by
  have := mul_facts h1 h2 h3 h4
  exact if_pos ⟨rep_may h1 h2 h3 h4, by omega, by omega⟩
theorem rep_castV {p : List Int} {T : Nat} {d : Int} (h1 : 1 ≤ p.length) (h2 : p.length ≤ 100) (h3 : 2 ≤ T) (h4 : T ≤ 10) (h5 : 1 ≤ d) (h6 : d ≤ 1000) : castV (rep p T) (p.length : Int) d = p.getD ((d - 1) % (p.length : Int)).toNat 0 := by
  have hm := rep_may h1 h2 h3 h4
  have hf := mul_facts h1 h2 h3 h4
  rw [castV_ok (rep_len p T) hm h5 (by omega)]
  have e := ago_eq (a := d) hm
  have e3 := Int.emod_lt_of_pos (d - 1) (show 0 < (p.length : Int) by omega)
  have e4 := Int.emod_nonneg (d - 1) (show (p.length : Int) ≠ 0 by omega)
  generalize (d - 1) % (p.length : Int) = R at *
  have hi : agoN (T * p.length) (p.length : Int) d = (T - 1) * p.length + R.toNat := by omega
  rw [hi, rep_get p T (T - 1) R.toNat (by omega) (by omega)]
theorem rep_sum {p : List Int} {T : Nat} (h1 : 1 ≤ p.length) (h2 : p.length ≤ 100) (h3 : 2 ≤ T) (h4 : T ≤ 10) : ∀ k, k ≤ p.length → sumD (rep p T) p.length ((T - 1) * p.length) k = 0 := by
  have hf := mul_facts h1 h2 h3 h4
  intro k
  induction k with
  | zero => intro _; rfl
  | succ k ih =>
    intro hk
    show addC (sumD (rep p T) p.length ((T - 1) * p.length) k) (distC _ _) = 0
    rw [ih (by omega), rep_get p T (T - 1) k (by omega) (by omega)]
    have e : (T - 1) * p.length + k - p.length = (T - 2) * p.length + k := by omega
    rw [e, rep_get p T (T - 2) k (by omega) (by omega), dist_self]
    rfl
theorem rep_missV {p : List Int} {T : Nat} (h1 : 1 ≤ p.length) (h2 : p.length ≤ 100) (h3 : 2 ≤ T) (h4 : T ≤ 10) : missV (rep p T) (p.length : Int) (p.length : Int) = 0 := by
  have hf := mul_facts h1 h2 h3 h4
  have hl := rep_len p T
  unfold missV
  rw [if_pos (by rw [hl]; exact ⟨rep_may h1 h2 h3 h4, by omega, by omega⟩)]
  rw [hl, Int.toNat_natCast, show T * p.length - p.length = (T - 1) * p.length by omega]
  exact rep_sum h1 h2 h3 h4 _ (Nat.le_refl _)
theorem Try.infoI22 : (Try.prog.info? 3).map (fun i => (i.zero, i.size, i.bytes)) = some (some (.int .i64 0), 1, 8) := by kernel_rfl
theorem ints_one (bs : List Int) : ∀ u ∈ bs.map (Value.int .i64), u.oneCell' = true := by
  intro u hu
  obtain ⟨x, _, rfl⟩ := List.mem_map.1 hu
  rfl
/-- A row of points that the law made. -/
def RowI (W : World) (B : Nat) (v : Value) (l : List Int) : Prop := W.ownsRow B 3 1 v l.length (l.map (Value.int .i64))
theorem RowI.slice {W : World} {B : Nat} {v : Value} {l : List Int} (h : RowI W B v l) : ∃ a c, v = .slice a l.length c ∧ l.length ≤ c := by
  rcases h.2 with ⟨rfl, h0⟩ | ⟨g, cap, cur, rfl, _, _, hcap, _⟩
  · exact ⟨none, 0, by rw [h0], by omega⟩
  · exact ⟨_, cap, rfl, by omega⟩
theorem row_more {W : World} {B : Nat} {v xv : Value} {l p : List Int} (h : RowI W B v l) (hs : PtSrc W xv p) (hl : l.length + p.length ≤ 1000000) (hB : B ≤ W.heap.size) :
    ∃ v' w', Hid ((Builtin.append_ #[22, 22] 0 #[v, xv]).run Try.prog W = .ok v' w') ∧ RowI w' B v' (l ++ p) ∧ Only (fun j => v.ownBlock = some j) W w' := by
  obtain ⟨v', w', hr, h2, h3, _⟩ := append_src (P := Try.prog) Try.underlying22 Try.infoI22 rfl (by decide) h hs (ints_one p) (by rw [List.length_map]; omega) hB
  refine ⟨v', w', hid hr, ?_, (Only.refl _ W).grown h3 (fun k hk _ => hk)⟩
  unfold RowI
  rw [List.length_append, List.map_append]
  rw [List.length_map] at h2
  exact h2
end Go.Proofs.Ytkhbkjnjhojnbaa.Se
