/-
  Package season: what Cast and Miss tell, as plain numbers.
-/
import Derived.Test.YtkhbkjnjhojnbaaBase
namespace Go.Proofs.Ytkhbkjnjhojnbaa.Se
open Go Go.RowKit Go.Proofs.Lys
set_option linter.unusedVariables false
set_option linter.unusedSimpArgs false

def In64 (n : Int) : Prop := -9223372036854775808 ≤ n ∧ n ≤ 9223372036854775807
def addC (a b : Int) : Int := if 9223372036854775807 < a + b then 9223372036854775807 else if a + b < -9223372036854775808 then -9223372036854775808 else a + b
def subC (a b : Int) : Int := if 9223372036854775807 < a - b then 9223372036854775807 else if a - b < -9223372036854775808 then -9223372036854775808 else a - b
/-- How far two numbers are apart. -/
def distC (a b : Int) : Int := subC (max a b) (min a b)
theorem addC_in (a b : Int) : In64 (addC a b) := by
  unfold addC In64
  (repeat' split) <;> omega
theorem subC_in (a b : Int) : In64 (subC a b) := by
  unfold subC In64
  (repeat' split) <;> omega
theorem distC_in (a b : Int) : In64 (distC a b) := subC_in _ _
theorem dist_lt {a b : Int} (h : a < b) : distC a b = subC b a := by
  unfold distC
  rw [show max a b = b by omega, show min a b = a by omega]
theorem dist_ge {a b : Int} (h : ¬ a < b) : distC a b = subC a b := by
  unfold distC
  rw [show max a b = a by omega, show min a b = b by omega]
theorem dist_self (a : Int) : distC a a = 0 := by
  unfold distC subC
  rw [show max a a - min a a = 0 by omega]
  rfl
/-- The season and the points fit. -/
abbrev MayB (L : Nat) (s : Int) : Prop := 1 ≤ s ∧ s ≤ 10000 ∧ s ≤ (L : Int)
/-- Where the point lies that Cast tells. -/
def agoN (L : Nat) (s a : Int) : Nat := ((L : Int) - s + (a - 1) % s).toNat
theorem ago_lt {L : Nat} {s a : Int} (h : MayB L s) : agoN L s a < L := by
  have h1 := Int.emod_lt_of_pos (a - 1) (show 0 < s by have := h.1; omega)
  have h2 := Int.emod_nonneg (a - 1) (show s ≠ 0 by have := h.1; omega)
  have h3 := h.2.2
  unfold agoN
  omega
theorem ago_eq {L : Nat} {s a : Int} (h : MayB L s) : ((agoN L s a : Nat) : Int) = (L : Int) - s + (a - 1) % s := by
  have h2 := Int.emod_nonneg (a - 1) (show s ≠ 0 by have := h.1; omega)
  have h3 := h.2.2
  unfold agoN
  omega
theorem ago_one {L : Nat} {s : Int} (h : MayB L s) : agoN L s 1 = L - s.toNat := by
  have h1 := h.1
  have h3 := h.2.2
  unfold agoN
  simp
  omega
/-- What Cast tells. -/
def castE (L : Nat) (s a : Int) : Int := if MayB L s ∧ 1 ≤ a ∧ a ≤ 10000 then 0 else 1
def castV (l : List Int) (s a : Int) : Int := if MayB l.length s ∧ 1 ≤ a ∧ a ≤ 10000 then l.getD (agoN l.length s a) 0 else 0
/-- What Miss tells. -/
def sumD (l : List Int) (s lo : Nat) : Nat → Int
  | 0 => 0
  | k + 1 => addC (sumD l s lo k) (distC (l.getD (lo + k) 0) (l.getD (lo + k - s) 0))
theorem sumD_in (l : List Int) (s lo k : Nat) : In64 (sumD l s lo k) := by
  cases k with
  | zero =>
    show In64 0
    exact ⟨by decide, by decide⟩
  | succ k => exact addC_in _ _
def missE (L : Nat) (s n : Int) : Int := if MayB L s ∧ 1 ≤ n ∧ n ≤ (L : Int) - s then 0 else 1
def missV (l : List Int) (s n : Int) : Int := if MayB l.length s ∧ 1 ≤ n ∧ n ≤ (l.length : Int) - s then sumD l s.toNat (l.length - n.toNat) n.toNat else 0
theorem castE_01 (L : Nat) (s a : Int) : In64 (castE L s a) := by
  unfold castE In64
  split <;> omega
theorem missE_01 (L : Nat) (s a : Int) : In64 (missE L s a) := by
  unfold missE In64
  split <;> omega
end Go.Proofs.Ytkhbkjnjhojnbaa.Se
