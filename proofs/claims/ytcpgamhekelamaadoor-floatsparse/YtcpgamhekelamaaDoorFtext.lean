/-
  Plain functions on texts: the digits of a decimal number, its value, its fraction by 2^32, its parts before and behind the point.
-/
import Derived.Test.YtcpgamhekelamaaDoorFbits
namespace Go.Proofs.YtcpgamhekelamaaDoor
open Go.RowKit
set_option linter.unusedVariables false

def digV (c : UInt8) : Int := (c.toNat : Int) - 48
def isDig (c : UInt8) : Bool := decide (48 ≤ c.toNat) && decide (c.toNat ≤ 57)
def allDig (l : List UInt8) : Bool := l.all isDig
def decOk (l : List UInt8) : Bool := allDig l && decide (1 ≤ l.length) && decide (l.length ≤ 30)
def numL (l : List UInt8) : Int := l.foldl (fun a c => a * 10 + digV c) 0
def partL (l : List UInt8) : Int := numL l * 4294967296 / 10 ^ l.length
def leftL (l : List UInt8) : Bool := numL l * 4294967296 % 10 ^ l.length != 0
def readZ (neg : Bool) (before behind : List UInt8) : Int := if 2147483648 ≤ numL before then endZ neg else downZ neg (numL before * 4294967296 + partL behind) (leftL behind)
def headL (l : List UInt8) : List UInt8 := l.takeWhile (· != 46)
def tailL (l : List UInt8) : List UInt8 := (l.dropWhile (· != 46)).drop 1
def pointL (l : List UInt8) : Bool := l.contains 46
def negL (l : List UInt8) : Bool := l.head? == some 45
def sizeL (l : List UInt8) : List UInt8 := if l.head? = some 45 ∨ l.head? = some 43 then l.drop 1 else l
def textOk (l : List UInt8) : Bool := decOk (headL l) && (!pointL l || decOk (tailL l))
def parseN (l : List UInt8) : Int :=
  if l = [110, 97, 110] then 0 else if sizeL l = [105, 110, 102] then endZ (negL l)
  else if textOk (sizeL l) = true then readZ (negL l) (headL (sizeL l)) (tailL (sizeL l)) else 0
def parseE (l : List UInt8) : Int :=
  if l = [110, 97, 110] then 3 else if sizeL l = [105, 110, 102] then 0
  else if textOk (sizeL l) = true then 0 else 4

theorem dig_bd {c : UInt8} (h : isDig c = true) : 0 ≤ digV c ∧ digV c ≤ 9 := by
  unfold isDig at h
  unfold digV
  simp at h
  omega
theorem ten_pos (n : Nat) : (0 : Int) < 10 ^ n := Int.pow_pos (by decide)
theorem numL_from (l : List UInt8) (a : Int) : l.foldl (fun a c => a * 10 + digV c) a = a * 10 ^ l.length + numL l := by
  induction l generalizing a with
  | nil => simp [numL]
  | cons c l ih =>
    unfold numL
    rw [List.foldl_cons, List.foldl_cons, ih, ih, List.length_cons, Int.pow_succ]
    grind
theorem numL_cons (c : UInt8) (l : List UInt8) : numL (c :: l) = digV c * 10 ^ l.length + numL l := by
  rw [← numL_from l (digV c)]
  unfold numL
  rw [List.foldl_cons]
  simp
theorem numL_append (k l : List UInt8) : numL (k ++ l) = numL k * 10 ^ l.length + numL l := by
  rw [← numL_from l (numL k)]
  unfold numL
  rw [List.foldl_append]
theorem numL_more (l : List UInt8) (c : UInt8) : numL (l ++ [c]) = numL l * 10 + digV c := by rw [numL_append]; simp [numL]
theorem numL_bd {l : List UInt8} (h : allDig l = true) : 0 ≤ numL l ∧ numL l < 10 ^ l.length := by
  induction l with
  | nil => simp [numL]
  | cons c l ih =>
    unfold allDig at h
    rw [List.all_cons, Bool.and_eq_true] at h
    obtain ⟨i1, i2⟩ := ih h.2
    obtain ⟨d1, d2⟩ := dig_bd h.1
    have p := ten_pos l.length
    rw [numL_cons, List.length_cons, Int.pow_succ]
    have m0 : 0 ≤ digV c * 10 ^ l.length := Int.mul_nonneg d1 (Int.le_of_lt p)
    have m1 : digV c * 10 ^ l.length ≤ 9 * 10 ^ l.length := Int.mul_le_mul_of_nonneg_right d2 (Int.le_of_lt p)
    omega
theorem part_bd {l : List UInt8} (h : allDig l = true) : 0 ≤ partL l ∧ partL l < 4294967296 := by
  obtain ⟨h0, h1⟩ := numL_bd h
  unfold partL
  have p := ten_pos l.length
  constructor
  · exact Int.ediv_nonneg (by omega) (Int.le_of_lt p)
  · exact Int.ediv_lt_of_lt_mul p (by omega)
theorem scale_step (c : UInt8) (l : List UInt8) (d : Int) (hd : digV c = d) :
    (d * 4294967296 + partL l) / 10 = partL (c :: l) ∧ (leftL l || (d * 4294967296 + partL l) % 10 != 0) = leftL (c :: l) := by
  have p := ten_pos l.length
  have e : numL (c :: l) * 4294967296 = numL l * 4294967296 + d * 4294967296 * 10 ^ l.length := by rw [numL_cons, hd]; grind
  have e2 : d * 4294967296 + partL l = numL (c :: l) * 4294967296 / 10 ^ l.length := by
    unfold partL
    rw [e, Int.add_mul_ediv_right _ _ (Int.ne_of_gt p)]
    omega
  have e3 : leftL l = (numL (c :: l) * 4294967296 % 10 ^ l.length != 0) := by
    unfold leftL
    rw [e, Int.add_mul_emod_self_right]
  rw [e2, e3]
  unfold partL leftL
  rw [List.length_cons, Int.pow_succ]
  generalize numL (c :: l) * 4294967296 = X at *
  constructor
  · rw [Int.ediv_ediv_of_nonneg (Int.le_of_lt p)]
  · have h1 := Int.mul_ediv_add_emod X (10 ^ l.length)
    have h2 := Int.mul_ediv_add_emod (X / 10 ^ l.length) 10
    have h3 := Int.mul_ediv_add_emod X (10 ^ l.length * 10)
    rw [← Int.ediv_ediv_of_nonneg (Int.le_of_lt p)] at h3
    have n1 := Int.emod_nonneg X (Int.ne_of_gt p)
    have n2 := Int.emod_nonneg (X / 10 ^ l.length) (show (10 : Int) ≠ 0 by decide)
    generalize X / 10 ^ l.length = q at *
    generalize X % 10 ^ l.length = r at *
    generalize q / 10 = q2 at *
    generalize q % 10 = r2 at *
    generalize X % (10 ^ l.length * 10) = r3 at *
    have key : r3 = 10 ^ l.length * r2 + r := by grind
    have m : 0 ≤ 10 ^ l.length * r2 := Int.mul_nonneg (Int.le_of_lt p) (by omega)
    have z : 10 ^ l.length * r2 = 0 ↔ r2 = 0 := by
      constructor
      · intro h
        rcases Int.mul_eq_zero.mp h with h | h
        · omega
        · exact h
      · intro h; rw [h]; simp
    rw [Bool.eq_iff_iff]
    simp only [Bool.or_eq_true, bne_iff_ne, ne_eq]
    rw [key]
    constructor
    · rintro (h | h) k
      · omega
      · exact h (z.mp (by omega))
    · intro h
      by_cases k : r = 0
      · right; intro k2; exact h (by rw [k, z.mpr k2]; rfl)
      · left; exact k
end Go.Proofs.YtcpgamhekelamaaDoor
