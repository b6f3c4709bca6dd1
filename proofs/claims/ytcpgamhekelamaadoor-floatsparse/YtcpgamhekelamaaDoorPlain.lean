/-
  Plain arithmetic of fixed-point numbers: what chapter 1 tells of sums, products, quotients, and the sizes by which the program reckons them.
-/
import Derived.Laws.Bits64b
import Derived.Laws.BitsAllLaws
import Derived.Lib.Mul64
import Derived.RowKit
import Derived.PlainAid
namespace Go.Proofs.YtcpgamhekelamaaDoor

def cutZ (x : Int) : Int := if 9223372036854775807 < x then 9223372036854775807 else if x < -9223372036854775808 then -9223372036854775808 else x
def addZ (a b : Int) : Int := cutZ (a + b)
def subZ (a b : Int) : Int := cutZ (a - b)
def negZ (a : Int) : Int := cutZ (-a)
def ofZ (n : Int) : Int := cutZ (n * 4294967296)
def floorZ (x : Int) : Int := x / 4294967296
def ceilZ (x : Int) : Int := -((-x) / 4294967296)
def clampZ (x low high : Int) : Int := if x < low then low else if high < x then high else x
def mulZ (a b : Int) : Int := cutZ (a * b / 4294967296)
def signZ (a : Int) : Int := if 0 < a then 9223372036854775807 else if a < 0 then -9223372036854775808 else 0
def fq (n d : Int) : Int := if 0 < d then n / d else (-n) / (-d)
def divZ (a b : Int) : Int := if b = 0 then signZ a else cutZ (fq (a * 4294967296) b)
def cdivZ (a b : Int) : Int := if b = 0 then signZ a else cutZ (-(fq (-(a * 4294967296)) b))
def absZ (a : Int) : Int := (a.natAbs : Int)
def oppB (a b : Int) : Bool := decide (a < 0) != decide (b < 0)
def scut (neg : Bool) (x : Int) : Int := cutZ (if neg then -x else x)
def rndZ (up neg : Bool) (whole rest : Int) : Int := scut neg (if rest ≠ 0 ∧ neg ≠ up ∧ whole < 9223372036854775808 then whole + 1 else whole)
def hi64 (x y : Int) : Int := x * y / 18446744073709551616
def lo64 (x y : Int) : Int := x * y % 18446744073709551616

theorem cut_bd (x : Int) : -9223372036854775808 ≤ cutZ x ∧ cutZ x ≤ 9223372036854775807 := by unfold cutZ; split <;> (try split) <;> omega
theorem add_bd (a b : Int) : -9223372036854775808 ≤ addZ a b ∧ addZ a b ≤ 9223372036854775807 := cut_bd _
theorem sub_bd (a b : Int) : -9223372036854775808 ≤ subZ a b ∧ subZ a b ≤ 9223372036854775807 := cut_bd _
theorem neg_bd (a : Int) : -9223372036854775808 ≤ negZ a ∧ negZ a ≤ 9223372036854775807 := cut_bd _
theorem mul_bd (a b : Int) : -9223372036854775808 ≤ mulZ a b ∧ mulZ a b ≤ 9223372036854775807 := cut_bd _
theorem of_bd (a : Int) : -9223372036854775808 ≤ ofZ a ∧ ofZ a ≤ 9223372036854775807 := cut_bd _
theorem sign_bd (a : Int) : -9223372036854775808 ≤ signZ a ∧ signZ a ≤ 9223372036854775807 := by unfold signZ; split <;> (try split) <;> omega
theorem div_bd (a b : Int) : -9223372036854775808 ≤ divZ a b ∧ divZ a b ≤ 9223372036854775807 := by unfold divZ; split; exact sign_bd a; exact cut_bd _
theorem cdiv_bd (a b : Int) : -9223372036854775808 ≤ cdivZ a b ∧ cdivZ a b ≤ 9223372036854775807 := by unfold cdivZ; split; exact sign_bd a; exact cut_bd _
theorem cut_mono {x y : Int} (h : x ≤ y) : cutZ x ≤ cutZ y := by unfold cutZ; repeat' split <;> omega
theorem cut_in {x : Int} (h0 : -9223372036854775808 ≤ x) (h1 : x ≤ 9223372036854775807) : cutZ x = x := by unfold cutZ; rw [if_neg (by omega), if_neg (by omega)]
theorem cut_hi {x : Int} (h1 : 9223372036854775807 ≤ x) : cutZ x = 9223372036854775807 := by unfold cutZ; split; rfl; rw [if_neg (by omega)]; omega
theorem cut_lo {x : Int} (h1 : x ≤ -9223372036854775808) : cutZ x = -9223372036854775808 := by unfold cutZ; rw [if_neg (by omega)]; split; rfl; omega

theorem abs_nonneg (a : Int) : 0 ≤ absZ a := by unfold absZ; omega
theorem abs_bd {a : Int} (h0 : -9223372036854775808 ≤ a) (h1 : a ≤ 9223372036854775807) : absZ a ≤ 9223372036854775808 := by unfold absZ; omega
theorem abs_pos {a : Int} (h : 0 ≤ a) : absZ a = a := by unfold absZ; omega
theorem abs_neg {a : Int} (h : a < 0) : absZ a = -a := by unfold absZ; omega
theorem abs_mul (a b : Int) : absZ a * absZ b = if oppB a b then -(a * b) else a * b := by
  unfold oppB
  rcases Int.lt_or_le a 0 with ha | ha <;> rcases Int.lt_or_le b 0 with hb | hb <;> simp [abs_neg, abs_pos, ha, hb, Int.not_lt.mpr, Int.neg_mul, Int.mul_neg]

/- The product by two words. -/
theorem prod_bd {x y : Int} (hx : 0 ≤ x) (hx' : x ≤ 9223372036854775808) (hy : 0 ≤ y) (hy' : y ≤ 9223372036854775808) : 0 ≤ x * y ∧ x * y ≤ 85070591730234615865843651857942052864 :=
  ⟨Int.mul_nonneg hx hy, by have := Int.mul_le_mul hx' hy' hy (by decide); simpa using this⟩

theorem mul_over (a b : Int) (h : 4294967296 ≤ hi64 (absZ a) (absZ b)) : scut (oppB a b) 9223372036854775808 = mulZ a b := by
  have e := abs_mul a b
  unfold hi64 at h
  rw [e] at h
  unfold scut mulZ
  generalize oppB a b = s at *
  generalize a * b = p at *
  cases s
  · simp at h ⊢; rw [cut_hi (by omega), cut_hi (by omega)]
  · simp at h ⊢; rw [cut_lo (by omega), cut_lo (by omega)]

theorem mul_meet (a b : Int) (h : hi64 (absZ a) (absZ b) < 4294967296) :
    rndZ false (oppB a b) (hi64 (absZ a) (absZ b) * 4294967296 + lo64 (absZ a) (absZ b) / 4294967296) (lo64 (absZ a) (absZ b) % 4294967296) = mulZ a b := by
  have e := abs_mul a b
  have n : 0 ≤ absZ a * absZ b := Int.mul_nonneg (abs_nonneg _) (abs_nonneg _)
  unfold hi64 at h
  unfold hi64 lo64
  rw [e] at h n
  rw [e]
  clear e
  unfold rndZ scut mulZ
  generalize oppB a b = s at *
  generalize a * b = p at *
  cases s
  · simp only [Bool.false_eq_true, if_false] at *
    congr 1
    simp
    omega
  · simp only [if_true, Bool.true_eq_false, ne_eq, not_false_eq_true, true_and] at *
    by_cases hr : (-p) % 18446744073709551616 % 4294967296 = 0
    · rw [if_neg (by omega)]; congr 1; omega
    · by_cases hw : (-p) / 18446744073709551616 * 4294967296 + (-p) % 18446744073709551616 / 4294967296 < 9223372036854775808
      · rw [if_pos ⟨hr, hw⟩]; congr 1; omega
      · rw [if_neg (by omega), cut_lo (by omega), cut_lo (by omega)]
end Go.Proofs.YtcpgamhekelamaaDoor
