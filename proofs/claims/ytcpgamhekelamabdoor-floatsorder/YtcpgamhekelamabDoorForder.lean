/-
  The order of floats and of their fixed-point numbers: each finite float is a whole number of least steps, and its fixed-point number is that, rounded down and cut.
-/
import Derived.Test.YtcpgamhekelamabDoorFalive
namespace Go.Proofs.YtcpgamhekelamabDoor
open Go.RowKit
set_option linter.unusedVariables false

def sgn (s : Bool) (m : Int) : Int := if s then -m else m
def VF (x : Int) : Int := sgn (negF x) (manF x) * 2 ^ (upF x + 1042).toNat
def big : Int := 2 ^ 1042
theorem big_pos : 0 < big := Int.pow_pos (by decide)

theorem sgn_mul (s : Bool) (m k : Int) : sgn s m * k = sgn s (m * k) := by cases s <;> simp [sgn, Int.neg_mul]
theorem ediv_neg (m p : Int) (hp : 0 < p) : -m / p = if m % p = 0 then -(m / p) else -(m / p) - 1 := by
  have h := Int.mul_ediv_add_emod m p
  have r0 := Int.emod_nonneg m (Int.ne_of_gt hp)
  have r1 := Int.emod_lt_of_pos m hp
  split
  · rename_i hz
    exact ((Int.ediv_emod_unique hp (a := -m) (q := -(m / p)) (r := 0)).mpr ⟨by rw [hz] at h; grind, Int.le_refl _, hp⟩).1
  · rename_i hz
    exact ((Int.ediv_emod_unique hp (a := -m) (q := -(m / p) - 1) (r := p - m % p)).mpr ⟨by grind, by omega, by omega⟩).1
theorem pow_big (m : Nat) : (2 : Int) ^ (m + 1042) = 2 ^ m * big := Int.pow_add ..
theorem pow_mono (a b : Nat) (h : a ≤ b) : (2 : Int) ^ a ≤ 2 ^ b := by
  have : (2 : Nat) ^ a ≤ 2 ^ b := Nat.pow_le_pow_right (by decide) h
  have h2 : ((2 ^ a : Nat) : Int) ≤ ((2 ^ b : Nat) : Int) := by omega
  simpa using h2

theorem of_val (x : Int) (h : expF x ≠ 2047) : ofF x = cutZ (VF x / big) := by
  obtain ⟨m0, m1⟩ := man_bd x
  obtain ⟨u0, u1⟩ := up_bd x
  have hm : 11 ≤ upF x → 4503599627370496 ≤ manF x := by
    intro hu
    unfold upF at hu
    unfold manF
    split
    · rename_i hz; rw [if_pos hz] at hu; omega
    · omega
  unfold ofF VF
  generalize upF x = u at *
  generalize manF x = m at *
  generalize negF x = s at *
  by_cases h2 : 0 ≤ u
  · have e : (u + 1042).toNat = u.toNat + 1042 := by omega
    rw [e, pow_big, ← Int.mul_assoc, Int.mul_ediv_cancel _ (Int.ne_of_gt big_pos), sgn_mul]
    have p0 : (0 : Int) < 2 ^ u.toNat := Int.pow_pos (by decide)
    by_cases h1 : 11 ≤ u
    · rw [if_pos h1]
      have p1 : (2 : Int) ^ 11 ≤ 2 ^ u.toNat := pow_mono 11 u.toNat (by omega)
      have l : 4503599627370496 * 2 ^ 11 ≤ m * 2 ^ u.toNat := Int.mul_le_mul (hm h1) p1 (by decide) m0
      generalize m * 2 ^ u.toNat = z at *
      unfold endZ sgn
      cases s
      · simp; rw [cut_hi (by omega)]
      · simp; rw [cut_lo (by omega)]
    · rw [if_neg h1, if_pos h2]
      have p1 : (2 : Int) ^ u.toNat ≤ 2 ^ 10 := pow_mono u.toNat 10 (by omega)
      have l0 : 0 ≤ m * 2 ^ u.toNat := Int.mul_nonneg m0 (Int.le_of_lt p0)
      have l1 : m * 2 ^ u.toNat ≤ 9007199254740991 * 2 ^ 10 := Int.mul_le_mul m1 p1 (Int.le_of_lt p0) (by decide)
      generalize m * 2 ^ u.toNat = z at *
      unfold downZ sgn
      cases s
      · simp; rw [cut_in (by omega) (by omega)]
      · simp; rw [cut_in (by omega) (by omega)]
  · rw [if_neg (by omega), if_neg h2]
    have e : big = 2 ^ (-u).toNat * 2 ^ (u + 1042).toNat := by
      unfold big
      rw [← Int.pow_add]
      congr 1
      omega
    have p0 : (0 : Int) < 2 ^ (u + 1042).toNat := Int.pow_pos (by decide)
    have p1 : (0 : Int) < 2 ^ (-u).toNat := Int.pow_pos (by decide)
    rw [e, Int.mul_ediv_mul_of_pos_left _ _ p0]
    generalize (2 : Int) ^ (-u).toNat = p at *
    have q0 : 0 ≤ m / p := Int.ediv_nonneg m0 (Int.le_of_lt p1)
    have q1 : m / p ≤ m := Int.ediv_le_self _ m0
    unfold downZ sgn
    cases s
    · simp only [Bool.false_eq_true, if_false]; rw [cut_in (by omega) (by omega)]
    · simp only [if_true]
      rw [ediv_neg m p p1]
      by_cases hz : m % p = 0
      · rw [if_pos hz, cut_in (by omega) (by omega)]; simp [hz]
      · rw [if_neg hz, cut_in (by omega) (by omega)]; simp [hz]

theorem of_inf (x : Int) (h : expF x = 2047) : ofF x = endZ (negF x) := by
  unfold ofF upF
  rw [h]
  simp
theorem of_range (x : Int) : -9223372036854775808 ≤ ofF x ∧ ofF x ≤ 9223372036854775807 := by
  by_cases h : expF x = 2047
  · rw [of_inf x h]; unfold endZ; split <;> omega
  · rw [of_val x h]; exact cut_bd _

theorem read_fin (n : Nat) (h : n < 18446744073709551616) (he : expF n ≠ 2047) : FloatKind.f64.format.read n = .number (negF n) (manF n).toNat (upF n - 32) := by
  have e1 : FloatKind.f64.format.signWeight = 9223372036854775808 := by decide
  have e2 : FloatKind.f64.format.binade = 4503599627370496 := by decide
  have e3 : FloatKind.f64.format.infRung = 9218868437227405312 := by decide
  have e4 : FloatKind.f64.format.leastPlace = -1074 := by decide
  have hs : (n / 9223372036854775808 % 2 == 1) = negF n := by
    unfold negF
    by_cases hc : 9223372036854775808 ≤ n
    · have : (9223372036854775808 : Int) ≤ n := by omega
      simp [this]; omega
    · have : ¬ (9223372036854775808 : Int) ≤ n := by omega
      simp [this]; omega
  unfold Ieee.Format.read
  simp only [e1, e2, e3, e4, hs]
  unfold manF upF
  have hx : expF (n : Int) = ((n % 9223372036854775808 / 4503599627370496 : Nat) : Int) := by unfold expF; omega
  by_cases c1 : n % 9223372036854775808 < 4503599627370496
  · have z : expF (n : Int) = 0 := by omega
    rw [if_pos c1, z]
    simp
    omega
  · rw [if_neg c1]
    have z : expF (n : Int) ≠ 0 := by omega
    rw [if_pos (by omega), if_neg z, if_neg z, hx]
    congr 1
    · omega
    · omega
theorem read_inf (n : Nat) (h : n < 18446744073709551616) (he : expF n = 2047) (hn : nanF n = false) : FloatKind.f64.format.read n = .infinity (negF n) := by
  have e1 : FloatKind.f64.format.signWeight = 9223372036854775808 := by decide
  have e2 : FloatKind.f64.format.binade = 4503599627370496 := by decide
  have e3 : FloatKind.f64.format.infRung = 9218868437227405312 := by decide
  have hs : (n / 9223372036854775808 % 2 == 1) = negF n := by
    unfold negF
    by_cases hc : 9223372036854775808 ≤ n
    · have : (9223372036854775808 : Int) ≤ n := by omega
      simp [this]; omega
    · have : ¬ (9223372036854775808 : Int) ≤ n := by omega
      simp [this]; omega
  unfold nanF at hn
  unfold expF at he
  simp at hn
  unfold Ieee.Format.read
  simp only [e1, e2, e3, hs]
  rw [if_neg (by omega), if_neg (by omega), if_pos (by omega)]

theorem cmp_mul (a b c : Int) (hc : 0 < c) : compare (a * c) (b * c) = compare a b := by
  rcases Int.lt_trichotomy a b with h | h | h
  · have h' : a * c < b * c := Int.mul_lt_mul_of_pos_right h hc
    rw [Int.compare_eq_lt.mpr h, Int.compare_eq_lt.mpr h']
  · subst h; rw [Int.compare_eq_eq.mpr rfl, Int.compare_eq_eq.mpr rfl]
  · have h' : b * c < a * c := Int.mul_lt_mul_of_pos_right h hc
    rw [Int.compare_eq_gt.mpr h, Int.compare_eq_gt.mpr h']
theorem signed_eq (s : Bool) (m : Int) (k : Nat) (h0 : 0 ≤ m) : Ieee.signed s m.toNat k = sgn s (m * 2 ^ k) := by
  have e : ((m.toNat <<< k : Nat) : Int) = m * 2 ^ k := by
    rw [Nat.shiftLeft_eq, Int.natCast_mul, Int.natCast_pow, Int.toNat_of_nonneg h0]; rfl
  unfold Ieee.signed sgn
  rw [e]
theorem order_fin (a b : Nat) (ha : a < 18446744073709551616) (hb : b < 18446744073709551616) (ea : expF a ≠ 2047) (eb : expF b ≠ 2047) : FloatKind.f64.format.order a b = some (compare (VF a) (VF b)) := by
  unfold Ieee.Format.order
  rw [read_fin a ha ea, read_fin b hb eb]
  show some (compare (Ieee.signed (negF a) (manF a).toNat (upF a - 32 - min (upF a - 32) (upF b - 32)).toNat) (Ieee.signed (negF b) (manF b).toNat (upF b - 32 - min (upF a - 32) (upF b - 32)).toNat)) = _
  obtain ⟨m0, m1⟩ := man_bd (a : Int)
  obtain ⟨n0, n1⟩ := man_bd (b : Int)
  obtain ⟨u0, u1⟩ := up_bd (a : Int)
  obtain ⟨v0, v1⟩ := up_bd (b : Int)
  rw [signed_eq _ _ _ m0, signed_eq _ _ _ n0]
  unfold VF
  generalize upF a = u at *
  generalize upF b = v at *
  generalize manF a = m at *
  generalize manF b = n at *
  obtain ⟨w, hw⟩ : ∃ w, w = min (u - 32) (v - 32) := ⟨_, rfl⟩
  rw [← hw, show (u + 1042).toNat = (u - 32 - w).toNat + (w + 1074).toNat by omega, show (v + 1042).toNat = (v - 32 - w).toNat + (w + 1074).toNat by omega, Int.pow_add, Int.pow_add, ← Int.mul_assoc, ← Int.mul_assoc, cmp_mul _ _ _ (Int.pow_pos (by decide)), sgn_mul, sgn_mul]

theorem order_le (a b : Nat) (ha : a < 18446744073709551616) (hb : b < 18446744073709551616) (na : nanF a = false) (nb : nanF b = false) :
    ((FloatKind.f64.format.order a b == some .lt || FloatKind.f64.format.order a b == some .eq) = true → ofF a ≤ ofF b) ∧ ((FloatKind.f64.format.order a b == some .eq) = true → ofF a = ofF b) := by
  have ra := of_range (a : Int)
  have rb := of_range (b : Int)
  by_cases ea : expF a = 2047 <;> by_cases eb : expF b = 2047
  · rw [of_inf _ ea, of_inf _ eb]
    unfold Ieee.Format.order
    rw [read_inf a ha ea na, read_inf b hb eb nb]
    cases negF a <;> cases negF b <;> decide
  · rw [of_inf _ ea] at *
    unfold Ieee.Format.order
    rw [read_inf a ha ea na, read_fin b hb eb]
    cases negF a
    · constructor <;> (intro h; exact absurd h (by simp [Ieee.Datum.order]))
    · constructor
      · intro _; exact rb.1
      · intro h; exact absurd h (by simp [Ieee.Datum.order])
  · rw [of_inf _ eb] at *
    unfold Ieee.Format.order
    rw [read_inf b hb eb nb, read_fin a ha ea]
    cases negF b
    · constructor
      · intro _; exact ra.2
      · intro h; exact absurd h (by simp [Ieee.Datum.order])
    · constructor <;> (intro h; exact absurd h (by simp [Ieee.Datum.order]))
  · rw [order_fin a b ha hb ea eb, of_val _ ea, of_val _ eb]
    rcases Int.lt_trichotomy (VF a) (VF b) with h | h | h
    · rw [Int.compare_eq_lt.mpr h]
      exact ⟨fun _ => cut_mono (Int.ediv_le_ediv big_pos (Int.le_of_lt h)), fun k => absurd k (by decide)⟩
    · rw [h]
      exact ⟨fun _ => Int.le_refl _, fun _ => rfl⟩
    · rw [Int.compare_eq_gt.mpr h]
      exact ⟨fun k => absurd k (by decide), fun k => absurd k (by decide)⟩

theorem xor_top (n : Nat) (h : n < 18446744073709551616) : n ^^^ 9223372036854775808 = if n < 9223372036854775808 then n + 9223372036854775808 else n - 9223372036854775808 := by
  have m := Nat.xor_mod_two_pow (a := n) (b := 9223372036854775808) (n := 63)
  have d := Nat.xor_div_two_pow (a := n) (b := 9223372036854775808) (n := 63)
  have b := Nat.xor_lt_two_pow (x := n) (y := 9223372036854775808) (n := 64) (by omega) (by decide)
  simp only [show 9223372036854775808 % 2 ^ 63 = 0 from rfl, Nat.xor_zero, show 9223372036854775808 / 2 ^ 63 = 1 from rfl] at m d
  generalize n ^^^ 9223372036854775808 = z at *
  by_cases c : n < 9223372036854775808
  · rw [if_pos c]
    have : n / 2 ^ 63 = 0 := by omega
    rw [this] at d
    have : z / 2 ^ 63 = 1 := d
    omega
  · rw [if_neg c]
    have : n / 2 ^ 63 = 1 := by omega
    rw [this] at d
    have : z / 2 ^ 63 = 0 := d
    omega
theorem neg_word (n : Nat) (h : n < 18446744073709551616) : ∃ z : Nat, Op.negFloat .f64 n = z ∧ z < 18446744073709551616 ∧ nanF z = nanF n ∧ expF z = expF n ∧ (expF n ≠ 2047 → VF z = -VF n) := by
  have e : Op.negFloat .f64 n = n ^^^ 9223372036854775808 := rfl
  refine ⟨_, rfl, ?_⟩
  rw [e, xor_top n h]
  by_cases c : n < 9223372036854775808
  · rw [if_pos c]
    have x : expF ((n + 9223372036854775808 : Nat) : Int) = expF n := by unfold expF; omega
    refine ⟨by omega, by unfold nanF; rw [decide_eq_decide]; omega, x, fun _ => ?_⟩
    have y1 : negF ((n + 9223372036854775808 : Nat) : Int) = true := by unfold negF; simp; omega
    have y2 : negF (n : Int) = false := by unfold negF; simp; omega
    have y3 : manF ((n + 9223372036854775808 : Nat) : Int) = manF n := by unfold manF; rw [x]; split <;> omega
    have y4 : upF ((n + 9223372036854775808 : Nat) : Int) = upF n := by unfold upF; rw [x]
    unfold VF
    rw [y1, y2, y3, y4]
    simp [sgn, Int.neg_mul]
  · rw [if_neg c]
    have x : expF ((n - 9223372036854775808 : Nat) : Int) = expF n := by unfold expF; omega
    refine ⟨by omega, by unfold nanF; rw [decide_eq_decide]; omega, x, fun _ => ?_⟩
    have y1 : negF ((n - 9223372036854775808 : Nat) : Int) = false := by unfold negF; simp; omega
    have y2 : negF (n : Int) = true := by unfold negF; simp; omega
    have y3 : manF ((n - 9223372036854775808 : Nat) : Int) = manF n := by unfold manF; rw [x]; split <;> omega
    have y4 : upF ((n - 9223372036854775808 : Nat) : Int) = upF n := by unfold upF; rw [x]
    unfold VF
    rw [y1, y2, y3, y4]
    simp [sgn, Int.neg_mul]

theorem opp_of (a z : Int) (ea : expF a = expF z) (hv : expF a ≠ 2047 → VF z = -VF a) : ofF a = 9223372036854775807 ∨ ofF a = -9223372036854775808 ∨ ofF z = 9223372036854775807 ∨ ofF z = -9223372036854775808 ∨ ofF z = -ofF a ∨ ofF z = -ofF a - 1 := by
  by_cases h : expF a = 2047
  · rw [of_inf a h]
    unfold endZ
    split
    · right; left; rfl
    · left; rfl
  · rw [of_val a h, of_val z (by rw [← ea]; exact h), hv h, ediv_neg _ _ big_pos]
    generalize VF a / big = q
    unfold cutZ
    split <;> (repeat' split) <;> omega
end Go.Proofs.YtcpgamhekelamabDoor
