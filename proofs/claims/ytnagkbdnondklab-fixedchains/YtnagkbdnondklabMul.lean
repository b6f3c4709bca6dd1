/-
  What math/bits.Mul64 and fixed.Mul return, for all numbers: the product of two words, and the product of two fixed-point numbers, rounded down and cut.
-/
import Derived.Test.YtnagkbdnondklabSmall
import Derived.Lib.Mul64
namespace Go.Proofs.Ytnagkbdnondklab
open Go.RowKit
set_option linter.unusedVariables false

theorem maskN (a : Nat) (ha : a < 18446744073709551616) : bits .and .u64 (a : Int) 4294967295 = ((a % 4294967296 : Nat) : Int) := by
  have h := bits_and_u64_nat a 4294967295 ha (by omega)
  have e : a &&& 4294967295 = a % 4294967296 := Nat.and_two_pow_sub_one_eq_mod a 32
  rw [e] at h
  exact h
theorem divN (a : Nat) : (a : Int) / 4294967296 = ((a / 4294967296 : Nat) : Int) := by omega
theorem mulN (a b : Nat) : (a : Int) * (b : Int) = ((a * b : Nat) : Int) := (Int.natCast_mul a b).symm
theorem addN (a b : Nat) : (a : Int) + (b : Int) = ((a + b : Nat) : Int) := (Int.natCast_add a b).symm
theorem wrapN (a : Nat) (ha : a < 18446744073709551616) : IntKind.u64.wrap (a : Int) = (a : Int) := by rw [IntKind.wrap_u64]; omega
theorem wrapM (a : Nat) : IntKind.u64.wrap (a : Int) = ((a % 18446744073709551616 : Nat) : Int) := by rw [IntKind.wrap_u64]; omega
theorem mask_u64 (x : Int) (h0 : 0 ≤ x) (h1 : x ≤ 18446744073709551615) : bits .and .u64 x 4294967295 = x % 4294967296 := by
  obtain ⟨n, rfl⟩ : ∃ n : Nat, x = n := ⟨x.toNat, by omega⟩
  rw [maskN n (by omega)]; omega
theorem join_u64 (x y : Int) (h0 : 0 ≤ x) (h1 : x ≤ 4294967295) (h2 : 0 ≤ y) (h3 : y ≤ 4294967295) : bits .or .u64 (x * 4294967296) y = x * 4294967296 + y := by
  obtain ⟨n, rfl⟩ : ∃ n : Nat, x = n := ⟨x.toNat, by omega⟩
  obtain ⟨m, rfl⟩ : ∃ m : Nat, y = m := ⟨y.toNat, by omega⟩
  have e := bits_or_u64_nat (n * 4294967296) m (by omega) (by omega)
  rw [nat_join 32 (n * 4294967296) m (by omega) (by omega)] at e
  have e2 : ((n * 4294967296 : Nat) : Int) = (n : Int) * 4294967296 := by omega
  rw [e2] at e
  rw [e, Int.natCast_add, e2]

theorem hi_bd (x y : Int) (hx : 0 ≤ x) (hx' : x ≤ 18446744073709551615) (hy : 0 ≤ y) (hy' : y ≤ 18446744073709551615) : 0 ≤ hi64 x y ∧ hi64 x y ≤ 18446744073709551615 := by
  unfold hi64
  have h1 : 0 ≤ x * y := Int.mul_nonneg hx hy
  have h2 : x * y ≤ 18446744073709551615 * 18446744073709551615 := Int.mul_le_mul hx' hy' hy (by decide)
  omega
theorem lo_bd (x y : Int) : 0 ≤ lo64 x y ∧ lo64 x y ≤ 18446744073709551615 := by unfold lo64; omega

set_option maxHeartbeats 1000000 in
theorem mul64_any (x y : Int) (w : World) (hx : 0 ≤ x) (hx' : x ≤ 18446744073709551615) (hy : 0 ≤ y) (hy' : y ≤ 18446744073709551615) :
    Calls Try.prog 16 #[.int .u64 x, .int .u64 y] w fun e w' => e = .returned (.tuple #[.int .u64 (hi64 x y), .int .u64 (lo64 x y)]) ∧ w' = w := by
  obtain ⟨x, rfl⟩ : ∃ n : Nat, x = n := ⟨x.toNat, by omega⟩
  obtain ⟨y, rfl⟩ : ∃ n : Nat, y = n := ⟨y.toNat, by omega⟩
  replace hx : x < 18446744073709551616 := by omega
  replace hy : y < 18446744073709551616 := by omega
  clear hx' hy'
  obtain ⟨bd, bt, bw, hhi⟩ := Lib.mul64_hi x y hx hy
  have ba := Lib.half_mul_le (a := x / 4294967296) (b := y / 4294967296) (by omega) (by omega)
  have bb := Lib.half_mul_le (a := x / 4294967296) (b := y % 4294967296) (by omega) (by omega)
  have bc := Lib.half_mul_le (a := x % 4294967296) (b := y / 4294967296) (by omega) (by omega)
  have ba' : x / 4294967296 * (y / 4294967296) < 18446744073709551616 := by omega
  have bb' : x / 4294967296 * (y % 4294967296) < 18446744073709551616 := by omega
  have bc' : x % 4294967296 * (y / 4294967296) < 18446744073709551616 := by omega
  have bh1 : x / 4294967296 * (y / 4294967296) + (x / 4294967296 * (y % 4294967296) + x % 4294967296 * (y % 4294967296) / 4294967296) / 4294967296 < 18446744073709551616 := by omega
  have bh : x / 4294967296 * (y / 4294967296) + (x / 4294967296 * (y % 4294967296) + x % 4294967296 * (y % 4294967296) / 4294967296) / 4294967296 + ((x / 4294967296 * (y % 4294967296) + x % 4294967296 * (y % 4294967296) / 4294967296) % 4294967296 + x % 4294967296 * (y / 4294967296)) / 4294967296 < 18446744073709551616 := by omega
  have eh : hi64 x y = ((x * y / 18446744073709551616 : Nat) : Int) := by unfold hi64; rw [mulN]; omega
  have el : lo64 x y = ((x * y % 18446744073709551616 : Nat) : Int) := by unfold lo64; rw [mulN]; omega
  rw [eh, el]
  clear eh el
  go_enter Try.func16, Try.ntmps16
  go_wp2
  simp only [maskN x hx, maskN y hy, divN, mulN, addN, wrapN _ bd, wrapN _ bb', wrapN _ bt, maskN _ bt, wrapN _ bc', wrapN _ bw, wrapN _ ba', wrapN _ bh1, wrapN _ bh, wrapM (x * y)]
  rw [hhi]
  go_ret2
  exact ⟨rfl, rfl⟩

theorem mul_core_in (a b x y : Int) (w : World) (ha : -9223372036854775808 ≤ a) (ha' : a ≤ 9223372036854775807) (hb : -9223372036854775808 ≤ b) (hb' : b ≤ 9223372036854775807)
    (h64 : ∀ w, Calls Try.prog 16 #[.int .u64 (absZ a), .int .u64 (absZ b)] w fun e w' => e = .returned (.tuple #[.int .u64 x, .int .u64 y]) ∧ w' = w)
    (hx : 0 ≤ x) (hx' : x < 4294967296) (hy : 0 ≤ y) (hy' : y ≤ 18446744073709551615) :
    Calls Try.prog 9 #[.int .i64 a, .int .i64 b] w fun e w' => e = .returned (.int .i64 (rndZ false (oppB a b) (x * 4294967296 + y / 4294967296) (y % 4294967296))) ∧ Grown w w' := by
  have hm := mask_u64 y hy hy'
  have hj := join_u64 x (y / 4294967296) hx (by omega) (by omega) (by omega)
  go_enter Try.func9, Try.ntmps9
  go_wp2_with (first | (go_at_call 17; refine (size_any _ _ (by omega) (by omega)).mono ?_; rintro e w' ⟨rfl, rfl⟩) | (go_at_call 16; refine (h64 _).mono ?_; rintro e w' ⟨rfl, rfl⟩) | (go_at_call 19; refine (opp_any _ _ _).mono ?_; rintro e w' ⟨rfl, rfl⟩))
  go_wp2_with (first | (go_at_call 20; go_in) | (go_at_call 19; refine (opp_any _ _ _).mono ?_; rintro e w' ⟨rfl, rfl⟩))
  refine (round_any false _ _ _ _ _ (by simp) (by omega) (by omega)).mono ?_
  rintro e w'' ⟨rfl, rfl⟩
  go_wp2
  go_ret
  exact ⟨rfl, (Grown.refl _).alloc _ _⟩

theorem mul_core_over (a b x y : Int) (w : World) (ha : -9223372036854775808 ≤ a) (ha' : a ≤ 9223372036854775807) (hb : -9223372036854775808 ≤ b) (hb' : b ≤ 9223372036854775807)
    (h64 : ∀ w, Calls Try.prog 16 #[.int .u64 (absZ a), .int .u64 (absZ b)] w fun e w' => e = .returned (.tuple #[.int .u64 x, .int .u64 y]) ∧ w' = w)
    (hx : 4294967296 ≤ x) :
    Calls Try.prog 9 #[.int .i64 a, .int .i64 b] w fun e w' => e = .returned (.int .i64 (scut (oppB a b) 9223372036854775808)) ∧ Grown w w' := by
  go_enter Try.func9, Try.ntmps9
  go_wp2_with (first | (go_at_call 17; refine (size_any _ _ (by omega) (by omega)).mono ?_; rintro e w' ⟨rfl, rfl⟩) | (go_at_call 16; refine (h64 _).mono ?_; rintro e w' ⟨rfl, rfl⟩) | (go_at_call 19; refine (opp_any _ _ _).mono ?_; rintro e w' ⟨rfl, rfl⟩) | (go_at_call 18; refine (cut_any _ _ _ (by omega) (by omega)).mono ?_; rintro e w' ⟨rfl, rfl⟩))
  go_ret
  exact ⟨rfl, Grown.refl _⟩

theorem mul_any (a b : Int) (w : World) (ha : -9223372036854775808 ≤ a) (ha' : a ≤ 9223372036854775807) (hb : -9223372036854775808 ≤ b) (hb' : b ≤ 9223372036854775807) :
    Calls Try.prog 9 #[.int .i64 a, .int .i64 b] w fun e w' => e = .returned (.int .i64 (mulZ a b)) ∧ Grown w w' := by
  have a0 := abs_nonneg a
  have a1 := abs_bd ha ha'
  have b0 := abs_nonneg b
  have b1 := abs_bd hb hb'
  have hh := hi_bd (absZ a) (absZ b) a0 (by omega) b0 (by omega)
  have hl := lo_bd (absZ a) (absZ b)
  have h64 := fun w => mul64_any (absZ a) (absZ b) w a0 (by omega) b0 (by omega)
  by_cases hc : hi64 (absZ a) (absZ b) < 4294967296
  · rw [← mul_meet a b hc]
    exact mul_core_in a b _ _ w ha ha' hb hb' h64 hh.1 hc hl.1 hl.2
  · rw [← mul_over a b (by omega)]
    exact mul_core_over a b _ _ w ha ha' hb hb' h64 (by omega)
end Go.Proofs.Ytnagkbdnondklab
