/-
  What math/bits.Div64 returns where the high word is below the divisor: the quotient and the rest, for all words.
-/
import Derived.Test.YtnagkbdnondklabDiv64
namespace Go.Proofs.Ytnagkbdnondklab
open Go.RowKit
set_option linter.unusedVariables false

theorem two_digits {K N U V Y y v1 v0 q E q' E' : Int} (hK : 0 < K) (hY : Y = y * K) (hN : U * 18446744073709551616 + V = K * N) (hV : V = v1 * 4294967296 + v0)
    (h1 : U * 4294967296 + v1 - q * Y = E) (h2 : E * 4294967296 + v0 - q' * Y = E') (h3 : 0 ≤ E') (h4 : E' < Y) (hy : 0 < y) :
    q * 4294967296 + q' = N / y ∧ E' / K = N % y := by
  have e : E' = K * (N - (q * 4294967296 + q') * y) := by grind
  have e2 : E' / K = N - (q * 4294967296 + q') * y := by rw [e]; exact Int.mul_ediv_cancel_left _ (by omega)
  have r0 : 0 ≤ N - (q * 4294967296 + q') * y := by
    rw [e] at h3
    exact Int.nonneg_of_mul_nonneg_right h3 hK
  have r1 : N - (q * 4294967296 + q') * y < y := by
    rw [e, hY, Int.mul_comm y K] at h4
    exact Int.lt_of_mul_lt_mul_left h4 (by omega)
  have u := (Int.ediv_emod_unique hy (a := N) (q := q * 4294967296 + q') (r := N - (q * 4294967296 + q') * y)).mpr ⟨by rw [Int.mul_comm]; omega, r0, r1⟩
  rw [e2]
  exact ⟨u.1.symm, u.2.symm⟩

theorem pow_split (n t : Nat) (h : n + t = 64) : (2 : Int) ^ n * 2 ^ t = 18446744073709551616 := by
  rw [← Int.pow_add, h]; rfl
theorem or_join (x y : Int) (t : Nat) (h0 : 0 ≤ x) (hy : 0 ≤ y) (hy' : y < 2 ^ t) (h1 : x * 2 ^ t < 18446744073709551616) (h2 : y < 18446744073709551616) : bits .or .u64 (x * 2 ^ t) y = x * 2 ^ t + y := by
  obtain ⟨a, rfl⟩ : ∃ n : Nat, x = n := ⟨x.toNat, by omega⟩
  obtain ⟨b, rfl⟩ : ∃ n : Nat, y = n := ⟨y.toNat, by omega⟩
  have c : ((a : Int) * 2 ^ t) = ((a * 2 ^ t : Nat) : Int) := by rw [Int.natCast_mul, Int.natCast_pow]; rfl
  have c2 : ((2 : Int) ^ t) = ((2 ^ t : Nat) : Int) := by rw [Int.natCast_pow]; rfl
  rw [c] at h1 ⊢
  rw [c2] at hy'
  rw [bits_or_u64_nat _ _ (by omega) (by omega), nat_join t _ _ (Nat.mul_mod_left _ _) (by omega), Int.natCast_add]

theorem div64_any (hi lo y : Int) (w : World) (hh : 0 ≤ hi) (hh' : hi < y) (hl : 0 ≤ lo) (hl' : lo ≤ 18446744073709551615) (hy' : y ≤ 18446744073709551615) :
    Calls Try.prog 24 #[.int .u64 hi, .int .u64 lo, .int .u64 y] w fun e w' => e = .returned (.tuple #[.int .u64 ((hi * 18446744073709551616 + lo) / y), .int .u64 ((hi * 18446744073709551616 + lo) % y)]) ∧ Grown w w' := by
  by_cases hz : hi = 0
  · subst hz
    simp only [Int.zero_mul, Int.zero_add]
    exact div64_zero lo y w hl hl' (by omega) hy'
  · obtain ⟨n, en, hn, p1, p2⟩ := len_two y (by omega) hy'
    have hlz := fun w => lead64_any y w (by omega) hy'
    rw [en] at hlz
    obtain ⟨t, ht⟩ : ∃ t : Nat, n + 1 + t = 64 := ⟨63 - n, by omega⟩
    have es : (64 : Int) - ((n : Int) + 1) = (t : Int) := by omega
    rw [es] at hlz
    have hJ := pow_split (n + 1) t ht
    have hK : (0 : Int) < 2 ^ t := Int.pow_pos (by decide)
    have hJ0 : (0 : Int) < 2 ^ (n + 1) := Int.pow_pos (by decide)
    have eY : (2 : Int) ^ (n + 1) = 2 * 2 ^ n := by rw [Int.pow_succ]; omega
    have y0 : 9223372036854775808 ≤ y * 2 ^ t := by
      have := Int.mul_le_mul_of_nonneg_right p1 (Int.le_of_lt hK)
      rw [eY, Int.mul_assoc] at hJ; omega
    have y1 : y * 2 ^ t < 18446744073709551616 := by
      have := Int.mul_lt_mul_of_pos_right p2 hK
      omega
    have h1 : (hi + 1) * 2 ^ t ≤ y * 2 ^ t := Int.mul_le_mul_of_nonneg_right (by omega) (Int.le_of_lt hK)
    rw [Int.add_mul, Int.one_mul] at h1
    have h0 : 0 ≤ hi * 2 ^ t := Int.mul_nonneg hh (Int.le_of_lt hK)
    have d := Int.mul_ediv_add_emod lo (2 ^ (n + 1))
    have m0 := Int.emod_nonneg lo (Int.ne_of_gt hJ0)
    have m1 := Int.emod_lt_of_pos lo hJ0
    have L0 : 0 ≤ lo / 2 ^ (n + 1) := Int.ediv_nonneg hl (by omega)
    have L1 : lo / 2 ^ (n + 1) < 2 ^ t := by
      apply Int.ediv_lt_of_lt_mul hJ0
      rw [Int.mul_comm, hJ]; omega
    have V1 : lo % 2 ^ (n + 1) * 2 ^ t < 18446744073709551616 := by
      have := Int.mul_lt_mul_of_pos_right m1 hK
      omega
    have V0 : 0 ≤ lo % 2 ^ (n + 1) * 2 ^ t := Int.mul_nonneg m0 (Int.le_of_lt hK)
    have eV : lo * 2 ^ t = lo / 2 ^ (n + 1) * 18446744073709551616 + lo % 2 ^ (n + 1) * 2 ^ t := by
      rw [← hJ, ← Int.mul_assoc, ← Int.add_mul, Int.mul_comm (lo / 2 ^ (n + 1)), d]
    have f1 : IntKind.u64.wrap (y * 2 ^ (t : Int).toNat) = y * 2 ^ t := by rw [Int.toNat_natCast, IntKind.wrap_u64]; omega
    have f2 : IntKind.u64.wrap (hi * 2 ^ (t : Int).toNat) = hi * 2 ^ t := by rw [Int.toNat_natCast, IntKind.wrap_u64]; omega
    have f3 : lo / 2 ^ ((64 : Int) - t).toNat = lo / 2 ^ (n + 1) := by rw [show ((64 : Int) - t).toNat = n + 1 by omega]
    have f4 : bits .or .u64 (hi * 2 ^ t) (lo / 2 ^ (n + 1)) = hi * 2 ^ t + lo / 2 ^ (n + 1) := or_join _ _ _ hh L0 L1 (by omega) (by omega)
    have f5 : IntKind.u64.wrap (lo * 2 ^ (t : Int).toNat) = lo % 2 ^ (n + 1) * 2 ^ t := by rw [Int.toNat_natCast, IntKind.wrap_u64, eV]; omega
    have eN : (hi * 2 ^ t + lo / 2 ^ (n + 1)) * 18446744073709551616 + lo % 2 ^ (n + 1) * 2 ^ t = 2 ^ t * (hi * 18446744073709551616 + lo) := by
      rw [Int.mul_comm (2 ^ t), Int.add_mul _ lo, eV]; grind
    have eE : (t : Int).toNat = t := Int.toNat_natCast t
    generalize hVV : lo % 2 ^ (n + 1) * 2 ^ t = V at *
    generalize hYY : y * 2 ^ t = Y at *
    refine (div64_core hi lo y t Y (hi * 2 ^ t) (lo / 2 ^ (n + 1)) (hi * 2 ^ t + lo / 2 ^ (n + 1)) V (Y / 4294967296) (Y % 4294967296) (V / 4294967296) (V % 4294967296) w (by omega) hh' (by omega) hy' (by omega) (by omega) hlz f1 f2 f3 f4 f5 rfl (mask_u64 Y (by omega) (by omega)) rfl (mask_u64 V V0 (by omega))
      ⟨by omega, by omega, by omega, by omega, by omega⟩ y1 (by omega) (by omega) (by omega) (by omega) (by omega) (by omega)).mono ?_
    rintro e w' ⟨q, E, q', E', rfl, ⟨a1, a2, a3, a4, a5⟩, ⟨b1, b2, b3, b4, b5⟩, rfl⟩
    obtain ⟨r1, r2⟩ := two_digits hK hYY.symm eN (by omega) a1 b1 b2 b3 (by omega)
    rw [eE, r1, r2]
    exact ⟨rfl, Grown.refl _⟩
end Go.Proofs.Ytnagkbdnondklab
