/-
  What the document's own long division returns, for all sizes: the quotient and whether there is a rest.
-/
import Derived.Test.YtnagkbdnondklaaRmul
namespace Go.Proofs.Ytnagkbdnondklaa
open Go.RowKit
set_option linter.unusedVariables false

def overW (w : World) (nh nl qh ql r : Int) : World :=
  (((w.alloc (.cells #[.int .u64 0, .int .u64 0] 38)).alloc (.cells #[.int .u64 nh, .int .u64 nl] 38)).alloc (.cells #[.int .u64 qh, .int .u64 ql] 38)).alloc (.cells #[.int .u64 0, .int .u64 r] 38)

theorem and_one (x : Int) (h0 : 0 ≤ x) (h1 : x ≤ 18446744073709551615) : bits .and .u64 x 1 = x % 2 := by
  obtain ⟨n, rfl⟩ : ∃ n : Nat, x = n := ⟨x.toNat, by omega⟩
  have e := bits_and_u64_nat n 1 (by omega) (by omega)
  rw [Nat.and_one_is_mod] at e
  exact e
theorem or_bit (x y : Int) (h0 : 0 ≤ x) (h1 : x * 2 ≤ 18446744073709551615) (h2 : 0 ≤ y) (h3 : y ≤ 1) : bits .or .u64 (x * 2) y = x * 2 + y := by
  have e := or_join x y 1 h0 h2 (by omega) (by omega) (by omega)
  simpa using e
theorem mask63 (t : Nat) (h : t ≤ 127) : bits .and .i64 (t : Int) 63 = (t : Int) % 64 := by
  have e : (BitVec.ofInt 64 (t : Int) &&& BitVec.ofInt 64 63).toNat = t % 64 := by
    have e2 : (BitVec.ofInt 64 63).toNat = 2 ^ 6 - 1 := by decide
    rw [BitVec.toNat_and, e2, Nat.and_two_pow_sub_one_eq_mod]
    simp only [BitVec.toNat_ofInt]
    omega
  show IntKind.i64.wrap (((BitVec.ofInt 64 (t : Int) &&& BitVec.ofInt 64 63).toNat : Nat) : Int) = _
  rw [e, IntKind.wrap_i64]
  omega

def Inv (N b : Int) (j : Nat) (qh ql r : Int) : Prop := qh * 18446744073709551616 + ql = N / 2 ^ j / b ∧ r = N / 2 ^ j % b ∧ 0 ≤ qh ∧ 0 ≤ ql ∧ ql ≤ 18446744073709551615

theorem ediv_twice (a b c : Int) (h : 0 ≤ b) : a / b / c = a / (b * c) := by rw [Int.ediv_ediv, if_neg (by omega), Int.sub_zero]
theorem half_step (N : Int) (t : Nat) : N / 2 ^ t = N / 2 ^ (t + 1) * 2 + N / 2 ^ t % 2 := by
  have e : N / 2 ^ (t + 1) = N / 2 ^ t / 2 := by rw [Int.pow_succ, ediv_twice N _ _ (Int.le_of_lt (Int.pow_pos (by decide)))]
  rw [e]; omega
theorem inv_bd {N b : Int} {j : Nat} {qh ql r : Int} (hN : 0 ≤ N) (hN' : N ≤ 39614081257132168796771975168) (hb : 0 < b) (h : Inv N b j qh ql r) : qh < 4294967296 ∧ 0 ≤ r ∧ r < b := by
  obtain ⟨h1, h2, h3, h4, h5⟩ := h
  have p : (0 : Int) < 2 ^ j := Int.pow_pos (by decide)
  have m0 : 0 ≤ N / 2 ^ j := Int.ediv_nonneg hN (Int.le_of_lt p)
  have e1 : N / 2 ^ j ≤ N := Int.ediv_le_self _ hN
  have e2 : N / 2 ^ j / b ≤ N / 2 ^ j := Int.ediv_le_self _ m0
  have e3 := Int.emod_nonneg (N / 2 ^ j) (Int.ne_of_gt hb)
  have e4 := Int.emod_lt_of_pos (N / 2 ^ j) hb
  exact ⟨by omega, by omega, by omega⟩
theorem inv_step {N b : Int} {t : Nat} {qh ql r bt : Int} (hb : 0 < b) (h : Inv N b (t + 1) qh ql r) (hr0 : 0 ≤ r) (hr : r < b) (hbt : bt = N / 2 ^ t % 2) :
    (b ≤ r * 2 + bt → Inv N b t (qh * 2 + ql / 9223372036854775808) (ql * 2 % 18446744073709551616 + 1) (r * 2 + bt - b)) ∧ (r * 2 + bt < b → Inv N b t (qh * 2 + ql / 9223372036854775808) (ql * 2 % 18446744073709551616) (r * 2 + bt)) := by
  obtain ⟨h1, h2, h3, h4, h5⟩ := h
  have hs := half_step N t
  rw [← hbt] at hs
  have hm := Int.mul_ediv_add_emod (N / 2 ^ (t + 1)) b
  rw [← h1, ← h2] at hm
  have b0 : 0 ≤ bt ∧ bt ≤ 1 := by omega
  unfold Inv
  rw [hs]
  generalize N / 2 ^ (t + 1) = M at *
  have hM : M * 2 + bt = (r * 2 + bt) + b * ((qh * 18446744073709551616 + ql) * 2) := by rw [← hm]; grind
  constructor
  · intro hc
    have u := (Int.ediv_emod_unique hb (a := M * 2 + bt) (q := (qh * 18446744073709551616 + ql) * 2 + 1) (r := r * 2 + bt - b)).mpr ⟨by rw [hM]; grind, by omega, by omega⟩
    rw [u.1, u.2]
    exact ⟨by omega, rfl, by omega, by omega, by omega⟩
  · intro hc
    have u := (Int.ediv_emod_unique hb (a := M * 2 + bt) (q := (qh * 18446744073709551616 + ql) * 2) (r := r * 2 + bt)).mpr ⟨by rw [hM], by omega, by omega⟩
    rw [u.1, u.2]
    exact ⟨by omega, rfl, by omega, by omega, by omega⟩
theorem low_bit (N : Int) (t : Nat) (ht : t ≤ 63) : N % 18446744073709551616 / 2 ^ t % 2 = N / 2 ^ t % 2 := by
  have p : (2 : Int) ^ t ≠ 0 := Int.ne_of_gt (Int.pow_pos (by decide))
  obtain ⟨s, hs⟩ : ∃ s, 64 = t + (s + 1) := ⟨63 - t, by omega⟩
  have e : (18446744073709551616 : Int) = 2 ^ t * (2 ^ s * 2) := by
    rw [← Int.pow_succ, ← Int.pow_add, ← hs]; rfl
  have e2 : N / 2 ^ t = N % 18446744073709551616 / 2 ^ t + N / 18446744073709551616 * (2 ^ s * 2) := by
    have h : N = N % 18446744073709551616 + N / 18446744073709551616 * (2 ^ s * 2) * 2 ^ t := by
      have := Int.mul_ediv_add_emod N 18446744073709551616
      rw [Int.mul_assoc, Int.mul_comm (2 ^ s * 2), ← e]; omega
    have h' := Int.add_mul_ediv_right (N % 18446744073709551616) (N / 18446744073709551616 * (2 ^ s * 2)) p
    rw [← h'] 
    congr 1
  rw [e2, ← Int.mul_assoc]
  omega
theorem high_bit (N : Int) (t : Nat) (ht : 64 ≤ t) : N / 18446744073709551616 / 2 ^ (t - 64) % 2 = N / 2 ^ t % 2 := by
  have e : (18446744073709551616 : Int) = 2 ^ 64 := rfl
  rw [ediv_twice N _ _ (by decide), e, ← Int.pow_add, show 64 + (t - 64) = t by omega]

set_option maxHeartbeats 2000000 in
theorem over_any (a b : Int) (w : World) (a0 : 0 ≤ a) (a1 : a ≤ 9223372036854775808) (b0 : 0 < b) (b1 : b ≤ 9223372036854775808) :
    Calls Try.prog 41 #[.int .u64 a, .int .u64 b] w fun e w' => ∃ qh ql, e = .returned (.tuple #[.agg #[.int .u64 qh, .int .u64 ql], .bool (a * 4294967296 % b != 0)]) ∧ qh * 18446744073709551616 + ql = a * 4294967296 / b ∧ (0 ≤ qh ∧ qh < 4294967296 ∧ 0 ≤ ql ∧ ql ≤ 18446744073709551615) ∧ Grown w w' := by
  obtain ⟨N, hN⟩ : ∃ N, a * 4294967296 = N := ⟨_, rfl⟩
  obtain ⟨nl, hn⟩ : ∃ nl, IntKind.u64.wrap N = nl := ⟨_, rfl⟩
  obtain ⟨nh, hh⟩ : ∃ nh, a / 4294967296 = nh := ⟨_, rfl⟩
  have N0 : 0 ≤ N := by omega
  have N1 : N ≤ 39614081257132168796771975168 := by omega
  have enl : Hid (nl = N % 18446744073709551616) := by show _ = _; rw [← hn, IntKind.wrap_u64]
  have enh : Hid (nh = N / 18446744073709551616) := by show _ = _; omega
  have nl0 : 0 ≤ nl := by have := enl.out; omega
  have nl1 : nl ≤ 18446744073709551615 := by have := enl.out; omega
  have nh0 : 0 ≤ nh := by have := enh.out; omega
  have nh1 : nh ≤ 18446744073709551615 := by have := enh.out; omega
  rw [hN]
  go_enter Try.func41, Try.ntmps41
  go_wp2
  go_loopw [9] (fun v wr => ∃ (j : Nat) (qh ql r : Int), j ≤ 128 ∧ v = .int .i64 ((j : Int) - 1) ∧ Inv N b j qh ql r ∧ wr = overW w nh nl qh ql r) (fun v _ => (intOf v + 1).toNat)
  case atStart => exact ⟨128, 0, 0, 0, by omega, rfl, by
    have e : N / 2 ^ 128 = 0 := Int.ediv_eq_zero_of_lt N0 (by omega)
    exact ⟨by rw [e]; simp, by rw [e]; simp, by omega, by omega, by omega⟩, rfl⟩
  case round =>
    obtain ⟨j, qh, ql, r, hj, rfl, hI, rfl⟩ := hrel
    have HI : Hid (Inv N b j qh ql r) := hI
    obtain ⟨q1, r0, r1⟩ := inv_bd N0 N1 b0 hI
    obtain ⟨hI1, hI2, q0, l0, l1⟩ := hI
    clear hI1 hI2 hN hn hh
    rcases j with _ | t
    · unfold overW
      go_wp2
      go_region
      go_wp2
      have e := HI.out
      obtain ⟨i1, i2, i3⟩ := e
      rw [Int.pow_zero, Int.ediv_one] at i1 i2
      rw [← i2]
      exact bodyPost_ret (v := .tuple #[.agg #[.int .u64 qh, .int .u64 ql], .bool (r != 0)]) (by simp [results, Try.results41, go_sem]) rfl ⟨qh, ql, rfl, i1, ⟨q0, q1, l0, l1⟩, (((((Grown.refl _).alloc _ _).alloc _ _).alloc _ _).alloc _ _).drew⟩
    · have et : ((t + 1 : Nat) : Int) - 1 = (t : Int) := by omega
      rw [et]
      clear et
      obtain ⟨bt, hbt⟩ : ∃ x, x = N / 2 ^ t % 2 := ⟨_, rfl⟩
      obtain ⟨st1, st2⟩ := inv_step b0 HI.out r0 r1 hbt
      have S1 : Hid _ := st1
      have S2 : Hid _ := st2
      have t0 : 0 ≤ bt := by omega
      have t1 : bt ≤ 1 := by omega
      have k63 := mask63 t (by omega)
      have z0 : bits .or .u64 0 (r / 9223372036854775808) = 0 := by rw [show r / 9223372036854775808 = 0 by omega]; decide
      have e2 := or_bit r bt r0 (by omega) t0 t1
      have e3 := or_bit qh (ql / 9223372036854775808) q0 (by omega) (by omega) (by omega)
      have e4 : IntKind.u64.wrap (ql * 2) = ql * 2 % 18446744073709551616 := IntKind.wrap_u64 _
      obtain ⟨q2, eq2⟩ : ∃ x, ql * 2 % 18446744073709551616 = x := ⟨_, rfl⟩
      have e5 : bits .or .u64 q2 1 = q2 + 1 := by
        have := or_bit (q2 / 2) 1 (by omega) (by omega) (by omega) (by omega)
        rw [show q2 / 2 * 2 = q2 by omega] at this; exact this
      rw [eq2] at e4 S1 S2
      have q20 : 0 ≤ q2 := by omega
      have q21 : q2 ≤ 18446744073709551614 := by omega
      clear eq2 st1 st2 HI
      unfold overW
      by_cases ht : t ≤ 63
      · have e1 : bits .and .u64 (nl / 2 ^ (t % 64)) 1 = bt := by
          rw [and_one _ (Int.ediv_nonneg nl0 (Int.le_of_lt (Int.pow_pos (by decide)))) (by have := Int.ediv_le_self (2 ^ (t % 64)) nl0; omega), Nat.mod_eq_of_lt (by omega), enl.out, low_bit N t ht, hbt]
        clear hbt
        by_cases hc : b ≤ r * 2 + bt
        · have HS := S1.out hc
          have HS' : Hid _ := HS
          clear S1 S2 HS
          go_wp2_with fail
          go_roundw
          case rel => exact ⟨t, _, _, _, by omega, rfl, HS'.out, rfl⟩
          case measure => simp [intOf]
        · have HS := S2.out (by omega)
          have HS' : Hid _ := HS
          clear S1 S2 HS
          go_wp2_with fail
          go_roundw
          case rel => exact ⟨t, _, _, _, by omega, rfl, HS'.out, rfl⟩
          case measure => simp [intOf]
      · have e1 : bits .and .u64 (nh / 2 ^ (t - 64)) 1 = bt := by
          rw [and_one _ (Int.ediv_nonneg nh0 (Int.le_of_lt (Int.pow_pos (by decide)))) (by have := Int.ediv_le_self (2 ^ (t - 64)) nh0; omega), enh.out, high_bit N t (by omega), hbt]
        clear hbt
        by_cases hc : b ≤ r * 2 + bt
        · have HS := S1.out hc
          have HS' : Hid _ := HS
          clear S1 S2 HS
          go_wp2_with fail
          go_roundw
          case rel => exact ⟨t, _, _, _, by omega, rfl, HS'.out, rfl⟩
          case measure => simp [intOf]
        · have HS := S2.out (by omega)
          have HS' : Hid _ := HS
          clear S1 S2 HS
          go_wp2_with fail
          go_roundw
          case rel => exact ⟨t, _, _, _, by omega, rfl, HS'.out, rfl⟩
          case measure => simp [intOf]
end Go.Proofs.Ytnagkbdnondklaa
