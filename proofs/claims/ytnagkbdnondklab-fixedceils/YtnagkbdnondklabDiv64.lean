/-
  What math/bits.Div64 returns, for all words, where it does not panic: the quotient and the rest of two words by one.
-/
import Derived.Test.YtnagkbdnondklabLen
import Derived.Test.YtnagkbdnondklabMul
import Derived.Handy
namespace Go.Proofs.Ytnagkbdnondklab
open Go.RowKit
set_option linter.unusedVariables false

theorem div64_zero (lo y : Int) (w : World) (hl : 0 ≤ lo) (hl' : lo ≤ 18446744073709551615) (hy : 0 < y) (hy' : y ≤ 18446744073709551615) :
    Calls Try.prog 24 #[.int .u64 0, .int .u64 lo, .int .u64 y] w fun e w' => e = .returned (.tuple #[.int .u64 (lo / y), .int .u64 (lo % y)]) ∧ Grown w w' := by
  have hy0 : ¬ y = 0 := by omega
  go_enter Try.func24, Try.ntmps24
  go_wp2
  go_region
  go_wp2
  go_ret2
  exact ⟨rfl, (Grown.refl _).drew⟩

/- One digit: what the guess and its mending keep. U: what is divided so far; v: the next digit; Y = n * 2^32 + m. -/
theorem step_less {q n m U Y r P M v : Int} (hY : Y = n * 4294967296 + m) (hn : 0 ≤ n) (hm0 : 0 ≤ m) (hm : m < 4294967296) (hv0 : 0 ≤ v) (hv : v < 4294967296) (hU : U < Y)
    (hP : q * m = P) (hM : q * n = M) (hr : r + M = U) (h : 4294967296 ≤ q) : 4294967296 * r + v < P := by
  have h1 : 4294967296 * n ≤ q * n := Int.mul_le_mul_of_nonneg_right h hn
  have h2 : 4294967296 * m ≤ q * m := Int.mul_le_mul_of_nonneg_right h hm0
  omega
theorem step_pos {q m P : Int} (hP : q * m = P) (hq : 0 ≤ q) (h : 0 < P) : 1 ≤ q := by
  rcases Int.lt_or_le q 1 with h1 | h1
  · have : q = 0 := by omega
    subst this
    simp at hP; omega
  · exact h1
theorem step_out {q m P : Int} (hm : m < 4294967296) (hP : q * m = P) (h : q ≤ 4294967296) (hm0 : 0 ≤ m) (hq : 0 ≤ q) : P ≤ 18446744073709551616 := by
  have := Int.mul_le_mul h (Int.le_of_lt hm) hm0 (by decide)
  rw [hP] at this
  simpa using this
theorem step_in {q m P : Int} (hm : m < 4294967296) (hP : q * m = P) (h : q < 4294967296) (hm0 : 0 ≤ m) (hq : 0 ≤ q) : 0 ≤ P ∧ P ≤ 18446744065119617025 := by
  have := Int.mul_le_mul (Int.le_of_lt_add_one (b := 4294967295) (by omega) : q ≤ 4294967295) (Int.le_of_lt_add_one (b := 4294967295) (by omega) : m ≤ 4294967295) hm0 (by decide)
  rw [hP] at this
  have h2 := Int.mul_nonneg hq hm0
  rw [hP] at h2
  exact ⟨h2, by simpa using this⟩
theorem guess {n m U Y q : Int} (hY : Y = n * 4294967296 + m) (hn : 2147483648 ≤ n) (hm : m < 4294967296) (hU : U < Y) (hU0 : 0 ≤ U) (hq : U / n = q) :
    0 ≤ q ∧ q ≤ 4294967297 ∧ q * n ≤ U ∧ U < q * n + n := by
  have hn0 : 0 < n := by omega
  have h0 : 0 ≤ U / n := Int.ediv_nonneg hU0 (by omega)
  have e := Int.mul_ediv_add_emod U n
  have m0 := Int.emod_nonneg U (Int.ne_of_gt hn0)
  have m1 := Int.emod_lt_of_pos U hn0
  rw [hq, Int.mul_comm] at e
  rw [hq] at h0
  refine ⟨h0, ?_, by omega, by omega⟩
  rcases Int.lt_or_le 4294967297 q with h | h
  · exfalso
    have : 4294967298 * n ≤ q * n := Int.mul_le_mul_of_nonneg_right (by omega) (by omega)
    omega
  · exact h
theorem chain {U v q Y E : Int} (h : U * 4294967296 + v - q * Y = E) (h0 : 0 ≤ E) (h1 : E < 18446744073709551616) :
    IntKind.u64.wrap (IntKind.u64.wrap (IntKind.u64.wrap (U * 4294967296) + v) - IntKind.u64.wrap (q * Y)) = E := by
  simp only [IntKind.wrap_u64]
  generalize q * Y = Z at *
  omega
theorem left {U v q n m Y r P M : Int} (hY : Y = n * 4294967296 + m) (hP : q * m = P) (hM : q * n = M) (hr : r + M = U) : U * 4294967296 + v - q * Y = 4294967296 * r + v - P := by
  have : q * Y = M * 4294967296 + P := by rw [hY, Int.mul_add, hP, ← hM, Int.mul_assoc]
  omega
theorem small {q Y E U v : Int} (h : U * 4294967296 + v - q * Y = E) (h0 : 0 ≤ E) (hU : U < Y) (hv : v < 4294967296) (hY : 0 < Y) : q < 4294967296 := by
  rcases Int.lt_or_le q 4294967296 with h1 | h1
  · exact h1
  · exfalso
    have : 4294967296 * Y ≤ q * Y := Int.mul_le_mul_of_nonneg_right h1 (by omega)
    omega

def Digit (U v Y q E : Int) : Prop := U * 4294967296 + v - q * Y = E ∧ 0 ≤ E ∧ E < Y ∧ 0 ≤ q ∧ q < 4294967296
def Base (Y n m : Int) : Prop := Y = n * 4294967296 + m ∧ 2147483648 ≤ n ∧ n < 4294967296 ∧ 0 ≤ m ∧ m < 4294967296
def Rel (U v Y n m q r : Int) : Prop := r + q * n = U ∧ 0 ≤ q ∧ q ≤ 4294967297 ∧ 0 ≤ r ∧ r < 4294967296 ∧ 4294967296 * r + v - q * m < Y

theorem round_first {U v Y n m q : Int} (b : Base Y n m) (hU0 : 0 ≤ U) (hU : U < Y) (hv : v < 4294967296) (hq : U / n = q) : Rel U v Y n m q (U - q * n) := by
  obtain ⟨b1, b2, b3, b4, b5⟩ := b
  obtain ⟨g0, g1, g2, g3⟩ := guess b1 b2 b5 hU hU0 hq
  have := Int.mul_nonneg g0 b4
  exact ⟨by omega, g0, g1, by omega, by omega, by omega⟩
theorem round_less {U v Y n m q r : Int} (b : Base Y n m) (R : Rel U v Y n m q r) (hU : U < Y) (hv0 : 0 ≤ v) (hv : v < 4294967296) (h : 4294967296 ≤ q ∨ 4294967296 * r + v < q * m) : 4294967296 * r + v < q * m ∧ 1 ≤ q := by
  obtain ⟨b1, b2, b3, b4, b5⟩ := b
  obtain ⟨R1, R2, R3, R4, R5, R6⟩ := R
  have hl : 4294967296 * r + v < q * m := by
    rcases h with h | h
    · exact step_less b1 (by omega) b4 b5 hv0 hv hU rfl rfl R1 h
    · exact h
  exact ⟨hl, step_pos (m := m) (P := q * m) rfl R2 (by omega)⟩
theorem round_next {U v Y n m q r : Int} (b : Base Y n m) (R : Rel U v Y n m q r) (hl : 4294967296 * r + v < q * m) (h1 : 1 ≤ q) (h2 : r + n < 4294967296) : Rel U v Y n m (q - 1) (r + n) := by
  obtain ⟨b1, b2, b3, b4, b5⟩ := b
  obtain ⟨R1, R2, R3, R4, R5, R6⟩ := R
  unfold Rel
  rw [Int.sub_mul, Int.sub_mul, Int.one_mul, Int.one_mul]
  exact ⟨by omega, by omega, by omega, by omega, by omega, by omega⟩
theorem round_out {U v Y n m q r : Int} (b : Base Y n m) (R : Rel U v Y n m q r) (hU : U < Y) (hv0 : 0 ≤ v) (hv : v < 4294967296) (hl : 4294967296 * r + v < q * m) (h1 : 1 ≤ q) (h2 : 4294967296 ≤ r + n) : ∃ E, Digit U v Y (q - 1) E := by
  obtain ⟨b1, b2, b3, b4, b5⟩ := b
  obtain ⟨R1, R2, R3, R4, R5, R6⟩ := R
  have e1 : (q - 1) * m = q * m - m := by rw [Int.sub_mul, Int.one_mul]
  have e2 : (q - 1) * n = q * n - n := by rw [Int.sub_mul, Int.one_mul]
  have hD := left (v := v) b1 e1 e2 (r := r + n) (U := U) (by omega)
  have ho := step_out b5 e1 (by omega) b4 (by omega)
  have E0 : 0 ≤ U * 4294967296 + v - (q - 1) * Y := by omega
  exact ⟨_, rfl, E0, by omega, by omega, small rfl E0 hU hv (by omega)⟩
theorem round_end {U v Y n m q r : Int} (b : Base Y n m) (R : Rel U v Y n m q r) (hl : q * m ≤ 4294967296 * r + v) (h1 : q < 4294967296) : ∃ E, Digit U v Y q E := by
  obtain ⟨b1, b2, b3, b4, b5⟩ := b
  obtain ⟨R1, R2, R3, R4, R5, R6⟩ := R
  have hD := left (v := v) b1 (P := q * m) (M := q * n) rfl rfl (r := r) (U := U) R1
  exact ⟨_, rfl, by omega, by omega, R2, h1⟩

set_option maxRecDepth 100000 in
set_option maxHeartbeats 2000000 in
theorem div64_core (hi lo y s Y H L U V n m v1 v0 : Int) (w : World) (hh : 0 < hi) (hh' : hi < y) (hy : 0 < y) (hy' : y ≤ 18446744073709551615)
    (hs : 0 ≤ s) (hs' : s ≤ 63) (hlz : ∀ w, Calls Try.prog 25 #[.int .u64 y] w fun e w' => e = .returned (.int .i64 s) ∧ w' = w)
    (e1 : IntKind.u64.wrap (y * 2 ^ s.toNat) = Y) (e2 : IntKind.u64.wrap (hi * 2 ^ s.toNat) = H) (e3 : lo / 2 ^ (64 - s).toNat = L) (e4 : bits .or .u64 H L = U) (e5 : IntKind.u64.wrap (lo * 2 ^ s.toNat) = V)
    (e6 : Y / 4294967296 = n) (e7 : bits .and .u64 Y 4294967295 = m) (e8 : V / 4294967296 = v1) (e9 : bits .and .u64 V 4294967295 = v0)
    (hB : Hid (Base Y n m)) (hYb : Y < 18446744073709551616) (hU0 : 0 ≤ U) (hU : U < Y) (hv0 : 0 ≤ v1) (hv : v1 < 4294967296) (hz0 : 0 ≤ v0) (hz : v0 < 4294967296) :
    Calls Try.prog 24 #[.int .u64 hi, .int .u64 lo, .int .u64 y] w fun e w' => ∃ q E q' E', e = .returned (.tuple #[.int .u64 (q * 4294967296 + q'), .int .u64 (E' / 2 ^ s.toNat)]) ∧ Digit U v1 Y q E ∧ Digit E v0 Y q' E' ∧ w' = w := by
  obtain ⟨hb1, hn, hn', hm0, hm⟩ := hB.out
  clear hb1
  obtain ⟨q, hq⟩ : ∃ q, U / n = q := ⟨_, rfl⟩
  have HR : Hid (Rel U v1 Y n m q (U - q * n)) := round_first hB.out hU0 hU hv hq
  obtain ⟨R1, R2, R3, R4, R5, R6⟩ := HR.out
  clear R1 R6
  obtain ⟨M, hM⟩ : ∃ M, q * n = M := ⟨_, rfl⟩
  rw [hM] at R4 R5 HR
  have M0 : 0 ≤ M := by rw [← hM]; exact Int.mul_nonneg R2 (by omega)
  have hy0 : ¬ y = 0 := by omega
  have hn0 : ¬ n = 0 := by omega
  go_enter Try.func24, Try.ntmps24
  go_wp2_with (go_at_call 25; refine (hlz _).mono ?_; rintro e w' ⟨rfl, rfl⟩)
  clear e1 e2 e3 e4 e5 e6 e7 e8 e9 hlz hh hh' hy0
  go_loop [15, 16] (fun a b => ∃ q r : Int, a = .int .u64 q ∧ b = .int .u64 r ∧ Rel U v1 Y n m q r) (fun a _ => (intOf a).toNat)
  case atStart => exact ⟨q, U - M, by rw [hq], rfl, HR.out⟩
  case round =>
    obtain ⟨k, r, rfl, rfl, hR⟩ := hrel
    have HK : Hid (Rel U v1 Y n m k r) := hR
    clear hR HR hq hM R2 R3 R4 R5 M0
    obtain ⟨R1, k0, k1, r0, r1, R6⟩ := HK.out
    clear R1 R6
    obtain ⟨P, hP⟩ : ∃ P, k * m = P := ⟨_, rfl⟩
    have P0 : 0 ≤ P := by rw [← hP]; exact Int.mul_nonneg k0 hm0
    have P1 : Hid (k < 4294967296 → P ≤ 18446744065119617025) := fun h => (step_in hm hP h hm0 k0).2
    by_cases hcd : 4294967296 ≤ k ∨ 4294967296 * r + v1 < P
    · obtain ⟨hl, hp⟩ := round_less hB.out HK.out hU hv0 hv (by rw [hP]; exact hcd)
      by_cases hb : r + n < 4294967296
      · have HN : Hid (Rel U v1 Y n m (k - 1) (r + n)) := round_next hB.out HK.out hl hp hb
        rw [hP] at hl
        clear HK hcd
        by_cases hc : 4294967296 ≤ k
        · go_wp2
          go_round
          case rel => exact ⟨_, _, rfl, rfl, HN.out⟩
          case measure => simp [intOf]; omega
        · have P2 := P1.out (by omega)
          go_wp2
          go_round
          case rel => exact ⟨_, _, rfl, rfl, HN.out⟩
          case measure => simp [intOf]; omega
      · obtain ⟨E, hD⟩ := round_out hB.out HK.out hU hv0 hv hl hp (by omega)
        rw [hP] at hl
        clear HK hcd
        obtain ⟨q, hk⟩ : ∃ q, k - 1 = q := ⟨_, rfl⟩
        rw [hk] at hD
        have HD : Hid (Digit U v1 Y q E) := hD
        obtain ⟨D1, D2, D3, D4, D5⟩ := hD
        have hch := chain D1 D2 (by omega)
        clear D1
        obtain ⟨q', hq'⟩ : ∃ q, E / n = q := ⟨_, rfl⟩
        have HR : Hid (Rel E v0 Y n m q' (E - q' * n)) := round_first hB.out D2 D3 hz hq'
        obtain ⟨R1, R2, R3, R4, R5, R6⟩ := HR.out
        clear R1 R6
        obtain ⟨M', hM'⟩ : ∃ M, q' * n = M := ⟨_, rfl⟩
        rw [hM'] at R4 R5 HR
        have M0' : 0 ≤ M' := by rw [← hM']; exact Int.mul_nonneg R2 (by omega)
        by_cases hc : 4294967296 ≤ k
        · go_wp2
          clear hch
          go_loop [18, 16] (fun a b => ∃ q r : Int, a = .int .u64 q ∧ b = .int .u64 r ∧ Rel E v0 Y n m q r) (fun a _ => (intOf a).toNat)
          case atStart => exact ⟨q', E - M', rfl, rfl, HR.out⟩
          case round =>
            obtain ⟨j, t, rfl, rfl, hR⟩ := hrel
            have HK : Hid (Rel E v0 Y n m j t) := hR
            clear hR HR hq' hM' R2 R3 R4 R5 M0'
            obtain ⟨R1, j0, j1, t0, t1, R6⟩ := HK.out
            clear R1 R6
            obtain ⟨O, hO⟩ : ∃ O, j * m = O := ⟨_, rfl⟩
            have O0 : 0 ≤ O := by rw [← hO]; exact Int.mul_nonneg j0 hm0
            have O1 : Hid (j < 4294967296 → O ≤ 18446744065119617025) := fun h => (step_in hm hO h hm0 j0).2
            by_cases hcd' : 4294967296 ≤ j ∨ 4294967296 * t + v0 < O
            · obtain ⟨hl', hp'⟩ := round_less hB.out HK.out D3 hz0 hz (by rw [hO]; exact hcd')
              by_cases hb' : t + n < 4294967296
              · have HN : Hid (Rel E v0 Y n m (j - 1) (t + n)) := round_next hB.out HK.out hl' hp' hb'
                rw [hO] at hl'
                clear HK hcd'
                by_cases hc' : 4294967296 ≤ j
                · go_wp2
                  go_round
                  case rel => exact ⟨_, _, rfl, rfl, HN.out⟩
                  case measure => simp [intOf]; omega
                · have O2 := O1.out (by omega)
                  go_wp2
                  go_round
                  case rel => exact ⟨_, _, rfl, rfl, HN.out⟩
                  case measure => simp [intOf]; omega
              · obtain ⟨E', hD'⟩ := round_out hB.out HK.out D3 hz0 hz hl' hp' (by omega)
                rw [hO] at hl'
                clear HK hcd'
                obtain ⟨z, hz'⟩ : ∃ z, j - 1 = z := ⟨_, rfl⟩
                rw [hz'] at hD'
                have HD' : Hid (Digit E v0 Y z E') := hD'
                obtain ⟨F1, F2, F3, F4, F5⟩ := hD'
                have hch := chain F1 F2 (by omega)
                clear F1
                by_cases hc' : 4294967296 ≤ j
                · go_wp2
                  go_ret2
                  exact ⟨q, E, z, E', rfl, HD.out, HD'.out, rfl⟩
                · have O2 := O1.out (by omega)
                  go_wp2
                  go_ret2
                  exact ⟨q, E, z, E', rfl, HD.out, HD'.out, rfl⟩
            · obtain ⟨E', hD'⟩ := round_end hB.out HK.out (by omega) (by omega)
              clear HK
              have HD' : Hid (Digit E v0 Y j E') := hD'
              obtain ⟨F1, F2, F3, F4, F5⟩ := hD'
              have hch := chain F1 F2 (by omega)
              clear F1
              have O2 := O1.out (by omega)
              go_wp2
              go_ret2
              exact ⟨q, E, j, E', rfl, HD.out, HD'.out, rfl⟩
        · have P2 := P1.out (by omega)
          go_wp2
          clear hch
          go_loop [18, 16] (fun a b => ∃ q r : Int, a = .int .u64 q ∧ b = .int .u64 r ∧ Rel E v0 Y n m q r) (fun a _ => (intOf a).toNat)
          case atStart => exact ⟨q', E - M', rfl, rfl, HR.out⟩
          case round =>
            obtain ⟨j, t, rfl, rfl, hR⟩ := hrel
            have HK : Hid (Rel E v0 Y n m j t) := hR
            clear hR HR hq' hM' R2 R3 R4 R5 M0'
            obtain ⟨R1, j0, j1, t0, t1, R6⟩ := HK.out
            clear R1 R6
            obtain ⟨O, hO⟩ : ∃ O, j * m = O := ⟨_, rfl⟩
            have O0 : 0 ≤ O := by rw [← hO]; exact Int.mul_nonneg j0 hm0
            have O1 : Hid (j < 4294967296 → O ≤ 18446744065119617025) := fun h => (step_in hm hO h hm0 j0).2
            by_cases hcd' : 4294967296 ≤ j ∨ 4294967296 * t + v0 < O
            · obtain ⟨hl', hp'⟩ := round_less hB.out HK.out D3 hz0 hz (by rw [hO]; exact hcd')
              by_cases hb' : t + n < 4294967296
              · have HN : Hid (Rel E v0 Y n m (j - 1) (t + n)) := round_next hB.out HK.out hl' hp' hb'
                rw [hO] at hl'
                clear HK hcd'
                by_cases hc' : 4294967296 ≤ j
                · go_wp2
                  go_round
                  case rel => exact ⟨_, _, rfl, rfl, HN.out⟩
                  case measure => simp [intOf]; omega
                · have O2 := O1.out (by omega)
                  go_wp2
                  go_round
                  case rel => exact ⟨_, _, rfl, rfl, HN.out⟩
                  case measure => simp [intOf]; omega
              · obtain ⟨E', hD'⟩ := round_out hB.out HK.out D3 hz0 hz hl' hp' (by omega)
                rw [hO] at hl'
                clear HK hcd'
                obtain ⟨z, hz'⟩ : ∃ z, j - 1 = z := ⟨_, rfl⟩
                rw [hz'] at hD'
                have HD' : Hid (Digit E v0 Y z E') := hD'
                obtain ⟨F1, F2, F3, F4, F5⟩ := hD'
                have hch := chain F1 F2 (by omega)
                clear F1
                by_cases hc' : 4294967296 ≤ j
                · go_wp2
                  go_ret2
                  exact ⟨q, E, z, E', rfl, HD.out, HD'.out, rfl⟩
                · have O2 := O1.out (by omega)
                  go_wp2
                  go_ret2
                  exact ⟨q, E, z, E', rfl, HD.out, HD'.out, rfl⟩
            · obtain ⟨E', hD'⟩ := round_end hB.out HK.out (by omega) (by omega)
              clear HK
              have HD' : Hid (Digit E v0 Y j E') := hD'
              obtain ⟨F1, F2, F3, F4, F5⟩ := hD'
              have hch := chain F1 F2 (by omega)
              clear F1
              have O2 := O1.out (by omega)
              go_wp2
              go_ret2
              exact ⟨q, E, j, E', rfl, HD.out, HD'.out, rfl⟩
    · obtain ⟨E, hD⟩ := round_end hB.out HK.out (by omega) (by omega)
      clear HK
      obtain ⟨q, hk⟩ : ∃ q, k = q := ⟨_, rfl⟩
      subst hk
      have HD : Hid (Digit U v1 Y k E) := hD
      obtain ⟨D1, D2, D3, D4, D5⟩ := hD
      have hch := chain D1 D2 (by omega)
      clear D1
      have P2 := P1.out (by omega)
      obtain ⟨q', hq'⟩ : ∃ q, E / n = q := ⟨_, rfl⟩
      have HR : Hid (Rel E v0 Y n m q' (E - q' * n)) := round_first hB.out D2 D3 hz hq'
      obtain ⟨R1, R2, R3, R4, R5, R6⟩ := HR.out
      clear R1 R6
      obtain ⟨M', hM'⟩ : ∃ M, q' * n = M := ⟨_, rfl⟩
      rw [hM'] at R4 R5 HR
      have M0' : 0 ≤ M' := by rw [← hM']; exact Int.mul_nonneg R2 (by omega)
      go_wp2
      clear hch
      go_loop [18, 16] (fun a b => ∃ q r : Int, a = .int .u64 q ∧ b = .int .u64 r ∧ Rel E v0 Y n m q r) (fun a _ => (intOf a).toNat)
      case atStart => exact ⟨q', E - M', rfl, rfl, HR.out⟩
      case round =>
        obtain ⟨j, t, rfl, rfl, hR⟩ := hrel
        have HK : Hid (Rel E v0 Y n m j t) := hR
        clear hR HR hq' hM' R2 R3 R4 R5 M0'
        obtain ⟨R1, j0, j1, t0, t1, R6⟩ := HK.out
        clear R1 R6
        obtain ⟨O, hO⟩ : ∃ O, j * m = O := ⟨_, rfl⟩
        have O0 : 0 ≤ O := by rw [← hO]; exact Int.mul_nonneg j0 hm0
        have O1 : Hid (j < 4294967296 → O ≤ 18446744065119617025) := fun h => (step_in hm hO h hm0 j0).2
        by_cases hcd' : 4294967296 ≤ j ∨ 4294967296 * t + v0 < O
        · obtain ⟨hl', hp'⟩ := round_less hB.out HK.out D3 hz0 hz (by rw [hO]; exact hcd')
          by_cases hb' : t + n < 4294967296
          · have HN : Hid (Rel E v0 Y n m (j - 1) (t + n)) := round_next hB.out HK.out hl' hp' hb'
            rw [hO] at hl'
            clear HK hcd'
            by_cases hc' : 4294967296 ≤ j
            · go_wp2
              go_round
              case rel => exact ⟨_, _, rfl, rfl, HN.out⟩
              case measure => simp [intOf]; omega
            · have O2 := O1.out (by omega)
              go_wp2
              go_round
              case rel => exact ⟨_, _, rfl, rfl, HN.out⟩
              case measure => simp [intOf]; omega
          · obtain ⟨E', hD'⟩ := round_out hB.out HK.out D3 hz0 hz hl' hp' (by omega)
            rw [hO] at hl'
            clear HK hcd'
            obtain ⟨z, hz'⟩ : ∃ z, j - 1 = z := ⟨_, rfl⟩
            rw [hz'] at hD'
            have HD' : Hid (Digit E v0 Y z E') := hD'
            obtain ⟨F1, F2, F3, F4, F5⟩ := hD'
            have hch := chain F1 F2 (by omega)
            clear F1
            by_cases hc' : 4294967296 ≤ j
            · go_wp2
              go_ret2
              exact ⟨k, E, z, E', rfl, HD.out, HD'.out, rfl⟩
            · have O2 := O1.out (by omega)
              go_wp2
              go_ret2
              exact ⟨k, E, z, E', rfl, HD.out, HD'.out, rfl⟩
        · obtain ⟨E', hD'⟩ := round_end hB.out HK.out (by omega) (by omega)
          clear HK
          have HD' : Hid (Digit E v0 Y j E') := hD'
          obtain ⟨F1, F2, F3, F4, F5⟩ := hD'
          have hch := chain F1 F2 (by omega)
          clear F1
          have O2 := O1.out (by omega)
          go_wp2
          go_ret2
          exact ⟨k, E, j, E', rfl, HD.out, HD'.out, rfl⟩
end Go.Proofs.Ytnagkbdnondklab
