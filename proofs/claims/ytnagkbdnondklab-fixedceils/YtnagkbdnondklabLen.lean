/-
  What math/bits.Len64 and LeadingZeros64 return, for all words.
-/
import Derived.Test.YtnagkbdnondklabSmall
import Derived.Lib.BitFns
import Derived.Lib.ItoaNum
namespace Go.Proofs.Ytnagkbdnondklab
open Go.RowKit
set_option linter.unusedVariables false

def lenZ (x : Int) : Int := (Lib.bitLen x.toNat : Int)
theorem len_bd (x : Int) (h0 : 0 ≤ x) (h1 : x ≤ 18446744073709551615) : 0 ≤ lenZ x ∧ lenZ x ≤ 64 := by
  unfold lenZ
  have := Lib.bitLen_le x.toNat 64 (by omega) (by omega)
  omega
theorem len_two (x : Int) (h0 : 0 < x) (h1 : x ≤ 18446744073709551615) : ∃ n : Nat, lenZ x = n + 1 ∧ n ≤ 63 ∧ (2 : Int) ^ n ≤ x ∧ x < 2 ^ (n + 1) := by
  obtain ⟨a, b, c⟩ := Lib.bitLenAux_bounds 64 x.toNat (by omega) (by omega)
  have l := Lib.bitLen_le x.toNat 64 (by omega) (by omega)
  unfold Lib.bitLen at l
  refine ⟨Lib.bitLenAux 64 x.toNat - 1, by unfold lenZ Lib.bitLen; omega, by omega, ?_, ?_⟩
  · have : ((2 ^ (Lib.bitLenAux 64 x.toNat - 1) : Nat) : Int) ≤ x := by omega
    rw [Int.natCast_pow] at this; exact this
  · have e : Lib.bitLenAux 64 x.toNat - 1 + 1 = Lib.bitLenAux 64 x.toNat := by omega
    rw [e]
    have : x < ((2 ^ Lib.bitLenAux 64 x.toNat : Nat) : Int) := by omega
    rw [Int.natCast_pow] at this; exact this

theorem ediv_nat (x : Int) (m : Nat) (hx : 0 ≤ x) : (x / (m : Int)).toNat = x.toNat / m := by
  obtain ⟨n, rfl⟩ : ∃ n : Nat, x = n := ⟨x.toNat, by omega⟩
  rw [← Int.natCast_ediv, Int.toNat_natCast, Int.toNat_natCast]

theorem len_way (x v : Int) (c : Nat) (m : Nat) (hm : 2 ^ c = m) (h1 : x ≤ 18446744073709551615) (hc : (m : Int) ≤ x) (hv : v = x / (m : Int)) (hv' : v < 256) : (c : Int) + Lib.len8 v = lenZ x := by
  have hm0 : 0 < m := by rw [← hm]; exact Nat.two_pow_pos c
  have hx : 0 ≤ x := by omega
  have v0 : 0 ≤ v := by rw [hv]; exact Int.ediv_nonneg hx (by omega)
  rw [Lib.len8_of v v0 (by omega)]
  unfold lenZ
  rw [Lib.bitLen_shift c x.toNat (by omega) (by omega)]
  have e : v.toNat = x.toNat / 2 ^ c := by rw [hv, hm, ediv_nat x m hx]
  rw [e]; omega

theorem len8_bd (v : Int) (h0 : 0 ≤ v) (h1 : v < 256) : 0 ≤ Lib.len8 v ∧ Lib.len8 v ≤ 8 := by
  rw [Lib.len8_of v h0 (by omega)]
  have := Lib.bitLen_le8' v h0 (by omega)
  omega

set_option maxRecDepth 100000 in
theorem len64_any (x : Int) (w : World) (h0 : 0 ≤ x) (h1 : x ≤ 18446744073709551615) :
    Calls Try.prog 26 #[.int .u64 x] w fun e w' => e = .returned (.int .i64 (lenZ x)) ∧ w' = w := by
  have key : ∀ (i : Int) (w : World), 0 ≤ i → i < 256 → (Instr.index 9 (.string Lib.len8tab) (.int .u8 i)).run Try.prog w = .ok (.int .u8 (Lib.len8 i)) w := fun i w a b => Lib.run_index_len8tab w _ _ i Try.underlying9 a (by omega)
  by_cases a : 4294967296 ≤ x
  · by_cases b : 65536 ≤ x / 4294967296
    · by_cases c : 256 ≤ x / 4294967296 / 65536
      · have v0 : 0 ≤ x / 4294967296 / 65536 / 256 := by omega
        have v1 : x / 4294967296 / 65536 / 256 < 256 := by omega
        obtain ⟨l0, l1⟩ := len8_bd (x / 4294967296 / 65536 / 256) v0 v1
        have e : 56 + Lib.len8 (x / 4294967296 / 65536 / 256) = lenZ x := len_way x (x / 4294967296 / 65536 / 256) 56 72057594037927936 (by decide) h1 (by omega) (by omega) v1
        rw [← e]
        clear e
        go_enter Try.func26, Try.ntmps26
        go_wp2
        go_ret
        exact ⟨ret_int (by omega), rfl⟩
      · have v0 : 0 ≤ x / 4294967296 / 65536 := by omega
        have v1 : x / 4294967296 / 65536 < 256 := by omega
        obtain ⟨l0, l1⟩ := len8_bd (x / 4294967296 / 65536) v0 v1
        have e : 48 + Lib.len8 (x / 4294967296 / 65536) = lenZ x := len_way x (x / 4294967296 / 65536) 48 281474976710656 (by decide) h1 (by omega) (by omega) v1
        rw [← e]
        clear e
        go_enter Try.func26, Try.ntmps26
        go_wp2
        go_ret
        exact ⟨ret_int (by omega), rfl⟩
    · by_cases c : 256 ≤ x / 4294967296
      · have v0 : 0 ≤ x / 4294967296 / 256 := by omega
        have v1 : x / 4294967296 / 256 < 256 := by omega
        obtain ⟨l0, l1⟩ := len8_bd (x / 4294967296 / 256) v0 v1
        have e : 40 + Lib.len8 (x / 4294967296 / 256) = lenZ x := len_way x (x / 4294967296 / 256) 40 1099511627776 (by decide) h1 (by omega) (by omega) v1
        rw [← e]
        clear e
        go_enter Try.func26, Try.ntmps26
        go_wp2
        go_ret
        exact ⟨ret_int (by omega), rfl⟩
      · have v0 : 0 ≤ x / 4294967296 := by omega
        have v1 : x / 4294967296 < 256 := by omega
        obtain ⟨l0, l1⟩ := len8_bd (x / 4294967296) v0 v1
        have e : 32 + Lib.len8 (x / 4294967296) = lenZ x := len_way x (x / 4294967296) 32 4294967296 (by decide) h1 (by omega) (by omega) v1
        rw [← e]
        clear e
        go_enter Try.func26, Try.ntmps26
        go_wp2
        go_ret
        exact ⟨ret_int (by omega), rfl⟩
  · by_cases b : 65536 ≤ x
    · by_cases c : 256 ≤ x / 65536
      · have v0 : 0 ≤ x / 65536 / 256 := by omega
        have v1 : x / 65536 / 256 < 256 := by omega
        obtain ⟨l0, l1⟩ := len8_bd (x / 65536 / 256) v0 v1
        have e : 24 + Lib.len8 (x / 65536 / 256) = lenZ x := len_way x (x / 65536 / 256) 24 16777216 (by decide) h1 (by omega) (by omega) v1
        rw [← e]
        clear e
        go_enter Try.func26, Try.ntmps26
        go_wp2
        go_ret
        exact ⟨ret_int (by omega), rfl⟩
      · have v0 : 0 ≤ x / 65536 := by omega
        have v1 : x / 65536 < 256 := by omega
        obtain ⟨l0, l1⟩ := len8_bd (x / 65536) v0 v1
        have e : 16 + Lib.len8 (x / 65536) = lenZ x := len_way x (x / 65536) 16 65536 (by decide) h1 (by omega) (by omega) v1
        rw [← e]
        clear e
        go_enter Try.func26, Try.ntmps26
        go_wp2
        go_ret
        exact ⟨ret_int (by omega), rfl⟩
    · by_cases c : 256 ≤ x
      · have v0 : 0 ≤ x / 256 := by omega
        have v1 : x / 256 < 256 := by omega
        obtain ⟨l0, l1⟩ := len8_bd (x / 256) v0 v1
        have e : 8 + Lib.len8 (x / 256) = lenZ x := len_way x (x / 256) 8 256 (by decide) h1 (by omega) (by omega) v1
        rw [← e]
        clear e
        go_enter Try.func26, Try.ntmps26
        go_wp2
        go_ret
        exact ⟨ret_int (by omega), rfl⟩
      · have v0 : 0 ≤ x := by omega
        have v1 : x < 256 := by omega
        obtain ⟨l0, l1⟩ := len8_bd (x) v0 v1
        have e : Lib.len8 (x) = lenZ x := by unfold lenZ; rw [Lib.len8_of x v0 (by omega)]
        rw [← e]
        clear e
        go_enter Try.func26, Try.ntmps26
        go_wp2
        go_ret
        exact ⟨ret_int (by omega), rfl⟩

theorem lead64_any (x : Int) (w : World) (h0 : 0 ≤ x) (h1 : x ≤ 18446744073709551615) :
    Calls Try.prog 25 #[.int .u64 x] w fun e w' => e = .returned (.int .i64 (64 - lenZ x)) ∧ w' = w := by
  obtain ⟨l0, l1⟩ := len_bd x h0 h1
  go_enter Try.func25, Try.ntmps25
  go_wp2_with (go_at_call 26; refine (len64_any _ _ (by omega) (by omega)).mono ?_; rintro e w' ⟨rfl, rfl⟩)
  go_ret
  exact ⟨rfl, rfl⟩
end Go.Proofs.Ytnagkbdnondklab
