/-
  varint.Get and the document's own Get.
-/
import Derived.Test.YtdgkdgbdkhnpcaaVput
namespace Go.Proofs.Ytdgkdgbdkhnpcaa.U
open Go.RowKit Go.Proofs.Lys
set_option linter.unusedVariables false

/-- What Get answers. -/
def got (x : Nat × Nat × Nat) : Value := .tuple #[.int .i64 (wrap64 (x.1 : Int)), .int .i64 (x.2.1 : Int), .int .i64 (x.2.2 : Int)]

theorem andnot_128 (c : Nat) (h : c < 256) : bits .andNot .u8 (c : Int) 128 = ((c % 128 : Nat) : Int) := by
  have : ∀ c, c < 256 → bits .andNot .u8 ((c : Nat) : Int) 128 = ((c % 128 : Nat) : Int) := by decide +kernel
  exact this c h
theorem and_127b (c : Nat) (h : c < 256) : bits .and .u8 (c : Int) 127 = ((c % 128 : Nat) : Int) := by
  have : ∀ c, c < 256 → bits .and .u8 ((c : Nat) : Int) 127 = ((c % 128 : Nat) : Int) := by decide +kernel
  exact this c h
/-- The piece of a byte comes back from where it is shifted, or doesn't. -/
theorem shift_fact (p k S : Nat) (hp : p < 128) (hk : k ≤ 9) (hS : 7 * k = S) : ∃ q r : Nat, IntKind.u64.wrap ((p : Int) * 2 ^ S) = (q : Int) ∧ (q : Int) / 2 ^ S = (r : Int) ∧ (k = 9 ∧ 1 < p → r ≠ p) ∧ (¬ (k = 9 ∧ 1 < p) → r = p ∧ q = p * 2 ^ (7 * k)) ∧ q < 18446744073709551616 := by
  subst hS
  have h2 : (0 : Nat) < 2 ^ (7 * k) := Nat.two_pow_pos _
  refine ⟨p * 2 ^ (7 * k) % 18446744073709551616, p * 2 ^ (7 * k) % 18446744073709551616 / 2 ^ (7 * k), by simp [IntKind.wrap, IntKind.bits, IntKind.signed], by simp, ?_, ?_, Nat.mod_lt _ (by decide)⟩
  · rintro ⟨rfl, h⟩
    rw [show (2 : Nat) ^ (7 * 9) = 9223372036854775808 by decide]
    omega
  · intro h
    have hlt : p * 2 ^ (7 * k) < 18446744073709551616 := by
      have := piece_word (n := 0) h2 hp hk (by omega)
      simpa using this
    rw [Nat.mod_eq_of_lt hlt]
    exact ⟨Nat.mul_div_cancel _ h2, rfl⟩
theorem or_word (n p k q : Nat) (h : n < 2 ^ (7 * k)) (hn : n < 18446744073709551616) (hq : q = p * 2 ^ (7 * k)) (hq2 : q < 18446744073709551616) : bits .or .u64 (n : Int) (q : Int) = ((n + p * 2 ^ (7 * k) : Nat) : Int) := by
  rw [u64_or_nat n q hn hq2, hq, or_piece n p k h]

theorem got_err : got (0, 0, 5) = .tuple #[.int .i64 0, .int .i64 0, .int .i64 5] := by simp [got, wrap64]
theorem andnot_0 : bits .andNot .u8 0 128 = 0 := by decide
theorem or_0 (n : Nat) (h : n < 18446744073709551616) : bits .or .u64 (n : Int) 0 = (n : Int) := by
  have := u64_or_nat n 0 h (by decide)
  simpa using this

end Go.Proofs.Ytdgkdgbdkhnpcaa.U
