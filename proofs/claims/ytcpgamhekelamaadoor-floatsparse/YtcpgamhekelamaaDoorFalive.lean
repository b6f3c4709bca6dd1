/-
  The document's examples of chapter 2 hold.
-/
import Derived.Test.YtcpgamhekelamaaDoorFshow
namespace Go.Proofs.YtcpgamhekelamaaDoor
open Go.RowKit
set_option linter.unusedVariables false

theorem ex_of (w : World) : Calls Tryd.prog 11 #[.float .f64 4591870180066957722] w fun e w' => e = .returned (.tuple #[.int .i64 429496729, .int .i64 0]) ∧ w' = w := by
  have := of_num 4591870180066957722 w (by decide) (by decide)
  rw [show ofF ((4591870180066957722 : Nat) : Int) = 429496729 by decide +kernel] at this
  exact this
theorem ex_parse (w : World) : Calls Tryd.prog 19 #[.string ⟨#[45, 48, 46, 53]⟩] w fun e w' => e = .returned (.tuple #[.int .i64 (-2147483648), .int .i64 0]) ∧ Stay w w' := by
  have := parse_any ⟨#[45, 48, 46, 53]⟩ w (by decide)
  rw [show parseN (ByteArray.mk #[45, 48, 46, 53]).data.toList = -2147483648 by decide +kernel, show parseE (ByteArray.mk #[45, 48, 46, 53]).data.toList = 0 by decide +kernel] at this
  exact this
theorem ex_bits (w : World) : Calls Tryd.prog 17 #[.string ⟨#[102, 102, 102, 48, 48, 48, 48, 48, 48, 48, 48, 48, 48, 48, 48, 48]⟩] w fun e w' => e = .returned (.tuple #[.int .i64 (-9223372036854775808), .int .i64 0]) ∧ w' = w := by
  have := bits_any ⟨#[102, 102, 102, 48, 48, 48, 48, 48, 48, 48, 48, 48, 48, 48, 48, 48]⟩ w
  rw [show bitsN (ByteArray.mk #[102, 102, 102, 48, 48, 48, 48, 48, 48, 48, 48, 48, 48, 48, 48, 48]).data.toList = -9223372036854775808 by decide +kernel, show bitsE (ByteArray.mk #[102, 102, 102, 48, 48, 48, 48, 48, 48, 48, 48, 48, 48, 48, 48, 48]).data.toList = 0 by decide +kernel] at this
  exact this
theorem ex_show (w : World) : Calls Tryd.prog 21 #[.int .i64 1] w fun e w' => e = .returned (.string ⟨#[48, 46, 48, 48, 48, 48, 48, 48, 48, 48, 48, 50, 51, 50, 56, 51, 48, 54, 52, 51, 54, 53, 51, 56, 54, 57, 54, 50, 56, 57, 48, 54, 50, 53]⟩) ∧ Stay w w' := by
  have := show_small 1 w (by decide) (by decide)
  have e : showL 1 = [48, 46, 48, 48, 48, 48, 48, 48, 48, 48, 48, 50, 51, 50, 56, 51, 48, 54, 52, 51, 54, 53, 51, 56, 54, 57, 54, 50, 56, 57, 48, 54, 50, 53] := by
    unfold showL
    rw [if_neg (by decide), show Lib.decDigits ((1 : Int) / 4294967296).toNat = [48] by rw [Lib.decDigits]; rfl]
    decide +kernel
  rw [e] at this
  exact this

theorem num_any (n : Int) (w : World) : Calls Tryd.prog 13 #[.int .i64 n] w fun e w' => e = .returned (.int .i64 n) ∧ w' = w := by
  go_enter Tryd.func13, Tryd.ntmps13
  go_wp2
  go_ret
  exact ⟨rfl, rfl⟩

set_option maxHeartbeats 800000 in
theorem alive_any (w : World) : Calls Tryd.prog 9 #[] w fun e w' => e = .returned (.bool true) ∧ Stay w w' := by
  go_enter Tryd.func9, Tryd.ntmps9
  go_wp2_with (first | (go_at_call 11; refine (ex_of _).mono ?_; rintro e w' ⟨rfl, rfl⟩) | (go_at_call 19; refine (ex_parse _).mono ?_; rintro e w1 ⟨rfl, hg1⟩) | (go_at_call 17; refine (ex_bits _).mono ?_; rintro e w' ⟨rfl, rfl⟩) | (go_at_call 21; refine (ex_show _).mono ?_; rintro e w2 ⟨rfl, hg2⟩) | (go_at_call 13; refine (num_any _ _).mono ?_; rintro e w' ⟨rfl, rfl⟩))
  go_ret
  exact ⟨rfl, hg1.trans hg2⟩
end Go.Proofs.YtcpgamhekelamaaDoor
