/-
  The law FloatsBack, walked.
-/
import Derived.Test.YtcpgamhekelamaaDoorFback
namespace Go.Proofs.YtcpgamhekelamaaDoor
open Go.RowKit
set_option linter.unusedVariables false

theorem fback_any (x : Int) (r : Nat) (w : World) (hr : floatBits .quo .f64 (floatOfInt .f64 x) 4751297606875873280 = some r) :
    Calls Tryd.prog 14 #[.int .i64 x] w fun e w' => e = .returned (.float .f64 r) ∧ w' = w := by
  have hd := fun (t : TypeId) (w : World) => run_float_arith (P := Tryd.prog) w .quo t .f64 (floatOfInt .f64 x) 4751297606875873280 r hr
  clear hr
  go_enter Tryd.func14, Tryd.ntmps14
  go_wp2
  go_ret
  exact ⟨rfl, rfl⟩
theorem rback_any (x : Int) (r : Nat) (w : World) (hx : (x == 0) = false) (hr : floatBits .quo .f64 (floatOfInt .f64 x) 4751297606875873280 = some r) :
    Calls Tryd.prog 16 #[.int .i64 x] w fun e w' => e = .returned (.float .f64 r) ∧ w' = w := by
  have hd := fun (t : TypeId) (w : World) => run_float_arith (P := Tryd.prog) w .quo t .f64 (floatOfInt .f64 x) 4751297606875873280 r hr
  clear hr
  go_enter Tryd.func16, Tryd.ntmps16
  go_wp2
  go_ret
  exact ⟨rfl, rfl⟩
theorem rback_zero (w : World) : Calls Tryd.prog 16 #[.int .i64 0] w fun e w' => e = .returned (.float .f64 0) ∧ w' = w := by
  go_enter Tryd.func16, Tryd.ntmps16
  go_wp2
  go_ret
  exact ⟨rfl, rfl⟩

theorem lback_core (x y : Int) (r : Nat) (w : World) (h0 : -9223372036854775808 ≤ x) (h1 : x ≤ 9223372036854775807) (hr : (((r : Nat) : Int) == 9223372036854775808) = false) (hy : -9007199254740992 ≤ x → x ≤ 9007199254740992 → y = x)
    (c1 : ∀ w, Calls Tryd.prog 14 #[.int .i64 x] w fun e w' => e = .returned (.float .f64 r) ∧ w' = w)
    (c2 : ∀ w, Calls Tryd.prog 16 #[.int .i64 x] w fun e w' => e = .returned (.float .f64 r) ∧ w' = w)
    (c3 : ∀ w, Calls Tryd.prog 11 #[.float .f64 r] w fun e w' => e = .returned (.tuple #[.int .i64 y, .int .i64 0]) ∧ w' = w) :
    Calls Tryd.prog 5 #[.int .i64 x] w fun e w' => e = .returned (.bool true) ∧ Stay w w' := by
  have hb := run_bits
  by_cases k1 : 9007199254740992 < x
  · clear hy
    go_enter Tryd.func5, Tryd.ntmps5
    go_wp2_with (first | (go_at_call 9; refine (alive_any _).mono ?_; rintro e w1 ⟨rfl, hg⟩) | (go_at_call 14; refine (c1 _).mono ?_; rintro e w' ⟨rfl, rfl⟩) | (go_at_call 16; refine (c2 _).mono ?_; rintro e w' ⟨rfl, rfl⟩) | (go_at_call 11; refine (c3 _).mono ?_; rintro e w' ⟨rfl, rfl⟩) | (go_at_call 13; refine (num_any _ _).mono ?_; rintro e w' ⟨rfl, rfl⟩))
    go_ret
    exact ⟨rfl, hg⟩
  · by_cases k2 : x < -9007199254740992
    · clear hy
      go_enter Tryd.func5, Tryd.ntmps5
      go_wp2_with (first | (go_at_call 9; refine (alive_any _).mono ?_; rintro e w1 ⟨rfl, hg⟩) | (go_at_call 14; refine (c1 _).mono ?_; rintro e w' ⟨rfl, rfl⟩) | (go_at_call 16; refine (c2 _).mono ?_; rintro e w' ⟨rfl, rfl⟩) | (go_at_call 11; refine (c3 _).mono ?_; rintro e w' ⟨rfl, rfl⟩) | (go_at_call 13; refine (num_any _ _).mono ?_; rintro e w' ⟨rfl, rfl⟩))
      go_ret
      exact ⟨rfl, hg⟩
    · have e := hy (by omega) (by omega)
      subst e
      clear hy
      go_enter Tryd.func5, Tryd.ntmps5
      go_wp2_with (first | (go_at_call 9; refine (alive_any _).mono ?_; rintro e w1 ⟨rfl, hg⟩) | (go_at_call 14; refine (c1 _).mono ?_; rintro e w' ⟨rfl, rfl⟩) | (go_at_call 16; refine (c2 _).mono ?_; rintro e w' ⟨rfl, rfl⟩) | (go_at_call 11; refine (c3 _).mono ?_; rintro e w' ⟨rfl, rfl⟩) | (go_at_call 13; refine (num_any _ _).mono ?_; rintro e w' ⟨rfl, rfl⟩))
      go_ret
      exact ⟨rfl, hg⟩

theorem lback_any (x : Int) (w : World) (h0 : -9223372036854775808 ≤ x) (h1 : x ≤ 9223372036854775807) :
    Calls Tryd.prog 5 #[.int .i64 x] w fun e w' => e = .returned (.bool true) ∧ Stay w w' := by
  by_cases hx : x = 0
  · subst hx
    have hz : floatBits .quo .f64 (floatOfInt .f64 0) 4751297606875873280 = some 0 := by decide +kernel
    have ho := fun w => of_num 0 w (by decide) (by decide)
    rw [show ofF ((0 : Nat) : Int) = 0 by decide +kernel] at ho
    exact lback_core 0 0 0 w h0 h1 (by decide) (fun _ _ => rfl) (fun w => fback_any 0 0 w hz) rback_zero ho
  · obtain ⟨r, r1, r2, r3, r4, r5⟩ := back_num x h0 h1 hx
    exact lback_core x _ r w h0 h1 (by simp; omega) r5 (fun w => fback_any x r w r1) (fun w => rback_any x r w (by simpa using hx) r1) (fun w => of_num r w r2 r3)
end Go.Proofs.YtcpgamhekelamaaDoor
