/-
  The law FloatsEdges, case by case: the floats at the edges.
-/
import Derived.Test.YtcpgamhekelamaaDoorFalive
namespace Go.Proofs.YtcpgamhekelamaaDoor
open Go.RowKit
set_option linter.unusedVariables false

theorem or_nan (x : Int) (h0 : 0 ≤ x) (h1 : x ≤ 18446744073709551615) : 0 ≤ bits .or .u64 9218868437227405313 x ∧ bits .or .u64 9218868437227405313 x ≤ 18446744073709551615 ∧ errF (bits .or .u64 9218868437227405313 x) = 3 := by
  obtain ⟨n, rfl⟩ : ∃ n : Nat, x = n := ⟨x.toNat, by omega⟩
  have e : bits .or .u64 9218868437227405313 (n : Int) = ((9218868437227405313 ||| n : Nat) : Int) := bits_or_u64_nat 9218868437227405313 n (by omega) (by omega)
  rw [e]
  have b : 9218868437227405313 ||| n < 2 ^ 64 := Nat.or_lt_two_pow (by decide) (by omega)
  refine ⟨by omega, by omega, ?_⟩
  have m := Nat.or_mod_two_pow (a := 9218868437227405313) (b := n) (n := 63)
  have l : 9218868437227405313 % 2 ^ 63 ≤ 9218868437227405313 % 2 ^ 63 ||| n % 2 ^ 63 := Nat.left_le_or
  rw [← m] at l
  have hn : nanF ((9218868437227405313 ||| n : Nat) : Int) = true := by
    unfold nanF
    rw [decide_eq_true_eq]
    omega
  unfold errF
  rw [hn]
  rfl

theorem edges_out (a b : Int) (w : World) (h : a < 0 ∨ 15 < a) :
    Calls Tryd.prog 4 #[.int .i64 a, .int .i64 b] w fun e w' => e = .returned (.bool true) ∧ Stay w w' := by
  rcases h with h | h
  all_goals
    go_enter Tryd.func4, Tryd.ntmps4
    go_wp2_with (go_at_call 9; refine (alive_any _).mono ?_; rintro e w1 ⟨rfl, hg⟩)
    go_ret
    exact ⟨rfl, (hg.alloc _).alloc _⟩

theorem edges_nan (b x y : Int) (w : World) (hx : IntKind.u64.wrap b = x) (hy : bits .or .u64 9218868437227405313 x = y) (x0 : 0 ≤ x) (x1 : x ≤ 18446744073709551615) (y0 : 0 ≤ y) (y1 : y ≤ 18446744073709551615) (ye : errF y = 3) :
    Calls Tryd.prog 4 #[.int .i64 15, .int .i64 b] w fun e w' => e = .returned (.bool true) ∧ Stay w w' := by
  have hf := run_from
  go_enter Tryd.func4, Tryd.ntmps4
  go_wp2_with (first | (go_at_call 9; refine (alive_any _).mono ?_; rintro e w1 ⟨rfl, hg⟩) | (go_at_call 11; refine (of_ans _ _ y0 y1).mono ?_; rintro e w' ⟨rfl, rfl⟩; rewrite [ye]) | (go_at_call 13; refine (num_any _ _).mono ?_; rintro e w' ⟨rfl, rfl⟩))
  go_ret
  exact ⟨rfl, (hg.alloc _).alloc _⟩

theorem edge_of (x v : Int) (w : World) (k0 : 0 ≤ x) (k1 : x ≤ 18446744073709551615) (k2 : numF x = v) (k3 : errF x = 0) : Calls Tryd.prog 11 #[.float .f64 x.toNat] w fun e w' => e = .returned (.tuple #[.int .i64 v, .int .i64 0]) ∧ w' = w := by
  have := of_ans x w k0 k1
  rw [k2, k3] at this
  exact this

theorem edges_0 (b : Int) (w : World) : Calls Tryd.prog 4 #[.int .i64 0, .int .i64 b] w fun e w' => e = .returned (.bool true) ∧ Stay w w' := by
  have hf := run_from
  have k : ∀ w, Calls Tryd.prog 11 #[.float .f64 0] w fun e w' => e = .returned (.tuple #[.int .i64 (0), .int .i64 0]) ∧ w' = w := fun w => edge_of 0 (0) w (by decide) (by decide) (by decide +kernel) (by decide +kernel)
  go_enter Tryd.func4, Tryd.ntmps4
  go_wp2_with (first | (go_at_call 9; refine (alive_any _).mono ?_; rintro e w1 ⟨rfl, hg⟩) | (go_at_call 11; refine (k _).mono ?_; rintro e w' ⟨rfl, rfl⟩) | (go_at_call 13; refine (num_any _ _).mono ?_; rintro e w' ⟨rfl, rfl⟩))
  go_ret
  exact ⟨rfl, (hg.alloc _).alloc _⟩

theorem edges_1 (b : Int) (w : World) : Calls Tryd.prog 4 #[.int .i64 1, .int .i64 b] w fun e w' => e = .returned (.bool true) ∧ Stay w w' := by
  have hf := run_from
  have k : ∀ w, Calls Tryd.prog 11 #[.float .f64 9223372036854775808] w fun e w' => e = .returned (.tuple #[.int .i64 (0), .int .i64 0]) ∧ w' = w := fun w => edge_of 9223372036854775808 (0) w (by decide) (by decide) (by decide +kernel) (by decide +kernel)
  go_enter Tryd.func4, Tryd.ntmps4
  go_wp2_with (first | (go_at_call 9; refine (alive_any _).mono ?_; rintro e w1 ⟨rfl, hg⟩) | (go_at_call 11; refine (k _).mono ?_; rintro e w' ⟨rfl, rfl⟩) | (go_at_call 13; refine (num_any _ _).mono ?_; rintro e w' ⟨rfl, rfl⟩))
  go_ret
  exact ⟨rfl, (hg.alloc _).alloc _⟩

theorem edges_2 (b : Int) (w : World) : Calls Tryd.prog 4 #[.int .i64 2, .int .i64 b] w fun e w' => e = .returned (.bool true) ∧ Stay w w' := by
  have hf := run_from
  have k : ∀ w, Calls Tryd.prog 11 #[.float .f64 1] w fun e w' => e = .returned (.tuple #[.int .i64 (0), .int .i64 0]) ∧ w' = w := fun w => edge_of 1 (0) w (by decide) (by decide) (by decide +kernel) (by decide +kernel)
  go_enter Tryd.func4, Tryd.ntmps4
  go_wp2_with (first | (go_at_call 9; refine (alive_any _).mono ?_; rintro e w1 ⟨rfl, hg⟩) | (go_at_call 11; refine (k _).mono ?_; rintro e w' ⟨rfl, rfl⟩) | (go_at_call 13; refine (num_any _ _).mono ?_; rintro e w' ⟨rfl, rfl⟩))
  go_ret
  exact ⟨rfl, (hg.alloc _).alloc _⟩

theorem edges_3 (b : Int) (w : World) : Calls Tryd.prog 4 #[.int .i64 3, .int .i64 b] w fun e w' => e = .returned (.bool true) ∧ Stay w w' := by
  have hf := run_from
  have k : ∀ w, Calls Tryd.prog 11 #[.float .f64 9223372036854775809] w fun e w' => e = .returned (.tuple #[.int .i64 (-1), .int .i64 0]) ∧ w' = w := fun w => edge_of 9223372036854775809 (-1) w (by decide) (by decide) (by decide +kernel) (by decide +kernel)
  go_enter Tryd.func4, Tryd.ntmps4
  go_wp2_with (first | (go_at_call 9; refine (alive_any _).mono ?_; rintro e w1 ⟨rfl, hg⟩) | (go_at_call 11; refine (k _).mono ?_; rintro e w' ⟨rfl, rfl⟩) | (go_at_call 13; refine (num_any _ _).mono ?_; rintro e w' ⟨rfl, rfl⟩))
  go_ret
  exact ⟨rfl, (hg.alloc _).alloc _⟩

theorem edges_4 (b : Int) (w : World) : Calls Tryd.prog 4 #[.int .i64 4, .int .i64 b] w fun e w' => e = .returned (.bool true) ∧ Stay w w' := by
  have hf := run_from
  have k : ∀ w, Calls Tryd.prog 11 #[.float .f64 9218868437227405312] w fun e w' => e = .returned (.tuple #[.int .i64 (9223372036854775807), .int .i64 0]) ∧ w' = w := fun w => edge_of 9218868437227405312 (9223372036854775807) w (by decide) (by decide) (by decide +kernel) (by decide +kernel)
  go_enter Tryd.func4, Tryd.ntmps4
  go_wp2_with (first | (go_at_call 9; refine (alive_any _).mono ?_; rintro e w1 ⟨rfl, hg⟩) | (go_at_call 11; refine (k _).mono ?_; rintro e w' ⟨rfl, rfl⟩) | (go_at_call 13; refine (num_any _ _).mono ?_; rintro e w' ⟨rfl, rfl⟩))
  go_ret
  exact ⟨rfl, (hg.alloc _).alloc _⟩

theorem edges_5 (b : Int) (w : World) : Calls Tryd.prog 4 #[.int .i64 5, .int .i64 b] w fun e w' => e = .returned (.bool true) ∧ Stay w w' := by
  have hf := run_from
  have k : ∀ w, Calls Tryd.prog 11 #[.float .f64 18442240474082181120] w fun e w' => e = .returned (.tuple #[.int .i64 (-9223372036854775808), .int .i64 0]) ∧ w' = w := fun w => edge_of 18442240474082181120 (-9223372036854775808) w (by decide) (by decide) (by decide +kernel) (by decide +kernel)
  go_enter Tryd.func4, Tryd.ntmps4
  go_wp2_with (first | (go_at_call 9; refine (alive_any _).mono ?_; rintro e w1 ⟨rfl, hg⟩) | (go_at_call 11; refine (k _).mono ?_; rintro e w' ⟨rfl, rfl⟩) | (go_at_call 13; refine (num_any _ _).mono ?_; rintro e w' ⟨rfl, rfl⟩))
  go_ret
  exact ⟨rfl, (hg.alloc _).alloc _⟩

theorem edges_6 (b : Int) (w : World) : Calls Tryd.prog 4 #[.int .i64 6, .int .i64 b] w fun e w' => e = .returned (.bool true) ∧ Stay w w' := by
  have hf := run_from
  have k : ∀ w, Calls Tryd.prog 11 #[.float .f64 9218868437227405311] w fun e w' => e = .returned (.tuple #[.int .i64 (9223372036854775807), .int .i64 0]) ∧ w' = w := fun w => edge_of 9218868437227405311 (9223372036854775807) w (by decide) (by decide) (by decide +kernel) (by decide +kernel)
  go_enter Tryd.func4, Tryd.ntmps4
  go_wp2_with (first | (go_at_call 9; refine (alive_any _).mono ?_; rintro e w1 ⟨rfl, hg⟩) | (go_at_call 11; refine (k _).mono ?_; rintro e w' ⟨rfl, rfl⟩) | (go_at_call 13; refine (num_any _ _).mono ?_; rintro e w' ⟨rfl, rfl⟩))
  go_ret
  exact ⟨rfl, (hg.alloc _).alloc _⟩

theorem edges_7 (b : Int) (w : World) : Calls Tryd.prog 4 #[.int .i64 7, .int .i64 b] w fun e w' => e = .returned (.bool true) ∧ Stay w w' := by
  have hf := run_from
  have k : ∀ w, Calls Tryd.prog 11 #[.float .f64 18442240474082181119] w fun e w' => e = .returned (.tuple #[.int .i64 (-9223372036854775808), .int .i64 0]) ∧ w' = w := fun w => edge_of 18442240474082181119 (-9223372036854775808) w (by decide) (by decide) (by decide +kernel) (by decide +kernel)
  go_enter Tryd.func4, Tryd.ntmps4
  go_wp2_with (first | (go_at_call 9; refine (alive_any _).mono ?_; rintro e w1 ⟨rfl, hg⟩) | (go_at_call 11; refine (k _).mono ?_; rintro e w' ⟨rfl, rfl⟩) | (go_at_call 13; refine (num_any _ _).mono ?_; rintro e w' ⟨rfl, rfl⟩))
  go_ret
  exact ⟨rfl, (hg.alloc _).alloc _⟩

theorem edges_8 (b : Int) (w : World) : Calls Tryd.prog 4 #[.int .i64 8, .int .i64 b] w fun e w' => e = .returned (.bool true) ∧ Stay w w' := by
  have hf := run_from
  have k : ∀ w, Calls Tryd.prog 11 #[.float .f64 4746794007248502784] w fun e w' => e = .returned (.tuple #[.int .i64 (9223372036854775807), .int .i64 0]) ∧ w' = w := fun w => edge_of 4746794007248502784 (9223372036854775807) w (by decide) (by decide) (by decide +kernel) (by decide +kernel)
  go_enter Tryd.func4, Tryd.ntmps4
  go_wp2_with (first | (go_at_call 9; refine (alive_any _).mono ?_; rintro e w1 ⟨rfl, hg⟩) | (go_at_call 11; refine (k _).mono ?_; rintro e w' ⟨rfl, rfl⟩) | (go_at_call 13; refine (num_any _ _).mono ?_; rintro e w' ⟨rfl, rfl⟩))
  go_ret
  exact ⟨rfl, (hg.alloc _).alloc _⟩

theorem edges_9 (b : Int) (w : World) : Calls Tryd.prog 4 #[.int .i64 9, .int .i64 b] w fun e w' => e = .returned (.bool true) ∧ Stay w w' := by
  have hf := run_from
  have k : ∀ w, Calls Tryd.prog 11 #[.float .f64 4746794007248502783] w fun e w' => e = .returned (.tuple #[.int .i64 (9223372036854774784), .int .i64 0]) ∧ w' = w := fun w => edge_of 4746794007248502783 (9223372036854774784) w (by decide) (by decide) (by decide +kernel) (by decide +kernel)
  go_enter Tryd.func4, Tryd.ntmps4
  go_wp2_with (first | (go_at_call 9; refine (alive_any _).mono ?_; rintro e w1 ⟨rfl, hg⟩) | (go_at_call 11; refine (k _).mono ?_; rintro e w' ⟨rfl, rfl⟩) | (go_at_call 13; refine (num_any _ _).mono ?_; rintro e w' ⟨rfl, rfl⟩))
  go_ret
  exact ⟨rfl, (hg.alloc _).alloc _⟩

theorem edges_10 (b : Int) (w : World) : Calls Tryd.prog 4 #[.int .i64 10, .int .i64 b] w fun e w' => e = .returned (.bool true) ∧ Stay w w' := by
  have hf := run_from
  have k : ∀ w, Calls Tryd.prog 11 #[.float .f64 13970166044103278592] w fun e w' => e = .returned (.tuple #[.int .i64 (-9223372036854775808), .int .i64 0]) ∧ w' = w := fun w => edge_of 13970166044103278592 (-9223372036854775808) w (by decide) (by decide) (by decide +kernel) (by decide +kernel)
  go_enter Tryd.func4, Tryd.ntmps4
  go_wp2_with (first | (go_at_call 9; refine (alive_any _).mono ?_; rintro e w1 ⟨rfl, hg⟩) | (go_at_call 11; refine (k _).mono ?_; rintro e w' ⟨rfl, rfl⟩) | (go_at_call 13; refine (num_any _ _).mono ?_; rintro e w' ⟨rfl, rfl⟩))
  go_ret
  exact ⟨rfl, (hg.alloc _).alloc _⟩

theorem edges_11 (b : Int) (w : World) : Calls Tryd.prog 4 #[.int .i64 11, .int .i64 b] w fun e w' => e = .returned (.bool true) ∧ Stay w w' := by
  have hf := run_from
  have k : ∀ w, Calls Tryd.prog 11 #[.float .f64 13970166044103278593] w fun e w' => e = .returned (.tuple #[.int .i64 (-9223372036854775808), .int .i64 0]) ∧ w' = w := fun w => edge_of 13970166044103278593 (-9223372036854775808) w (by decide) (by decide) (by decide +kernel) (by decide +kernel)
  go_enter Tryd.func4, Tryd.ntmps4
  go_wp2_with (first | (go_at_call 9; refine (alive_any _).mono ?_; rintro e w1 ⟨rfl, hg⟩) | (go_at_call 11; refine (k _).mono ?_; rintro e w' ⟨rfl, rfl⟩) | (go_at_call 13; refine (num_any _ _).mono ?_; rintro e w' ⟨rfl, rfl⟩))
  go_ret
  exact ⟨rfl, (hg.alloc _).alloc _⟩

theorem edges_12 (b : Int) (w : World) : Calls Tryd.prog 4 #[.int .i64 12, .int .i64 b] w fun e w' => e = .returned (.bool true) ∧ Stay w w' := by
  have hf := run_from
  have k : ∀ w, Calls Tryd.prog 11 #[.float .f64 4463067230724161536] w fun e w' => e = .returned (.tuple #[.int .i64 (1), .int .i64 0]) ∧ w' = w := fun w => edge_of 4463067230724161536 (1) w (by decide) (by decide) (by decide +kernel) (by decide +kernel)
  go_enter Tryd.func4, Tryd.ntmps4
  go_wp2_with (first | (go_at_call 9; refine (alive_any _).mono ?_; rintro e w1 ⟨rfl, hg⟩) | (go_at_call 11; refine (k _).mono ?_; rintro e w' ⟨rfl, rfl⟩) | (go_at_call 13; refine (num_any _ _).mono ?_; rintro e w' ⟨rfl, rfl⟩))
  go_ret
  exact ⟨rfl, (hg.alloc _).alloc _⟩

theorem edges_13 (b : Int) (w : World) : Calls Tryd.prog 4 #[.int .i64 13, .int .i64 b] w fun e w' => e = .returned (.bool true) ∧ Stay w w' := by
  have hf := run_from
  have k : ∀ w, Calls Tryd.prog 11 #[.float .f64 4463067230724161535] w fun e w' => e = .returned (.tuple #[.int .i64 (0), .int .i64 0]) ∧ w' = w := fun w => edge_of 4463067230724161535 (0) w (by decide) (by decide) (by decide +kernel) (by decide +kernel)
  go_enter Tryd.func4, Tryd.ntmps4
  go_wp2_with (first | (go_at_call 9; refine (alive_any _).mono ?_; rintro e w1 ⟨rfl, hg⟩) | (go_at_call 11; refine (k _).mono ?_; rintro e w' ⟨rfl, rfl⟩) | (go_at_call 13; refine (num_any _ _).mono ?_; rintro e w' ⟨rfl, rfl⟩))
  go_ret
  exact ⟨rfl, (hg.alloc _).alloc _⟩

theorem edges_14 (b : Int) (w : World) : Calls Tryd.prog 4 #[.int .i64 14, .int .i64 b] w fun e w' => e = .returned (.bool true) ∧ Stay w w' := by
  have hf := run_from
  have k : ∀ w, Calls Tryd.prog 11 #[.float .f64 13686439267578937344] w fun e w' => e = .returned (.tuple #[.int .i64 (-1), .int .i64 0]) ∧ w' = w := fun w => edge_of 13686439267578937344 (-1) w (by decide) (by decide) (by decide +kernel) (by decide +kernel)
  go_enter Tryd.func4, Tryd.ntmps4
  go_wp2_with (first | (go_at_call 9; refine (alive_any _).mono ?_; rintro e w1 ⟨rfl, hg⟩) | (go_at_call 11; refine (k _).mono ?_; rintro e w' ⟨rfl, rfl⟩) | (go_at_call 13; refine (num_any _ _).mono ?_; rintro e w' ⟨rfl, rfl⟩))
  go_ret
  exact ⟨rfl, (hg.alloc _).alloc _⟩
end Go.Proofs.YtcpgamhekelamaaDoor
