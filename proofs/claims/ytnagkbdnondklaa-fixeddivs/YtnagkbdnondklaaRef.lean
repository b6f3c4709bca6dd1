/-
  What the document's own answers to chapter 1 return (lysimeterref1), but for products and quotients; and fixed.Sub, fixed.Neg, fixed.Clamp.
-/
import Derived.Test.YtnagkbdnondklaaQuo
namespace Go.Proofs.Ytnagkbdnondklaa
open Go.RowKit
set_option linter.unusedVariables false

theorem sub_any (a b : Int) (w : World) (ha : -9223372036854775808 ≤ a) (ha' : a ≤ 9223372036854775807) (hb : -9223372036854775808 ≤ b) (hb' : b ≤ 9223372036854775807) :
    Calls Try.prog 12 #[.int .i64 a, .int .i64 b] w fun e w' => e = .returned (.int .i64 (subZ a b)) ∧ w' = w := by
  go_enter Try.func12, Try.ntmps12
  go_wp2
  all_goals
    go_ret
    exact ⟨ret_int (by unfold subZ; first | (rw [cut_in (by omega) (by omega)]; done) | (rw [cut_hi (by omega)]; done) | (rw [cut_lo (by omega)]; done)), rfl⟩

theorem sub_zero (a : Int) : subZ 0 a = negZ a := by unfold subZ negZ; congr 1; omega
theorem neg_any (a : Int) (w : World) (ha : -9223372036854775808 ≤ a) (ha' : a ≤ 9223372036854775807) :
    Calls Try.prog 14 #[.int .i64 a] w fun e w' => e = .returned (.int .i64 (negZ a)) ∧ w' = w := by
  rw [← sub_zero]
  go_enter Try.func14, Try.ntmps14
  go_wp2_with (go_at_call 12; refine (sub_any _ _ _ (by omega) (by omega) (by omega) (by omega)).mono ?_; rintro e w' ⟨rfl, rfl⟩)
  go_ret
  exact ⟨rfl, rfl⟩

theorem clamp_any (x low high : Int) (w : World) :
    Calls Try.prog 28 #[.int .i64 x, .int .i64 low, .int .i64 high] w fun e w' => e = .returned (.int .i64 (clampZ x low high)) ∧ w' = w := by
  go_enter Try.func28, Try.ntmps28
  go_wp2
  all_goals
    go_ret
    exact ⟨ret_int (by unfold clampZ; first | (rw [if_pos (by omega)]; done) | (rw [if_neg (by omega), if_pos (by omega)]; done) | (rw [if_neg (by omega), if_neg (by omega)]; done)), rfl⟩

theorem radd_any (a b : Int) (w : World) (ha : -9223372036854775808 ≤ a) (ha' : a ≤ 9223372036854775807) (hb : -9223372036854775808 ≤ b) (hb' : b ≤ 9223372036854775807) :
    Calls Try.prog 11 #[.int .i64 a, .int .i64 b] w fun e w' => e = .returned (.int .i64 (addZ a b)) ∧ w' = w := by
  go_enter Try.func11, Try.ntmps11
  go_wp2
  all_goals
    go_ret
    exact ⟨ret_int (by unfold addZ; first | (rw [cut_in (by omega) (by omega)]; done) | (rw [cut_hi (by omega)]; done) | (rw [cut_lo (by omega)]; done)), rfl⟩

theorem rneg_any (a : Int) (w : World) (ha : -9223372036854775808 ≤ a) (ha' : a ≤ 9223372036854775807) :
    Calls Try.prog 15 #[.int .i64 a] w fun e w' => e = .returned (.int .i64 (negZ a)) ∧ w' = w := by
  by_cases h : a = -9223372036854775808
  · subst h
    go_enter Try.func15, Try.ntmps15
    go_wp2
    go_ret
    exact ⟨ret_int (by decide), rfl⟩
  · have h1 : -9223372036854775808 < a := by omega
    go_enter Try.func15, Try.ntmps15
    go_wp2
    go_ret
    exact ⟨ret_int (by unfold negZ; rw [cut_in (by omega) (by omega)]), rfl⟩

theorem rsub_any (a b : Int) (w : World) (ha : -9223372036854775808 ≤ a) (ha' : a ≤ 9223372036854775807) (hb : -9223372036854775808 ≤ b) (hb' : b ≤ 9223372036854775807) :
    Calls Try.prog 13 #[.int .i64 a, .int .i64 b] w fun e w' => e = .returned (.int .i64 (subZ a b)) ∧ w' = w := by
  by_cases h : b = -9223372036854775808
  · subst h
    by_cases h0 : 0 ≤ a
    all_goals
      go_enter Try.func13, Try.ntmps13
      go_wp2
      go_ret
      exact ⟨ret_int (by unfold subZ; first | (rw [cut_in (by omega) (by omega)]; done) | (rw [cut_in (by omega) (by omega)]; omega) | (rw [cut_hi (by omega)]; done)), rfl⟩
  · have h1 : -9223372036854775808 < b := by omega
    have e : subZ a b = addZ a (-b) := by unfold subZ addZ; congr 1
    rw [e]
    clear e
    go_enter Try.func13, Try.ntmps13
    go_wp2_with (go_at_call 11; refine (radd_any _ _ _ (by omega) (by omega) (by omega) (by omega)).mono ?_; rintro e w' ⟨rfl, rfl⟩)
    go_ret
    exact ⟨rfl, rfl⟩

theorem rfloor_any (x : Int) (w : World) (h0 : -9223372036854775808 ≤ x) (h1 : x ≤ 9223372036854775807) :
    Calls Try.prog 25 #[.int .i64 x] w fun e w' => e = .returned (.int .i64 (floorZ x)) ∧ w' = w := by
  go_enter Try.func25, Try.ntmps25
  go_wp2
  go_ret
  exact ⟨rfl, rfl⟩

theorem rof_any (n : Int) (w : World) (h0 : -9223372036854775808 ≤ n) (h1 : n ≤ 9223372036854775807) :
    Calls Try.prog 23 #[.int .i64 n] w fun e w' => e = .returned (.int .i64 (ofZ n)) ∧ w' = w := by
  go_enter Try.func23, Try.ntmps23
  go_wp2
  all_goals
    go_ret
    exact ⟨ret_int (by unfold ofZ; first | (rw [cut_in (by omega) (by omega)]; done) | (rw [cut_hi (by omega)]; done) | (rw [cut_lo (by omega)]; done)), rfl⟩

theorem rceil_any (n : Int) (w : World) (h0 : -9223372036854775808 ≤ n) (h1 : n ≤ 9223372036854775807) :
    Calls Try.prog 27 #[.int .i64 n] w fun e w' => e = .returned (.int .i64 (ceilZ n)) ∧ w' = w := by
  have hm := mask_i64 n h0 h1
  go_enter Try.func27, Try.ntmps27
  go_wp2
  all_goals
    go_ret
    refine ⟨ret_int ?_, rfl⟩
    unfold ceilZ
    simp at *
    omega

theorem rclamp_any (x low high : Int) (w : World) :
    Calls Try.prog 29 #[.int .i64 x, .int .i64 low, .int .i64 high] w fun e w' => e = .returned (.int .i64 (clampZ x low high)) ∧ w' = w := by
  go_enter Try.func29, Try.ntmps29
  go_wp2
  all_goals
    go_ret
    exact ⟨ret_int (by unfold clampZ; first | (rw [if_pos (by omega)]; done) | (rw [if_neg (by omega), if_pos (by omega)]; done) | (rw [if_neg (by omega), if_neg (by omega)]; done)), rfl⟩
end Go.Proofs.Ytnagkbdnondklaa
