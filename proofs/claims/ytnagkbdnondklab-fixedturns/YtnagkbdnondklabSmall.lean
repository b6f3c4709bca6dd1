/-
  What each small function of package fixed, and of the document's own answers, returns: sums, wholes, sizes, cuts.
-/
import Derived.Test.YtnagkbdnondklabProg
import Derived.Test.YtnagkbdnondklabPlain
import Derived.WalkKit
import Derived.ProofKit
namespace Go.Proofs.Ytnagkbdnondklab
open Go.RowKit
set_option linter.unusedVariables false

theorem ret_int {k : IntKind} {a b : Int} (h : a = b) : Ending.returned (.int k a) = .returned (.int k b) := by rw [h]
theorem ret_bool {a b : Bool} (h : a = b) : Ending.returned (.bool a) = .returned (.bool b) := by rw [h]

theorem mask_i64 (n : Int) (h0 : -9223372036854775808 ≤ n) (h1 : n ≤ 9223372036854775807) : bits .and .i64 n 4294967295 = n % 4294967296 := by
  have e : (BitVec.ofInt 64 n &&& BitVec.ofInt 64 4294967295).toNat = (n % 4294967296).toNat := by
    have e2 : (BitVec.ofInt 64 4294967295).toNat = 2 ^ 32 - 1 := by decide
    rw [BitVec.toNat_and, e2, Nat.and_two_pow_sub_one_eq_mod]
    simp only [BitVec.toNat_ofInt]
    omega
  show IntKind.i64.wrap (((BitVec.ofInt 64 n &&& BitVec.ofInt 64 4294967295).toNat : Nat) : Int) = _
  rw [e, IntKind.wrap_i64]
  omega

theorem add_any (a b : Int) (w : World) (ha : -9223372036854775808 ≤ a) (ha' : a ≤ 9223372036854775807) (hb : -9223372036854775808 ≤ b) (hb' : b ≤ 9223372036854775807) :
    Calls Try.prog 8 #[.int .i64 a, .int .i64 b] w fun e w' => e = .returned (.int .i64 (addZ a b)) ∧ w' = w := by
  go_enter Try.func8, Try.ntmps8
  go_wp2
  all_goals
    go_ret
    exact ⟨ret_int (by unfold addZ; first | (rw [cut_in (by omega) (by omega)]; done) | (rw [cut_hi (by omega)]; done) | (rw [cut_lo (by omega)]; done)), rfl⟩

theorem floor_any (x : Int) (w : World) (h0 : -9223372036854775808 ≤ x) (h1 : x ≤ 9223372036854775807) :
    Calls Try.prog 15 #[.int .i64 x] w fun e w' => e = .returned (.int .i64 (floorZ x)) ∧ w' = w := by
  go_enter Try.func15, Try.ntmps15
  go_wp2
  go_ret
  exact ⟨rfl, rfl⟩

theorem of_any (n : Int) (w : World) (h0 : -9223372036854775808 ≤ n) (h1 : n ≤ 9223372036854775807) :
    Calls Try.prog 13 #[.int .i64 n] w fun e w' => e = .returned (.int .i64 (ofZ n)) ∧ w' = w := by
  go_enter Try.func13, Try.ntmps13
  go_wp2
  all_goals
    go_ret
    exact ⟨ret_int (by unfold ofZ; first | (rw [cut_in (by omega) (by omega)]; done) | (rw [cut_hi (by omega)]; done) | (rw [cut_lo (by omega)]; done)), rfl⟩

theorem ceil_any (n : Int) (w : World) (h0 : -9223372036854775808 ≤ n) (h1 : n ≤ 9223372036854775807) :
    Calls Try.prog 12 #[.int .i64 n] w fun e w' => e = .returned (.int .i64 (ceilZ n)) ∧ w' = w := by
  have hm := mask_i64 n h0 h1
  go_enter Try.func12, Try.ntmps12
  go_wp2
  all_goals
    go_ret
    refine ⟨ret_int ?_, rfl⟩
    unfold ceilZ
    simp at *
    omega

theorem size_any (n : Int) (w : World) (h0 : -9223372036854775808 ≤ n) (h1 : n ≤ 9223372036854775807) :
    Calls Try.prog 17 #[.int .i64 n] w fun e w' => e = .returned (.int .u64 (absZ n)) ∧ w' = w := by
  go_enter Try.func17, Try.ntmps17
  go_wp2
  all_goals
    go_ret
    exact ⟨ret_int (by unfold absZ; first | omega | (rw [IntKind.wrap_u64, IntKind.wrap_u64]; omega)), rfl⟩

theorem opp_any (a b : Int) (w : World) :
    Calls Try.prog 19 #[.int .i64 a, .int .i64 b] w fun e w' => e = .returned (.bool (oppB a b)) ∧ w' = w := by
  go_enter Try.func19, Try.ntmps19
  go_wp2
  go_ret
  exact ⟨rfl, rfl⟩

theorem cut_any (s : Bool) (x : Int) (w : World) (h0 : 0 ≤ x) (h1 : x ≤ 18446744073709551615) :
    Calls Try.prog 18 #[.bool s, .int .u64 x] w fun e w' => e = .returned (.int .i64 (scut s x)) ∧ w' = w := by
  cases s <;> by_cases h : 9223372036854775808 ≤ x
  all_goals
    go_enter Try.func18, Try.ntmps18
    go_wp2
    go_ret
    exact ⟨ret_int (by unfold scut; simp; first | (rw [cut_in (by omega) (by omega)]; done) | (rw [cut_hi (by omega)]; done) | (rw [cut_lo (by omega)]; done)), rfl⟩

theorem sign_any (a : Int) (w : World) :
    Calls Try.prog 23 #[.int .i64 a] w fun e w' => e = .returned (.int .i64 (signZ a)) ∧ w' = w := by
  go_enter Try.func23, Try.ntmps23
  go_wp2
  all_goals
    go_ret
    exact ⟨ret_int (by unfold signZ; first | (rw [if_pos (by omega)]; done) | (rw [if_neg (by omega), if_pos (by omega)]; done) | (rw [if_neg (by omega), if_neg (by omega)]; done)), rfl⟩

theorem round_any (up s : Bool) (x r : Int) (b : Nat) (w : World) (hc : w.cell? ⟨b, 0, none⟩ = some (.bool up)) (h0 : 0 ≤ x) (h1 : x ≤ 18446744073709551615) :
    Calls Try.prog 22 #[.bool s, .int .u64 x, .int .u64 r, .pointer (some ⟨b, 0, none⟩)] w fun e w' => e = .returned (.int .i64 (rndZ up s x r)) ∧ w' = w := by
  by_cases hr : (r != 0) = true <;> by_cases hx : x < 9223372036854775808 <;> cases up <;> cases s
  all_goals
    go_enter Try.func22, Try.ntmps22
    go_wp2_with (go_at_call 18; refine (cut_any _ _ _ (by omega) (by omega)).mono ?_; rintro e w' ⟨rfl, rfl⟩)
    go_ret
    exact ⟨ret_int (by unfold rndZ; congr 1; simp_all <;> omega), rfl⟩
end Go.Proofs.Ytnagkbdnondklab
