/-
  What the document's own answers return for a number of a sign and a size, cut, and for one more.
-/
import Derived.Test.YtcpgamhekelamaaDoorFalive
namespace Go.Proofs.YtcpgamhekelamaaDoor
open Go.RowKit
set_option linter.unusedVariables false

theorem rsize_any (n : Int) (w : World) (h0 : -9223372036854775808 ≤ n) (h1 : n ≤ 9223372036854775807) :
    Calls Tryd.prog 40 #[.int .i64 n] w fun e w' => e = .returned (.int .u64 (absZ n)) ∧ w' = w := by
  go_enter Tryd.func40, Tryd.ntmps40
  go_wp2
  all_goals
    go_ret
    exact ⟨ret_int (by unfold absZ; omega), rfl⟩

theorem back_any (s : Bool) (h l : Int) (w : World) (h0 : 0 ≤ h) (h1 : h ≤ 18446744073709551615) (l0 : 0 ≤ l) (l1 : l ≤ 18446744073709551615) :
    Calls Tryd.prog 26 #[.bool s, .agg #[.int .u64 h, .int .u64 l]] w fun e w' => e = .returned (.int .i64 (scut s (h * 18446744073709551616 + l))) ∧ Stay w w' := by
  have hs : ∀ x, scut true x = cutZ (-x) := fun x => by simp [scut]
  have hs' : ∀ x, scut false x = cutZ x := fun x => by simp [scut]
  cases s
  · rw [hs']
    clear hs hs'
    by_cases hh : 0 < h <;> by_cases hl : 9223372036854775807 < l
    all_goals
      go_enter Tryd.func26, Tryd.ntmps26
      go_wp2
      go_ret
      exact ⟨ret_int (by first | (rw [cut_in (by omega) (by omega)]; omega) | (rw [cut_hi (by omega)]; done)), (Stay.refl _).alloc _⟩
  · rw [hs]
    clear hs hs'
    by_cases hh : 0 < h <;> by_cases hl : 9223372036854775808 < l <;> by_cases hk : l = 9223372036854775808
    all_goals first | (exfalso; omega) | skip
    all_goals
      go_enter Tryd.func26, Tryd.ntmps26
      go_wp2
      go_ret
      exact ⟨ret_int (by first | (rw [cut_in (by omega) (by omega)]; omega) | (rw [cut_lo (by omega)]; done)), (Stay.refl _).alloc _⟩

theorem more_in (h l : Int) (w : World) (h0 : 0 ≤ h) (h1 : h ≤ 18446744073709551615) (l0 : 0 ≤ l) (l1 : l < 18446744073709551615) :
    Calls Tryd.prog 27 #[.agg #[.int .u64 h, .int .u64 l]] w fun e w' => e = .returned (.agg #[.int .u64 h, .int .u64 (l + 1)]) ∧ Stay w w' := by
  go_enter Tryd.func27, Tryd.ntmps27
  go_wp2
  exact bodyPost_ret (v := .agg #[.int .u64 h, .int .u64 (l + 1)]) (by simp [results, Tryd.results27, go_sem]) rfl ⟨rfl, ((Stay.refl _).alloc _).alloc _⟩
end Go.Proofs.YtcpgamhekelamaaDoor
