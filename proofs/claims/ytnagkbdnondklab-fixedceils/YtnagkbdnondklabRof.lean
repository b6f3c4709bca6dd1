/-
  What the document's own answer for the fixed-point number of a whole one returns.
-/
import Derived.Test.YtnagkbdnondklabQuo
namespace Go.Proofs.Ytnagkbdnondklab
open Go.RowKit
set_option linter.unusedVariables false

theorem rof_any (n : Int) (w : World) (h0 : -9223372036854775808 ≤ n) (h1 : n ≤ 9223372036854775807) :
    Calls Try.prog 14 #[.int .i64 n] w fun e w' => e = .returned (.int .i64 (ofZ n)) ∧ w' = w := by
  go_enter Try.func14, Try.ntmps14
  go_wp2
  all_goals
    go_ret
    exact ⟨ret_int (by unfold ofZ; first | (rw [cut_in (by omega) (by omega)]; done) | (rw [cut_hi (by omega)]; done) | (rw [cut_lo (by omega)]; done)), rfl⟩
end Go.Proofs.Ytnagkbdnondklab
