/-
  The law FloatsShow, walked.
-/
import Derived.Test.YtcpgamhekelamaaDoorRshow
namespace Go.Proofs.YtcpgamhekelamaaDoor
open Go.RowKit
set_option linter.unusedVariables false

theorem lshow_core (x y e : Int) (G : ByteArray) (w : World) (h0 : -9223372036854775808 ≤ x) (h1 : x ≤ 9223372036854775807)
    (h4 : x.tmod 4 = 0 → e = 0 ∧ y = x) (h5 : e = 4 ∨ e = 0 ∧ y = x)
    (hS : ∀ w', Stay w w' → Calls Tryd.prog 21 #[.int .i64 x] w' fun e w'' => e = .returned (.string G) ∧ Stay w' w'')
    (hR : ∀ w, Calls Tryd.prog 22 #[.int .i64 x] w fun e w' => e = .returned (.string G) ∧ w' = w)
    (hP : ∀ w, Calls Tryd.prog 19 #[.string G] w fun e' w' => e' = .returned (.tuple #[.int .i64 y, .int .i64 e]) ∧ Stay w w') :
    Calls Tryd.prog 8 #[.int .i64 x] w fun e w' => e = .returned (.bool true) ∧ Stay w w' := by
  by_cases k : x.tmod 4 = 0
  · obtain ⟨rfl, rfl⟩ := h4 k
    have k' : (y.tmod 4 == 0) = true := by simpa using k
    clear h4 h5
    go_enter Tryd.func8, Tryd.ntmps8
    go_wp2_with (first | (go_at_call 9; refine (alive_any _).mono ?_; rintro e w1 ⟨rfl, hg⟩) | (go_at_call 21; refine (hS _ hg).mono ?_; rintro e w2 ⟨rfl, hg2⟩) | (go_at_call 22; refine (hR _).mono ?_; rintro e w' ⟨rfl, rfl⟩) | (go_at_call 19; refine (hP _).mono ?_; rintro e w3 ⟨rfl, hg3⟩) | (go_at_call 13; refine (num_any _ _).mono ?_; rintro e w' ⟨rfl, rfl⟩))
    go_ret
    exact ⟨rfl, Stay.trans (Stay.trans hg hg2) hg3⟩
  · have k' : (x.tmod 4 == 0) = false := by simpa using k
    clear h4
    rcases h5 with rfl | ⟨rfl, rfl⟩
    all_goals
      go_enter Tryd.func8, Tryd.ntmps8
      go_wp2_with (first | (go_at_call 9; refine (alive_any _).mono ?_; rintro e w1 ⟨rfl, hg⟩) | (go_at_call 21; refine (hS _ hg).mono ?_; rintro e w2 ⟨rfl, hg2⟩) | (go_at_call 22; refine (hR _).mono ?_; rintro e w' ⟨rfl, rfl⟩) | (go_at_call 19; refine (hP _).mono ?_; rintro e w3 ⟨rfl, hg3⟩) | (go_at_call 13; refine (num_any _ _).mono ?_; rintro e w' ⟨rfl, rfl⟩))
      go_ret
      exact ⟨rfl, Stay.trans (Stay.trans hg hg2) hg3⟩

theorem lshow_any (x : Int) (w : World) (h0 : -9223372036854775808 ≤ x) (h1 : x ≤ 9223372036854775807) (ht : Lib.TabIs Tryd.prog w "internal/strconv.uint64pow10" .u64 Lib.pow10Tab) :
    Calls Tryd.prog 8 #[.int .i64 x] w fun e w' => e = .returned (.bool true) ∧ Stay w w' := by
  obtain ⟨m1, m2, m3⟩ := show_meet x h0 h1
  have hP := fun w => parse_any ⟨(showL x).toArray⟩ w (by show (showL x).length ≤ _; omega)
  refine lshow_core x _ _ ⟨(showL x).toArray⟩ w h0 h1 (fun k => m1 ?_) m2 (fun w' hg => show_tab x w' h0 h1 (Joins.tab_stays pow_global ht hg (Nat.le_refl _))) (fun w => rshow_any x w h0 h1) hP
  have := Int.dvd_of_tmod_eq_zero k
  exact Int.emod_eq_zero_of_dvd this
end Go.Proofs.YtcpgamhekelamaaDoor
