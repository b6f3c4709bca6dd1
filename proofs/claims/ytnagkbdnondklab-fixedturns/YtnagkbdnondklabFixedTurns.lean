/-
  For every a and b the law FixedTurns returns true: sums and products are the same either way round, one changes nothing, and what is divided comes back by the product but for less than one step.
-/
import Derived.Test.YtnagkbdnondklabRows
import Derived.Test.YtnagkbdnondklabRof
import Derived.Test.YtnagkbdnondklabTurns
import Derived.WalkKit
import Derived.ProofKit
import Derived.OpenShut
import Derived.ShutString
namespace Go.Proofs.Ytnagkbdnondklab.fixedTurns
open Go.ChangeShapes Go.WideShapes Go.ChangeAt Go.RowKit
open Go.ChangeMaps (open_string shut_string)
set_option linter.unusedVariables false

theorem own : ownKnob Try.prog.godebug = none := by kernel_rfl

theorem walk (a0 : Int) (a1 : Int) (w0 : (Lit.int .i64 a0).wf = true) (w1 : (Lit.int .i64 a1).wf = true) (w : World) :
    Calls Try.prog 3 #[.int .i64 a0, .int .i64 a1] w fun e w' => e = .returned (.bool true) ∧ Grown w w' := by
  obtain ⟨h0, h1⟩ := bounds_i64 w0
  obtain ⟨h2, h3⟩ := bounds_i64 w1
  clear w0 w1
  have e1 := add_turn a1 a0
  have e2 := mul_turn a1 a0
  have e3 := mul_one h0 h1
  have e4 := div_one h0 h1
  have e5 := mul_none a0
  obtain ⟨d0, d1⟩ := div_bd a0 a1
  obtain ⟨c0, c1⟩ := cdiv_bd a0 a1
  by_cases hin : 1048576 ≤ a1 ∧ a1 ≤ 1099511627776 ∧ a0 ≤ 1125899906842624 ∧ -1125899906842624 ≤ a0
  · obtain ⟨i1, i2, i3, i4⟩ := hin
    obtain ⟨t1, t2, t3, t4, t5, t6⟩ := turns i1 i4 i3
    go_enter Try.func3, Try.ntmps3
    go_wp2_with (go_at_call 7; refine (alive_any _).mono ?_; rintro e w1 ⟨rfl, hg⟩)
    go_wp2_with (first | (go_at_call 8; refine (add_any _ _ _ (by omega) (by omega) (by omega) (by omega)).mono ?_; rintro e w' ⟨rfl, rfl⟩; try rw [e1]) | (go_at_call 9; refine (mul_any _ _ _ (by omega) (by omega) (by omega) (by omega)).mono ?_; rintro e w2 ⟨rfl, hk⟩; (first | rw [e2] | rw [e3] | rw [e5] | skip); replace hg := grown_trans hg hk; clear hk) | (go_at_call 10; refine (div_any _ _ _ (by omega) (by omega) (by omega) (by omega)).mono ?_; rintro e w2 ⟨rfl, hk⟩; (try rw [e4]); replace hg := grown_trans hg hk; clear hk) | (go_at_call 11; refine (cdiv_any _ _ _ (by omega) (by omega) (by omega) (by omega)).mono ?_; rintro e w2 ⟨rfl, hk⟩; replace hg := grown_trans hg hk; clear hk))
    go_ret
    exact ⟨rfl, hg⟩
  · have ho : a1 < 1048576 ∨ 1099511627776 < a1 ∨ 1125899906842624 < a0 ∨ a0 < -1125899906842624 := by omega
    clear hin
    by_cases o1 : a1 < 1048576 <;> by_cases o2 : 1099511627776 < a1 <;> by_cases o3 : 1125899906842624 < a0
    all_goals first | (exfalso; omega) | skip
    all_goals
      go_enter Try.func3, Try.ntmps3
      go_wp2_with (go_at_call 7; refine (alive_any _).mono ?_; rintro e w1 ⟨rfl, hg⟩)
      go_wp2_with (first | (go_at_call 8; refine (add_any _ _ _ (by omega) (by omega) (by omega) (by omega)).mono ?_; rintro e w' ⟨rfl, rfl⟩; try rw [e1]) | (go_at_call 9; refine (mul_any _ _ _ (by omega) (by omega) (by omega) (by omega)).mono ?_; rintro e w2 ⟨rfl, hk⟩; (first | rw [e2] | rw [e3] | rw [e5] | skip); replace hg := grown_trans hg hk; clear hk) | (go_at_call 10; refine (div_any _ _ _ (by omega) (by omega) (by omega) (by omega)).mono ?_; rintro e w2 ⟨rfl, hk⟩; (try rw [e4]); replace hg := grown_trans hg hk; clear hk))
      go_ret
      exact ⟨rfl, hg⟩

set_option maxRecDepth 100000 in
theorem lifted (os : Os) (started : os.Started) (H : Type) (enc : TypeId × Value → H) :
    ReturnsInHanded {} Try.checked os 3 .any (Rows.fixedTurnsSpec.pre6 enc Try.prog Try.f3 Rows.fixedTurnsRow.domain false) (Rows.fixedTurnsSpec.post enc Try.prog Try.f3 false true false false) := by
  refine returnsInHanded_of_change (C := Try.checked) own started (by kernel_rfl) Try.func3
    (ChangeSpec.witness6 (enc := enc) (C := Try.checked) false ⟨#[], #[.int .i64 0, .int .i64 0], []⟩ 8 (by kernel_rfl) (by kernel_rfl) (by kernel_rfl) (by kernel_rfl)) ?_
  intro W base args ds gs before hval0 hW hcnd _
  have hval : ∀ (j : Nat) t v, Try.f3.params[j]? = some t → args[j]? = some v → Value.okWide Try.prog W .any base t v := hval0
  have hW' := hW
  obtain ⟨p, q, hA0, hV, rfl, hfz, hnd⟩ := hW
  have hA : DataW.TrodAll enc Try.prog W 0 (fun _ => true) true Try.f3.params.toList args.toList ds p := hA0
  rw [Try.params3] at hA hval
  obtain ⟨v0, vs0, d0, ds0, p0, q0, hargs, rfl, rfl, h0, r0⟩ := trodAll_cons hA
  obtain ⟨v1, vs1, d1, ds1, p1, q1, rfl, rfl, rfl, h1, r1⟩ := trodAll_cons r0
  obtain ⟨rfl, rfl, rfl⟩ := trodAll_nil r1
  obtain rfl : args = #[v0, v1] := by cases args; simp_all
  obtain ⟨rfl, rfl⟩ := trodVars_none hV
  obtain ⟨a0, rfl, rfl, rfl, w0⟩ := open_int Try.underlying3 (hval 0 3 v0 rfl rfl) h0
  obtain ⟨a1, rfl, rfl, rfl, w1⟩ := open_int Try.underlying3 (hval 1 3 v1 rfl rfl) h1
  clear hA0 hval0
  simp only [List.append_nil] at hW'
  refine (walk a0 a1 w0 w1 W).mono fun e W' ⟨he, hg⟩ => ?_
  subst he
  exact ⟨_, rfl, post_of_same (pa := []) (pv := []) hW' (fun _ _ _ => (trodAll_cons_mk (shut_bool Try.underlying4 _) trodAll_mk0)) (fun sp _ => (trodAll_cons_mk (shut_int Try.underlying3 w0) (trodAll_cons_mk (shut_int Try.underlying3 w1) trodAll_mk0))) (fun _ _ => rfl) rfl
    (hg.frame _) hg.2.1 (ok_one (by kernel_rfl) rfl (okWide_bool_mk Try.underlying4 _))⟩

theorem over : Rows.fixedTurnsRow.holds Try.pinned (OpenSpec.ofChange Rows.fixedTurnsSpec) :=
  OpenClaim.holds_of_wide 3 Try.f3 rfl rfl rfl rfl rfl rfl rfl ⟨rfl, rfl, rfl, rfl, rfl⟩ rfl rfl rfl rfl rfl (by kernel_rfl) Try.func3 (by kernel_rfl)
    (of_decide_eq_true (by kernel_rfl)) (by unfold Func.isWrapper; first | (rw [if_pos (by decide +kernel)]; kernel_rfl) | (rw [if_neg (by decide +kernel)]; exact ⟨rfl, rfl⟩))
    (fun os started H enc _ => lifted os started H enc)

theorem proved : Rows.FixedTurnsSaid :=
  over
#print axioms proved
end Go.Proofs.Ytnagkbdnondklab.fixedTurns
