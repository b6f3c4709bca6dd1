/-
  For every load and per the law FixedCeils returns true: the whole number that is not below a quotient, times what it was divided by, is enough, and one less is not.
-/
import Derived.Test.YtnagkbdnondklabRows
import Derived.Test.YtnagkbdnondklabRof
import Derived.Test.YtnagkbdnondklabTurns
import Derived.WalkKit
import Derived.ProofKit
import Derived.OpenShut
import Derived.ShutString
namespace Go.Proofs.Ytnagkbdnondklab.fixedCeils
open Go.ChangeShapes Go.WideShapes Go.ChangeAt Go.RowKit
open Go.ChangeMaps (open_string shut_string)
set_option linter.unusedVariables false

theorem own : ownKnob Try.prog.godebug = none := by kernel_rfl

theorem walk (a0 : Int) (a1 : Int) (w0 : (Lit.int .i64 a0).wf = true) (w1 : (Lit.int .i64 a1).wf = true) (w : World) :
    Calls Try.prog 4 #[.int .i64 a0, .int .i64 a1] w fun e w' => e = .returned (.bool true) ∧ Grown w w' := by
  obtain ⟨h0, h1⟩ := bounds_i64 w0
  obtain ⟨h2, h3⟩ := bounds_i64 w1
  clear w0 w1
  by_cases i1 : a0 < 0
  · go_enter Try.func4, Try.ntmps4
    go_wp2_with (go_at_call 7; refine (alive_any _).mono ?_; rintro e w1 ⟨rfl, hg⟩)
    go_ret
    exact ⟨rfl, hg⟩
  by_cases i2 : 1125899906842624 < a0
  · go_enter Try.func4, Try.ntmps4
    go_wp2_with (go_at_call 7; refine (alive_any _).mono ?_; rintro e w1 ⟨rfl, hg⟩)
    go_ret
    exact ⟨rfl, hg⟩
  by_cases i3 : a1 < 1
  · go_enter Try.func4, Try.ntmps4
    go_wp2_with (go_at_call 7; refine (alive_any _).mono ?_; rintro e w1 ⟨rfl, hg⟩)
    go_ret
    exact ⟨rfl, hg⟩
  by_cases i4 : 1099511627776 < a1
  · go_enter Try.func4, Try.ntmps4
    go_wp2_with (go_at_call 7; refine (alive_any _).mono ?_; rintro e w1 ⟨rfl, hg⟩)
    go_ret
    exact ⟨rfl, hg⟩
  have nz : ¬ a1 = 0 := by omega
  have q0 : 0 ≤ a0 / a1 := Int.ediv_nonneg (by omega) (by omega)
  have q1 : a0 / a1 ≤ a0 := Int.ediv_le_self _ (by omega)
  by_cases i5 : 1048576 < a0 / a1
  · go_enter Try.func4, Try.ntmps4
    go_wp2_with (go_at_call 7; refine (alive_any _).mono ?_; rintro e w1 ⟨rfl, hg⟩)
    go_ret
    exact ⟨rfl, hg⟩
  · obtain ⟨c1, c2, c3, c4, c5, c6⟩ := ceils (l := a0) (p := a1) (by omega) (by omega) (by omega) (by omega)
    obtain ⟨b0, b1⟩ := cdiv_bd a0 a1
    have d1 : -9223372036854775808 ≤ ceilZ (cdivZ a0 a1) - 1 := by omega
    obtain ⟨C, hC⟩ : ∃ C, cdivZ a0 a1 = C := ⟨_, rfl⟩
    rw [hC] at c1 c2 c3 c4 c5 c6 b0 b1 d1
    obtain ⟨n, hn⟩ : ∃ n, ceilZ C = n := ⟨_, rfl⟩
    rw [hn] at c1 c2 c3 c4 c5 c6 d1
    obtain ⟨P, hP⟩ : ∃ P, n * a1 = P := ⟨_, rfl⟩
    obtain ⟨R, hR⟩ : ∃ R, (n - 1) * a1 = R := ⟨_, rfl⟩
    rw [hP] at c2 c6
    rw [hR] at c3 c5
    have P0 : 0 ≤ P := by omega
    by_cases hz : n = 0
    · subst hz
      go_enter Try.func4, Try.ntmps4
      go_wp2_with (go_at_call 7; refine (alive_any _).mono ?_; rintro e w1 ⟨rfl, hg⟩)
      go_wp2_with (first | (go_at_call 11; refine (cdiv_any _ _ _ (by omega) (by omega) (by omega) (by omega)).mono ?_; rintro e w2 ⟨rfl, hk⟩; rw [hC]; replace hg := grown_trans hg hk; clear hk) | (go_at_call 12; refine (ceil_any _ _ (by omega) (by omega)).mono ?_; rintro e w' ⟨rfl, rfl⟩; rw [hn]))
      go_ret
      exact ⟨rfl, hg⟩
    · have hz' : (n == 0) = false := by simpa using hz
      go_enter Try.func4, Try.ntmps4
      go_wp2_with (go_at_call 7; refine (alive_any _).mono ?_; rintro e w1 ⟨rfl, hg⟩)
      go_wp2_with (first | (go_at_call 11; refine (cdiv_any _ _ _ (by omega) (by omega) (by omega) (by omega)).mono ?_; rintro e w2 ⟨rfl, hk⟩; rw [hC]; replace hg := grown_trans hg hk; clear hk) | (go_at_call 12; refine (ceil_any _ _ (by omega) (by omega)).mono ?_; rintro e w' ⟨rfl, rfl⟩; rw [hn]))
      go_ret
      exact ⟨rfl, hg⟩

set_option maxRecDepth 100000 in
theorem lifted (os : Os) (started : os.Started) (H : Type) (enc : TypeId × Value → H) :
    ReturnsInHanded {} Try.checked os 4 .any (Rows.fixedCeilsSpec.pre6 enc Try.prog Try.f4 Rows.fixedCeilsRow.domain false) (Rows.fixedCeilsSpec.post enc Try.prog Try.f4 false true false false) := by
  refine returnsInHanded_of_change (C := Try.checked) own started (by kernel_rfl) Try.func4
    (ChangeSpec.witness6 (enc := enc) (C := Try.checked) false ⟨#[], #[.int .i64 0, .int .i64 0], []⟩ 8 (by kernel_rfl) (by kernel_rfl) (by kernel_rfl) (by kernel_rfl)) ?_
  intro W base args ds gs before hval0 hW hcnd _
  have hval : ∀ (j : Nat) t v, Try.f4.params[j]? = some t → args[j]? = some v → Value.okWide Try.prog W .any base t v := hval0
  have hW' := hW
  obtain ⟨p, q, hA0, hV, rfl, hfz, hnd⟩ := hW
  have hA : DataW.TrodAll enc Try.prog W 0 (fun _ => true) true Try.f4.params.toList args.toList ds p := hA0
  rw [Try.params4] at hA hval
  obtain ⟨v0, vs0, d0, ds0, p0, q0, hargs, rfl, rfl, h0, r0⟩ := trodAll_cons hA
  obtain ⟨v1, vs1, d1, ds1, p1, q1, rfl, rfl, rfl, h1, r1⟩ := trodAll_cons r0
  obtain ⟨rfl, rfl, rfl⟩ := trodAll_nil r1
  obtain rfl : args = #[v0, v1] := by cases args; simp_all
  obtain ⟨rfl, rfl⟩ := trodVars_none hV
  obtain ⟨a0, rfl, rfl, rfl, w0⟩ := open_int Try.underlying3 (hval 0 3 v0 rfl rfl) h0
  obtain ⟨a1, rfl, rfl, rfl, w1⟩ := open_int Try.underlying3 (hval 1 3 v1 rfl rfl) h1
  clear hA0 hval0
  simp only [List.append_nil] at hW'
  refine (walk a0 a1 w0 w1 W).mono fun e W' ⟨he, hg⟩ => ?_
  subst he
  exact ⟨_, rfl, post_of_same (pa := []) (pv := []) hW' (fun _ _ _ => (trodAll_cons_mk (shut_bool Try.underlying4 _) trodAll_mk0)) (fun sp _ => (trodAll_cons_mk (shut_int Try.underlying3 w0) (trodAll_cons_mk (shut_int Try.underlying3 w1) trodAll_mk0))) (fun _ _ => rfl) rfl
    (hg.frame _) hg.2.1 (ok_one (by kernel_rfl) rfl (okWide_bool_mk Try.underlying4 _))⟩

theorem over : Rows.fixedCeilsRow.holds Try.pinned (OpenSpec.ofChange Rows.fixedCeilsSpec) :=
  OpenClaim.holds_of_wide 4 Try.f4 rfl rfl rfl rfl rfl rfl rfl ⟨rfl, rfl, rfl, rfl, rfl⟩ rfl rfl rfl rfl rfl (by kernel_rfl) Try.func4 (by kernel_rfl)
    (of_decide_eq_true (by kernel_rfl)) (by unfold Func.isWrapper; first | (rw [if_pos (by decide +kernel)]; kernel_rfl) | (rw [if_neg (by decide +kernel)]; exact ⟨rfl, rfl⟩))
    (fun os started H enc _ => lifted os started H enc)

theorem proved : Rows.FixedCeilsSaid :=
  over
#print axioms proved
end Go.Proofs.Ytnagkbdnondklab.fixedCeils
