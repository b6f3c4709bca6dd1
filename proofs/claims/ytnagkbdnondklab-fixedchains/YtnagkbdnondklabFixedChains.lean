/-
  For every x and n the law FixedChains returns true: a sum of many, cut at each step, never leaves the bounds, and n times a small number is its product by n.
-/
import Derived.Test.YtnagkbdnondklabRows
import Derived.Test.YtnagkbdnondklabRof
import Derived.Test.YtnagkbdnondklabTurns
import Derived.WalkKit
import Derived.ProofKit
import Derived.OpenShut
import Derived.ShutString
namespace Go.Proofs.Ytnagkbdnondklab.fixedChains
open Go.ChangeShapes Go.WideShapes Go.ChangeAt Go.RowKit
open Go.ChangeMaps (open_string shut_string)
set_option linter.unusedVariables false

theorem own : ownKnob Try.prog.godebug = none := by kernel_rfl

theorem walk (a0 : Int) (a1 : Int) (w0 : (Lit.int .i64 a0).wf = true) (w1 : (Lit.int .i64 a1).wf = true) (w : World) :
    Calls Try.prog 5 #[.int .i64 a0, .int .i64 a1] w fun e w' => e = .returned (.bool true) ∧ Grown w w' := by
  obtain ⟨h0, h1⟩ := bounds_i64 w0
  obtain ⟨h2, h3⟩ := bounds_i64 w1
  clear w0 w1
  by_cases i1 : a1 < 0
  · go_enter Try.func5, Try.ntmps5
    go_wp2_with (go_at_call 7; refine (alive_any _).mono ?_; rintro e w1 ⟨rfl, hg⟩)
    go_ret
    exact ⟨rfl, hg⟩
  by_cases i2 : 1000 < a1
  · go_enter Try.func5, Try.ntmps5
    go_wp2_with (go_at_call 7; refine (alive_any _).mono ?_; rintro e w1 ⟨rfl, hg⟩)
    go_ret
    exact ⟨rfl, hg⟩
  obtain ⟨o0, o1⟩ := of_bd a1
  go_enter Try.func5, Try.ntmps5
  go_wp2_with (go_at_call 7; refine (alive_any _).mono ?_; rintro e w1 ⟨rfl, hg⟩)
  go_wp2
  go_loop [6, 7] (fun s i => ∃ (k : Nat) (z : Int), (k : Int) ≤ a1 ∧ i = .int .i64 k ∧ s = .int .i64 z ∧ -9223372036854775808 ≤ z ∧ z ≤ 9223372036854775807 ∧ (-9007199254740992 ≤ a0 → a0 ≤ 9007199254740991 → z = (k : Int) * a0)) (fun _ i => (a1 - intOf i).toNat)
  case atStart => exact ⟨0, 0, by omega, rfl, rfl, by omega, by omega, fun _ _ => by simp⟩
  case round =>
    obtain ⟨k, z, k1, rfl, rfl, z0, z1, hz⟩ := hrel
    have HZ : Hid (-9007199254740992 ≤ a0 → a0 ≤ 9007199254740991 → z = (k : Int) * a0) := hz
    clear hz
    obtain ⟨b0, b1⟩ := add_bd z a0
    by_cases hlt : (k : Int) < a1
    · have HN : Hid (-9007199254740992 ≤ a0 → a0 ≤ 9007199254740991 → addZ z a0 = ((k + 1 : Nat) : Int) * a0) := fun p q => by rw [HZ.out p q]; exact chain_step (by omega) p q
      rcases Int.lt_trichotomy a0 0 with hx | hx | hx
      · have hd := chain_down z0 z1 hx
        go_wp2_with (go_at_call 8; refine (add_any _ _ _ (by omega) (by omega) (by omega) (by omega)).mono ?_; rintro e w' ⟨rfl, rfl⟩)
        go_round
        case rel => exact ⟨k + 1, addZ z a0, by omega, by go_num, rfl, b0, b1, HN.out⟩
        case measure => simp [intOf]; omega
      · subst hx
        go_wp2_with (go_at_call 8; refine (add_any _ _ _ (by omega) (by omega) (by omega) (by omega)).mono ?_; rintro e w' ⟨rfl, rfl⟩)
        go_round
        case rel => exact ⟨k + 1, addZ z 0, by omega, by go_num, rfl, b0, b1, HN.out⟩
        case measure => simp [intOf]; omega
      · have hd := chain_up z0 z1 hx
        go_wp2_with (go_at_call 8; refine (add_any _ _ _ (by omega) (by omega) (by omega) (by omega)).mono ?_; rintro e w' ⟨rfl, rfl⟩)
        go_round
        case rel => exact ⟨k + 1, addZ z a0, by omega, by go_num, rfl, b0, b1, HN.out⟩
        case measure => simp [intOf]; omega
    · have ek : (k : Int) = a1 := by omega
      by_cases j1 : 9007199254740991 < a0
      · go_wp2_with (first | (go_at_call 13; refine (of_any _ _ (by omega) (by omega)).mono ?_; rintro e w' ⟨rfl, rfl⟩) | (go_at_call 9; refine (mul_any _ _ _ (by omega) (by omega) (by omega) (by omega)).mono ?_; rintro e w2 ⟨rfl, hk⟩))
        all_goals
          go_ret
          exact ⟨rfl, grown_trans hg hk⟩
      · by_cases j2 : a0 < -9007199254740992
        · go_wp2_with (first | (go_at_call 13; refine (of_any _ _ (by omega) (by omega)).mono ?_; rintro e w' ⟨rfl, rfl⟩) | (go_at_call 9; refine (mul_any _ _ _ (by omega) (by omega) (by omega) (by omega)).mono ?_; rintro e w2 ⟨rfl, hk⟩))
          all_goals
            go_ret
            exact ⟨rfl, grown_trans hg hk⟩
        · have em : mulZ a0 (ofZ a1) = z := by rw [chain_mul (by omega) (by omega) (by omega) (by omega), HZ.out (by omega) (by omega), ek]
          clear ek
          go_wp2_with (first | (go_at_call 13; refine (of_any _ _ (by omega) (by omega)).mono ?_; rintro e w' ⟨rfl, rfl⟩) | (go_at_call 9; refine (mul_any _ _ _ (by omega) (by omega) (by omega) (by omega)).mono ?_; rintro e w2 ⟨rfl, hk⟩; rw [em]))
          go_ret
          exact ⟨rfl, grown_trans hg hk⟩

set_option maxRecDepth 100000 in
theorem lifted (os : Os) (started : os.Started) (H : Type) (enc : TypeId × Value → H) :
    ReturnsInHanded {} Try.checked os 5 .any (Rows.fixedChainsSpec.pre6 enc Try.prog Try.f5 Rows.fixedChainsRow.domain false) (Rows.fixedChainsSpec.post enc Try.prog Try.f5 false true false false) := by
  refine returnsInHanded_of_change (C := Try.checked) own started (by kernel_rfl) Try.func5
    (ChangeSpec.witness6 (enc := enc) (C := Try.checked) false ⟨#[], #[.int .i64 0, .int .i64 0], []⟩ 8 (by kernel_rfl) (by kernel_rfl) (by kernel_rfl) (by kernel_rfl)) ?_
  intro W base args ds gs before hval0 hW hcnd _
  have hval : ∀ (j : Nat) t v, Try.f5.params[j]? = some t → args[j]? = some v → Value.okWide Try.prog W .any base t v := hval0
  have hW' := hW
  obtain ⟨p, q, hA0, hV, rfl, hfz, hnd⟩ := hW
  have hA : DataW.TrodAll enc Try.prog W 0 (fun _ => true) true Try.f5.params.toList args.toList ds p := hA0
  rw [Try.params5] at hA hval
  obtain ⟨v0, vs0, d0, ds0, p0, q0, hargs, rfl, rfl, h0, r0⟩ := trodAll_cons hA
  obtain ⟨v1, vs1, d1, ds1, p1, q1, rfl, rfl, rfl, h1, r1⟩ := trodAll_cons r0
  obtain ⟨rfl, rfl, rfl⟩ := trodAll_nil r1
  obtain rfl : args = #[v0, v1] := by cases args; simp_all
  obtain ⟨rfl, rfl⟩ := trodVars_none hV
  obtain ⟨a0, rfl, rfl, rfl, w0⟩ := open_int Try.underlying3 (hval 0 3 v0 rfl rfl) h0
  obtain ⟨a1, rfl, rfl, rfl, w1⟩ := open_int Try.underlying3 (hval 1 3 v1 rfl rfl) h1
  clear hA0 hval0
  simp only [List.append_nil] at hW'
  refine (walk a0 a1 w0 w1 W).mono fun e W' ⟨he, hg⟩ => ?_
  subst he
  exact ⟨_, rfl, post_of_same (pa := []) (pv := []) hW' (fun _ _ _ => (trodAll_cons_mk (shut_bool Try.underlying4 _) trodAll_mk0)) (fun sp _ => (trodAll_cons_mk (shut_int Try.underlying3 w0) (trodAll_cons_mk (shut_int Try.underlying3 w1) trodAll_mk0))) (fun _ _ => rfl) rfl
    (hg.frame _) hg.2.1 (ok_one (by kernel_rfl) rfl (okWide_bool_mk Try.underlying4 _))⟩

theorem over : Rows.fixedChainsRow.holds Try.pinned (OpenSpec.ofChange Rows.fixedChainsSpec) :=
  OpenClaim.holds_of_wide 5 Try.f5 rfl rfl rfl rfl rfl rfl rfl ⟨rfl, rfl, rfl, rfl, rfl⟩ rfl rfl rfl rfl rfl (by kernel_rfl) Try.func5 (by kernel_rfl)
    (of_decide_eq_true (by kernel_rfl)) (by unfold Func.isWrapper; first | (rw [if_pos (by decide +kernel)]; kernel_rfl) | (rw [if_neg (by decide +kernel)]; exact ⟨rfl, rfl⟩))
    (fun os started H enc _ => lifted os started H enc)

theorem proved : Rows.FixedChainsSaid :=
  over
#print axioms proved
end Go.Proofs.Ytnagkbdnondklab.fixedChains
