/-
  The law RollupFloor.
-/
import Derived.Test.YtdepgplbcfbopaaYsame
namespace Go.Proofs.Ytdepgplbcfbopaa.Ru
open Go Go.RowKit Go.Proofs.Lys Go.Shelf
set_option linter.unusedVariables false
set_option linter.unusedSimpArgs false

theorem in64_wf {n : Int} (h : (Lit.int .i64 n).wf = true) : In64 n := by
  simp only [Lit.wf, Bool.and_eq_true, decide_eq_true_eq] at h
  have m0 : IntKind.i64.min = -9223372036854775808 := by decide
  have m1 : IntKind.i64.max = 9223372036854775807 := by decide
  rw [m0, m1] at h
  exact h
set_option maxRecDepth 100000 in
set_option maxHeartbeats 3200000 in
theorem floor_walk (w : World) (t x : Int) (ht : In64 t) (hx : In64 x) :
    Calls Try.prog 4 #[.int .i64 t, .int .i64 x] w fun e w' => e = .returned (.bool true) ∧ Kept w w' := by
  have HAL := hid (alive_any w)
  have HF := hid (fun W => floor_any t x W ht hx)
  have HR := hid (fun W => rfloor_any t x W ht hx)
  by_cases hc : x < 1 ∨ t < -1152921504606846976 ∨ 1152921504606846976 < x
  · obtain ⟨F, hF⟩ : ∃ F, floorB t x = F := ⟨_, rfl⟩
    rw [hF] at HF HR
    clear hF
    by_cases h1 : x < 1
    · clear hc
      go_enter Try.func4, Try.ntmps4
      go_wp2_with fail
      refine HAL.out.mono ?_
      rintro e w2 ⟨rfl, k2⟩
      have K2 := hid k2
      clear k2
      go_wp2_with fail
      refine (HF.out _).mono ?_
      rintro e w3 ⟨rfl, rfl⟩
      go_wp2_with fail
      refine (HR.out _).mono ?_
      rintro e w4 ⟨rfl, rfl⟩
      go_wp2
      go_ret
      exact ⟨rfl, K2.out⟩
    · by_cases h2 : t < -1152921504606846976
      · clear hc
        go_enter Try.func4, Try.ntmps4
        go_wp2_with fail
        refine HAL.out.mono ?_
        rintro e w2 ⟨rfl, k2⟩
        have K2 := hid k2
        clear k2
        go_wp2_with fail
        refine (HF.out _).mono ?_
        rintro e w3 ⟨rfl, rfl⟩
        go_wp2_with fail
        refine (HR.out _).mono ?_
        rintro e w4 ⟨rfl, rfl⟩
        go_wp2
        go_ret
        exact ⟨rfl, K2.out⟩
      · have h3 : 1152921504606846976 < x := by omega
        clear hc
        go_enter Try.func4, Try.ntmps4
        go_wp2_with fail
        refine HAL.out.mono ?_
        rintro e w2 ⟨rfl, k2⟩
        have K2 := hid k2
        clear k2
        go_wp2_with fail
        refine (HF.out _).mono ?_
        rintro e w3 ⟨rfl, rfl⟩
        go_wp2_with fail
        refine (HR.out _).mono ?_
        rintro e w4 ⟨rfl, rfl⟩
        go_wp2
        go_ret
        exact ⟨rfl, K2.out⟩
  · have h1 : ¬ x < 1 := by omega
    have h2 : ¬ t < -1152921504606846976 := by omega
    have h3 : ¬ 1152921504606846976 < x := by omega
    have g1 : 0 ≤ t % x := Int.emod_nonneg _ (by omega)
    have g2 : t % x < x := Int.emod_lt_of_pos _ (by omega)
    have hfl : floorB t x = t - t % x := by
      unfold floorB
      rw [if_neg h1, if_neg (by omega)]
    obtain ⟨E, hE⟩ : ∃ E, t % x = E := ⟨_, rfl⟩
    obtain ⟨F, hF⟩ : ∃ F, t - E = F := ⟨_, rfl⟩
    have hdv : F.tmod x = 0 := by
      apply Int.tmod_eq_zero_of_dvd
      rw [← hF, ← hE]
      exact Int.dvd_self_sub_emod
    rw [hfl, hE, hF] at HF HR
    rw [hE] at g1 g2
    have d1 : F ≤ t := by omega
    have d2 : t - F < x := by omega
    have hx0 : x ≠ 0 := by omega
    unfold In64 at ht hx
    have d3 : decide (t - F < x) = true := by simp [d2]
    clear hc hE hF hfl
    go_enter Try.func4, Try.ntmps4
    go_wp2_with fail
    refine HAL.out.mono ?_
    rintro e w2 ⟨rfl, k2⟩
    have K2 := hid k2
    clear k2
    go_wp2_with fail
    refine (HF.out _).mono ?_
    rintro e w3 ⟨rfl, rfl⟩
    go_wp2_with fail
    refine (HR.out _).mono ?_
    rintro e w4 ⟨rfl, rfl⟩
    go_wp2
    go_ret
    exact ⟨rfl, K2.out⟩
end Go.Proofs.Ytdepgplbcfbopaa.Ru
