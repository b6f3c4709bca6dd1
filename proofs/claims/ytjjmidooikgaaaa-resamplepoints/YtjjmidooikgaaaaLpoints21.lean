/-
  The law ResamplePoints.
-/
import Derived.Test.YtjjmidooikgaaaaPtalive
namespace Go.Proofs.Ytjjmidooikgaaaa.Rs
open Go Go.RowKit Go.Proofs.Lys
open Ru (In64 one okT T0)
set_option linter.unusedVariables false
set_option linter.unusedSimpArgs false

set_option maxRecDepth 100000 in
set_option maxHeartbeats 3200000 in
theorem points_walk (w : World) (va : Value) (l : Smps) (f s n : Int) (ha : SIn w va l) (hf : In64 f) (hs : In64 s) (hn : In64 n) :
    Calls Try.prog 3 #[va, .int .i64 f, .int .i64 s, .int .i64 n] w fun e w' => e = .returned (.bool true) ∧ Kept w w' := by
  obtain ⟨hss, hle, hin⟩ := ha
  obtain ⟨_, ra, rc, rfl, _⟩ := id hss
  have HAL := hid (alive_any w)
  obtain ⟨L, hL⟩ : ∃ L, l.length = L := ⟨_, rfl⟩
  rw [hL] at hss hle ⊢
  have HS := hid hss
  have HL := hid hL
  have HIN := hid hin
  have HSI := hid hs
  clear hss hL hin
  by_cases h1 : 1000 < L
  · have d1 : decide (1000 < (L : Int)) = true := by simp; omega
    clear h1
    go_enter Try.func3, Try.ntmps3
    go_wp2_with fail
    refine HAL.out.mono ?_
    rintro e w2 ⟨rfl, k2⟩
    have K2 := hid k2
    clear k2
    go_wp2
    go_ret
    exact ⟨rfl, K2.out⟩
  have d1 : decide (1000 < (L : Int)) = false := by simp; omega
  by_cases h2 : 20000 < n
  · have d2 : decide (20000 < n) = true := by simp [h2]
    clear h1 h2
    go_enter Try.func3, Try.ntmps3
    go_wp2_with fail
    refine HAL.out.mono ?_
    rintro e w2 ⟨rfl, k2⟩
    have K2 := hid k2
    clear k2
    go_wp2
    go_ret
    exact ⟨rfl, K2.out⟩
  have d2 : decide (20000 < n) = false := by simp; omega
  have HPT := hid (fun W (k : Kept w W) => points_any W ra L rc l f s n (HS.out.stay k) HL.out (by omega) HIN.out HSI.out)
  have HGA := hid (fun W (k : Kept w W) => gaps_any W ra L rc l f s n (HS.out.stay k) HL.out (by omega) HIN.out HSI.out)
  have HRP := hid (fun W (k : Kept w W) => rpoints_any W ra L rc l f s n (HS.out.stay k) HL.out (by omega))
  clear h1 h2 hs hf hn hle
  go_enter Try.func3, Try.ntmps3
  go_wp2_with fail
  refine HAL.out.mono ?_
  rintro e w2 ⟨rfl, k2⟩
  have K2 := hid k2
  have HP2 := hid (HPT.out w2 k2)
  clear k2 HAL HPT
  go_wp2_with fail
  refine HP2.out.mono ?_
  rintro e w3 hp
  obtain ⟨v, r, g, x, ha, rfl, hv, k3⟩ := pts_ans hp
  have HA := hid ha
  have hlen := ans_len ha
  obtain ⟨a3, c3, hve⟩ := hv.len
  obtain ⟨Q, hQ⟩ : ∃ Q, r.length = Q := ⟨_, rfl⟩
  rw [List.length_map, hQ] at hve
  subst hve
  have HQ := hid hQ
  have HV3 := hid hv
  have hxI : In64 x := by unfold In64; omega
  have HNU := hid (fun W => num_any x W hxI)
  have hQ1 : Q ≤ 10000 := by omega
  have hg1 : g ≤ 10000 := hlen.2.1
  have K3 := hid (K2.out.trans k3 (fun _ _ f => f))
  have HG3 := hid (HGA.out w3 K3.out)
  clear hp ha hv k3 hlen hQ HP2 HGA hxI
  go_wp2_with fail
  refine HG3.out.mono ?_
  rintro e w4 hg
  obtain ⟨r2, g2, x2, ha2, rfl, k4⟩ := gap_ans hg
  obtain ⟨-, rfl, rfl⟩ := HA.out.inj ha2
  have K4 := hid (K3.out.trans k4 (fun _ _ f => f))
  have HV4 := hid (HV3.out.stay k4)
  have HR4 := hid (HRP.out w4 K4.out)
  clear hg ha2 k4 HG3 HV3 HRP
  go_wp2_with fail
  refine HR4.out.mono ?_
  rintro e w5 hr
  obtain ⟨v5, r5, g5, x5, ha5, rfl, hv5, k5⟩ := rpts_ans hr
  obtain ⟨rfl, rfl, rfl⟩ := HA.out.inj ha5
  obtain ⟨a5, c5, hve5⟩ := hv5.len
  rw [List.length_map, HQ.out] at hve5
  subst hve5
  have HSA := hid (same_any w5 (.slice a3 Q c3) (.slice a5 Q c5) r5 (HV4.out.stay k5) hv5 (by rw [HQ.out]; omega))
  have K5 := hid (K4.out.trans k5 (fun _ _ f => f))
  clear hr ha5 hv5 k5 HR4 HV4
  go_wp2_with fail
  refine (HNU.out _).mono ?_
  rintro e w6 ⟨rfl, hw6⟩
  replace hw6 := hw6.symm
  subst hw6
  go_wp2_with fail
  refine (HNU.out _).mono ?_
  rintro e w6 ⟨rfl, hw6⟩
  replace hw6 := hw6.symm
  subst hw6
  go_wp2_with fail
  refine HSA.out.mono ?_
  rintro e w6 ⟨rfl, k6⟩
  have K6 := hid (K5.out.trans k6 (fun _ _ f => f))
  clear k6 HSA
  go_wp2
  go_ret
  exact ⟨rfl, K6.out⟩
end Go.Proofs.Ytjjmidooikgaaaa.Rs
