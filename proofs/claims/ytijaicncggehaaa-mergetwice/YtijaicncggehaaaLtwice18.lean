/-
  The law MergeTwice.
-/
import Derived.Test.YtijaicncggehaaaZopen
namespace Go.Proofs.Ytijaicncggehaaa.Mg
open Go Go.RowKit Go.Proofs.Lys
set_option linter.unusedVariables false
set_option linter.unusedSimpArgs false

set_option maxRecDepth 100000 in
set_option maxHeartbeats 3200000 in
theorem twice_walk (w : World) (va vb vc : Value) (a b c : Smps) (ha : SIn w va a) (hb : SIn w vb b) (hc : SIn w vc c) :
    Calls Try.prog 6 #[va, vb, vc] w fun e w' => e = .returned (.bool true) ∧ Kept w w' := by
  have HA := hid ha.1
  have HB := hid hb.1
  have HC := hid hc.1
  have ha2 := ha.2
  have hb2 := hb.2
  have hc2 := hc.2
  obtain ⟨xa, ca, rfl⟩ := ha.1.1.len
  obtain ⟨xb, cb, rfl⟩ := hb.1.1.len
  obtain ⟨xc, cc, rfl⟩ := hc.1.1.len
  obtain ⟨LA, hLA⟩ : ∃ L, a.length = L := ⟨_, rfl⟩
  obtain ⟨LB, hLB⟩ : ∃ L, b.length = L := ⟨_, rfl⟩
  obtain ⟨LC, hLC⟩ : ∃ L, c.length = L := ⟨_, rfl⟩
  have HLA := hid hLA
  have HLB := hid hLB
  have HLC := hid hLC
  rw [hLA] at ha2 HA ⊢
  rw [hLB] at hb2 HB ⊢
  rw [hLC] at hc2 HC ⊢
  have HAL := hid (alive18_any w)
  clear ha hb hc hLA hLB hLC
  by_cases hbig : 600 < LA + LB + LC
  · have hx : decide (600 < (LA : Int) + (LB : Int) + (LC : Int)) = true := by simp; omega
    go_enter Try.func6, Try.ntmps6
    go_wp2_with fail
    refine HAL.out.mono ?_
    rintro e w1 ⟨rfl, k1⟩
    have K1 := hid k1
    clear HAL k1
    go_wp2
    go_ret
    exact ⟨rfl, K1.out⟩
  · have hx : decide (600 < (LA : Int) + (LB : Int) + (LC : Int)) = false := by simp; omega
    have HBG := hid (show LA + LB + LC ≤ 600 by omega)
    go_enter Try.func6, Try.ntmps6
    go_wp2_with fail
    refine HAL.out.mono ?_
    rintro e w1 ⟨rfl, k1⟩
    have K1 := hid k1
    have HS1 := hid (samples3 w1 _ _ _ a b c (HA.out.stay k1) (HB.out.stay k1) (HC.out.stay k1) (by have := HLA.out; have := HLB.out; have := HLC.out; have := HBG.out; omega))
    clear HAL k1
    go_wp2_with fail
    refine HS1.out.mono ?_
    rintro e w2 ⟨v2, rfl, h2, k2⟩
    obtain ⟨x2, c2, rfl⟩ := ownN_slice h2
    have K2 := hid (K1.out.trans k2 (fun _ _ f => f))
    have H2 := hid (smpAt_ssrc h2)
    have HS2 := hid (samples2 w2 _ _ a b (HA.out.stay K2.out) (HB.out.stay K2.out) (by have := HLA.out; have := HLB.out; have := HBG.out; omega))
    have HN2 := hid (mrg_len (a ++ b ++ c))
    obtain ⟨m, hm⟩ : ∃ m, mrg (a ++ b ++ c) = m := ⟨_, rfl⟩
    have HM := hid hm
    rw [hm] at H2 HN2 ⊢
    obtain ⟨L2, hL2⟩ : ∃ L, m.length = L := ⟨_, rfl⟩
    rw [hL2] at H2 HN2 ⊢
    have HL2 := hid hL2
    clear HS1 h2 k2 hm hL2
    go_wp2_with fail
    refine HS2.out.mono ?_
    rintro e w3 ⟨v3, rfl, h3, k3⟩
    obtain ⟨x3, c3, rfl⟩ := ownN_slice h3
    have K3 := hid (K2.out.trans k3 (fun _ _ f => f))
    have H3 := hid (smpAt_ssrc h3)
    have HN3 := hid (mrg_len (a ++ b))
    have H2b := hid (H2.out.stay k3)
    have HS3 := hid (samples2 w3 _ _ (mrg (a ++ b)) c H3.out (HC.out.stay K3.out) (by have h := HN3.out; rw [List.length_append] at h; have := HLA.out; have := HLB.out; have := HLC.out; have := HBG.out; omega))
    obtain ⟨L3, hL3⟩ : ∃ L, (mrg (a ++ b)).length = L := ⟨_, rfl⟩
    rw [hL3] at HS3 ⊢
    clear HS2 h3 k3 H2 H3 hL3 HN3
    go_wp2_with fail
    refine HS3.out.mono ?_
    rintro e w4 ⟨v4, rfl, h4, k4⟩
    rw [mrg_left, HM.out] at h4
    obtain ⟨x4, c4, rfl⟩ := ownN_slice h4
    rw [HL2.out]
    have K4 := hid (K3.out.trans k4 (fun _ _ f => f))
    have H4 := hid (smpAt_ssrc h4)
    rw [HL2.out] at H4
    have H2c := hid (H2b.out.stay k4)
    have HS4 := hid (samples2 w4 _ _ b c (HB.out.stay K4.out) (HC.out.stay K4.out) (by have := HLB.out; have := HLC.out; have := HBG.out; omega))
    clear HS3 h4 k4 H2b
    go_wp2_with fail
    refine HS4.out.mono ?_
    rintro e w5 ⟨v5, rfl, h5, k5⟩
    obtain ⟨x5, c5, rfl⟩ := ownN_slice h5
    have K5 := hid (K4.out.trans k5 (fun _ _ f => f))
    have H5 := hid (smpAt_ssrc h5)
    have HN5 := hid (mrg_len (b ++ c))
    have H2d := hid (H2c.out.stay k5)
    have H4d := hid (H4.out.stay k5)
    have HS5 := hid (samples2 w5 _ _ a (mrg (b ++ c)) (HA.out.stay K5.out) H5.out (by have h := HN5.out; rw [List.length_append] at h; have := HLA.out; have := HLB.out; have := HLC.out; have := HBG.out; omega))
    obtain ⟨L5, hL5⟩ : ∃ L, (mrg (b ++ c)).length = L := ⟨_, rfl⟩
    rw [hL5] at HS5 ⊢
    clear HS4 h5 k5 H2c H4 H5 hL5 HN5
    go_wp2_with fail
    refine HS5.out.mono ?_
    rintro e w6 ⟨v6, rfl, h6, k6⟩
    rw [mrg_right, HM.out] at h6
    obtain ⟨x6, c6, rfl⟩ := ownN_slice h6
    rw [HL2.out]
    have K6 := hid (K5.out.trans k6 (fun _ _ f => f))
    have H6 := hid (smpAt_ssrc h6)
    rw [HL2.out] at H6
    have H2e := hid (H2d.out.stay k6)
    have H4e := hid (H4d.out.stay k6)
    have HS6 := hid (samples2 w6 _ _ m m H2e.out H2e.out (by have h := HN2.out; rw [List.length_append, List.length_append] at h; have := HL2.out; have := HLA.out; have := HLB.out; have := HLC.out; have := HBG.out; omega))
    clear HS5 h6 k6 H2d H4d
    go_wp2_with fail
    refine HS6.out.mono ?_
    rintro e w7 ⟨v7, rfl, h7, k7⟩
    have hmm : mrg (m ++ m) = m := by rw [← HM.out]; exact mrg_again _
    rw [hmm] at h7
    obtain ⟨x7, c7, rfl⟩ := ownN_slice h7
    rw [HL2.out]
    have K7 := hid (K6.out.trans k7 (fun _ _ f => f))
    have H7 := hid (smpAt_ssrc h7)
    rw [HL2.out] at H7
    have H2f := hid (H2e.out.stay k7)
    have H4f := hid (H4e.out.stay k7)
    have H6f := hid (H6.out.stay k7)
    have hmb : m.length ≤ 1000000 := by have h := HN2.out; rw [List.length_append, List.length_append] at h; have := HL2.out; have := HLA.out; have := HLB.out; have := HLC.out; have := HBG.out; omega
    have HMB := hid hmb
    have HSM1 := hid (ssame_any w7 _ _ m H2f.out.1 H4f.out.1 hmb)
    clear HS6 h7 k7 H2e H4e H6 hmm hmb
    go_wp2_with fail
    refine HSM1.out.mono ?_
    rintro e w8 ⟨rfl, k8⟩
    have K8 := hid (K7.out.trans k8 (fun _ _ f => f))
    have HSM2 := hid (ssame_any w8 _ _ m (H2f.out.stay k8).1 (H6f.out.stay k8).1 HMB.out)
    have H2g := hid (H2f.out.stay k8)
    have H7g := hid (H7.out.stay k8)
    clear HSM1 k8
    go_wp2_with fail
    refine HSM2.out.mono ?_
    rintro e w9 ⟨rfl, k9⟩
    have K9 := hid (K8.out.trans k9 (fun _ _ f => f))
    have HSM3 := hid (ssame_any w9 _ _ m (H2g.out.stay k9).1 (H7g.out.stay k9).1 HMB.out)
    clear HSM2 k9
    go_wp2_with fail
    refine HSM3.out.mono ?_
    rintro e w10 ⟨rfl, k10⟩
    have K10 := hid (K9.out.trans k10 (fun _ _ f => f))
    clear HSM3 k10
    go_wp2
    go_ret
    exact ⟨rfl, K10.out⟩
end Go.Proofs.Ytijaicncggehaaa.Mg
