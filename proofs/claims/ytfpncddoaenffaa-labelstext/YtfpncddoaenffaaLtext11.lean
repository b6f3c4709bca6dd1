/-
  The law of Text.
-/
import Derived.Test.YtfpncddoaenffaaNparse
import Derived.Test.YtfpncddoaenffaaNalive
import Derived.Test.YtfpncddoaenffaaNopen
import Derived.Test.YtfpncddoaenffaaNrtext
namespace Go.Proofs.Ytfpncddoaenffaa.N
open Go.RowKit Go.Proofs.Lys
set_option linter.unusedVariables false
set_option linter.unusedSimpArgs false

set_option maxRecDepth 100000 in
set_option maxHeartbeats 1600000 in
theorem text11_walk (w : World) (v : Value) (l : Labs) (hM : Mx w) (hl : In w v l) :
    Calls Try.prog 4 #[v] w fun e w' => e = .returned (.bool true) ∧ Kept w w' := by
  have HMx := hid hM
  have HL := hid hl
  obtain ⟨a1, c1, rfl⟩ := hl.src.len
  have H0 := hid (alive_any w)
  have HBl := hid (fun W (k : Kept w W) => big_any W _ l (HL.out.src.stay k) (by have := HL.out.len; omega) HL.out.came)
  clear hl hM
  go_enter Try.func4, Try.ntmps4
  go_wp2_with fail
  refine H0.out.mono ?_
  rintro e w1 ⟨rfl, k1⟩
  go_wp2_with fail
  refine (HBl.out w1 k1).mono ?_
  rintro e w2 ⟨rfl, k2'⟩
  have k2 : Kept w w2 := k1.trans k2' (fun _ _ f => f)
  by_cases ga : 4000 < bigN l
  · rw [decide_eq_true ga]
    go_wp2
    go_ret
    exact ⟨rfl, k2⟩
  rw [decide_eq_false ga]
  obtain ⟨sl, ll⟩ := bigN_small (l := l) (by omega)
  have HSl := hid sl
  have HK2 := hid k2
  have H1 := hid (text_any w2 _ l (HL.out.src.stay k2) (by omega) sl)
  clear HBl H0 k1 k2 k2' ga sl
  cases hm : makeL l with
  | none =>
    have Ht : txtB l = ⟨#[]⟩ := by unfold txtB; rw [hm]
    have HTn := hid Ht
    rw [Ht] at H1
    clear Ht
    go_wp2_with fail
    refine H1.out.mono ?_
    rintro e w3 ⟨rfl, k3⟩
    have HK3 := hid (HK2.out.trans k3 (fun _ _ f => f))
    have H2 := hid (rtext_any w3 _ l (HL.out.src.stay HK3.out) (by omega) HSl.out)
    rw [HTn.out] at H2
    clear k3
    go_wp2_with fail
    refine H2.out.mono ?_
    rintro e w4 ⟨rfl, k4⟩
    have HK4 := hid (HK3.out.trans k4 (fun _ _ f => f))
    clear k4
    go_wp2
    all_goals first
      | (go_ret; exact ⟨rfl, HK4.out⟩)
      | (exfalso; simp_all)
  | some m =>
    have Ht : txtB l = mkB (textL m) := by unfold txtB; rw [hm]
    have hmade := makeL_made hm
    have HTn := hid Ht
    have HD := hid hmade
    have HMk := hid hm
    rw [Ht] at H1
    have hpar : parseL (textL m) = some m := parse_iff.2 ⟨hmade, rfl⟩
    have Hpar := hid hpar
    have htl : (textL m).length ≤ 10000 := by
      have h1 := accT_len (l := m) hmade.ok
      have h2 := hmade.len16
      unfold textL
      rw [List.length_append]
      simp
      omega
    have hne : (textL m).isEmpty = false := by
      cases h : textL m with
      | nil => unfold textL at h; simp at h
      | cons a r => rfl
    clear Ht hmade hm hpar
    generalize hT : textL m = T at H1 HTn Hpar htl hne
    clear hT
    go_wp2_with fail
    refine H1.out.mono ?_
    rintro e w3 ⟨rfl, k3⟩
    have HK3 := hid (HK2.out.trans k3 (fun _ _ f => f))
    have H2 := hid (rtext_any w3 _ l (HL.out.src.stay HK3.out) (by omega) HSl.out)
    rw [HTn.out] at H2
    clear k3
    go_wp2_with fail
    refine H2.out.mono ?_
    rintro e w4 ⟨rfl, k4⟩
    have HK4 := hid (HK3.out.trans k4 (fun _ _ f => f))
    have H3 := hid (parse_any w4 (mkB T) (HMx.out.stay HK4.out) (by rw [mkB_size]; omega))
    have e3 : (mkB T).data.toList = T := rfl
    rw [e3, Hpar.out] at H3
    clear k4 e3
    go_wp2_with fail
    all_goals try (exfalso; simp_all; done)
    refine H3.out.mono ?_
    rintro e w5 ⟨⟨u, n, rfl, rfl, hat⟩, k5⟩
    obtain ⟨oa, oc, rfl⟩ := ownN_slice hat
    have HA := hid hat
    have HK5 := hid (HK4.out.trans k5 (fun _ _ f => f))
    have H4 := hid (rmake_any w5 _ l (HL.out.src.stay HK5.out) (by omega) HSl.out)
    rw [HMk.out] at H4
    clear hat k5 H3
    go_wp2_with fail
    refine H4.out.mono ?_
    rintro e w6 ⟨⟨u2, n2, rfl, rfl, hat2⟩, k6⟩
    obtain ⟨ob, od, rfl⟩ := ownN_slice hat2
    have HK6 := hid (HK5.out.trans k6 (fun _ _ f => f))
    have H5 := hid (num_any w6 0)
    have H6 := hid (same_any w6 _ _ m ((LabAt.src HA.out).stay k6) (LabAt.src hat2) (by have := HD.out.len16; omega))
    clear hat2 k6 H4
    go_wp2_with fail
    refine H5.out.mono ?_
    rintro e w7 ⟨rfl, hq⟩
    replace hq := hq.symm
    subst hq
    go_wp2_with fail
    refine H6.out.mono ?_
    rintro e w7 ⟨rfl, k7⟩
    go_wp2
    go_ret
    exact ⟨rfl, HK6.out.trans k7 (fun _ _ f => f)⟩
end Go.Proofs.Ytfpncddoaenffaa.N
