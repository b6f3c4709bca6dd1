/-
  The law of Text and the law of Parse.
-/
import Derived.Test.YtbdcaikcdhfdoaaMlaw
import Derived.Test.YtbdcaikcdhfdoaaMrparse
namespace Go.Proofs.Ytbdcaikcdhfdoaa.N
open Go.RowKit Go.Proofs.Lys
set_option linter.unusedVariables false
set_option linter.unusedSimpArgs false

set_option maxRecDepth 100000 in
set_option maxHeartbeats 1600000 in
theorem texts12_walk (w : World) (v : Value) (l : Mats) (hM : Mx w) (hl : InM w v l) :
    Calls Try.prog 4 #[v] w fun e w' => e = .returned (.bool true) ∧ Kept w w' := by
  have HMx := hid hM
  have HL := hid hl
  obtain ⟨a1, c1, rfl⟩ := hl.src.len
  have H0 := hid (malive_any w)
  have HBl := hid (fun W (k : Kept w W) => mbig_any W _ l (HL.out.src.stay k) (by have := HL.out.len; omega) HL.out.came)
  clear hl hM
  go_enter Try.func4, Try.ntmps4
  go_wp2_with fail
  refine H0.out.mono ?_
  rintro e w1 ⟨rfl, k1⟩
  go_wp2_with fail
  refine (HBl.out w1 k1).mono ?_
  rintro e w2 ⟨rfl, k2'⟩
  have k2 : Kept w w2 := k1.trans k2' (fun _ _ f => f)
  by_cases ga : 4000 < bigM l
  · rw [decide_eq_true ga]
    go_wp2
    go_ret
    exact ⟨rfl, k2⟩
  rw [decide_eq_false ga]
  obtain ⟨sl, ll⟩ := bigM_small (l := l) (by omega)
  have HSl := hid sl
  have HK2 := hid k2
  have H1 := hid (mtext_any w2 _ l (HL.out.src.stay k2) (by omega) sl)
  clear HBl H0 k1 k2 k2' ga sl
  by_cases hck : checkM l = 0
  · have hpar := hid (parseM_iff.2 ⟨hck, rfl⟩)
    have htl : (mtxtL l).length ≤ 5000 := by
      have h8 := (checkM_zero.1 hck).1
      have h1 := matsT_len (checkM_zero.1 hck).2
      unfold mtxtL
      rw [if_pos hck]
      split
      · simp
      · omega
    have hne : (mtxtL l).isEmpty = false := by
      unfold mtxtL
      rw [if_pos hck]
      split
      · rfl
      · rename_i h
        obtain ⟨c, r, hc, _⟩ := mats_star hck h
        rw [hc]
        rfl
    have hl8 := (checkM_zero.1 hck).1
    have HTn : Hid (∀ W : World, Kept w W → Calls Try.prog 16 #[.slice a1 l.length c1] W fun e w' => e = .returned (.string (mkB (mtxtL l))) ∧ Kept W w') := fun W kW => rmtext_any W _ l (HL.out.src.stay kW) (by omega) HSl.out
    clear hck
    generalize mtxtL l = T at H1 hpar htl hne HTn
    go_wp2_with fail
    refine H1.out.mono ?_
    rintro e w3 ⟨rfl, k3⟩
    have HK3 := hid (HK2.out.trans k3 (fun _ _ f => f))
    clear k3
    go_wp2_with fail
    refine (HTn.out _ HK3.out).mono ?_
    rintro e w4 ⟨rfl, k4⟩
    have HK4 := hid (HK3.out.trans k4 (fun _ _ f => f))
    have H3 := hid (mparse_any w4 (mkB T) (HMx.out.stay HK4.out) (by rw [mkB_size]; omega))
    have e3 : (mkB T).data.toList = T := rfl
    rw [e3, hpar.out] at H3
    clear k4 e3
    go_wp2_with fail
    all_goals try (exfalso; simp_all; done)
    refine H3.out.mono ?_
    rintro e w5 ⟨⟨u, n, rfl, rfl, hat⟩, k5⟩
    obtain ⟨oa, oc, rfl⟩ := ownN_slice hat
    have HA := hid hat
    have HK5 := hid (HK4.out.trans k5 (fun _ _ f => f))
    have H5 := hid (mnum_any w5 0)
    have H6 := hid (msame_any w5 _ _ l (MatAt.src HA.out) (HL.out.src.stay HK5.out) (by omega))
    clear hat k5 H3
    go_wp2_with fail
    refine H5.out.mono ?_
    rintro e w7 ⟨rfl, hq⟩
    replace hq := hq.symm
    subst hq
    go_wp2_with fail
    refine H6.out.mono ?_
    rintro e w7 ⟨rfl, k7⟩
    go_wp2
    go_ret
    exact ⟨rfl, HK5.out.trans k7 (fun _ _ f => f)⟩
  · have Ht : mkB (mtxtL l) = ⟨#[]⟩ := by unfold mtxtL; rw [if_neg hck]
    have HTn := hid Ht
    rw [Ht] at H1
    clear Ht hck
    go_wp2_with fail
    refine H1.out.mono ?_
    rintro e w3 ⟨rfl, k3⟩
    have HK3 := hid (HK2.out.trans k3 (fun _ _ f => f))
    have H2 := hid (rmtext_any w3 _ l (HL.out.src.stay HK3.out) (by omega) HSl.out)
    rw [HTn.out] at H2
    clear k3
    go_wp2_with fail
    refine H2.out.mono ?_
    rintro e w4 ⟨rfl, k4⟩
    have HK4 := hid (HK3.out.trans k4 (fun _ _ f => f))
    clear k4
    go_wp2
    all_goals first
      | (go_ret; exact ⟨rfl, HK4.out⟩)
      | (exfalso; simp_all)

set_option maxRecDepth 100000 in
set_option maxHeartbeats 1600000 in
theorem parses12_walk (w : World) (s : ByteArray) (hM : Mx w) (hs : s.size ≤ 9223372036854775807) :
    Calls Try.prog 5 #[.string s] w fun e w' => e = .returned (.bool true) ∧ Kept w w' := by
  have HMx := hid hM
  have H0 := hid (malive_any w)
  clear hM
  by_cases hb : 3000 < s.size
  · have hb' : (3000 : Int) < (s.size : Int) := by omega
    go_enter Try.func5, Try.ntmps5
    go_wp2_with fail
    refine H0.out.mono ?_
    rintro e w1 ⟨rfl, k1⟩
    go_wp2
    all_goals try (exfalso; omega)
    all_goals (go_ret; exact ⟨rfl, k1⟩)
  · have hb' : ¬ ((3000 : Int) < (s.size : Int)) := by omega
    have HSm := hid (parseM_same s.data.toList)
    go_enter Try.func5, Try.ntmps5
    go_wp2_with fail
    refine H0.out.mono ?_
    rintro e w1 ⟨rfl, k1⟩
    have HK1 := hid k1
    have H1 := hid (mparse_any w1 s (HMx.out.stay k1) (by omega))
    clear k1
    go_wp2_with fail
    refine H1.out.mono ?_
    rintro e w2 ⟨⟨u, n, rfl, hA⟩, k2⟩
    have HA := hid hA
    have HK2 := hid (HK1.out.trans k2 (fun _ _ f => f))
    have H2 := hid (rmparse_any w2 s (by omega))
    rw [HSm.out] at H2
    clear hA k2 H1
    go_wp2_with fail
    refine H2.out.mono ?_
    rintro e w3 ⟨⟨u2, n2, rfl, hB⟩, k3⟩
    have HK3 := hid (HK2.out.trans k3 (fun _ _ f => f))
    obtain ⟨m, hn, sa, sb, hmn⟩ : ∃ m : Mats, n = n2 ∧ MatSrc w3 u m ∧ MatSrc w3 u2 m ∧ m.length ≤ 16 := by
      have hA := HA.out
      cases hp : parseM s.data.toList with
      | none =>
        rw [hp] at hA hB
        obtain ⟨rfl, rfl⟩ := hA
        obtain ⟨rfl, rfl⟩ := hB
        exact ⟨[], rfl, .inl ⟨_, _, rfl, rfl⟩, .inl ⟨_, _, rfl, rfl⟩, by simp⟩
      | some m =>
        rw [hp] at hA hB
        obtain ⟨rfl, h1⟩ := hA
        obtain ⟨rfl, h2⟩ := hB
        exact ⟨m, rfl, (MatAt.src h1).stay k3, MatAt.src h2, by have := (checkM_zero.1 (parseM_iff.1 hp).1).1; omega⟩
    subst hn
    have H3 := hid (mnum_any w3 n)
    have H4 := hid (msame_any w3 _ _ m sa sb (by omega))
    obtain ⟨xa, xc, exa⟩ := sa.len
    obtain ⟨ya, yc, eya⟩ := sb.len
    subst exa eya
    clear sa sb hB k3 H2 HA
    go_wp2_with fail
    refine H3.out.mono ?_
    rintro e w4 ⟨rfl, hq⟩
    replace hq := hq.symm
    subst hq
    go_wp2_with fail
    refine H4.out.mono ?_
    rintro e w4 ⟨rfl, k4⟩
    go_wp2
    go_ret
    exact ⟨rfl, HK3.out.trans k4 (fun _ _ f => f)⟩
end Go.Proofs.Ytbdcaikcdhfdoaa.N
