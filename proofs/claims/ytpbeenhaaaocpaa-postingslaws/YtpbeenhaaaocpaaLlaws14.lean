/-
  The lists go together as sets do.
-/
import Derived.Test.YtpbeenhaaaocpaaOlaw
namespace Go.Proofs.Ytpbeenhaaaocpaa.Po
open Go.RowKit Go.Proofs.Lys
set_option linter.unusedVariables false

set_option maxRecDepth 100000 in
set_option maxHeartbeats 6400000 in
theorem laws_walk (w : World) (va vb vc : Value) (la lb lc : List Int) (ha : IIn w va la) (hb : IIn w vb lb) (hc : IIn w vc lc) :
    Calls Try.prog 7 #[va, vb, vc] w fun e w' => e = .returned (.bool true) ∧ Kept w w' := by
  obtain ⟨hsa, hma⟩ := ha
  obtain ⟨hsb, hmb⟩ := hb
  obtain ⟨hsc, hmc⟩ := hc
  obtain ⟨a1, c1, rfl⟩ := hsa.len
  obtain ⟨a2, c2, rfl⟩ := hsb.len
  obtain ⟨a3, c3, rfl⟩ := hsc.len
  have HA := hid (alive_any w)
  have RA := hid (fun (W : World) (k : Kept w W) => rrising_any W _ la (hsa.stay k).1 hma)
  have RB := hid (fun (W : World) (k : Kept w W) => rrising_any W _ lb (hsb.stay k).1 hmb)
  have RC := hid (fun (W : World) (k : Kept w W) => rrising_any W _ lc (hsc.stay k).1 hmc)
  obtain ⟨ua, hua⟩ : ∃ u, upB (-1) la = u := ⟨_, rfl⟩
  obtain ⟨ub, hub⟩ : ∃ u, upB (-1) lb = u := ⟨_, rfl⟩
  obtain ⟨uc, huc⟩ : ∃ u, upB (-1) lc = u := ⟨_, rfl⟩
  rw [hua] at RA
  rw [hub] at RB
  rw [huc] at RC
  have UA := hid hua
  have UB := hid hub
  have UC := hid huc
  have Sa := hid hsa
  have Sb := hid hsb
  have Sc := hid hsc
  have La : Hid (ua = true → la.length ≤ 2000000000000) := fun h => by
    have := up_size (UA.out.trans h) (by omega)
    omega
  have Lb : Hid (ub = true → lb.length ≤ 2000000000000) := fun h => by
    have := up_size (UB.out.trans h) (by omega)
    omega
  have Lc : Hid (uc = true → lc.length ≤ 2000000000000) := fun h => by
    have := up_size (UC.out.trans h) (by omega)
    omega
  obtain ⟨A, hA⟩ : ∃ A, la.length = A := ⟨_, rfl⟩
  obtain ⟨B, hB⟩ : ∃ B, lb.length = B := ⟨_, rfl⟩
  obtain ⟨C, hC⟩ : ∃ C, lc.length = C := ⟨_, rfl⟩
  have HlA := hid hA
  have HlB := hid hB
  have HlC := hid hC
  rw [hA] at RA Sa La hma ⊢
  rw [hB] at RB Sb Lb hmb ⊢
  rw [hC] at RC Sc Lc hmc ⊢
  clear hsa hsb hsc hua hub huc hA hB hC
  go_enter Try.func7, Try.ntmps7
  go_wp2_with fail
  refine HA.out.mono ?_
  rintro e w1 ⟨rfl, k1⟩
  have HK := hid k1
  clear k1 HA
  go_wp2_with fail
  refine (RA.out _ HK.out).mono ?_
  rintro e w2 ⟨rfl, k2⟩
  have HK := hid (HK.out.trans k2 (fun _ _ f => f))
  clear k2 RA
  cases ua with
  | false =>
    go_wp2_with fail
    go_ret
    exact ⟨rfl, HK.out⟩
  | true =>
  have La2 : Hid (A ≤ 2000000000000) := hid (La.out rfl)
  clear La
  go_wp2_with fail
  refine (RB.out _ HK.out).mono ?_
  rintro e w3 ⟨rfl, k3⟩
  have HK := hid (HK.out.trans k3 (fun _ _ f => f))
  clear k3 RB
  cases ub with
  | false =>
    go_wp2_with fail
    go_ret
    exact ⟨rfl, HK.out⟩
  | true =>
  have Lb2 : Hid (B ≤ 2000000000000) := hid (Lb.out rfl)
  clear Lb
  go_wp2_with fail
  refine (RC.out _ HK.out).mono ?_
  rintro e w4 ⟨rfl, k4⟩
  have HK := hid (HK.out.trans k4 (fun _ _ f => f))
  clear k4 RC
  cases uc with
  | false =>
    go_wp2_with fail
    go_ret
    exact ⟨rfl, HK.out⟩
  | true =>
  have lc2 := Lc.out rfl
  have la2 : A ≤ 2000000000000 := La2.out
  have lb2 : B ≤ 2000000000000 := Lb2.out
  clear La2 Lb2 Lc hma hmb hmc
  by_cases hl : A + B + C ≤ 1000
  · have BSa : Hid (la.length ≤ 1000) := by
      have := HlA.out
      show _ ≤ _
      omega
    have BSb : Hid (lb.length ≤ 1000) := by
      have := HlB.out
      show _ ≤ _
      omega
    have BSc : Hid (lc.length ≤ 1000) := by
      have := HlC.out
      show _ ≤ _
      omega
    have Sa := hid (Sa.out.stay HK.out)
    have Sb := hid (Sb.out.stay HK.out)
    have Sc := hid (Sc.out.stay HK.out)
    go_wp2_with fail
    refine (or_any _ _ _ _ _ Sb.out Sc.out (Nat.le_trans BSb.out (by decide)) (Nat.le_trans BSc.out (by decide))).mono ?_
    rintro e x0 ⟨v0, rfl, ho, kk⟩
    have HK := hid (HK.out.trans kk (fun _ _ f => f))
    have S0 := hid (own_isrc ho)
    have BS0 : Hid ((setL 1 lb lc).length ≤ 2000) := hid (Nat.le_trans (set_len _ _ _) (Nat.add_le_add BSb.out BSc.out))
    have Sa := hid (Sa.out.stay kk)
    have Sb := hid (Sb.out.stay kk)
    have Sc := hid (Sc.out.stay kk)
    clear kk ho
    go_wp2_with fail
    refine (and_any _ _ _ _ _ Sa.out S0.out (Nat.le_trans BSa.out (by decide)) (Nat.le_trans BS0.out (by decide))).mono ?_
    rintro e x1 ⟨v1, rfl, ho, kk⟩
    have HK := hid (HK.out.trans kk (fun _ _ f => f))
    have S1 := hid (own_isrc ho)
    have BS1 : Hid ((setL 0 la (setL 1 lb lc)).length ≤ 3000) := hid (Nat.le_trans (set_len _ _ _) (Nat.add_le_add BSa.out BS0.out))
    have Sa := hid (Sa.out.stay kk)
    have Sb := hid (Sb.out.stay kk)
    have Sc := hid (Sc.out.stay kk)
    have S0 := hid (S0.out.stay kk)
    clear kk ho
    go_wp2_with fail
    refine (and_any _ _ _ _ _ Sa.out Sb.out (Nat.le_trans BSa.out (by decide)) (Nat.le_trans BSb.out (by decide))).mono ?_
    rintro e x2 ⟨v2, rfl, ho, kk⟩
    have HK := hid (HK.out.trans kk (fun _ _ f => f))
    have S2 := hid (own_isrc ho)
    have BS2 : Hid ((setL 0 la lb).length ≤ 2000) := hid (Nat.le_trans (set_len _ _ _) (Nat.add_le_add BSa.out BSb.out))
    have Sa := hid (Sa.out.stay kk)
    have Sb := hid (Sb.out.stay kk)
    have Sc := hid (Sc.out.stay kk)
    have S0 := hid (S0.out.stay kk)
    have S1 := hid (S1.out.stay kk)
    clear kk ho
    go_wp2_with fail
    refine (and_any _ _ _ _ _ Sa.out Sc.out (Nat.le_trans BSa.out (by decide)) (Nat.le_trans BSc.out (by decide))).mono ?_
    rintro e x3 ⟨v3, rfl, ho, kk⟩
    have HK := hid (HK.out.trans kk (fun _ _ f => f))
    have S3 := hid (own_isrc ho)
    have BS3 : Hid ((setL 0 la lc).length ≤ 2000) := hid (Nat.le_trans (set_len _ _ _) (Nat.add_le_add BSa.out BSc.out))
    have Sa := hid (Sa.out.stay kk)
    have Sb := hid (Sb.out.stay kk)
    have Sc := hid (Sc.out.stay kk)
    have S0 := hid (S0.out.stay kk)
    have S1 := hid (S1.out.stay kk)
    have S2 := hid (S2.out.stay kk)
    clear kk ho
    go_wp2_with fail
    refine (or_any _ _ _ _ _ S2.out S3.out (Nat.le_trans BS2.out (by decide)) (Nat.le_trans BS3.out (by decide))).mono ?_
    rintro e x4 ⟨v4, rfl, ho, kk⟩
    have HK := hid (HK.out.trans kk (fun _ _ f => f))
    have S4 := hid (own_isrc ho)
    have BS4 : Hid ((setL 1 (setL 0 la lb) (setL 0 la lc)).length ≤ 4000) := hid (Nat.le_trans (set_len _ _ _) (Nat.add_le_add BS2.out BS3.out))
    have Sa := hid (Sa.out.stay kk)
    have Sb := hid (Sb.out.stay kk)
    have Sc := hid (Sc.out.stay kk)
    have S0 := hid (S0.out.stay kk)
    have S1 := hid (S1.out.stay kk)
    have S2 := hid (S2.out.stay kk)
    have S3 := hid (S3.out.stay kk)
    clear kk ho
    go_wp2_with fail
    refine (same_any _ _ _ (setL 0 la (setL 1 lb lc)) S1.out.1 (by rw [law_one UA.out UB.out UC.out]; exact S4.out.1) (Nat.le_trans BS1.out (by decide))).mono ?_
    rintro e x5 ⟨rfl, kk⟩
    have HK := hid (HK.out.trans kk (fun _ _ f => f))
    have Sa := hid (Sa.out.stay kk)
    have Sb := hid (Sb.out.stay kk)
    have Sc := hid (Sc.out.stay kk)
    clear kk S0 S1 S2 S3 S4 BS0 BS1 BS2 BS3 BS4
    go_wp2_with fail
    refine (or_any _ _ _ _ _ Sb.out Sc.out (Nat.le_trans BSb.out (by decide)) (Nat.le_trans BSc.out (by decide))).mono ?_
    rintro e x6 ⟨v6, rfl, ho, kk⟩
    have HK := hid (HK.out.trans kk (fun _ _ f => f))
    have S6 := hid (own_isrc ho)
    have BS6 : Hid ((setL 1 lb lc).length ≤ 2000) := hid (Nat.le_trans (set_len _ _ _) (Nat.add_le_add BSb.out BSc.out))
    have Sa := hid (Sa.out.stay kk)
    have Sb := hid (Sb.out.stay kk)
    have Sc := hid (Sc.out.stay kk)
    clear kk ho
    go_wp2_with fail
    refine (sub_any _ _ _ _ _ Sa.out S6.out (Nat.le_trans BSa.out (by decide)) (Nat.le_trans BS6.out (by decide))).mono ?_
    rintro e x7 ⟨v7, rfl, ho, kk⟩
    have HK := hid (HK.out.trans kk (fun _ _ f => f))
    have S7 := hid (own_isrc ho)
    have BS7 : Hid ((setL 2 la (setL 1 lb lc)).length ≤ 3000) := hid (Nat.le_trans (set_len _ _ _) (Nat.add_le_add BSa.out BS6.out))
    have Sa := hid (Sa.out.stay kk)
    have Sb := hid (Sb.out.stay kk)
    have Sc := hid (Sc.out.stay kk)
    have S6 := hid (S6.out.stay kk)
    clear kk ho
    go_wp2_with fail
    refine (sub_any _ _ _ _ _ Sa.out Sb.out (Nat.le_trans BSa.out (by decide)) (Nat.le_trans BSb.out (by decide))).mono ?_
    rintro e x8 ⟨v8, rfl, ho, kk⟩
    have HK := hid (HK.out.trans kk (fun _ _ f => f))
    have S8 := hid (own_isrc ho)
    have BS8 : Hid ((setL 2 la lb).length ≤ 2000) := hid (Nat.le_trans (set_len _ _ _) (Nat.add_le_add BSa.out BSb.out))
    have Sa := hid (Sa.out.stay kk)
    have Sb := hid (Sb.out.stay kk)
    have Sc := hid (Sc.out.stay kk)
    have S6 := hid (S6.out.stay kk)
    have S7 := hid (S7.out.stay kk)
    clear kk ho
    go_wp2_with fail
    refine (sub_any _ _ _ _ _ S8.out Sc.out (Nat.le_trans BS8.out (by decide)) (Nat.le_trans BSc.out (by decide))).mono ?_
    rintro e x9 ⟨v9, rfl, ho, kk⟩
    have HK := hid (HK.out.trans kk (fun _ _ f => f))
    have S9 := hid (own_isrc ho)
    have BS9 : Hid ((setL 2 (setL 2 la lb) lc).length ≤ 3000) := hid (Nat.le_trans (set_len _ _ _) (Nat.add_le_add BS8.out BSc.out))
    have Sa := hid (Sa.out.stay kk)
    have Sb := hid (Sb.out.stay kk)
    have Sc := hid (Sc.out.stay kk)
    have S6 := hid (S6.out.stay kk)
    have S7 := hid (S7.out.stay kk)
    have S8 := hid (S8.out.stay kk)
    clear kk ho
    go_wp2_with fail
    refine (same_any _ _ _ (setL 2 la (setL 1 lb lc)) S7.out.1 (by rw [law_two UA.out UB.out UC.out]; exact S9.out.1) (Nat.le_trans BS7.out (by decide))).mono ?_
    rintro e x10 ⟨rfl, kk⟩
    have HK := hid (HK.out.trans kk (fun _ _ f => f))
    have Sa := hid (Sa.out.stay kk)
    have Sb := hid (Sb.out.stay kk)
    have Sc := hid (Sc.out.stay kk)
    clear kk S6 S7 S8 S9 BS6 BS7 BS8 BS9
    go_wp2_with fail
    refine (and_any _ _ _ _ _ Sa.out Sb.out (Nat.le_trans BSa.out (by decide)) (Nat.le_trans BSb.out (by decide))).mono ?_
    rintro e x11 ⟨v11, rfl, ho, kk⟩
    have HK := hid (HK.out.trans kk (fun _ _ f => f))
    have S11 := hid (own_isrc ho)
    have BS11 : Hid ((setL 0 la lb).length ≤ 2000) := hid (Nat.le_trans (set_len _ _ _) (Nat.add_le_add BSa.out BSb.out))
    have Sa := hid (Sa.out.stay kk)
    have Sb := hid (Sb.out.stay kk)
    have Sc := hid (Sc.out.stay kk)
    clear kk ho
    go_wp2_with fail
    refine (sub_any _ _ _ _ _ Sa.out Sb.out (Nat.le_trans BSa.out (by decide)) (Nat.le_trans BSb.out (by decide))).mono ?_
    rintro e x12 ⟨v12, rfl, ho, kk⟩
    have HK := hid (HK.out.trans kk (fun _ _ f => f))
    have S12 := hid (own_isrc ho)
    have BS12 : Hid ((setL 2 la lb).length ≤ 2000) := hid (Nat.le_trans (set_len _ _ _) (Nat.add_le_add BSa.out BSb.out))
    have Sa := hid (Sa.out.stay kk)
    have Sb := hid (Sb.out.stay kk)
    have Sc := hid (Sc.out.stay kk)
    have S11 := hid (S11.out.stay kk)
    clear kk ho
    go_wp2_with fail
    refine (or_any _ _ _ _ _ S11.out S12.out (Nat.le_trans BS11.out (by decide)) (Nat.le_trans BS12.out (by decide))).mono ?_
    rintro e x13 ⟨v13, rfl, ho, kk⟩
    have HK := hid (HK.out.trans kk (fun _ _ f => f))
    have S13 := hid (own_isrc ho)
    have BS13 : Hid ((setL 1 (setL 0 la lb) (setL 2 la lb)).length ≤ 4000) := hid (Nat.le_trans (set_len _ _ _) (Nat.add_le_add BS11.out BS12.out))
    have Sa := hid (Sa.out.stay kk)
    have Sb := hid (Sb.out.stay kk)
    have Sc := hid (Sc.out.stay kk)
    have S11 := hid (S11.out.stay kk)
    have S12 := hid (S12.out.stay kk)
    clear kk ho
    go_wp2_with fail
    refine (same_any _ _ _ (setL 1 (setL 0 la lb) (setL 2 la lb)) S13.out.1 (by rw [law_three UA.out UB.out]; exact Sa.out.1) (Nat.le_trans BS13.out (by decide))).mono ?_
    rintro e x14 ⟨rfl, kk⟩
    have HK := hid (HK.out.trans kk (fun _ _ f => f))
    have Sa := hid (Sa.out.stay kk)
    have Sb := hid (Sb.out.stay kk)
    have Sc := hid (Sc.out.stay kk)
    clear kk S11 S12 S13 BS11 BS12 BS13
    go_wp2_with fail
    go_ret
    exact ⟨rfl, HK.out⟩
  · have d1 : decide ((1000 : Int) < (A : Int) + (B : Int) + (C : Int)) = true := by simp; omega
    go_wp2_with fail
    go_ret
    exact ⟨rfl, HK.out⟩
end Go.Proofs.Ytpbeenhaaaocpaa.Po
