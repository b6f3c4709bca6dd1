/-
  The law of cuts, walked.
-/
import Derived.Test.YtoagncilbaaefaaGreatLcut13
namespace Go.Proofs.YtoagncilbaaefaaGreat.Hd
open Go.RowKit Go.Proofs.Lys Go.Maps Go.Proofs.YtoagncilbaaefaaGreat.N
set_option linter.unusedVariables false
set_option linter.unusedSimpArgs false

theorem wf64c {n : Int} (h : (Lit.int .i64 n).wf = true) : -9223372036854775808 ≤ n ∧ n ≤ 9223372036854775807 := by
  simp [Lit.wf, IntKind.min, IntKind.max, IntKind.bits, IntKind.signed] at h
  exact h
set_option maxRecDepth 100000 in
set_option maxHeartbeats 8000000 in
theorem cuts_walk (w : World) (hMx : Mx w) (v : Value) (rs : List Row) (hs : RowsIn w v rs) (low : Int) (hlow : -9223372036854775808 ≤ low ∧ low ≤ 9223372036854775807) :
    Calls Tryz.prog 4 #[v, .int .i64 low] w fun e w' => e = .returned (.bool true) ∧ Kept w w' := by
  have HAL := hid (alive_any w hMx)
  have HBG := hid (fun W (k : Kept w W) => bigrows_any W v rs ⟨hs.src.stay k, hs.came, hs.len⟩)
  have HN := hid (fun W n => num_any W n)
  have HMX := hid hMx
  have hsrc0 := hs.src.lt.weak (Z' := fun j => j < w.heap.size) (fun _ h => h.2)
  obtain ⟨ra, rc, rfl⟩ := hs.src.len
  have HSRC := hid hsrc0
  obtain ⟨L, hL⟩ : ∃ L, rs.length = L := ⟨_, rfl⟩
  have hLb : L ≤ 1000000000000000 := by rw [← hL]; exact hs.len
  have HL := hid hL
  clear hs hsrc0 hMx
  rw [hL] at HBG HSRC ⊢
  clear hL
  go_enter Tryz.func4, Tryz.ntmps4
  go_wp2_with fail
  refine HAL.out.mono ?_
  rintro e w1 ⟨rfl, k1⟩
  have K1 := hid k1
  clear k1 HAL
  go_wp2_with fail
  refine (HBG.out w1 K1.out).mono ?_
  rintro e w2 ⟨⟨big, rfl, hbig⟩, k2⟩
  have K2 := hid (K1.out.trans k2 (fun _ _ f => f))
  have HBIG := hid hbig
  clear k2 K1 HBG hbig
  cases big with
  | true =>
    go_wp2
    go_ret
    exact ⟨rfl, K2.out⟩
  | false =>
  by_cases g1 : 200 < L
  · have d1 : decide ((200 : Int) < (L : Int)) = true := decide_eq_true (by omega)
    go_wp2
    go_ret
    exact ⟨rfl, K2.out⟩
  have d1 : decide ((200 : Int) < (L : Int)) = false := decide_eq_false (by omega)
  have HOK : Hid (RowsOk rs) := ⟨by have := HL.out; omega, fun r hr => ⟨by have := (bigN_small (HBIG.out rfl r hr)).2; omega, (bigN_small (HBIG.out rfl r hr)).1⟩⟩
  have HNW := hid (new_in K2.out 9007199254740992)
  clear HBIG hlow
  go_wp2_with fail
  refine HNW.out.mono ?_
  rintro e w3 ⟨h, O, rfl, hI, hwn, k3, hnn⟩
  obtain ⟨hb, hhb⟩ : ∃ b, h.hb = b := ⟨_, rfl⟩
  have HI := hid hI
  have HB := hid hhb
  have hwin : h.win = 9007199254740992 := by rw [hwn]; decide
  have hs3 : RowSrc w3 (fun j => ¬ O j) (.slice ra L rc) rs := (HSRC.out.stay hI.kept).weak (fun j hj hO => by
    have := hI.new j hO
    omega)
  have HWB := hid (write_in HMX.out hI (by decide) _ _ hs3 HOK.out)
  have HBC := hid (bat_c rs)
  rw [hwin, hhb] at HWB
  rw [hhb]
  obtain ⟨ey, hey⟩ : ∃ ey, errM (writeM 9007199254740992 [] rs) = ey := ⟨_, rfl⟩
  obtain ⟨Mb, hMb⟩ : ∃ Mb, modM [] (writeM 9007199254740992 [] rs) = Mb := ⟨_, rfl⟩
  rw [hey, hMb] at HWB HBC
  clear hey hMb hs3 hI hwn k3 hnn hhb hwin K2 HNW
  go_wp2_with fail
  refine HWB.out.mono ?_
  rintro e w4 ⟨rfl, h4, O4, hP4⟩
  have HI4 := hid hP4.in_
  have HB4 := hid (hP4.hb.trans HB.out)
  clear hP4 HWB HI HB
  by_cases gy : ey = 0
  · subst gy
    have hcM : countM Mb ≤ 200 := HBC.out rfl
    have HCT := hid (fun W (kk : Kept w4 W) => count_any (HI4.out.at_.stay kk) HI4.out.is_ (by omega))
    rw [HB4.out] at HCT
    go_wp2_with fail
    refine (HN.out _ _).mono ?_
    rintro e w8 ⟨rfl, hw⟩
    replace hw := hw.symm
    subst hw
    go_wp2_with fail
    refine (HCT.out _ (Only.refl _ _)).mono ?_
    rintro e w5 ⟨rfl, k5⟩
    have hI5 := HI4.out.stay k5
    have HCU := hid (cut_in hI5 (by omega) low)
    have HMO := hid hI5.is_.ok
    rw [HB4.out] at HCU
    clear k5 hI5 HCT
    go_wp2_with fail
    refine HCU.out.mono ?_
    rintro e w6 ⟨vg, h6, rfl, hSg, hI6, hb6⟩
    have HI6 := hid hI6
    have HB6 := hid (hb6.trans HB4.out)
    have HSG := hid hSg
    have hcc := count_cut low Mb
    have HAL6 := hid (all_head hI6.at_ hI6.is_ (by omega))
    rw [hb6, HB4.out] at HAL6
    clear hSg hI6 hb6 HCU HI4
    go_wp2_with fail
    refine HAL6.out.mono ?_
    rintro e w7 ⟨vs, qs, rfl, hSs, hqs, k7⟩
    have HSS := hid (show SerSrc w7 vs (partM (stayS low) Mb) from by rw [← hqs]; exact SerAt.src hSs)
    have HSG7 := hid (HSG.out.stay k7)
    have HI7 := hid (HI6.out.stay k7)
    have HGL := hid (fun y hy j hj => gone_lt (low := low) (M := Mb) (y := y) hy j hj)
    have HSL := hid (fun y hy j hj => stay_ge HMO.out (low := low) (y := y) hy j hj)
    have hgn : (partM (goneS low) Mb).length ≤ 1000000 := by
      have h1 := List.length_filter_le (fun x : Ser => decide (0 < x.2.length)) (Mb.map (fun x => (x.1, goneS low x.2)))
      rw [List.length_map] at h1
      have h2 := HMO.out.len
      have h3 : (partM (goneS low) Mb).length ≤ Mb.length := h1
      omega
    have hsn : (partM (stayS low) Mb).length ≤ 1000000 := by
      have := HI7.out.is_.ok.len
      omega
    have HCT := hid (fun W (kk : Kept w7 W) => count_any (HI7.out.at_.stay kk) HI7.out.is_ (by omega))
    rw [HB6.out] at HCT
    have HCG := hid (fun W (kk : Kept w7 W) => counts_any W vg (partM (goneS low) Mb) (HSG7.out.stay kk) hgn (by omega))
    have HKF := hid HI7.out.kept
    clear hSs hqs k7 HSG HI6 HAL6 HI7 HMO
    obtain ⟨gs, hgs⟩ : ∃ gs, partM (goneS low) Mb = gs := ⟨_, rfl⟩
    obtain ⟨ss, hss⟩ : ∃ ss, partM (stayS low) Mb = ss := ⟨_, rfl⟩
    rw [hgs] at HSG7 HCG hcc HGL hgn
    rw [hss] at HSS HCT hcc HSL hsn
    clear hgs hss
    obtain ⟨ga, gc, rfl⟩ := HSG7.out.len
    obtain ⟨sa, sc, rfl⟩ := HSS.out.len
    obtain ⟨G, hG⟩ : ∃ G, gs.length = G := ⟨_, rfl⟩
    obtain ⟨T, hT⟩ : ∃ T, ss.length = T := ⟨_, rfl⟩
    have HG := hid hG
    have HT := hid hT
    rw [hG] at HSG7 HCG hgn ⊢
    rw [hT] at HSS hsn ⊢
    obtain ⟨cM, hcm⟩ : ∃ cM, countM Mb = cM := ⟨_, rfl⟩
    obtain ⟨cG, hcg⟩ : ∃ cG, countM gs = cG := ⟨_, rfl⟩
    obtain ⟨cS, hcs⟩ : ∃ cS, countM ss = cS := ⟨_, rfl⟩
    rw [hcm, hcg, hcs] at hcc
    rw [hcm] at hcM ⊢
    rw [hcg] at HCG
    rw [hcs] at HCT
    have HCg := hid hcg
    have HCs := hid hcs
    clear hG hT hcm hcg hcs HBC HB4 HB6
    go_wp2
    go_loopw [12, 13] (fun s1 s2 wr => ∃ (i n : Nat), i ≤ G ∧ s2 = .int .i64 (i : Int) ∧ s1 = .int .i64 (n : Int) ∧ n = countM (gs.take i) ∧ Kept w7 wr) (fun _ s _ => G - (intOf s).toNat)
    case atStart => exact ⟨0, 0, by omega, rfl, rfl, by simp [countM], Only.refl _ _⟩
    case round =>
      obtain ⟨i, n, hi, rfl, rfl, hn, kr⟩ := hrel
      have HK := hid kr
      have hnb : n ≤ cG := by rw [hn, ← HCg.out]; exact countM_take_le gs i
      have HNI := hid hn
      clear hn
      by_cases hlt : i < G
      · have hil : i < gs.length := by have := HG.out; omega
        have hst := countM_take hil
        have hle := countM_take_le gs (i + 1)
        rw [HCg.out] at hle
        rw [hst, ← HNI.out] at hle
        rw [← HNI.out] at hst
        have HCELL := hid (fun W (kk : Kept w7 W) => (HSG7.out.stay kk).cell HG.out i hlt)
        obtain ⟨ys, hys⟩ : ∃ ys, (gs[i]'hil).2 = ys := ⟨_, rfl⟩
        obtain ⟨b1, o1, lv1, sv1, rfl, x1, y1, p1, q1⟩ := HCELL.out wr kr
        rw [hys] at q1
        simp only [hys] at hst hle
        have hgl : ∀ j (hj : j < ys.length), (ys[j]'hj).1 < low := fun j hj => by subst hys; exact HGL.out _ (List.getElem_mem hil) j hj
        obtain ⟨a5, c5, rfl⟩ := q1.len
        obtain ⟨m, hm⟩ : ∃ m, ys.length = m := ⟨_, rfl⟩
        have HM := hid hm
        rw [hm] at q1 y1 hst hle
        have HQ : Hid (∀ W, Kept wr W → W.cell? ⟨b1, o1 + i * 2 + 1, none⟩ = some (.slice a5 m c5) ∧ SmpSrc W (.slice a5 m c5) ys) := fun W kk => ⟨only_cell kk (fun f => f) y1, q1.stay kk⟩
        have HGL1 := hid hgl
        have HST := hid hst
        clear hgl hst hm x1 p1 q1 hys HCELL
        go_wp2
        go_loopw [12, 14] (fun s1 s2 wr2 => ∃ (j : Nat), j ≤ m ∧ s2 = .int .i64 (j : Int) ∧ s1 = .int .i64 ((n + j : Nat) : Int) ∧ Kept wr wr2) (fun _ s _ => m - (intOf s).toNat)
        case atStart => exact ⟨0, by omega, rfl, rfl, Only.refl _ _⟩
        case round =>
          obtain ⟨j, hj, rfl, rfl, kr2⟩ := hrel
          have HK2 := hid kr2
          obtain ⟨z1, z2⟩ := HQ.out _ kr2
          by_cases hltj : j < m
          · have hjl : j < ys.length := by have := HM.out; omega
            obtain ⟨b5, o5, rfl, t1, t2⟩ := z2.cell HM.out j hltj
            have hlw := HGL1.out j hjl
            generalize (ys[j]'hjl).1 = TT at *
            have dl : decide (low ≤ TT) = false := decide_eq_false (by omega)
            clear z2 t2 kr2
            go_wp2
            refine ⟨⟨j + 1, by omega, by go_num, by go_num, HK2.out⟩, ?_⟩
            simp [intOf]
            omega
          · have e : j = m := by omega
            subst e
            clear z2 kr2
            go_wp2
            refine ⟨⟨i + 1, n + j, by omega, by go_num, by go_num, HST.out.symm, HK.out.trans HK2.out (fun _ _ f => f)⟩, ?_⟩
            simp [intOf]
            omega
      · have e : i = G := by omega
        subst e
        have hnG : n = cG := by rw [HNI.out, ← HG.out, List.take_length]; exact HCg.out
        subst hnG
        clear kr
        go_wp2
        go_loopw [12, 15] (fun s1 s2 wr => ∃ (i m : Nat), i ≤ T ∧ s2 = .int .i64 (i : Int) ∧ s1 = .int .i64 ((n + m : Nat) : Int) ∧ m = countM (ss.take i) ∧ Kept w7 wr) (fun _ s _ => T - (intOf s).toNat)
        case atStart => exact ⟨0, 0, by omega, rfl, rfl, by simp [countM], HK.out⟩
        case round =>
          obtain ⟨i, q, hi, rfl, rfl, hn, kr⟩ := hrel
          have HKa := hid kr
          have hqb : q ≤ cS := by rw [hn, ← HCs.out]; exact countM_take_le ss i
          have HNI2 := hid hn
          clear hn
          by_cases hlt : i < T
          · have hil : i < ss.length := by have := HT.out; omega
            have hst := countM_take hil
            have hle := countM_take_le ss (i + 1)
            rw [HCs.out] at hle
            rw [hst, ← HNI2.out] at hle
            rw [← HNI2.out] at hst
            have HCELL := hid (fun W (kk : Kept w7 W) => (HSS.out.stay kk).cell HT.out i hlt)
            obtain ⟨ys, hys⟩ : ∃ ys, (ss[i]'hil).2 = ys := ⟨_, rfl⟩
            obtain ⟨b1, o1, lv1, sv1, rfl, x1, y1, p1, q1⟩ := HCELL.out _ kr
            rw [hys] at q1
            simp only [hys] at hst hle
            have hgl : ∀ j (hj : j < ys.length), ¬ (ys[j]'hj).1 < low := fun j hj => by subst hys; have := HSL.out _ (List.getElem_mem hil) j hj; omega
            obtain ⟨a5, c5, rfl⟩ := q1.len
            obtain ⟨m, hm⟩ : ∃ m, ys.length = m := ⟨_, rfl⟩
            have HM := hid hm
            rw [hm] at q1 y1 hst hle
            have HQ : Hid (∀ W, Kept wr W → W.cell? ⟨b1, o1 + i * 2 + 1, none⟩ = some (.slice a5 m c5) ∧ SmpSrc W (.slice a5 m c5) ys) := fun W kk => ⟨only_cell kk (fun f => f) y1, q1.stay kk⟩
            have HGL1 := hid hgl
            have HST := hid hst
            clear hgl hst hm x1 p1 q1 hys HCELL
            go_wp2
            go_loopw [12, 16] (fun s1 s2 wr2 => ∃ (j : Nat), j ≤ m ∧ s2 = .int .i64 (j : Int) ∧ s1 = .int .i64 ((n + (q + j) : Nat) : Int) ∧ Kept wr wr2) (fun _ s _ => m - (intOf s).toNat)
            case atStart => exact ⟨0, by omega, rfl, rfl, Only.refl _ _⟩
            case round =>
              obtain ⟨j, hj, rfl, rfl, kr2⟩ := hrel
              have HK2 := hid kr2
              obtain ⟨z1, z2⟩ := HQ.out _ kr2
              by_cases hltj : j < m
              · have hjl : j < ys.length := by have := HM.out; omega
                obtain ⟨b5, o5, rfl, t1, t2⟩ := z2.cell HM.out j hltj
                have hlw := HGL1.out j hjl
                generalize (ys[j]'hjl).1 = TT at *
                have dl : decide (TT < low) = false := decide_eq_false (by omega)
                clear z2 t2 kr2
                go_wp2
                refine ⟨⟨j + 1, by omega, by go_num, by go_num, HK2.out⟩, ?_⟩
                simp [intOf]
                omega
              · have e : j = m := by omega
                subst e
                clear z2 kr2
                go_wp2
                refine ⟨⟨i + 1, q + j, by omega, by go_num, by go_num, HST.out.symm, HKa.out.trans HK2.out (fun _ _ f => f)⟩, ?_⟩
                simp [intOf]
                omega
          · have e : i = T := by omega
            subst e
            have hnS : q = cS := by rw [HNI2.out, ← HT.out, List.take_length]; exact HCs.out
            subst hnS
            have hcM2 : n + q = cM := by omega
            subst hcM2
            clear kr
            go_wp2_with fail
            refine (HCT.out _ HKa.out).mono ?_
            rintro e w9 ⟨rfl, k9⟩
            have K9 := hid (HKa.out.trans k9 (fun _ _ f => f))
            clear k9
            go_wp2_with fail
            refine (HCG.out _ K9.out).mono ?_
            rintro e w10 ⟨rfl, k10⟩
            have K10 := hid (HKF.out.trans (K9.out.trans k10 (fun _ _ f => f)) (fun _ _ f => f))
            have hwr : IntKind.i64.wrap (((n + q : Nat) : Int) - (n : Int)) = (q : Int) := by rw [IntKind.wrap_i64]; omega
            clear k10
            go_wp2
            go_ret
            exact ⟨by simp; omega, K10.out⟩
  · have d5 : decide (ey = 0) = false := decide_eq_false gy
    have d5' : (ey == 0) = false := by simpa using gy
    have HKF := hid HI4.out.kept
    go_wp2_with fail
    refine (HN.out _ _).mono ?_
    rintro e w8 ⟨rfl, hw⟩
    replace hw := hw.symm
    subst hw
    go_wp2
    go_ret
    exact ⟨rfl, HKF.out⟩
end Go.Proofs.YtoagncilbaaefaaGreat.Hd
