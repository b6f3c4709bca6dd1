/-
  Series, walked.
-/
import Derived.Test.YtcacoanhiphbiaaZsgp
namespace Go.Proofs.Ytcacoanhiphbiaa.Ms
open Go Go.RowKit Go.Proofs.Lys
open Go.Proofs.Ytcacoanhiphbiaa.N (Labs LabAt LabSrc)
open Go.Proofs.Ytcacoanhiphbiaa.Mg (cmpZ)
set_option linter.unusedVariables false
set_option linter.unusedSimpArgs false

set_option maxRecDepth 100000 in
set_option maxHeartbeats 6400000 in
theorem series_any {RK : Rank} (w : World) (v : Value) (vs : List Value) (ls : List Smps) (hs : LLSrc RK w v vs ls) (hl : ls.flatten.length ≤ 100000) (hm : ls.length ≤ 100000)
    (hsm : wsum ls.flatten ≤ 100000) (hlab : ∀ a ∈ RK.ls, a.length ≤ 100000) :
    Calls Try.prog 6 #[v] w (SerP w ls.flatten) := by
  obtain ⟨R, hR⟩ : ∃ R, SerP w ls.flatten = R := ⟨_, rfl⟩
  rw [hR]
  have HRR := hid hR
  have HHO := hid (heapof_any w v vs ls hs hl hm)
  have HSM := hid hsm
  have HLAB := hid hlab
  obtain ⟨a0, c0, rfl⟩ := hs.src.len
  generalize vs.length = M at HHO ⊢
  obtain ⟨F, hF⟩ : ∃ F, ls.flatten = F := ⟨_, rfl⟩
  rw [hF] at HRR HSM hl
  have HL := hid hl
  have eg := eg_time
  clear hs hR hl hm hsm hlab
  go_enter Try.func6, Try.ntmps6
  go_wp2_with fail
  refine HHO.out.mono ?_
  rintro e w1 ⟨hb, h0, a1, c1, rfl, hc0, hm0, hn0, hf0⟩
  rw [hF] at hm0 hn0 hf0
  have HC0 := hid hc0
  have HM0 := hid hm0
  have HN0 := hid hf0
  clear hc0 hm0 hn0 hf0 HHO hF
  go_wp2_with fail
  go_loopw [3] (fun s3 W => ∃ (P : Smps) (Gs : List Smps) (qs : List SV) (h : List Run) (a : Option Addr) (c : Nat) (u : Value), u = s3 ∧ Hid (HeapC RK w hb h a c W) ∧ Hid (MrgI h P (mrg F)) ∧ Hid (Gs.flatten = P ∧ GrpOk Gs ∧ qs.map SV.ser = Gs.filterMap outG ∧ qs.length ≤ P.length) ∧ Hid (P.length + (flat h).length = F.length) ∧ Hid (SerAt W w.heap.size u qs) ∧ Hid (HeadB h P) ∧ Kept w W) (fun _ W => restN hb W)
  case atStart => exact ⟨[], [], [], h0, a1, c1, _, rfl, HC0, HM0, hid ⟨rfl, grp_nil, rfl, Nat.le_refl _⟩, hid (by rw [HN0.out]; simp), hid (SerAt.nil _ _), hid (fun v x xs p t e y hy => by cases hy), HC0.out.kept⟩
  case round =>
    obtain ⟨P, Gs, qs, h, a, c, u, rfl, HC, HM, HG, HN, HO, HD, kr⟩ := hrel
    clear HC0 HM0 HN0
    have KR := hid kr
    have hne : ∀ r ∈ h, r.2.1 ≠ [] := by
      obtain ⟨rem, hp, _, hr, _, _⟩ := HM.out.rest
      exact fun r hr2 => (hr r (hp.subset hr2)).1
    have hhl := flat_le hne
    have hNf := HN.out
    have hLf := HL.out
    have HFI := hid (filled_any wr HC.out.blk (by omega))
    have HRS0 := hid (restN_eq HC.out)
    obtain ⟨W0, hW0⟩ : ∃ W, wr = W := ⟨_, rfl⟩
    have HRS0 : Hid (restN hb W0 = (flat h).length) := hid (by rw [← hW0]; exact HRS0.out)
    have HW0 := hid hW0
    clear hW0
    have HN0 := hid HN.out
    clear kr
    cases h with
    | nil =>
      have HF : Hid (R (.returned u) wr) := hid (by
        rw [← HRR.out]
        exact ⟨u, Gs, qs, rfl, HG.out.2.1, by rw [HG.out.1]; exact mrg_end HM.out, HO.out, HG.out.2.2.1, KR.out⟩)
      rw [List.length_nil] at HFI
      obtain ⟨ua, uc, hue⟩ := ownN_slice HO.out.row
      obtain ⟨UL, hUL⟩ : ∃ n, qs.length = n := ⟨_, rfl⟩
      rw [hUL] at hue
      subst hue
      clear hne hhl hNf hLf hUL
      go_wp2_with fail
      refine HFI.out.mono ?_
      rintro e w' ⟨rfl, hw⟩
      replace hw := hw.symm
      subst hw
      go_wp2
      exact HF.out
    | cons r0 t =>
      obtain ⟨v, s, p⟩ := r0
      cases s with
      | nil => exact absurd rfl (hne _ List.mem_cons_self)
      | cons f xs =>
        obtain ⟨g, rfl, hW⟩ := HC.out.toW (by simp)
        have hfl : (flat (((v, f :: xs, p) : Run) :: t)).length = xs.length + 1 + (flat t).length := by rw [flat_cons, List.length_append]; rfl
        rw [hfl] at hNf
        rw [List.length_cons, hfl] at hhl
        have hFit : Fit RK w f := by
          obtain ⟨_, _, _, _, x, _, _, _, _, _, _, hx, hfx⟩ := run_head (hW.src _ List.mem_cons_self) hW.kept (by simp)
          simp only [List.headD_cons] at hx
          rw [hx]
          exact hfx
        have HFit := hid hFit
        have HTK := hid (take_any wr hW HM.out (by omega) (by omega))
        unfold TakeP at HTK
        have hmt := mrg_take (v' := v) HM.out
        have hrp := rise_put HM.out.rise hmt.1
        have hlt := HD.out v f xs p t rfl
        have hgty := ownN_typed hW.row rfl
        have hbty := hW.blk.typed
        have HNO : Hid (∀ j, Typed wr j 29 ∨ Typed wr j 45 ∨ Typed wr j 36 → ¬ (j = hb ∨ j = g)) := hid (fun j hj e => by
          rcases e with e | e
          · rcases hj with hj | hj | hj
            · exact (Typed.ne hj hbty (by decide)) e
            · exact (Typed.ne hj hbty (by decide)) e
            · exact (Typed.ne hj hbty (by decide)) e
          · rcases hj with hj | hj | hj
            · exact (Typed.ne hj hgty (by decide)) e
            · exact (Typed.ne hj hgty (by decide)) e
            · exact (Typed.ne hj hgty (by decide)) e)
        have HFI2 : Hid (Calls Try.prog 14 #[.pointer (some ⟨hb, 0, none⟩)] wr fun e w' => e = .returned (.bool true) ∧ w' = wr) := hid (by
          have := HFI.out
          rw [List.length_cons, show decide (0 < t.length + 1) = true from by simp] at this
          exact this)
        have hLV : ∃ la ln lc, f.2.lv = .slice la ln lc := ⟨_, _, _, rfl⟩
        have hSV : ∃ sa sn sc, f.2.sv = .slice sa sn sc := ⟨_, _, _, rfl⟩
        obtain ⟨la, ln, lc, hLV⟩ := hLV
        obtain ⟨sa, sn, sc, hSV⟩ := hSV
        have HLV := hid hLV
        have HSV := hid hSV
        rw [hLV, hSV] at HTK
        have HLT := hid hlt
        have HRP := hid hrp
        have HMT := hid hmt.1
        clear hne HFI hW hgty hbty hLV hSV hFit hlt hrp hmt
        go_wp2_with fail
        refine HFI2.out.mono ?_
        rintro e w' ⟨rfl, hw⟩
        replace hw := hw.symm
        subst hw
        go_wp2_with fail
        refine HTK.out.mono ?_
        rintro e w3 ⟨rfl, h3, hw3, hm3, o3, hl3⟩
        have HC3 := hid hw3.toC
        have HM3 : Hid (MrgI h3 (P ++ [f]) (mrg F)) := hid (by rw [← HRP.out.2.2]; exact hm3)
        have HL3 := hid hl3
        have HO3 := hid (HO.out.apartT o3 HNO.out)
        have K3 := hid (hw3.kept)
        clear HTK hw3 hm3 o3 hl3 HFI2
        go_wp2_with fail
        obtain ⟨fb, hfb⟩ : ∃ fb, w3.heap.size = fb := ⟨_, rfl⟩
        obtain ⟨w4, hw4⟩ : ∃ W, w3.alloc (.cells #[.slice la ln lc, .slice sa sn sc] 29) = W := ⟨_, rfl⟩
        obtain ⟨w5, hw5⟩ : ∃ W, w4.alloc (.cells #[.slice sa sn sc] 27) = W := ⟨_, rfl⟩
        have k4 : Kept w3 w4 := by rw [← hw4]; exact (Only.refl _ _).alloc _
        have k5 : Kept w4 w5 := by rw [← hw5]; exact (Only.refl _ _).alloc _
        have k35 : Kept w3 w5 := k4.trans k5 (fun _ _ f => f)
        have hs4 : w4.heap.size = fb + 1 := by rw [← hw4, ← hfb]; simp
        have HB5 : Hid (Blk w5 fb [.slice la ln lc, .slice sa sn sc] 29) := hid (by
          have h := Blk.new w3 [.slice la ln lc, .slice sa sn sc] 29
          rw [hfb] at h
          have h2 : Blk w4 fb [.slice la ln lc, .slice sa sn sc] 29 := by rw [← hw4]; exact h
          exact k5.blk h2 (fun f => f))
        have HR5 : Hid (w5.ownsRow fb 27 1 (.slice (some ⟨fb + 1, 0, none⟩) 1 1) 1 [.slice sa sn sc]) := hid (by
          have h := World.ownsRow_lit (base := fb) (size := 1) (e := 27) w4 #[.slice sa sn sc] 1 (by rw [hs4]; omega) (by decide) rfl
          rw [hs4, hw5] at h
          exact h)
        have HC5 := hid (HC3.out.keep k35)
        have HO5 := hid (HO3.out.stay k35)
        have K5 := hid (K3.out.trans k35 (fun _ _ f => f))
        have HWB : Hid (w.heap.size ≤ fb) := hid (by rw [← hfb]; exact K3.out.size)
        have HPN : Hid (P.length + 1 + (flat h3).length = F.length) := hid (by rw [HL3.out]; omega)
        rw [hw4, hw5, hfb]
        clear HC3 HO3 k4 k5 k35 hs4 hfb hw4
        clear hw5 hNf hLf hhl hfl HL3
        go_loopw [6] (fun s6 W => ∃ (G : Smps) (h : List Run) (a : Option Addr) (c : Nat) (ov : Value), ov = s6 ∧ Hid (HeapC RK w hb h a c W) ∧ Hid (MrgI h (P ++ G) (mrg F)) ∧ Hid ((∃ G', G = f :: G') ∧ ∀ x ∈ G, x.1 = f.1 ∧ Fit RK w x) ∧ Hid (W.ownsRow fb 27 1 ov G.length (G.map (fun x => x.2.sv))) ∧ Hid (Blk W fb [.slice la ln lc, .slice sa sn sc] 29) ∧ Hid (SerAt W w.heap.size u qs) ∧ Hid (P.length + G.length + (flat h).length = F.length) ∧ Kept w W) (fun _ W => restN hb W)
        case atStart => exact ⟨[f], h3, _, _, _, rfl, HC5, HM3, hid ⟨⟨[], rfl⟩, fun x hx => by rw [List.mem_singleton.1 hx]; exact ⟨rfl, HFit.out⟩⟩, by rw [List.map_cons, HSV.out]; exact HR5, HB5, HO5, HPN, K5.out⟩
        case round =>
          clear HC5 HM3 HR5 HB5 HO5 K5 HPN HC HM HN HO
          obtain ⟨G, h, a, c, ov, rfl, HC, HM, HGG, HOW, HB, HO, HN, kr⟩ := hrel
          have KR := hid kr
          have hne : ∀ r ∈ h, r.2.1 ≠ [] := by
            obtain ⟨rem, hp, _, hr, _, _⟩ := HM.out.rest
            exact fun r hr2 => (hr r (hp.subset hr2)).1
          have hhl := flat_le hne
          have hNf := HN.out
          have hLf := HL.out
          have HFI := hid (fun W (k : Kept wr W) => filled_any W (k.blk HC.out.blk (fun f => f)) (by omega))
          have HRS := hid (restN_eq HC.out)
          obtain ⟨oa, oc, hov⟩ := own_slice HOW.out
          obtain ⟨GL, hGL⟩ : ∃ n, G.length = n := ⟨_, rfl⟩
          have HGL := hid hGL
          rw [hGL] at HOW hNf HN hov
          subst hov
          have B0 := hid (HB.out.cell 0 rfl)
          have B1 := hid (HB.out.cell 1 rfl)
          have KA := hid (show Kept wr wr.drew from (Only.refl _ _).drew)
          clear kr hGL
          cases h with
          | nil =>
            rw [List.length_nil] at HFI
            clear hne hhl hNf hLf
            go_wp2_with fail
            refine wp_region_noPanic ?_
            refine wp_region_last (L := 1000) (S := fun w' => Kept wr w') (by kernel_rfl) ?_
            refine wpAnyN_take (i := 0) (v := .pointer (some ⟨hb, 0, none⟩)) rfl (by kernel_rfl) (by kernel_rfl) (by kernel_rfl) (by decide) (by kernel_rfl) (fun _ _ _ h => h) (Or.inl ⟨by kernel_rfl, ?_⟩) KA.out ?_
            · (intro w' hSw; go_simp)
            (try simp only [List.getElem_toArray, List.getElem_cons_succ, List.getElem_cons_zero])
            go_frame
            refine wpAnyL_one (i := 1) (by kernel_rfl) rfl rfl ?_
            go_simp
            refine (HFI.out _ KA.out).mono ?_
            rintro e w' ⟨rfl, hw⟩
            replace hw := hw.symm
            subst hw
            refine ⟨KA.out, ?_⟩
            (try simp only [List.getElem_toArray, List.getElem_cons_succ, List.getElem_cons_zero])
            (try go_frame)
            refine wpAnyN_take (i := 2) (v := .bool false) rfl (by kernel_rfl) (by kernel_rfl) (by kernel_rfl) (by decide) (by kernel_rfl) (fun _ _ _ h => h) (Or.inl ⟨by kernel_rfl, ?_⟩) KA.out ?_
            · (intro w' hSw; go_simp)
            (try simp only [List.getElem_toArray, List.getElem_cons_succ, List.getElem_cons_zero])
            go_frame
            refine wpAnyN_take (i := 3) (v := undef) rfl (by kernel_rfl) (by kernel_rfl) (by kernel_rfl) (by decide) (by kernel_rfl) (fun _ _ _ h => h) (Or.inr ⟨by kernel_rfl, rfl⟩) KA.out ?_
            (try simp only [List.getElem_toArray, List.getElem_cons_succ, List.getElem_cons_zero])
            go_frame
            refine wpAnyN_take (i := 4) (v := undef) rfl (by kernel_rfl) (by kernel_rfl) (by kernel_rfl) (by decide) (by kernel_rfl) (fun _ _ _ h => h) (Or.inr ⟨by kernel_rfl, rfl⟩) KA.out ?_
            (try simp only [List.getElem_toArray, List.getElem_cons_succ, List.getElem_cons_zero])
            go_frame
            refine wpAnyN_take (i := 5) (v := undef) rfl (by kernel_rfl) (by kernel_rfl) (by kernel_rfl) (by decide) (by kernel_rfl) (fun _ _ _ h => h) (Or.inr ⟨by kernel_rfl, rfl⟩) KA.out ?_
            (try simp only [List.getElem_toArray, List.getElem_cons_succ, List.getElem_cons_zero])
            go_frame
            refine wpAnyN_take (i := 6) (v := undef) rfl (by kernel_rfl) (by kernel_rfl) (by kernel_rfl) (by decide) (by kernel_rfl) (fun _ _ _ h => h) (Or.inr ⟨by kernel_rfl, rfl⟩) KA.out ?_
            (try simp only [List.getElem_toArray, List.getElem_cons_succ, List.getElem_cons_zero])
            go_frame
            refine wpAnyN_take (i := 7) (v := undef) rfl (by kernel_rfl) (by kernel_rfl) (by kernel_rfl) (by decide) (by kernel_rfl) (fun _ _ _ h => h) (Or.inr ⟨by kernel_rfl, rfl⟩) KA.out ?_
            (try simp only [List.getElem_toArray, List.getElem_cons_succ, List.getElem_cons_zero])
            go_frame
            refine wpAnyL_one (i := 8) (by kernel_rfl) rfl rfl ?_
            go_simp
            refine ⟨KA.out, ?_⟩
            (try go_frame)
            refine wpAnyN_done (by kernel_rfl) ?_
            refine NoPanic.normal ?_
            have HCT := hid (HC.out.keep KA.out)
            have HDT : Hid (HeadB [] (P ++ G)) := hid (fun v x xs p t e => by cases e)
            have HBT := hid (KA.out.blk HB.out (fun f => f))
            have HOT := hid (HO.out.stay KA.out)
            have HWT := hid (own_only HOW.out KA.out (fun _ _ f => f))
            have KT := hid (KR.out.trans KA.out (fun _ _ f => f))
            generalize wr.drew = WT at HCT HBT HOT HWT KT ⊢
            obtain ⟨hT, hTe⟩ : ∃ hT : List Run, hT = [] := ⟨_, rfl⟩
            rw [← hTe] at HCT HDT HM HN
            clear hTe KA HFI B0 B1 HRS HC HOW HB HO KR
            have hGG := HGG.out
            have HSA := hid (Mg.samples_any WT (.slice oa GL oc) (G.map (fun y => y.2.sv)) (G.map (fun y => y.2.smps)) ⟨own_src HWT.out, by rw [List.length_map, List.length_map], fun i h1 h2 => by
              rw [List.getElem_map, List.getElem_map]
              exact (hGG.2 _ (List.getElem_mem _)).2.2.2.1.stay KT.out⟩ (by
                rw [flat_smps]
                have h1 := HM.out.weight
                rw [wsum_app] at h1
                have := HSM.out
                omega) (by rw [List.length_map, HGL.out]; have := HN.out; have := HL.out; omega))
            obtain ⟨SS, hSS⟩ : ∃ SS, Mg.mrg ((G.map (fun y => y.2.smps)).flatten) = SS := ⟨_, rfl⟩
            have HSS := hid hSS
            unfold Mg.SamP at HSA
            rw [hSS] at HSA
            clear hSS hGG
            go_wp2_with fail
            refine HSA.out.mono ?_
            rintro e wS ⟨sv, rfl, hsat, kS⟩
            have HCS := hid (HCT.out.keep kS)
            have HBS := hid (kS.blk HBT.out (fun f => f))
            have HOS := hid (HOT.out.stay kS)
            have KS := hid (KT.out.trans kS (fun _ _ f => f))
            have HSAT := hid hsat
            have HWW := hid (show w.heap.size ≤ WT.heap.size from KT.out.size)
            obtain ⟨sva, svc, hsve⟩ := ownN_slice hsat
            obtain ⟨SL, hSL⟩ : ∃ n, SS.length = n := ⟨_, rfl⟩
            rw [hSL] at hsve
            subst hsve
            have HSL := hid hSL
            have HLOW : Hid (∀ j, (∃ y ∈ qs, y.lv.ownBlock = some j) ∨ (∃ y ∈ qs, y.sv.ownBlock = some j) → j < WT.heap.size) := hid (fun j h => by
              rcases h with ⟨y, hy, h⟩ | ⟨y, hy, h⟩
              · exact (N.ownN_lt (HOT.out.lab y hy) h).2
              · exact (ownN_lt (HOT.out.smp y hy) h).2)
            clear hsat kS HSA HCT HBT HOT HWT KT hSL
            by_cases hs0 : SL = 0
            · have hSe : SS = [] := List.length_eq_zero_iff.1 (by rw [HSL.out]; exact hs0)
              subst hs0
              have HG2 : Hid ((Gs ++ [G]).flatten = P ++ G ∧ GrpOk (Gs ++ [G]) ∧ qs.map SV.ser = (Gs ++ [G]).filterMap outG ∧ qs.length ≤ (P ++ G).length) := hid (by
                obtain ⟨⟨G', rfl⟩, hall⟩ := HGG.out
                obtain ⟨g1, g2, g3, g4⟩ := HG.out
                refine ⟨by rw [List.flatten_append, g1]; simp, grp_app g2 (by simp) f.1 (fun y hy => (hall y hy).1) (fun y hy => by rw [g1] at hy; exact HLT.out y hy), ?_, by rw [List.length_append]; omega⟩
                rw [List.filterMap_append, g3]
                have : outG (f :: G') = none := outG_none (by rw [HSS.out, hSe])
                simp [this])
              have HN2 : Hid ((P ++ G).length + (flat hT).length = F.length) := hid (by rw [List.length_append, HGL.out]; exact HN.out)
              have HME : Hid (restN hb wS < restN hb W0) := hid (by
                rw [restN_eq HCS.out, HRS0.out]
                have h1 := HN.out
                have h2 := HN0.out
                obtain ⟨⟨G', hG'⟩, _⟩ := HGG.out
                have h3 := HGL.out
                rw [hG'] at h3
                simp at h3
                omega)
              clear hSe
              go_wp2_with fail
              go_roundw
              case rel => exact ⟨P ++ G, Gs ++ [G], qs, hT, _, _, _, rfl, HCS, HM, HG2, HN2, HOS, HDT, KS.out⟩
              case measure => (rw [HW0.out]; exact HME.out)
            · have hSne : SS ≠ [] := fun e => hs0 (by rw [← HSL.out, e]; rfl)
              have HSNE := hid hSne
              have hspos : decide ((0 : Int) < (SL : Int)) = true := by simp; omega
              have hspos2 : 0 < SL := by omega
              have c0 := HBS.out.cell 0 rfl
              have hfl0 : LabSrc w (.slice la ln lc) f.2.labs := by rw [← HLV.out]; exact HFit.out.2.1
              have HLC := hid (lclone_any wS (.slice la ln lc) f.2.labs (hfl0.stay KS.out) (HLAB.out _ HFit.out.1))
              clear hSne hfl0 hs0
              go_wp2_with fail
              refine HLC.out.mono ?_
              rintro e wC ⟨lv, rfl, hlat, kC⟩
              have HCC := hid (HCS.out.keep kC)
              have hOC := HOS.out.stay kC
              have hSC := ownN_stay HSAT.out kC
              obtain ⟨lva, lvc, hlve⟩ := N.ownN_slice hlat
              have hwS : w.heap.size ≤ wS.heap.size := KS.out.size
              have hwC := kC.size
              obtain ⟨ov2, wD, HrD, hOD, oD⟩ := serL_app hOC (Nat.le_trans hwS hwC) (by have := HG.out.2.2.2; have := HN.out; have := HL.out; omega) ⟨lv, .slice sva SL svc, f.2.labs, SS⟩ (N.ownN_base hlat hwS) (ownN_base hSC HWW.out) (fun y hy j h1 h2 => by
                have hlow : j < wS.heap.size ∧ (Typed wS j 45 ∨ Typed wS j 36) := by
                  rcases h1 with h1 | h1
                  · exact ⟨(N.ownN_lt (HOS.out.lab y hy) h1).2, .inl (N.ownN_typed (HOS.out.lab y hy) h1)⟩
                  · exact ⟨(ownN_lt (HOS.out.smp y hy) h1).2, .inr (ownN_typed (HOS.out.smp y hy) h1)⟩
                rcases h2 with h2 | h2
                · have := (N.ownN_lt hlat h2).1
                  omega
                · have h3 := (ownN_lt HSAT.out h2).1
                  have h4 : j < WT.heap.size := by
                    rcases h1 with h1 | h1
                    · exact HLOW.out j (.inl ⟨y, hy, h1⟩)
                    · exact HLOW.out j (.inr ⟨y, hy, h1⟩)
                  omega)
              have hrty : ∀ j, (u : Value).ownBlock = some j → Typed wC j 29 := fun j hj => ownN_typed hOC.row hj
              have hCCb := HCC.out.blk.typed
              have HCD := hid (HCC.out.only oD (fun q hq => ⟨by have := (ownN_lt hOC.row hq).1; omega, fun e => (Typed.ne (hrty _ hq) hCCb (by decide)) e, fun e => (Typed.ne (hrty _ hq) (ownN_typed HCC.out.row e) (by decide)) rfl⟩))
              have HG2 : Hid ((Gs ++ [G]).flatten = P ++ G ∧ GrpOk (Gs ++ [G]) ∧ (qs ++ [(⟨lv, .slice sva SL svc, f.2.labs, SS⟩ : SV)]).map SV.ser = (Gs ++ [G]).filterMap outG ∧ (qs ++ [(⟨lv, .slice sva SL svc, f.2.labs, SS⟩ : SV)]).length ≤ (P ++ G).length) := hid (by
                obtain ⟨⟨G', rfl⟩, hall⟩ := HGG.out
                obtain ⟨g1, g2, g3, g4⟩ := HG.out
                refine ⟨by rw [List.flatten_append, g1]; simp, grp_app g2 (by simp) f.1 (fun y hy => (hall y hy).1) (fun y hy => by rw [g1] at hy; exact HLT.out y hy), ?_, by rw [List.length_append, List.length_append]; simp; omega⟩
                rw [List.filterMap_append, List.map_append, g3]
                have : outG (f :: G') = some (f.2.labs, SS) := outG_some HSS.out HSNE.out
                simp [this, SV.ser])
              have HN2 : Hid ((P ++ G).length + (flat hT).length = F.length) := hid (by rw [List.length_append, HGL.out]; exact HN.out)
              have HME : Hid (restN hb wD < restN hb W0) := hid (by
                rw [restN_eq HCD.out, HRS0.out]
                have h1 := HN.out
                have h2 := HN0.out
                obtain ⟨⟨G', hG'⟩, _⟩ := HGG.out
                have h3 := HGL.out
                rw [hG'] at h3
                simp at h3
                omega)
              have HOD := hid hOD
              have HRD := hid HrD.out
              have KD := hid (HCD.out.kept)
              subst hlve
              clear hOC hSC hlat kC HrD hOD oD hrty hCCb HLC HCC HCS HBS HOS HSAT
              go_wp2_with (at_builtin; refine wpList_append_run rfl _ _ _ rfl rfl rfl HRD.out ?_)
              go_roundw
              case rel => exact ⟨P ++ G, Gs ++ [G], _, hT, _, _, _, rfl, HCD, HM, HG2, HN2, HOD, HDT, KD.out⟩
              case measure => (rw [HW0.out]; exact HME.out)
          | cons r0 t =>
            obtain ⟨v2, s2, p2⟩ := r0
            cases s2 with
            | nil => exact absurd rfl (hne _ List.mem_cons_self)
            | cons x xs2 =>
              obtain ⟨g, rfl, hW⟩ := HC.out.toW (by simp)
              have hfl : (flat (((v2, x :: xs2, p2) : Run) :: t)).length = xs2.length + 1 + (flat t).length := by rw [flat_cons, List.length_append]; rfl
              rw [hfl] at hNf
              rw [List.length_cons, hfl] at hhl
              have hFx : Fit RK w x := by
                obtain ⟨_, _, _, _, y, _, _, _, _, _, _, hx, hfx⟩ := run_head (hW.src _ List.mem_cons_self) hW.kept (by simp)
                simp only [List.headD_cons] at hx
                rw [hx]
                exact hfx
              have HHD := hid (fun W (k : Kept wr W) => head_any W (hW.keep k) (by simp) (by omega))
              simp only [List.headD_cons] at HHD
              have HBL := hid (fun W (k : Kept wr W) => bylabels_any W f x (HFit.out.stay (KR.out.trans k (fun _ _ f => f))) (hFx.stay (KR.out.trans k (fun _ _ f => f))))
              obtain ⟨lb, lm, ld, hXL⟩ : ∃ a b c, x.2.lv = .slice a b c := ⟨_, _, _, rfl⟩
              obtain ⟨sb, sm, sd, hXS⟩ : ∃ a b c, x.2.sv = .slice a b c := ⟨_, _, _, rfl⟩
              have HXS := hid hXS
              have HXL := hid hXL
              rw [hXL, hXS] at HHD
              rw [HLV.out, HSV.out, hXL, hXS] at HBL
              have HFx := hid hFx
              have HFI2 : Hid (∀ W, Kept wr W → Calls Try.prog 14 #[.pointer (some ⟨hb, 0, none⟩)] W fun e w' => e = .returned (.bool true) ∧ w' = W) := hid (fun W k => by
                have := HFI.out W k
                rw [List.length_cons, show decide (0 < t.length + 1) = true from by simp] at this
                exact this)
              obtain ⟨Z, hZ⟩ : ∃ Z, cmpZ f.1 x.1 = Z := ⟨_, rfl⟩
              rw [hZ] at HBL
              have HZ := hid hZ
              clear hne hFx hXL hXS HFI hZ
              go_wp2_with fail
              refine wp_region_noPanic ?_
              refine wp_region_last (L := 1000) (S := fun w' => Kept wr w') (by kernel_rfl) ?_
              refine wpAnyN_take (i := 0) (v := .pointer (some ⟨hb, 0, none⟩)) rfl (by kernel_rfl) (by kernel_rfl) (by kernel_rfl) (by decide) (by kernel_rfl) (fun _ _ _ h => h) (Or.inl ⟨by kernel_rfl, ?_⟩) KA.out ?_
              · (intro w' hSw; go_simp)
              (try simp only [List.getElem_toArray, List.getElem_cons_succ, List.getElem_cons_zero])
              go_frame
              refine wpAnyL_one (i := 1) (by kernel_rfl) rfl rfl ?_
              go_simp
              refine (HFI2.out _ KA.out).mono ?_
              rintro e w' ⟨rfl, hw⟩
              replace hw := hw.symm
              subst hw
              refine ⟨KA.out, ?_⟩
              (try simp only [List.getElem_toArray, List.getElem_cons_succ, List.getElem_cons_zero])
              (try go_frame)
              refine wpAnyN_take (i := 2) (v := .bool true) rfl (by kernel_rfl) (by kernel_rfl) (by kernel_rfl) (by decide) (by kernel_rfl) (fun _ _ _ h => h) (Or.inl ⟨by kernel_rfl, ?_⟩) KA.out ?_
              · (intro w' hSw; go_simp)
              (try simp only [List.getElem_toArray, List.getElem_cons_succ, List.getElem_cons_zero])
              go_frame
              refine wpAnyN_take (i := 3) (v := .agg #[.slice la ln lc, .slice sa sn sc]) rfl (by kernel_rfl) (by kernel_rfl) (by kernel_rfl) (by decide) (by kernel_rfl) (fun _ _ _ h => h) (Or.inl ⟨by kernel_rfl, ?_⟩) KA.out ?_
              · (intro w' hSw; have s0 := each_cell hSw _ _ B0.out; have s1 := each_cell hSw _ _ B1.out; clear hSw; go_simp)
              (try simp only [List.getElem_toArray, List.getElem_cons_succ, List.getElem_cons_zero])
              go_frame
              refine wpAnyN_take (i := 4) (v := .pointer (some ⟨hb, 0, none⟩)) rfl (by kernel_rfl) (by kernel_rfl) (by kernel_rfl) (by decide) (by kernel_rfl) (fun _ _ _ h => h) (Or.inl ⟨by kernel_rfl, ?_⟩) KA.out ?_
              · (intro w' hSw; go_simp)
              (try simp only [List.getElem_toArray, List.getElem_cons_succ, List.getElem_cons_zero])
              go_frame
              refine wpAnyL_one (i := 5) (by kernel_rfl) rfl rfl ?_
              go_simp
              refine (HHD.out _ KA.out).mono ?_
              rintro e w6 ⟨rfl, k6⟩
              have K6 := hid (show Kept wr w6 from KA.out.trans k6 (fun _ _ f => f))
              clear k6
              refine ⟨K6.out, ?_⟩
              (try simp only [List.getElem_toArray, List.getElem_cons_succ, List.getElem_cons_zero])
              (try go_frame)
              have HBL6 := hid (HBL.out w6 K6.out)
              refine wpAnyL_one (i := 6) (by kernel_rfl) rfl rfl ?_
              go_simp
              refine HBL6.out.mono ?_
              rintro e w7 ⟨rfl, k7⟩
              have K7 := hid (show Kept wr w7 from K6.out.trans k7 (fun _ _ f => f))
              clear k7 HBL6
              refine ⟨K7.out, ?_⟩
              (try simp only [List.getElem_toArray, List.getElem_cons_succ, List.getElem_cons_zero])
              (try go_frame)
              refine wpAnyL_one (i := 7) (by kernel_rfl) rfl rfl ?_
              go_simp
              refine ⟨K7.out, ?_⟩
              (try simp only [List.getElem_toArray, List.getElem_cons_succ, List.getElem_cons_zero])
              (try go_frame)
              refine wpAnyL_one (i := 8) (by kernel_rfl) rfl rfl ?_
              go_simp
              refine ⟨K7.out, ?_⟩
              (try go_frame)
              refine wpAnyN_done (by kernel_rfl) ?_
              refine NoPanic.normal ?_
              by_cases hz0 : Z = 0
              · have hfx : f.1 = x.1 := by
                  have := HZ.out
                  rw [hz0] at this
                  unfold cmpZ at this
                  split at this
                  · omega
                  · split at this <;> omega
                have HFX := hid hfx
                subst hz0
                have HTK := hid (take_any w7 (hW.keep K7.out) HM.out (by omega) (by omega))
                unfold TakeP at HTK
                rw [show x.2.lv = .slice lb lm ld from HXL.out, HXS.out] at HTK
                have HB7 := hid (K7.out.blk HB.out (fun f => f))
                have HO7 := hid (HO.out.stay K7.out)
                have HW7 := hid (own_only HOW.out K7.out (fun _ _ f => f))
                have hgty := (hW.keep K7.out).row
                have hgt := ownN_typed hgty rfl
                have hbt := (hW.keep K7.out).blk.typed
                have HNO : Hid (∀ j, Typed w7 j 29 ∨ Typed w7 j 45 ∨ Typed w7 j 36 → ¬ (j = hb ∨ j = g)) := hid (fun j hj e => by
                  rcases e with e | e
                  · rcases hj with hj | hj | hj
                    · exact (Typed.ne hj hbt (by decide)) e
                    · exact (Typed.ne hj hbt (by decide)) e
                    · exact (Typed.ne hj hbt (by decide)) e
                  · rcases hj with hj | hj | hj
                    · exact (Typed.ne hj hgt (by decide)) e
                    · exact (Typed.ne hj hgt (by decide)) e
                    · exact (Typed.ne hj hgt (by decide)) e)
                have HNB : Hid (¬ (fb = hb ∨ fb = g)) := hid (fun e => by
                  rcases e with e | e
                  · exact (Typed.ne HB7.out.typed hbt (by decide)) e
                  · exact (Typed.ne HB7.out.typed hgt (by decide)) e)
                have HNW : Hid (∀ j, (Value.slice oa GL oc).ownBlock = some j → ¬ (j = hb ∨ j = g)) := hid (fun j hj e => by
                  rcases e with e | e
                  · exact (Typed.ne (ownN_typed HW7.out hj) hbt (by decide)) e
                  · exact (Typed.ne (ownN_typed HW7.out hj) hgt (by decide)) e)
                have hrp := rise_put HM.out.rise (mrg_take (v' := v2) HM.out).1
                have HRP := hid hrp.2.2
                have K07 := hid (KR.out.trans K7.out (fun _ _ f => f))
                clear hgty hgt hbt hrp hfx KA K6 HHD HBL HFI2 B0 B1 hW HC HB HO HOW
                go_wp2_with fail
                refine HTK.out.mono ?_
                rintro e w8 ⟨rfl, h8, hw8, hm8, o8, hl8⟩
                have HC8 := hid hw8.toC
                have HM8 : Hid (MrgI h8 (P ++ (G ++ [x])) (mrg F)) := hid (by rw [← List.append_assoc, ← HRP.out]; exact hm8)
                have HL8 := hid hl8
                have hB8 := o8.blk HB7.out HNB.out
                have hO8 := HO7.out.apartT o8 HNO.out
                have hW8 := own_only HW7.out o8 HNW.out
                have hkk8 := hw8.kept
                obtain ⟨og, ocap, w9, Hr9, hW9, o9⟩ := Mg.own_sl hW8 (by rw [List.length_map, HGL.out]) (Nat.le_of_lt hB8.lt) (by omega) sb sm sd
                have hwty : ∀ j, (Value.slice oa GL oc).ownBlock = some j → Typed w8 j 27 := fun j hj => ownN_typed hW8 hj
                have HB9 := hid (o9.blk hB8 (fun e => (Typed.ne hB8.typed (hwty _ e) (by decide)) rfl))
                have HO9 := hid (hO8.apartT o9 (fun j hj e => by
                  rcases hj with hj | hj | hj
                  · exact (Typed.ne hj (hwty _ e) (by decide)) rfl
                  · exact (Typed.ne hj (hwty _ e) (by decide)) rfl
                  · exact (Typed.ne hj (hwty _ e) (by decide)) rfl))
                have HC9 := hid (HC8.out.only o9 (fun q hq => ⟨by have := (ownN_lt hW8 hq).1; have := HWB.out; omega, fun e => (Typed.ne (hwty _ hq) hw8.blk.typed (by decide)) e, fun e => (Typed.ne (hwty _ hq) (ownN_typed hw8.row e) (by decide)) rfl⟩))
                have HW9 : Hid (w9.ownsRow fb 27 1 (.slice (some ⟨og, 0, none⟩) (GL + 1) ocap) (G ++ [x]).length ((G ++ [x]).map (fun y => y.2.sv))) := hid (by
                  rw [List.length_append, HGL.out, List.map_append, List.map_cons, List.map_nil, HXS.out]
                  exact hW9)
                have HG9 : Hid ((∃ G', G ++ [x] = f :: G') ∧ ∀ y ∈ G ++ [x], y.1 = f.1 ∧ Fit RK w y) := hid (by
                  obtain ⟨⟨G', rfl⟩, hall⟩ := HGG.out
                  refine ⟨⟨G' ++ [x], rfl⟩, fun y hy => ?_⟩
                  rcases List.mem_append.1 hy with hy | hy
                  · exact hall y hy
                  · rw [List.mem_singleton.1 hy]
                    exact ⟨HFX.out.symm, HFx.out⟩)
                have HN9 : Hid (P.length + (G ++ [x]).length + (flat h8).length = F.length) := hid (by
                  rw [List.length_append, HGL.out, HL8.out]
                  show P.length + (GL + 1) + _ = _
                  omega)
                have HME : Hid (restN hb w9 < restN hb wr) := hid (by
                  rw [restN_eq HC9.out, HRS.out, HL8.out, flat_cons, List.length_append]
                  simp only [List.length_cons]
                  omega)
                have HR9 := hid Hr9.out
                have HK9 := hid HC9.out.kept
                clear hB8 hO8 hW8 hW9 o8 o9 hwty hw8 hm8 hl8 hkk8 HTK HC8 HL8 Hr9 HB7 HO7 HW7 hNf hLf hhl hfl
                have hfield : ∀ W, (Instr.field 29 (.agg #[Value.slice lb lm ld, Value.slice sb sm sd]) 1).run Try.prog W = .ok (.slice sb sm sd) W := fun W => by kernel_rfl
                go_wp2_with (at_builtin; refine wpList_append_run rfl _ _ _ rfl rfl rfl HR9.out ?_)
                go_roundw
                case rel => exact ⟨G ++ [x], h8, _, _, _, rfl, HC9, HM8, HG9, HW9, HB9, HO9, HN9, HK9.out⟩
                case measure => exact HME.out
              · have hzb : (Z == 0) = false := by simpa using hz0
                have hxf : f.1 < x.1 := by
                  have h1 : f.1 ≤ x.1 := (mrg_take (v' := v2) HM.out).1 f (by
                    obtain ⟨⟨G', rfl⟩, _⟩ := HGG.out
                    simp)
                  have := HZ.out
                  by_cases h2 : f.1 = x.1
                  · rw [h2] at this
                    exact absurd (by rw [← this]; unfold cmpZ; simp) hz0
                  · omega
                have HCT := hid (HC.out.keep K7.out)
                have HDT : Hid (HeadB (((v2, x :: xs2, p2) : Run) :: t) (P ++ G)) := hid (fun v y ys p t' e z hz => by
                  simp only [List.cons.injEq, Prod.mk.injEq] at e
                  obtain ⟨⟨_, ⟨rfl, _⟩, _⟩, _⟩ := e
                  rcases List.mem_append.1 hz with hz | hz
                  · have := HLT.out z hz
                    omega
                  · rw [(HGG.out.2 z hz).1]
                    exact hxf)
                have HBT := hid (K7.out.blk HB.out (fun f => f))
                have HOT := hid (HO.out.stay K7.out)
                have HWT := hid (own_only HOW.out K7.out (fun _ _ f => f))
                have KT := hid (KR.out.trans K7.out (fun _ _ f => f))
                obtain ⟨WT, hWT⟩ : ∃ W, W = w7 := ⟨_, rfl⟩
                rw [← hWT] at HCT HBT HOT HWT KT ⊢
                obtain ⟨hT, hTe⟩ : ∃ hT : List Run, hT = (((v2, x :: xs2, p2) : Run) :: t) := ⟨_, rfl⟩
                rw [← hTe] at HCT HDT HM HN
                clear hTe hWT KA K6 K7 HHD HBL HFI2 B0 B1 HRS hW HC HOW HB HO KR HXS HFx HZ hz0 hxf HXL
                have hGG := HGG.out
                have HSA := hid (Mg.samples_any WT (.slice oa GL oc) (G.map (fun y => y.2.sv)) (G.map (fun y => y.2.smps)) ⟨own_src HWT.out, by rw [List.length_map, List.length_map], fun i h1 h2 => by
                  rw [List.getElem_map, List.getElem_map]
                  exact (hGG.2 _ (List.getElem_mem _)).2.2.2.1.stay KT.out⟩ (by
                    rw [flat_smps]
                    have h1 := HM.out.weight
                    rw [wsum_app] at h1
                    have := HSM.out
                    omega) (by rw [List.length_map, HGL.out]; have := HN.out; have := HL.out; omega))
                obtain ⟨SS, hSS⟩ : ∃ SS, Mg.mrg ((G.map (fun y => y.2.smps)).flatten) = SS := ⟨_, rfl⟩
                have HSS := hid hSS
                unfold Mg.SamP at HSA
                rw [hSS] at HSA
                clear hSS hGG
                go_wp2_with fail
                refine HSA.out.mono ?_
                rintro e wS ⟨sv, rfl, hsat, kS⟩
                have HCS := hid (HCT.out.keep kS)
                have HBS := hid (kS.blk HBT.out (fun f => f))
                have HOS := hid (HOT.out.stay kS)
                have KS := hid (KT.out.trans kS (fun _ _ f => f))
                have HSAT := hid hsat
                have HWW := hid (show w.heap.size ≤ WT.heap.size from KT.out.size)
                obtain ⟨sva, svc, hsve⟩ := ownN_slice hsat
                obtain ⟨SL, hSL⟩ : ∃ n, SS.length = n := ⟨_, rfl⟩
                rw [hSL] at hsve
                subst hsve
                have HSL := hid hSL
                have HLOW : Hid (∀ j, (∃ y ∈ qs, y.lv.ownBlock = some j) ∨ (∃ y ∈ qs, y.sv.ownBlock = some j) → j < WT.heap.size) := hid (fun j h => by
                  rcases h with ⟨y, hy, h⟩ | ⟨y, hy, h⟩
                  · exact (N.ownN_lt (HOT.out.lab y hy) h).2
                  · exact (ownN_lt (HOT.out.smp y hy) h).2)
                clear hsat kS HSA HCT HBT HOT HWT KT hSL
                by_cases hs0 : SL = 0
                · have hSe : SS = [] := List.length_eq_zero_iff.1 (by rw [HSL.out]; exact hs0)
                  subst hs0
                  have HG2 : Hid ((Gs ++ [G]).flatten = P ++ G ∧ GrpOk (Gs ++ [G]) ∧ qs.map SV.ser = (Gs ++ [G]).filterMap outG ∧ qs.length ≤ (P ++ G).length) := hid (by
                    obtain ⟨⟨G', rfl⟩, hall⟩ := HGG.out
                    obtain ⟨g1, g2, g3, g4⟩ := HG.out
                    refine ⟨by rw [List.flatten_append, g1]; simp, grp_app g2 (by simp) f.1 (fun y hy => (hall y hy).1) (fun y hy => by rw [g1] at hy; exact HLT.out y hy), ?_, by rw [List.length_append]; omega⟩
                    rw [List.filterMap_append, g3]
                    have : outG (f :: G') = none := outG_none (by rw [HSS.out, hSe])
                    simp [this])
                  have HN2 : Hid ((P ++ G).length + (flat hT).length = F.length) := hid (by rw [List.length_append, HGL.out]; exact HN.out)
                  have HME : Hid (restN hb wS < restN hb W0) := hid (by
                    rw [restN_eq HCS.out, HRS0.out]
                    have h1 := HN.out
                    have h2 := HN0.out
                    obtain ⟨⟨G', hG'⟩, _⟩ := HGG.out
                    have h3 := HGL.out
                    rw [hG'] at h3
                    simp at h3
                    omega)
                  clear hSe
                  go_wp2_with fail
                  go_roundw
                  case rel => exact ⟨P ++ G, Gs ++ [G], qs, hT, _, _, _, rfl, HCS, HM, HG2, HN2, HOS, HDT, KS.out⟩
                  case measure => (rw [HW0.out]; exact HME.out)
                · have hSne : SS ≠ [] := fun e => hs0 (by rw [← HSL.out, e]; rfl)
                  have HSNE := hid hSne
                  have hspos : decide ((0 : Int) < (SL : Int)) = true := by simp; omega
                  have hspos2 : 0 < SL := by omega
                  have c0 := HBS.out.cell 0 rfl
                  have hfl0 : LabSrc w (.slice la ln lc) f.2.labs := by rw [← HLV.out]; exact HFit.out.2.1
                  have HLC := hid (lclone_any wS (.slice la ln lc) f.2.labs (hfl0.stay KS.out) (HLAB.out _ HFit.out.1))
                  clear hSne hfl0 hs0
                  go_wp2_with fail
                  refine HLC.out.mono ?_
                  rintro e wC ⟨lv, rfl, hlat, kC⟩
                  have HCC := hid (HCS.out.keep kC)
                  have hOC := HOS.out.stay kC
                  have hSC := ownN_stay HSAT.out kC
                  obtain ⟨lva, lvc, hlve⟩ := N.ownN_slice hlat
                  have hwS : w.heap.size ≤ wS.heap.size := KS.out.size
                  have hwC := kC.size
                  obtain ⟨ov2, wD, HrD, hOD, oD⟩ := serL_app hOC (Nat.le_trans hwS hwC) (by have := HG.out.2.2.2; have := HN.out; have := HL.out; omega) ⟨lv, .slice sva SL svc, f.2.labs, SS⟩ (N.ownN_base hlat hwS) (ownN_base hSC HWW.out) (fun y hy j h1 h2 => by
                    have hlow : j < wS.heap.size ∧ (Typed wS j 45 ∨ Typed wS j 36) := by
                      rcases h1 with h1 | h1
                      · exact ⟨(N.ownN_lt (HOS.out.lab y hy) h1).2, .inl (N.ownN_typed (HOS.out.lab y hy) h1)⟩
                      · exact ⟨(ownN_lt (HOS.out.smp y hy) h1).2, .inr (ownN_typed (HOS.out.smp y hy) h1)⟩
                    rcases h2 with h2 | h2
                    · have := (N.ownN_lt hlat h2).1
                      omega
                    · have h3 := (ownN_lt HSAT.out h2).1
                      have h4 : j < WT.heap.size := by
                        rcases h1 with h1 | h1
                        · exact HLOW.out j (.inl ⟨y, hy, h1⟩)
                        · exact HLOW.out j (.inr ⟨y, hy, h1⟩)
                      omega)
                  have hrty : ∀ j, (u : Value).ownBlock = some j → Typed wC j 29 := fun j hj => ownN_typed hOC.row hj
                  have hCCb := HCC.out.blk.typed
                  have HCD := hid (HCC.out.only oD (fun q hq => ⟨by have := (ownN_lt hOC.row hq).1; omega, fun e => (Typed.ne (hrty _ hq) hCCb (by decide)) e, fun e => (Typed.ne (hrty _ hq) (ownN_typed HCC.out.row e) (by decide)) rfl⟩))
                  have HG2 : Hid ((Gs ++ [G]).flatten = P ++ G ∧ GrpOk (Gs ++ [G]) ∧ (qs ++ [(⟨lv, .slice sva SL svc, f.2.labs, SS⟩ : SV)]).map SV.ser = (Gs ++ [G]).filterMap outG ∧ (qs ++ [(⟨lv, .slice sva SL svc, f.2.labs, SS⟩ : SV)]).length ≤ (P ++ G).length) := hid (by
                    obtain ⟨⟨G', rfl⟩, hall⟩ := HGG.out
                    obtain ⟨g1, g2, g3, g4⟩ := HG.out
                    refine ⟨by rw [List.flatten_append, g1]; simp, grp_app g2 (by simp) f.1 (fun y hy => (hall y hy).1) (fun y hy => by rw [g1] at hy; exact HLT.out y hy), ?_, by rw [List.length_append, List.length_append]; simp; omega⟩
                    rw [List.filterMap_append, List.map_append, g3]
                    have : outG (f :: G') = some (f.2.labs, SS) := outG_some HSS.out HSNE.out
                    simp [this, SV.ser])
                  have HN2 : Hid ((P ++ G).length + (flat hT).length = F.length) := hid (by rw [List.length_append, HGL.out]; exact HN.out)
                  have HME : Hid (restN hb wD < restN hb W0) := hid (by
                    rw [restN_eq HCD.out, HRS0.out]
                    have h1 := HN.out
                    have h2 := HN0.out
                    obtain ⟨⟨G', hG'⟩, _⟩ := HGG.out
                    have h3 := HGL.out
                    rw [hG'] at h3
                    simp at h3
                    omega)
                  have HOD := hid hOD
                  have HRD := hid HrD.out
                  have KD := hid (HCD.out.kept)
                  subst hlve
                  clear hOC hSC hlat kC HrD hOD oD hrty hCCb HLC HCC HCS HBS HOS HSAT
                  go_wp2_with (at_builtin; refine wpList_append_run rfl _ _ _ rfl rfl rfl HRD.out ?_)
                  go_roundw
                  case rel => exact ⟨P ++ G, Gs ++ [G], _, hT, _, _, _, rfl, HCD, HM, HG2, HN2, HOD, HDT, KD.out⟩
                  case measure => (rw [HW0.out]; exact HME.out)
end Go.Proofs.Ytcacoanhiphbiaa.Ms
