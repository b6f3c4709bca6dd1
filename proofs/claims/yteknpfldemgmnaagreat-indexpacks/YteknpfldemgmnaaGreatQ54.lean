/-
  Lpacks15.
-/
import Derived.Test.YteknpfldemgmnaaGreatQ51
import Derived.Test.YteknpfldemgmnaaGreatQ50
import Derived.Test.YteknpfldemgmnaaGreatQ29
import Derived.Test.YteknpfldemgmnaaGreatQ45
import Derived.Test.YteknpfldemgmnaaGreatQ52

/-
  What the law IndexPacks walks through.
-/
namespace Go.Proofs.YteknpfldemgmnaaGreat.X
open Go.RowKit Go.Proofs.Lys Go.Maps Go.Proofs.YteknpfldemgmnaaGreat.N
set_option linter.unusedVariables false
set_option linter.unusedSimpArgs false

set_option maxRecDepth 100000 in
set_option maxHeartbeats 12800000 in
theorem packs15_walk (w : World) (v : Value) (L : List Labs) (hs : LIn w v L) :
    Calls Tryz.prog 3 #[v] w fun e w' => e = .returned (.bool true) ∧ Kept w w' := by
  have HA := hid (xalive_any w)
  have HBX := hid (fun W (k : Kept w W) => bigx_any W v L ⟨by
    obtain ⟨vs, h1, h2, h3⟩ := hs.in_
    exact ⟨vs, h1.stay k, h2, fun i a b => ⟨((h3 i a b).src).stay k, (h3 i a b).came, (h3 i a b).len⟩⟩, hs.len⟩)
  have HLS := hid hs.src
  obtain ⟨av, cv, rfl⟩ := hs.src.len
  have hlN := hs.len
  have HNUM := hid num15_any
  clear hs
  obtain ⟨N, hN⟩ : ∃ N, L.length = N := ⟨_, rfl⟩
  rw [hN] at HBX HLS hlN ⊢
  have HN := hid hN
  clear hN
  go_enter Tryz.func3, Tryz.ntmps3
  go_wp2_with fail
  refine HA.out.mono ?_
  rintro e w1 ⟨rfl, k1⟩
  have K1 := hid k1
  clear k1 HA
  go_wp2_with fail
  refine (HBX.out w1 K1.out).mono ?_
  rintro e w2 ⟨b, rfl, hfew, k2⟩
  have K2 := hid (K1.out.trans k2 (fun _ _ f => f))
  clear k2 K1 HBX
  cases b with
  | true =>
    clear hfew
    go_wp2
    go_ret
    exact ⟨rfl, K2.out⟩
  | false =>
    have HFEW := hid (hfew rfl)
    clear hfew
    have HRC := hid (rcheckI_any w2 _ L (HLS.out.stay K2.out) (by have := HFEW.out.len; omega) HFEW.out.ok)
    by_cases hck : checkI L = 0
    · rw [hck] at HRC
      have HCK := hid hck
      have hsum : sumN L ≤ 5000 := by have := HFEW.out.sum; omega
      have hpk := pk_ok hck hsum
      have HPK0 := hid hpk.1
      have hL3 : L.length ≤ 1000 := by have := HFEW.out.len; omega
      have hbl : (packI L.length (postsOf L)).length ≤ 300000 := by have := hpk.2; have := HFEW.out.sum; omega
      have HEACH := hid (fun l (hl : l ∈ L) => (show l.length ≤ 100000 from (HFEW.out.ok l hl).1))
      have HRPK0 := hid (fun (W : World) (k : Kept w W) => rpackI_any W _ L (HLS.out.stay k) (by omega) hL3 HEACH.out hpk.1.2.1 hpk.1.2.2)
      have HRP0 := hid (fun (W : World) (k : Kept w W) => rposts_any W _ L (HLS.out.stay k) (by omega) (by omega) HEACH.out)
      have HPL := hid (show (postsOf L).length ≤ 1000000 ∧ ∀ p ∈ postsOf L, p.2.length ≤ 1000000 from ⟨by have := hpk.1.1; omega, fun p hp => by have := (hpk.1.2.1 p hp).1; omega⟩)
      have hback : readI (packI L.length (postsOf L)) = some L := readI_posts (fun l hl => ((check_zero.1 hck).2.1 l hl).rise) hL3 hpk.1
      have HUN0 := hid (fun (W : World) (x : Value) (hx : Po.BSrc W x (packI L.length (postsOf L))) => unpack_ix W x _ hx hbl (fun L' h => by rw [hback] at h; cases h; exact ⟨hL3, HFEW.out.ok⟩) (fun L' h _ => by rw [hback] at h; cases h; exact hpk.1))
      have HUNI : Hid (∀ L', UnI (packI L.length (postsOf L)) L' → L' = L) := hid (fun L' h => by have h1 := h.1; rw [hback] at h1; cases h1; rfl)
      have HUNY : Hid (UnI (packI L.length (postsOf L)) L) := ⟨hback, hck, rfl⟩
      have HPKX : Hid (∀ (W : World) (x : IxC) (O : Nat → Prop), IxAt W x O → Is x (postsOf L) → x.n = L.length → Calls Tryz.prog 9 #[.pointer (some ⟨x.xb, 0, none⟩)] W fun e w' => ∃ v, e = .returned v ∧ BytAt w' W.heap.size v (packI L.length (postsOf L)) ∧ Kept W w') := hid (fun W x O h1 h2 h3 => by
        have := pack_ix h1 h2 hpk.1.1 hpk.1.2.1 (by rw [h3]; exact hpk.1.2.2)
        rw [h3] at this
        exact this)
      have HPOX := hid (fun (W : World) (x : IxC) (O : Nat → Prop) (h1 : IxAt W x O) (h2 : Is x (postsOf L)) => posts_any h1 h2 (by have := hpk.1.1; omega) (fun p hp => by have := (hpk.1.2.1 p hp).1; omega))
      have HMK0 := hid (fun (W : World) (k : Kept w W) => make_ix W _ L (HLS.out.stay k) (by omega) HFEW.out.ok)
      clear hpk hback hck hsum HFEW
      go_wp2_with fail
      refine HRC.out.mono ?_
      rintro e w3 ⟨rfl, k3⟩
      have K3 := hid (K2.out.trans k3 (fun _ _ f => f))
      have HMK := hid (HMK0.out w3 K3.out)
      clear k3 HRC HMK0 K2
      go_wp2_with fail
      refine HMK.out.mono ?_
      intro e w3b hC
      obtain ⟨x, rfl, hmd, k4⟩ := make_ok hC HCK.out
      have K3b := hid (K3.out.trans k4 (fun _ _ f => f))
      have HPKA := hid (HPKX.out w3b x _ hmd.at_ hmd.is hmd.n)
      obtain ⟨XB, hXB⟩ : ∃ XB, x.xb = XB := ⟨_, rfl⟩
      rw [hXB] at HPKA ⊢
      clear hC hmd k4 HMK hXB K3
      go_wp2_with fail
      refine HPKA.out.mono ?_
      rintro e w4 ⟨v7, rfl, hb7, k4⟩
      have K4 := hid (K3b.out.trans k4 (fun _ _ f => f))
      have HB7 := hid hb7
      obtain ⟨a7, c7, e7⟩ := ownN_slice hb7
      have HRPK := hid (fun (W : World) (k : Kept w4 W) => HRPK0.out W (K4.out.trans k (fun _ _ f => f)))
      obtain ⟨PB, hPB⟩ : ∃ PB, packI L.length (postsOf L) = PB := ⟨_, rfl⟩
      rw [hPB] at HB7 hbl HUN0 HUNI HUNY e7
      have HPKX2 : Hid (∀ (W : World) (x : IxC) (O : Nat → Prop), IxAt W x O → Is x (postsOf L) → x.n = L.length → Calls Tryz.prog 9 #[.pointer (some ⟨x.xb, 0, none⟩)] W fun e w' => ∃ v, e = .returned v ∧ BytAt w' W.heap.size v PB ∧ Kept W w') := hid (fun W x O h1 h2 h3 => by rw [← hPB]; exact HPKX.out W x O h1 h2 h3)
      have HRPK2 : Hid (∀ (W : World) (k : Kept w4 W), Calls Tryz.prog 10 #[.slice av N cv] W fun e w' => ∃ u, e = .returned u ∧ BytAt w' W.heap.size u PB ∧ Kept W w') := hid (fun W k => by rw [← hPB]; exact HRPK.out W k)
      have HCV := hid (fun (W : World) (k : Kept w4 W) => conv_bytes ((own_src HB7.out).stay k))
      obtain ⟨PBL, hPBL⟩ : ∃ n, PB.length = n := ⟨_, rfl⟩
      have HPBL := hid hPBL
      rw [hPBL] at e7 hbl
      subst e7
      have HRPK := HRPK2
      have heq : ((mkB PB).toList == (mkB PB).toList) = true := by simp
      clear hb7 k4 HPKA HPKX HRPK0 hPB hPBL K3b
      go_wp2_with fail
      have K0 := hid (show Kept w4 w4.drew from (Only.refl _ _).drew)
      refine wp_region_noPanic ?_
      refine wp_region_last (L := 1000) (S := fun w' => Kept w4 w') (by kernel_rfl) ?_
      refine wpAnyN_take (i := 0) (v := .slice a7 PBL c7) rfl (by kernel_rfl) (by kernel_rfl) (by kernel_rfl) (by decide) (by kernel_rfl) (fun _ _ _ h => h) (Or.inl ⟨by kernel_rfl, ?_⟩) K0.out ?_
      · (intro w' hSw; go_simp)
      (try simp only [List.getElem_toArray, List.getElem_cons_succ, List.getElem_cons_zero])
      go_frame
      refine wpAnyN_take (i := 1) (v := .string (mkB PB)) rfl (by kernel_rfl) (by kernel_rfl) (by kernel_rfl) (by decide) (by kernel_rfl) (fun _ _ _ h => h) (Or.inl ⟨by kernel_rfl, ?_⟩) K0.out ?_
      · (intro w' hSw; have scv := HCV.out w' hSw; clear hSw; go_simp)
      (try simp only [List.getElem_toArray, List.getElem_cons_succ, List.getElem_cons_zero])
      go_frame
      refine wpAnyN_take (i := 2) (v := .slice av N cv) rfl (by kernel_rfl) (by kernel_rfl) (by kernel_rfl) (by decide) (by kernel_rfl) (fun _ _ _ h => h) (Or.inl ⟨by kernel_rfl, ?_⟩) K0.out ?_
      · (intro w' hSw; go_simp)
      (try simp only [List.getElem_toArray, List.getElem_cons_succ, List.getElem_cons_zero])
      go_frame
      refine wpAnyL_one (i := 3) (by kernel_rfl) rfl (by kernel_rfl) ?_
      go_simp
      refine (HRPK.out _ K0.out).mono ?_
      rintro e w5 ⟨u5, rfl, hu5, k5⟩
      have K5 := hid (show Kept w4 w5 from K0.out.trans k5 (fun _ _ f => f))
      have hcv5 := conv_bytes (own_src hu5)
      obtain ⟨ua, uc, e5⟩ := ownN_slice hu5
      rw [HPBL.out] at e5
      subst e5
      clear k5 hu5
      refine ⟨K5.out, ?_⟩
      (try go_frame)
      refine wpAnyL_one (i := 4) (by kernel_rfl) rfl (by kernel_rfl) ?_
      go_simp
      refine ⟨K5.out, ?_⟩
      (try go_frame)
      refine wpAnyL_one (i := 5) (by kernel_rfl) rfl (by kernel_rfl) ?_
      go_simp
      refine ⟨K5.out, ?_⟩
      (try go_frame)
      refine wpAnyN_done (by kernel_rfl) ?_
      refine NoPanic.normal ?_
      have K4b := hid (K4.out.trans K5.out (fun _ _ f => f))
      have hsrc7 := (own_src HB7.out).stay K5.out
      obtain ⟨v2, w6, Hr, ho2, k6⟩ := Po.copy_bytes hsrc7 (by have := HPBL.out; omega)
      have K6 := hid (show Kept w w6 from K4b.out.trans k6 (fun _ _ f => f))
      have HU := hid (HUN0.out w6 v2 (Po.own_bsrc ho2))
      have HB6 := hid (show SrcOf w6 _ (PB.map bV) from hsrc7.stay k6)
      obtain ⟨a2, c2, e2⟩ := ownN_slice ho2
      rw [HPBL.out] at e2
      subst e2
      clear ho2 k6 hsrc7 HUN0 HRPK HRPK2 HCV
      go_wp2_with (at_builtin; refine wpList_append_run rfl _ _ _ rfl rfl rfl Hr ?_)
      (try go_wp2_with fail)
      refine HU.out.mono ?_
      rintro e w7 ⟨hR, k7⟩
      rcases hR with ⟨L', y, hU', rfl, hmd⟩ | ⟨hno, _⟩
      · obtain rfl : L' = L := HUNI.out L' hU'
        have K7 := hid (K6.out.trans k7 (fun _ _ f => f))
        have HRP := hid (fun (W : World) (k : Kept w7 W) => HRP0.out W (K7.out.trans k (fun _ _ f => f)))
        have HPO := hid (fun (W : World) (k : Kept w7 W) => HPOX.out W y _ (hmd.at_.only k (fun _ _ f => f)) hmd.is)
        have HPK2 := hid (fun (W : World) (k : Kept w7 W) => HPKX2.out W y _ (hmd.at_.only k (fun _ _ f => f)) hmd.is hmd.n)
        have HCV7 := hid (fun (W : World) (k : Kept w7 W) => conv_bytes ((HB6.out.stay k7).stay k))
        obtain ⟨YB, hYB⟩ : ∃ YB, y.xb = YB := ⟨_, rfl⟩
        rw [hYB] at HPO HPK2 ⊢
        clear hU' hmd k7 hYB HRP0 HPOX HPKX2 HU K6 HB6
        go_wp2_with fail
        have K0 := hid (show Kept w7 w7.drew from (Only.refl _ _).drew)
        refine wp_region_noPanic ?_
        refine wp_region_last (L := 1000) (S := fun w' => Kept w7 w') (by kernel_rfl) ?_
        refine wpAnyN_take (i := 0) (v := .int .i64 0) rfl (by kernel_rfl) (by kernel_rfl) (by kernel_rfl) (by decide) (by kernel_rfl) (fun _ _ _ h => h) (Or.inl ⟨by kernel_rfl, ?_⟩) K0.out ?_
        · (intro w' hSw; go_simp)
        (try simp only [List.getElem_toArray, List.getElem_cons_succ, List.getElem_cons_zero])
        go_frame
        refine wpAnyL_one (i := 1) (by kernel_rfl) rfl (by kernel_rfl) ?_
        go_simp
        refine (HNUM.out _ _).mono ?_
        rintro e w' ⟨rfl, hw⟩
        replace hw := hw.symm
        subst hw
        refine ⟨K0.out, ?_⟩
        (try go_frame)
        refine wpAnyN_take (i := 2) (v := .bool true) rfl (by kernel_rfl) (by kernel_rfl) (by kernel_rfl) (by decide) (by kernel_rfl) (fun _ _ _ h => h) (Or.inl ⟨by kernel_rfl, ?_⟩) K0.out ?_
        · (intro w' hSw; go_simp)
        (try simp only [List.getElem_toArray, List.getElem_cons_succ, List.getElem_cons_zero])
        go_frame
        refine wpAnyN_take (i := 3) (v := .bool true) rfl (by kernel_rfl) (by kernel_rfl) (by kernel_rfl) (by decide) (by kernel_rfl) (fun _ _ _ h => h) (Or.inl ⟨by kernel_rfl, ?_⟩) K0.out ?_
        · (intro w' hSw; go_simp)
        (try simp only [List.getElem_toArray, List.getElem_cons_succ, List.getElem_cons_zero])
        go_frame
        refine wpAnyN_take (i := 4) (v := .pointer (some ⟨YB, 0, none⟩)) rfl (by kernel_rfl) (by kernel_rfl) (by kernel_rfl) (by decide) (by kernel_rfl) (fun _ _ _ h => h) (Or.inl ⟨by kernel_rfl, ?_⟩) K0.out ?_
        · (intro w' hSw; go_simp)
        (try simp only [List.getElem_toArray, List.getElem_cons_succ, List.getElem_cons_zero])
        go_frame
        refine wpAnyN_take (i := 5) (v := .bool true) rfl (by kernel_rfl) (by kernel_rfl) (by kernel_rfl) (by decide) (by kernel_rfl) (fun _ _ _ h => h) (Or.inl ⟨by kernel_rfl, ?_⟩) K0.out ?_
        · (intro w' hSw; go_simp)
        (try simp only [List.getElem_toArray, List.getElem_cons_succ, List.getElem_cons_zero])
        go_frame
        refine wpAnyN_take (i := 6) (v := .bool true) rfl (by kernel_rfl) (by kernel_rfl) (by kernel_rfl) (by decide) (by kernel_rfl) (fun _ _ _ h => h) (Or.inl ⟨by kernel_rfl, ?_⟩) K0.out ?_
        · (intro w' hSw; go_simp)
        (try simp only [List.getElem_toArray, List.getElem_cons_succ, List.getElem_cons_zero])
        go_frame
        refine wpAnyN_take (i := 7) (v := .bool true) rfl (by kernel_rfl) (by kernel_rfl) (by kernel_rfl) (by decide) (by kernel_rfl) (fun _ _ _ h => h) (Or.inl ⟨by kernel_rfl, ?_⟩) K0.out ?_
        · (intro w' hSw; go_simp)
        (try simp only [List.getElem_toArray, List.getElem_cons_succ, List.getElem_cons_zero])
        go_frame
        refine wpAnyN_take (i := 8) (v := .pointer (some ⟨YB, 0, none⟩)) rfl (by kernel_rfl) (by kernel_rfl) (by kernel_rfl) (by decide) (by kernel_rfl) (fun _ _ _ h => h) (Or.inl ⟨by kernel_rfl, ?_⟩) K0.out ?_
        · (intro w' hSw; go_simp)
        (try simp only [List.getElem_toArray, List.getElem_cons_succ, List.getElem_cons_zero])
        go_frame
        refine wpAnyN_take (i := 10) (v := .slice av N cv) rfl (by kernel_rfl) (by kernel_rfl) (by kernel_rfl) (by decide) (by kernel_rfl) (fun _ _ _ h => h) (Or.inl ⟨by kernel_rfl, ?_⟩) K0.out ?_
        · (intro w' hSw; go_simp)
        (try simp only [List.getElem_toArray, List.getElem_cons_succ, List.getElem_cons_zero])
        go_frame
        refine wpAnyL_one (i := 9) (by kernel_rfl) rfl (by kernel_rfl) ?_
        go_simp
        refine (HPO.out _ K0.out).mono ?_
        rintro e w8 ⟨va, qa, rfl, hpa, hqa, k8⟩
        have K8 := hid (show Kept w7 w8 from K0.out.trans k8 (fun _ _ f => f))
        have HPA := hid (hpa.psrc hqa)
        obtain ⟨aa, ca, ea⟩ := (pv_cells hpa.row).len
        generalize hQA : qa.length = QA at ea
        subst ea
        clear k8 hpa hqa hQA
        refine ⟨K8.out, ?_⟩
        (try go_frame)
        refine wpAnyL_one (i := 11) (by kernel_rfl) rfl (by kernel_rfl) ?_
        go_simp
        refine (HRP.out _ K8.out).mono ?_
        rintro e w9 ⟨vb, qb, rfl, hpb, hqb, k9⟩
        have K9 := hid (show Kept w7 w9 from K8.out.trans k9 (fun _ _ f => f))
        have HPB := hid (hpb.psrc hqb)
        have HSM := hid (sameposts_any w9 _ _ _ qa qb (HPA.out.stay k9) HPB.out HPL.out.1 HPL.out.2)
        obtain ⟨ab, cb, eb⟩ := (pv_cells hpb.row).len
        generalize hQB : qb.length = QB at eb
        subst eb
        clear k9 hpb hqb hQB
        refine ⟨K9.out, ?_⟩
        (try go_frame)
        refine wpAnyL_one (i := 12) (by kernel_rfl) rfl (by kernel_rfl) ?_
        go_simp
        refine HSM.out.mono ?_
        rintro e w10 ⟨rfl, k10⟩
        have K10 := hid (show Kept w7 w10 from K9.out.trans k10 (fun _ _ f => f))
        clear k10 HSM
        refine ⟨K10.out, ?_⟩
        (try go_frame)
        refine wpAnyN_take (i := 13) (v := .bool true) rfl (by kernel_rfl) (by kernel_rfl) (by kernel_rfl) (by decide) (by kernel_rfl) (fun _ _ _ h => h) (Or.inl ⟨by kernel_rfl, ?_⟩) K10.out ?_
        · (intro w' hSw; go_simp)
        (try simp only [List.getElem_toArray, List.getElem_cons_succ, List.getElem_cons_zero])
        go_frame
        refine wpAnyN_take (i := 14) (v := .bool true) rfl (by kernel_rfl) (by kernel_rfl) (by kernel_rfl) (by decide) (by kernel_rfl) (fun _ _ _ h => h) (Or.inl ⟨by kernel_rfl, ?_⟩) K10.out ?_
        · (intro w' hSw; go_simp)
        (try simp only [List.getElem_toArray, List.getElem_cons_succ, List.getElem_cons_zero])
        go_frame
        refine wpAnyN_take (i := 15) (v := .pointer (some ⟨YB, 0, none⟩)) rfl (by kernel_rfl) (by kernel_rfl) (by kernel_rfl) (by decide) (by kernel_rfl) (fun _ _ _ h => h) (Or.inl ⟨by kernel_rfl, ?_⟩) K10.out ?_
        · (intro w' hSw; go_simp)
        (try simp only [List.getElem_toArray, List.getElem_cons_succ, List.getElem_cons_zero])
        go_frame
        refine wpAnyN_take (i := 18) (v := .slice a7 PBL c7) rfl (by kernel_rfl) (by kernel_rfl) (by kernel_rfl) (by decide) (by kernel_rfl) (fun _ _ _ h => h) (Or.inl ⟨by kernel_rfl, ?_⟩) K10.out ?_
        · (intro w' hSw; go_simp)
        (try simp only [List.getElem_toArray, List.getElem_cons_succ, List.getElem_cons_zero])
        go_frame
        refine wpAnyN_take (i := 19) (v := .string (mkB PB)) rfl (by kernel_rfl) (by kernel_rfl) (by kernel_rfl) (by decide) (by kernel_rfl) (fun _ _ _ h => h) (Or.inl ⟨by kernel_rfl, ?_⟩) K10.out ?_
        · (intro w' hSw; have scv := HCV7.out w' hSw; clear hSw; go_simp)
        (try simp only [List.getElem_toArray, List.getElem_cons_succ, List.getElem_cons_zero])
        go_frame
        refine wpAnyL_one (i := 16) (by kernel_rfl) rfl (by kernel_rfl) ?_
        go_simp
        refine (HPK2.out _ K10.out).mono ?_
        rintro e w11 ⟨u11, rfl, hu11, k11⟩
        have K11 := hid (show Kept w7 w11 from K10.out.trans k11 (fun _ _ f => f))
        have hcv11 := conv_bytes (own_src hu11)
        obtain ⟨ua, uc, e11⟩ := ownN_slice hu11
        rw [HPBL.out] at e11
        subst e11
        clear k11 hu11
        refine ⟨K11.out, ?_⟩
        (try go_frame)
        refine wpAnyL_one (i := 17) (by kernel_rfl) rfl (by kernel_rfl) ?_
        go_simp
        refine ⟨K11.out, ?_⟩
        (try go_frame)
        refine wpAnyL_one (i := 20) (by kernel_rfl) rfl (by kernel_rfl) ?_
        go_simp
        refine ⟨K11.out, ?_⟩
        (try go_frame)
        refine wpAnyL_one (i := 21) (by kernel_rfl) rfl (by kernel_rfl) ?_
        go_simp
        refine ⟨K11.out, ?_⟩
        (try go_frame)
        refine wpAnyL_one (i := 22) (by kernel_rfl) rfl (by kernel_rfl) ?_
        go_simp
        refine ⟨K11.out, ?_⟩
        (try go_frame)
        refine wpAnyN_done (by kernel_rfl) ?_
        refine NoPanic.normal ?_
        go_wp2_with fail
        go_ret
        exact ⟨rfl, K7.out.trans K11.out (fun _ _ f => f)⟩
      · exact absurd HUNY.out (hno L)
    · generalize hckn : checkI L = ck at HRC hck
      have dck : (ck == 0) = false := by simpa using hck
      have dck2 : (ck != 0) = true := by simpa using hck
      clear hckn hck
      go_wp2_with fail
      refine HRC.out.mono ?_
      rintro e w3 ⟨rfl, k3⟩
      have K3 := hid (K2.out.trans k3 (fun _ _ f => f))
      clear k3
      go_wp2_with fail
      go_ret
      exact ⟨rfl, K3.out⟩
end Go.Proofs.YteknpfldemgmnaaGreat.X
