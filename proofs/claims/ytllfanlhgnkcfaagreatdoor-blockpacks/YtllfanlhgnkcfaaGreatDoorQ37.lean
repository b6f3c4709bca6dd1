/-
  Kapp.
-/
import Derived.Test.YtllfanlhgnkcfaaGreatDoorQ31
import Derived.Test.YtllfanlhgnkcfaaGreatDoorQ36
import Derived.Test.YtllfanlhgnkcfaaGreatDoorQ12
namespace Go.Proofs.YtllfanlhgnkcfaaGreatDoor.K
open Go.RowKit Go.Proofs.Lys Go.Maps
open Go.Proofs.YtllfanlhgnkcfaaGreatDoor.N (ownN_slice ownN_lt ownN_only ownN_stay ownN_base ownN_typed ownN_some)
set_option linter.unusedVariables false
set_option linter.unusedSimpArgs false
theorem out_only {w W : World} {B : Nat} {v : Value} {ls : List C.Smps} {vs : List Value} {O : Nat → Prop} (h : C.OutAt w B v ls vs) (k : Only O w W) (hO : ∀ j, O j → Typed w j 5) : C.OutAt W B v ls vs :=
 ⟨h.len, ownN_only h.row k (fun b hb e => ((ownN_typed h.row hb).ne (hO b e) (by decide)) rfl), fun i h1 h2 => ownN_only (h.each i h1 h2) k (fun b hb e => ((ownN_typed (h.each i h1 h2) hb).ne (hO b e) (by decide)) rfl), h.apart, h.plain⟩
theorem flat_take (ps : List C.Smps) (k : Nat) (hk : k < ps.length) : (ps.take (k + 1)).flatMap chkB = (ps.take k).flatMap chkB ++ chkB ps[k] := by
 rw [List.take_succ_eq_append_getElem hk, List.flatMap_append]
 simp
theorem flat_le (ps : List C.Smps) (k : Nat) : ((ps.take k).flatMap chkB).length ≤ (ps.flatMap chkB).length := by
 conv => rhs; rw [← List.take_append_drop k ps]
 rw [List.flatMap_append, List.length_append]
 omega
set_option maxRecDepth 100000 in
set_option maxHeartbeats 6400000 in
theorem append_any (w : World) (vb lv sv : Value) (B : Nat) (bs : List UInt8) (s : Ser) (hb : BytAt w B vb bs) (hB : B ≤ w.heap.size) (h0 : bs ≠ []) (hlab : N.LabSrc w lv s.1) (hsmp : C.SSrc w sv s.2) (hl1 : s.1.length ≤ 100000) (hB2 : N.Small s.1) (hl2 : s.2.length ≤ 80000)
  (hr : S.Rising (s.2.map (·.1))) (htot : bs.length + (serB s).length + 4 ≤ 16777216) :
  Calls Tryz.prog 51 #[vb, .agg #[lv, sv]] w fun e w' => ∃ v', e = .returned v' ∧ ByS w vb B w' v' (bs ++ serB s) := by
 obtain ⟨la, lc, hlv⟩ := hlab.len
 obtain ⟨sa, sc, hsv, _⟩ := id hsmp.2
 obtain ⟨LN, hLN⟩ : ∃ n, s.1.length = n := ⟨_, rfl⟩
 obtain ⟨SN, hSN⟩ : ∃ n, s.2.length = n := ⟨_, rfl⟩
 rw [hLN] at hlv
 rw [hSN] at hsv
 subst hlv hsv
 obtain ⟨ba, bc, hvb⟩ := ownN_slice hb
 obtain ⟨BN, hBN⟩ : ∃ n, bs.length = n := ⟨_, rfl⟩
 rw [hBN] at hvb
 subst hvb
 have hk1 : Kept w (w.alloc (.cells #[.slice la LN lc, .slice sa SN sc] 48)) := (Only.refl _ w).alloc _
 have hbx : Blk (w.alloc (.cells #[.slice la LN lc, .slice sa SN sc] 48)) w.heap.size [.slice la LN lc, .slice sa SN sc] 48 := Blk.new w _ _
 obtain ⟨w1, hw1⟩ : ∃ w1, w.alloc (.cells #[.slice la LN lc, .slice sa SN sc] 48) = w1 := ⟨_, rfl⟩
 rw [hw1] at hk1 hbx
 have HC := hid (fun W (k : Kept w1 W) => (And.intro ((k.blk hbx (fun f => f)).cell 0 rfl) ((k.blk hbx (fun f => f)).cell 1 rfl)))
 have HTX := hid (fun W (k : Kept w1 W) => Go.Proofs.YtllfanlhgnkcfaaGreatDoor.N.text_any W _ s.1 (hlab.stay (hk1.trans k (fun _ _ f => f))) hl1 hB2)
 have HSP := hid (fun W (k : Kept w1 W) => C.split_any W _ s.2 (hsmp.stay (hk1.trans k (fun _ _ f => f))) hl2)
 have HPO := hid (parts_ok _ s.2 rfl hr)
 obtain ⟨PS, hPS⟩ : ∃ ps, C.splitL s.2 = ps := ⟨_, rfl⟩
 have hser : serB s = putN (U.uN ((N.txtB s.1).size : Int)) ++ (N.txtB s.1).data.toList ++ putN (U.uN (PS.length : Int)) ++ PS.flatMap chkB := by
  unfold serB
  rw [hPS]
 rw [hPS] at HSP HPO
 obtain ⟨TX, hTX⟩ : ∃ t, Go.Proofs.YtllfanlhgnkcfaaGreatDoor.N.txtB s.1 = t := ⟨_, rfl⟩
 rw [hTX] at HTX hser
 obtain ⟨PN, hPN⟩ : ∃ n, PS.length = n := ⟨_, rfl⟩
 rw [hPN] at hser
 have hpl : PN ≤ 1000 := by
  have := C.splitL_len _ s.2 rfl
  rw [hPS, hPN] at this
  omega
 have HPN := hid hPN
 have K0 := hid (show Kept w1 w1.drew from (Only.refl _ _).drew)
 have HBY := hid (ByS.start hb hB)
 have HK1 := hid hk1
 have HPUT := hid (fun (W : World) (n : Int) => U.put_any W n)
 have HSER := hid hser
 have hTs : TX.data.toList.length = TX.size := (Lib.size_eq TX).symm
 have hL : BN + ((putN (U.uN (TX.size : Int))).length + TX.size + (putN (U.uN (PN : Int))).length + (PS.flatMap chkB).length) + 4 ≤ 16777216 := by
  have h1 := htot
  rw [hser, hBN] at h1
  simp only [List.length_append, hTs] at h1
  omega
 have HR := hid (fun W => refuse_no 2 W)
 have HBN := hid hBN
 have H0 := hid h0
 clear hb hB hlab hsmp hl1 hB2 hl2 hr htot hLN hSN hPS hTX hPN hser hk1 hbx hBN hTs h0
 go_enter Tryz.func51, Tryz.ntmps51
 go_wp2_with fail
 clear hw1
 refine wp_region_noPanic ?_
 refine wp_region_last (L := 1000) (S := fun w' => Kept w1 w') (by kernel_rfl) ?_
 refine wpAnyN_take (i := 0) (v := .pointer (some ⟨w.heap.size, 0, none⟩)) rfl (by kernel_rfl) (by kernel_rfl) (by kernel_rfl) (by decide) (by kernel_rfl) (fun _ _ _ h => h) (Or.inl ⟨by kernel_rfl, ?_⟩) K0.out ?_
 ·(intro w' hSw; go_simp)
 (try simp only [List.getElem_toArray, List.getElem_cons_succ, List.getElem_cons_zero])
 go_frame
 refine wpAnyN_take (i := 1) (v := .slice la LN lc) rfl (by kernel_rfl) (by kernel_rfl) (by kernel_rfl) (by decide) (by kernel_rfl) (fun _ _ _ h => h) (Or.inl ⟨by kernel_rfl, ?_⟩) K0.out ?_
 ·(intro w' hSw; have s0 := (HC.out w' hSw).1; clear hSw; go_simp)
 (try simp only [List.getElem_toArray, List.getElem_cons_succ, List.getElem_cons_zero])
 go_frame
 refine wpAnyN_take (i := 3) (v := .pointer (some ⟨w.heap.size, 1, none⟩)) rfl (by kernel_rfl) (by kernel_rfl) (by kernel_rfl) (by decide) (by kernel_rfl) (fun _ _ _ h => h) (Or.inl ⟨by kernel_rfl, ?_⟩) K0.out ?_
 ·(intro w' hSw; go_simp)
 (try simp only [List.getElem_toArray, List.getElem_cons_succ, List.getElem_cons_zero])
 go_frame
 refine wpAnyN_take (i := 4) (v := .slice sa SN sc) rfl (by kernel_rfl) (by kernel_rfl) (by kernel_rfl) (by decide) (by kernel_rfl) (fun _ _ _ h => h) (Or.inl ⟨by kernel_rfl, ?_⟩) K0.out ?_
 ·(intro w' hSw; have s0 := (HC.out w' hSw).2; clear hSw; go_simp)
 (try simp only [List.getElem_toArray, List.getElem_cons_succ, List.getElem_cons_zero])
 go_frame
 refine wpAnyL_one (i := 2) (by kernel_rfl) rfl (by kernel_rfl) ?_
 go_simp
 refine (HTX.out _ K0.out).mono ?_
 rintro e w2 ⟨rfl, k2⟩
 have K2 := hid (show Kept w1 w2 from K0.out.trans k2 (fun _ _ f => f))
 clear k2
 refine ⟨K2.out, ?_⟩
 (try go_frame)
 refine wpAnyL_one (i := 5) (by kernel_rfl) rfl (by kernel_rfl) ?_
 go_simp
 refine (HSP.out _ K2.out).mono ?_
 rintro e w3 ⟨u, vs, rfl, hout, k3⟩
 have K3 := hid (show Kept w1 w3 from K2.out.trans k3 (fun _ _ f => f))
 have HOUT := hid hout
 obtain ⟨oa, oc, hu⟩ := ownN_slice hout.row
 have hvl : vs.length = PN := by rw [hout.len]; exact HPN.out
 rw [hvl] at hu
 subst hu
 have HVL := hid hvl
 clear hout k3 hvl
 refine ⟨K3.out, ?_⟩
 (try go_frame)
 refine wpAnyL_one (i := 6) (by kernel_rfl) rfl (by kernel_rfl) ?_
 go_simp
 refine ⟨K3.out, ?_⟩
 (try go_frame)
 refine wpAnyL_one (i := 7) (by kernel_rfl) rfl (by kernel_rfl) ?_
 go_simp
 refine ⟨K3.out, ?_⟩
 (try go_frame)
 refine wpAnyN_done (by kernel_rfl) ?_
 refine NoPanic.normal ?_
 have HB3 := hid (HBY.out.stay (HK1.out.trans K3.out (fun _ _ f => f)))
 clear HC HTX HSP K0 K2 HBY HK1 K3
 go_wp2_with fail
 refine (HPUT.out w3 _).mono ?_
 rintro e w4 ⟨p4, rfl, hp4, k4⟩
 have HO4 := hid (out_only HOUT.out k4 (fun _ f => f.elim))
 obtain ⟨a5, n5, c5, w5, r5, hn5, hB5, ho5⟩ := (HB3.out.stay k4).app (own_src hp4) (by have := HBN.out; omega)
 have HO5 := hid (out_only HO4.out ho5.out (fun j e => ownN_typed (HB3.out.stay k4).own e))
 obtain ⟨pa, pc, hpe⟩ := ownN_slice hp4
 generalize (putN (U.uN (TX.size : Int))).length = P4 at hpe
 subst hpe
 obtain ⟨a6, n6, c6, w6, r6, hn6, hB6, ho6⟩ := hB5.out.str (fun e => H0.out (List.append_eq_nil_iff.1 e).1) TX (by rw [List.length_append]; have := HBN.out; omega)
 have HO6 := hid (out_only HO5.out ho6.out (fun j e => ownN_typed hB5.out.own e))
 clear hp4 k4 ho5 ho6 HOUT HO4 HO5 HB3 hn5 hn6
 go_wp2_with (at_builtin; first | refine Lys.wpList_append_run rfl _ _ _ rfl rfl rfl r5 ?_ | refine Lib.wpList_append_run _ rfl _ _ _ _ rfl _ _ rfl rfl _ _ r6.out ?_)
 refine (HPUT.out w6 _).mono ?_
 rintro e w7 ⟨p7, rfl, hp7, k7⟩
 have HO7 := hid (out_only HO6.out k7 (fun _ f => f.elim))
 obtain ⟨a8, n8, c8, w8, r8, hn8, hB8, ho8⟩ := (hB6.out.stay k7).app (own_src hp7) (by simp only [List.length_append]; have := HBN.out; have : TX.data.toList.length = TX.size := (Lib.size_eq TX).symm; omega)
 have HO8 := hid (out_only HO7.out ho8.out (fun j e => ownN_typed (hB6.out.stay k7).own e))
 obtain ⟨qa, qc, hqe⟩ := ownN_slice hp7
 generalize (putN (U.uN (PN : Int))).length = P7 at hqe
 subst hqe
 obtain ⟨PRE, hPRE⟩ : ∃ l, bs ++ putN (U.uN (TX.size : Int)) ++ TX.data.toList ++ putN (U.uN (PN : Int)) = l := ⟨_, rfl⟩
 have hPL : PRE.length + (PS.flatMap chkB).length + 4 ≤ 16777216 := by
  rw [← hPRE]
  simp only [List.length_append]
  have := HBN.out
  have : TX.data.toList.length = TX.size := (Lib.size_eq TX).symm
  omega
 have hn8' : n8 = PRE.length := by
  have e := (ownN_slice hB8.out.own)
  obtain ⟨a', c', e⟩ := e
  simp only [Value.slice.injEq] at e
  rw [e.2.1, hPRE]
 rw [hPRE] at hB8
 have HPRE := hid hPRE
 have HN8 := hid hn8'
 clear hn8' hp7 k7 ho8 HO6 HO7 hB5 hB6 hn8 hPRE hL HBN
 go_wp2_with (at_builtin; refine Lys.wpList_append_run rfl _ _ _ rfl rfl rfl r8 ?_)
 (try go_wp2_with fail)
 have HFIN : Hid (PRE ++ PS.flatMap chkB = bs ++ serB s) := by
  show _ = _
  rw [← HPRE.out, HSER.out]
  simp
 clear HSER HPRE r5 r6 r8 HPUT
 go_loopw [0, 32] (fun s0 s32 wr => ∃ (k m : Nat) (a : Option Addr) (c : Nat), k ≤ PN ∧ s32 = .int .i64 (k : Int) ∧ s0 = .slice a m c ∧ Hid (m = PRE.length + ((PS.take k).flatMap chkB).length) ∧ Hid (ByS w (.slice ba BN bc) B wr (.slice a m c) (PRE ++ (PS.take k).flatMap chkB)) ∧ Hid (C.OutAt wr w2.heap.size (.slice oa PN oc) PS vs)) (fun _ s32 _ => PN - (intOf s32).toNat)
 case atStart => exact ⟨0, n8, a8, c8, by omega, rfl, rfl, hid (by have := HN8.out; simpa using this), by simpa using hB8, HO8⟩
 case round =>
  obtain ⟨k, m, ra, rc, hk, rfl, rfl, hm, hby, hout⟩ := hrel
  by_cases hlt : k < PN
  ·have hkP : k < PS.length := by have := HPN.out; omega
   have hkv : k < vs.length := by have := HVL.out; omega
   obtain ⟨h1, h2, h3⟩ := HPO.out PS[k] (List.getElem_mem hkP)
   have hsm := hout.out.each k hkP hkv
   have HPK := hid (C.pack_any wr vs[k] PS[k] (SmpAt.src hsm) (by omega))
   obtain ⟨g, cap, hg⟩ := ownN_some hout.out.row (by omega)
   have hoa : oa = some ⟨g, 0, none⟩ := by simp only [Value.slice.injEq] at hg; exact hg.1
   subst hoa
   have hcell : wr.cell? ⟨g, k, none⟩ = some vs[k] := by
    have hrow := hout.out.row
    rw [HVL.out] at hrow
    rw [hrow.cellAt k (by omega)]
    exact List.getElem?_eq_getElem hkv
   obtain ⟨ea, ec, hek⟩ := ownN_slice hsm
   rw [hek] at hcell HPK
   have HFT := hid (flat_take PS k hkP)
   have HLE := hid (flat_le PS (k + 1))
   have HCH := hid (fun (b' : List UInt8) (x : Int) (h : C.Packs PS[k] b' x) => packs_chk h h1 h2 h3)
   generalize PS[k].length = EN at hcell HPK
   generalize PS[k] = EP at HFT HCH HPK
   clear hsm hg hek h1 h2 h3
   go_wp2_with fail
   refine HPK.out.mono ?_
   rintro e wa ⟨ka, ub, cb, x, rfl, hpk, hub⟩
   obtain ⟨rfl, rfl⟩ := HCH.out _ _ hpk
   have HOa := hid (out_only hout.out ka (fun _ f => f.elim))
   have hlen9 : m + (chkB EP).length = PRE.length + ((PS.take (k + 1)).flatMap chkB).length := by
    rw [HFT.out, List.length_append]
    have := hm.out
    omega
   obtain ⟨a9, n9, c9, w9, r9, hn9, hB9, ho9⟩ := (hby.out.stay ka).app (own_src hub) (by rw [List.length_append]; have := HLE.out; have := hm.out; omega)
   have HO9 := hid (out_only HOa.out ho9.out (fun j e => ownN_typed (hby.out.stay ka).own e))
   have hn9' : n9 = PRE.length + ((PS.take (k + 1)).flatMap chkB).length := by
    rw [hn9, List.length_append]
    have := hm.out
    omega
   have HN9 := hid hn9'
   rw [List.append_assoc, ← HFT.out] at hB9
   obtain ⟨xa, xc, hxe⟩ := ownN_slice hub
   generalize (chkB EP).length = CN at hxe hlen9
   subst hxe
   have hle9 : ¬ (16777216 : Int) < (n9 : Int) + 4 := by have := HLE.out; omega
   have hs9 : n9 ≤ 16777216 := by have := HLE.out; omega
   have d9 : decide ((16777216 : Int) < (n9 : Int) + 4) = false := decide_eq_false hle9
   clear hub ka ho9 hpk hby hout HOa hn9 hn9' hlen9 HFT HCH HPK hm
   go_wp2_with (at_builtin; refine Lys.wpList_append_run rfl _ _ _ rfl rfl rfl r9 ?_)
   (try go_wp2_with fail)
   refine (HR.out w9).mono ?_
   rintro e w' ⟨rfl, hw⟩
   replace hw := hw.symm
   subst hw
   go_wp2_with fail
   go_roundw
   case rel => exact ⟨k + 1, n9, a9, c9, by omega, by go_num, rfl, HN9, hB9, HO9⟩
   case measure => simp [intOf]; omega
  ·obtain rfl : PN = k := by omega
   have HF : Hid (ByS w (.slice ba BN bc) B wr (.slice ra m rc) (bs ++ serB s)) := by
    rw [← HFIN.out]
    have := hby.out
    rw [List.take_of_length_le (by have := HPN.out; omega)] at this
    exact this
   clear hby hout
   go_wp2_with fail
   go_ret
   exact ⟨_, rfl, HF.out⟩
end Go.Proofs.YtllfanlhgnkcfaaGreatDoor.K
