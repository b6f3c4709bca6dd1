/-
  Kblk, Lpacks16.
-/
import Derived.Test.YtllfanlhgnkcfaaGreatDoorQ45
import Derived.Test.YtllfanlhgnkcfaaGreatDoorQ37
import Derived.Test.YtllfanlhgnkcfaaGreatDoorQ50
import Derived.Test.YtllfanlhgnkcfaaGreatDoorQ42
import Derived.Test.YtllfanlhgnkcfaaGreatDoorQ15
import Derived.Test.YtllfanlhgnkcfaaGreatDoorQ51
import Derived.Lib.ConvBytes
import Derived.Test.YtllfanlhgnkcfaaGreatDoorQ28
namespace Go.Proofs.YtllfanlhgnkcfaaGreatDoor.K
open Go Go.RowKit Go.Proofs.Lys Go.Maps Go.Shelf
open Go.Proofs.YtllfanlhgnkcfaaGreatDoor.N (ownN_slice ownN_lt ownN_only ownN_stay ownN_base ownN_typed ownN_some)
set_option linter.unusedVariables false
set_option linter.unusedSimpArgs false
theorem byt_fresh {w : World} {b o : Nat} {xv : Value} {m ps : List UInt8} (hs0 : SrcOf w (.slice (some ⟨b, o, none⟩) m.length m.length) (m.map bV)) (hs : SrcOf w xv (ps.map bV)) (h0 : 0 < ps.length) (hp : ps.length ≤ 1000) (hm : m.length ≤ 1000) :
  ∃ a n c w3, Hid ((Builtin.append_ #[28, 28] 0 #[.slice (some ⟨b, o, none⟩) m.length m.length, xv]).run Tryz.prog w = .ok (.slice a n c) w3) ∧ BytAt w3 w.heap.size (.slice a n c) (m ++ ps) ∧ Kept w w3 := by
 obtain ⟨i0, hi0, hz0, hz1, hz2⟩ := info_parts Tryz.infoB
 rcases hs.shape with ⟨hn, _⟩ | ⟨_, b2, o2, c2, rfl, hc2⟩
 ·have := List.map_eq_nil_iff.1 hn
  rw [this] at h0
  simp at h0
 rw [List.length_map] at *
 have hfit : Builtin.nextslicecap (m.length + ps.length) m.length * i0.bytes ≤ 281474976710656 := by
  rw [hz2]
  have := nextslicecap_le (need := m.length + ps.length) (old := m.length) (by omega)
  omega
 have hr := run_append_grow (P := Tryz.prog) w 28 0 5 i0 _ Tryz.underlying28 hi0 hz0 ⟨b, o, none⟩ m.length m.length (m.map bV) (by rw [hz1, List.length_map]; omega) (fun j u hu => by rw [add_none]; exact Go.Proofs.YtllfanlhgnkcfaaGreatDoor.G.src_cells hs0 j u hu) ⟨b2, o2, none⟩ ps.length c2 (ps.map bV) (by rw [hz1, List.length_map]; omega) (fun j u hu => by rw [add_none]; exact hc2 j u hu) (by omega) (by omega) hfit
 have hge := grownCap_ge w (m.length + ps.length) m.length 5
 have hcm := grownCap_le_maxLen w (m.length + ps.length) m.length 5 (by unfold maxLen; omega)
 refine ⟨_, _, _, _, hr, ?_, ((Only.refl _ w).drew).alloc _⟩
 have hlen : (m ++ ps).length = m.length + ps.length := List.length_append
 refine ⟨by rw [List.length_map, hlen]; omega, .inr ⟨w.heap.size, _, _, by rw [hlen], Nat.le_refl _, heap_alloc_new w.drew _, by rw [hlen]; exact hge, hcm, ?_, ?_⟩⟩
 ·simp only [Array.size_append, List.size_toArray, size_zeroCells, List.length_map]
  simp [Value.cells]
  omega
 ·simp only [Array.toList_append]
  rw [List.take_left' (by simp)]
  simp
set_option maxRecDepth 100000 in
set_option maxHeartbeats 800000 in
theorem rsealed_any (w : World) (B : Nat) (v : Value) (bs : List UInt8) (h : BytAt w B v bs) (hB : B ≤ w.heap.size) (hl : bs.length ≤ 9900000) :
  Calls Tryz.prog 31 #[v] w fun e w' => ∃ u, e = .returned u ∧ BytAt w' B u (bs ++ G.four (G.sumL bs)) ∧ Only (fun j => v.ownBlock = some j) w w' := by
 obtain ⟨PQ, hPQ⟩ : ∃ PQ, (fun (e : Ending) (w' : World) => ∃ u, e = .returned u ∧ BytAt w' B u (bs ++ G.four (G.sumL bs)) ∧ Only (fun j => v.ownBlock = some j) w w') = PQ := ⟨_, rfl⟩
 rw [hPQ]
 have HPQ := hid hPQ
 have HSU := hid (G.rsum_any w v bs (own_src h) (by omega))
 have hsl := G.sumL_lt bs
 have HFO := hid (G.rfour_any w (G.sumL bs) hsl)
 have HB := hid h
 have HBZ := hid hB
 have HL := hid hl
 generalize hSS : G.sumL bs = SS at HSU HFO hsl
 have HSS := hid hSS
 obtain ⟨va, vc, hve⟩ := ownN_slice h
 generalize hNB : bs.length = NB at hve
 have HNB := hid hNB
 subst hve
 clear h hPQ hB hl hSS hNB
 go_enter Tryz.func31, Tryz.ntmps31
 go_wp2_with fail
 refine HSU.out.mono ?_
 rintro e w1 ⟨rfl, hw⟩
 replace hw := hw.symm
 subst hw
 go_wp2_with fail
 refine HFO.out.mono ?_
 rintro e w2 ⟨rfl, hs2, k2⟩
 obtain ⟨a3, n3, c3, w3, hr3, hn3, h3, o3⟩ := byt_app (ownN_stay HB.out k2) (own_src (show w2.ownsRow w.heap.size 5 1 (.slice (some ⟨w.heap.size, 0, none⟩) 4 4) (G.four SS).length ((G.four SS).map bV) from hs2)) (by have := HL.out; have h4 : (G.four SS).length = 4 := rfl; omega) (Nat.le_trans HBZ.out k2.size)
 have HR3 := hid hr3.out
 have HF : Hid (PQ (.returned (.slice a3 n3 c3)) w3) := hid (by
  rw [← HPQ.out]
  refine ⟨_, rfl, ?_, (k2.mono (fun _ _ f => f.elim)).trans o3.out (fun _ _ e => e)⟩
  rw [HSS.out]
  exact h3.out)
 clear hs2 k2 hr3 h3 o3 hn3
 go_wp2_with (at_builtin; refine Lys.wpList_append_run rfl _ _ _ rfl rfl rfl HR3.out ?_)
 (try go_ret)
 exact HF.out
def BlkP (w : World) (l : List Ser) (e : Ending) (w' : World) : Prop :=
 Kept w w' ∧ ((checkB l ≠ 0 ∧ e = .returned (.tuple #[.slice none 0 0, .int .i64 (checkB l)])) ∨ (checkB l = 0 ∧ ∃ a n c, e = .returned (.tuple #[.slice a n c, .int .i64 0]) ∧ BytAt w' w.heap.size (.slice a n c) (blockB l)))
theorem flat_snoc (l : List Ser) (k : Nat) (hk : k < l.length) : (l.take (k + 1)).flatMap serB = (l.take k).flatMap serB ++ serB l[k] := by
 rw [List.take_succ_eq_append_getElem hk, List.flatMap_append]
 simp
theorem flat_part (l : List Ser) (k : Nat) : ((l.take k).flatMap serB).length ≤ (l.flatMap serB).length := by
 conv => rhs; rw [← List.take_append_drop k l]
 rw [List.flatMap_append, List.length_append]
 omega
theorem own_kept {w w1 w2 : World} {B : Nat} {v : Value} {bs : List UInt8} (k : Kept w w1) (h : BytAt w1 B v bs) (hB : w.heap.size ≤ B) (o : Only (fun j => v.ownBlock = some j) w1 w2) : Kept w w2 :=
 k.trans o (fun j hj e => by have := (ownN_lt h e).1; omega)
set_option maxRecDepth 100000 in
set_option maxHeartbeats 6400000 in
theorem rblock_any (w : World) (v : Value) (l : List Ser) (hs : SerIn w v l) (hl : l.length ≤ 100000) (hB : ∀ s ∈ l, s.1.length ≤ 100000 ∧ N.Small s.1 ∧ s.2.length ≤ 80000) (htot : checkB l = 0 → (bodyB l).length ≤ 9500000) :
  Calls Tryz.prog 11 #[v] w (BlkP w l) := by
 have hB' : ∀ s ∈ l, s.1.length ≤ 100000 ∧ N.Small s.1 ∧ s.2.length ≤ 100000 := fun s h => ⟨(hB s h).1, (hB s h).2.1, by have := (hB s h).2.2; omega⟩
 have HCK := hid (rcheck_any w v l hs hl hB')
 have HSP : Hid (∀ W, Kept w W → Calls Tryz.prog 10 #[v] W fun e w' => e = .returned (.tuple #[.int .i64 (if checkB l = 0 then spanB l else (0, 0)).1, .int .i64 (if checkB l = 0 then spanB l else (0, 0)).2]) ∧ Kept W w') := hid (fun W k => rspan_any W v l (hs.stay k) hl hB')
 obtain ⟨PQ, hPQ⟩ : ∃ PQ, BlkP w l = PQ := ⟨_, rfl⟩
 rw [hPQ]
 have HPQ := hid hPQ
 obtain ⟨a, c, rfl⟩ := hs.len
 obtain ⟨N, hN⟩ : ∃ N, l.length = N := ⟨_, rfl⟩
 rw [hN] at hs hl HCK HSP ⊢
 obtain ⟨CK, hCK⟩ : ∃ CK, checkB l = CK := ⟨_, rfl⟩
 unfold ChkP at HCK
 rw [hCK] at HCK
 have HCKE := hid hCK
 have HN := hid hN
 have HS := hid hs
 have HBB := hid hB
 have HTOT := hid htot
 clear hs hB hB' hN hPQ hCK htot
 go_enter Tryz.func11, Tryz.ntmps11
 go_wp2_with fail
 refine HCK.out.mono ?_
 rintro e w1 ⟨rfl, k1⟩
 have HK1 := hid k1
 clear k1 HCK
 by_cases h0 : CK = 0
 ·subst h0
  have hfit := (check_fit HCKE.out).2
  have hFit : ∀ s ∈ l, s.2 ≠ [] ∧ S.Rising (s.2.map (·.1)) := fun s hs => by
   obtain ⟨i, hi, rfl⟩ := List.getElem_of_mem hs
   exact ⟨(hfit i hi).some, (times_iff _).1 (hfit i hi).times⟩
  have hTm : ∀ s ∈ l, s.2 ≠ [] ∧ ∀ x ∈ s.2, -9007199254740992 ≤ x.1 ∧ x.1 ≤ 9007199254740992 := fun s hs => ⟨(hFit s hs).1, fun x hx => by
   obtain ⟨i, hi, rfl⟩ := List.getElem_of_mem hx
   have := (hFit s hs).2.at (i := i) (by rw [List.length_map]; exact hi)
   rw [List.getElem_map] at this
   exact this⟩
  have hsb := span_bounds hTm
  have HFIT := hid hFit
  have HSPN := hid (HSP.out w1 HK1.out)
  rw [if_pos HCKE.out] at HSPN
  have hN1000 : N ≤ 1000 := by have := (check_fit HCKE.out).1; have := HN.out; omega
  have hz1 := putN_ten (zig_lt hsb.1)
  have hz2 := putN_ten (zig_lt hsb.2)
  have hz3 := putN_ten (U.uN_lt (l.length : Int))
  have HHB : Hid (headB l = [76, 89, 83, 49] ++ putN (U.zigN (spanB l).1) ++ putN (U.zigN (spanB l).2) ++ putN (U.uN (l.length : Int))) := hid rfl
  have HBODY : Hid (bodyB l = headB l ++ l.flatMap serB) := hid rfl
  obtain ⟨SF, hSF⟩ : ∃ x, (spanB l).1 = x := ⟨_, rfl⟩
  obtain ⟨ST, hST⟩ : ∃ x, (spanB l).2 = x := ⟨_, rfl⟩
  rw [hSF, hST] at HSPN HHB
  rw [hSF] at hsb hz1
  rw [hST] at hsb hz2
  rw [HN.out] at HHB hz3
  have HI := hid hsb
  have HZZ := hid (And.intro hz1 (And.intro hz2 hz3))
  clear hfit hFit hTm hsb hSF hST hz1 hz2 hz3 HSP
  go_wp2_with fail
  refine HSPN.out.mono ?_
  rintro e w2 ⟨rfl, k2⟩
  have HK2 := hid (HK1.out.trans k2 (fun _ _ f => f))
  obtain ⟨M, hM⟩ : ∃ M, w2.heap.size = M := ⟨_, rfl⟩
  have hcv : (convert 28 28 (.slice (some ⟨w2.heap.size, 0, none⟩) 4 4)).run Tryz.prog (w2.alloc (.cells #[.int .u8 76, .int .u8 89, .int .u8 83, .int .u8 49] 5)) = .ok (.slice (some ⟨w2.heap.size, 0, none⟩) 4 4) (w2.alloc (.cells #[.int .u8 76, .int .u8 89, .int .u8 83, .int .u8 49] 5 (4, 5))) := Lib.run_convert_bytes_const (P := Tryz.prog) w2 28 5 #[.int .u8 76, .int .u8 89, .int .u8 83, .int .u8 49] 4 4 Tryz.underlying28 Tryz.underlying5
  obtain ⟨w3, hw3⟩ : ∃ w3, w2.alloc (.cells #[.int .u8 76, .int .u8 89, .int .u8 83, .int .u8 49] 5 (4, 5)) = w3 := ⟨_, rfl⟩
  have k3 : Kept w2 w3 := by rw [← hw3]; exact (Only.refl _ w2).alloc _
  have hmk : SrcOf w3 (.slice (some ⟨M, 0, none⟩) 4 4) (([76, 89, 83, 49] : List UInt8).map bV) := by
   rw [← hw3, ← hM]
   refine .inr ⟨⟨w2.heap.size, 0, none⟩, 4, rfl, fun j u hu => ?_⟩
   have hh : (w2.alloc (.cells #[.int .u8 76, .int .u8 89, .int .u8 83, .int .u8 49] 5 (4, 5))).heap[w2.heap.size]? = some (.cells #[.int .u8 76, .int .u8 89, .int .u8 83, .int .u8 49] 5 (4, 5)) := heap_alloc_new w2 _
   rw [add_none, Nat.zero_add]
   simp only [World.cell?, hh]
   have e : ([76, 89, 83, 49] : List UInt8).map bV = [.int .u8 76, .int .u8 89, .int .u8 83, .int .u8 49] := rfl
   rw [e] at hu
   simpa using hu
  rw [hM] at hcv
  have HM := hid hM
  have HMK := hid hmk
  have HK3 := hid (HK2.out.trans k3 (fun _ _ f => f))
  have HW3 := hid hw3
  have HSG1 := hid (U.rsigned_any w3 SF HI.out.1)
  clear k2 k3 hmk hw3 hM HSPN
  go_wp2_with fail
  simp only [HM.out]
  rw [hcv, HW3.out]
  go_simp
  go_wp2_with fail
  refine HSG1.out.mono ?_
  rintro e w4 ⟨p1, rfl, hp1, k4⟩
  have HZ4 := HZZ.out
  obtain ⟨a5, n5, c5, w5, hr5, hb5, k5⟩ := byt_fresh (m := [76, 89, 83, 49]) (HMK.out.stay k4) (own_src hp1) (putN_pos _) (by omega) (by decide)
  have HR5 := hid hr5.out
  have HB5 := hid hb5
  have HK5 := hid ((HK3.out.trans k4 (fun _ _ f => f)).trans k5 (fun _ _ f => f))
  have HZB : Hid (w.heap.size ≤ w4.heap.size) := hid (HK3.out.trans k4 (fun _ _ f => f)).size
  have HZ5 := hid k5.size
  obtain ⟨pa, pc, hpe⟩ := ownN_slice hp1
  subst hpe
  have HSG2 := hid (U.rsigned_any w5 ST HI.out.2)
  clear hp1 k4 k5 hr5 hb5 hcv HSG1 HZ4
  go_wp2_with (at_builtin; refine Lys.wpList_append_run rfl _ _ _ rfl rfl rfl HR5.out ?_)
  refine HSG2.out.mono ?_
  rintro e w6 ⟨p2, rfl, hp2, k6⟩
  obtain ⟨a7, n7, c7, w7, hr7, hn7, hb7, ho7⟩ := byt_app (ownN_stay HB5.out k6) (own_src hp2) (by have := HZZ.out; simp only [List.length_append, List.length_cons, List.length_nil]; omega) (Nat.le_trans HZ5.out k6.size)
  have HR7 := hid hr7.out
  have HB7 := hid hb7.out
  have HK7 := hid (own_kept (HK5.out.trans k6 (fun _ _ f => f)) (ownN_stay HB5.out k6) HZB.out ho7.out)
  have HZ7 := hid (Nat.le_trans (Nat.le_trans HZ5.out k6.size) ho7.out.size)
  obtain ⟨pa, pc, hpe⟩ := ownN_slice hp2
  subst hpe
  have HPL := hid (U.rput_any w7 (N : Int))
  clear hp2 k6 hr7 hn7 hb7 ho7 HSG2
  go_wp2_with (at_builtin; refine Lys.wpList_append_run rfl _ _ _ rfl rfl rfl HR7.out ?_)
  refine HPL.out.mono ?_
  rintro e w8 ⟨p3, rfl, hp3, k8⟩
  obtain ⟨a9, n9, c9, w9, hr9, hn9, hb9, ho9⟩ := byt_app (ownN_stay HB7.out k8) (own_src hp3) (by have := HZZ.out; simp only [List.length_append, List.length_cons, List.length_nil]; omega) (Nat.le_trans HZ7.out k8.size)
  have HR9 := hid hr9.out
  have HB9 : Hid (BytAt w9 w4.heap.size (.slice a9 n9 c9) (headB l)) := hid (by rw [HHB.out]; exact hb9.out)
  have HK9 := hid (own_kept (HK7.out.trans k8 (fun _ _ f => f)) (ownN_stay HB7.out k8) HZB.out ho9.out)
  have HZ9 := hid (Nat.le_trans (Nat.le_trans HZ7.out k8.size) ho9.out.size)
  obtain ⟨pa, pc, hpe⟩ := ownN_slice hp3
  subst hpe
  have htb := HTOT.out HCKE.out
  have HTB : Hid ((headB l).length + (l.flatMap serB).length ≤ 9500000) := hid (by rw [HBODY.out, List.length_append] at htb; exact htb)
  clear hp3 k8 hr9 hn9 hb9 ho9 HPL htb
  go_wp2_with (at_builtin; refine Lys.wpList_append_run rfl _ _ _ rfl rfl rfl HR9.out ?_)
  (try go_wp2_with fail)
  have HNH : Hid (n9 = (headB l).length) := hid (by
   obtain ⟨_, _, e⟩ := ownN_slice HB9.out
   injection e with _ e _)
  clear HR5 HR7 HR9 HB5 HB7 HK5 HK7 HZ5 HZ7 HMK HK3 HW3 HHB
  go_loopw [7, 8] (fun s7 s8 wr => ∃ (k vn : Nat) (va : Option Addr) (vc : Nat), k ≤ N ∧ s8 = .int .i64 (k : Int) ∧ s7 = .slice va vn vc ∧ Hid (BytAt wr w4.heap.size (.slice va vn vc) (headB l ++ (l.take k).flatMap serB)) ∧ Hid (Kept w wr) ∧ Hid (w4.heap.size ≤ wr.heap.size)) (fun _ s8 _ => N - (intOf s8).toNat)
  case atStart => exact ⟨0, n9, a9, c9, by omega, rfl, rfl, hid (by simpa using HB9.out), HK9, HZ9⟩
  case round =>
   clear HB9 HK9 HZ9 HNH
   obtain ⟨k, vn, va, vc, hk, rfl, rfl, hR, hK, hZ⟩ := hrel
   by_cases hlt : k < N
   ·have hkl : k < l.length := by have := HN.out; omega
    obtain ⟨b, o, la, lc, sa, sc, hab, c0, c1, hlab, hsmp⟩ := (HS.out.stay hK.out).cell HN.out k hlt
    obtain ⟨hB1, hB2, hB3⟩ := HBB.out l[k] (List.getElem_mem hkl)
    obtain ⟨hne, hri⟩ := HFIT.out l[k] (List.getElem_mem hkl)
    have hfs := flat_snoc l k hkl
    have hfp := flat_part l (k + 1)
    rw [hfs, List.length_append] at hfp
    obtain ⟨PS, hPS⟩ : ∃ ps, C.splitL l[k].2 = ps := ⟨_, rfl⟩
    obtain ⟨TX, hTX⟩ : ∃ t, Go.Proofs.YtllfanlhgnkcfaaGreatDoor.N.txtB l[k].1 = t := ⟨_, rfl⟩
    obtain ⟨PN, hPN⟩ : ∃ n, PS.length = n := ⟨_, rfl⟩
    have hser : serB l[k] = putN (U.uN (TX.size : Int)) ++ TX.data.toList ++ putN (U.uN (PN : Int)) ++ PS.flatMap chkB := by
     unfold serB
     rw [hPS, hTX, hPN]
    have HPO := hid (parts_ok _ l[k].2 rfl hri)
    have hpl : PN ≤ 1000 := by
     have := C.splitL_len _ l[k].2 rfl
     rw [hPS, hPN] at this
     omega
    rw [hPS] at HPO
    have HTXT := hid (Go.Proofs.YtllfanlhgnkcfaaGreatDoor.N.rtext_any wr _ l[k].1 hlab (by omega) hB2)
    rw [hTX] at HTXT
    have HCHS : Hid (∀ W, Kept w W → ∃ sa sc, W.cell? ⟨b, o + k * 2 + 1, none⟩ = some (.slice sa l[k].2.length sc) ∧ Calls Tryz.prog 29 #[.slice sa l[k].2.length sc] W fun e w' => ∃ u vs, e = .returned u ∧ C.OutAt w' W.heap.size u PS vs ∧ Kept W w') := hid (fun W kW => by
     obtain ⟨b', o', la', lc', sa', sc', hab', _, c1', _, hsmp'⟩ := (HS.out.stay kW).cell HN.out k hlt
     rw [hab] at hab'
     injection hab' with hab'
     injection hab' with e1 e2
     subst e1
     subst e2
     refine ⟨sa', sc', c1', ?_⟩
     rw [← hPS]
     exact C.rchunks_any W _ l[k].2 hsmp' (by omega))
    rw [hser] at hfs hfp
    have HFS := hid hfs
    have HFP : Hid ((headB l).length + (((l.take k).flatMap serB).length + ((putN (U.uN (TX.size : Int))).length + TX.data.toList.length + (putN (U.uN (PN : Int))).length + (PS.flatMap chkB).length)) ≤ 9500000) := hid (by
     have := HTB.out
     simp only [List.length_append] at hfp
     omega)
    have HPN := hid hPN
    have HTS : Hid (TX.data.toList.length = TX.size) := hid (Lib.size_eq TX).symm
    have HLT := hid hlt
    generalize l[k].1.length = LN at *
    generalize l[k].2.length = SN at *
    subst hab
    clear hlab hsmp hB1 hB2 hB3 hne hri hfs hfp hPS hTX hPN hser c1 hkl
    go_wp2_with fail
    refine HTXT.out.mono ?_
    rintro e wa ⟨rfl, ka⟩
    have HPT := hid (U.rput_any wa (TX.size : Int))
    have HBa := hid (ownN_stay hR.out ka)
    have HKa := hid ka
    clear ka HTXT c0
    go_wp2_with fail
    refine HPT.out.mono ?_
    rintro e wb ⟨p4, rfl, hp4, kb⟩
    obtain ⟨ac, nc, cc, wc, hrc, hnc, hbc, hoc⟩ := byt_app (ownN_stay HBa.out kb) (own_src hp4) (by have := HFP.out; simp only [List.length_append]; omega) (Nat.le_trans hZ.out (Nat.le_trans HKa.out.size kb.size))
    obtain ⟨ad, nd, cd, wd, hrd, hnd, hbd, hod⟩ := byt_str hbc.out TX (by have := HFP.out; have := HTS.out; simp only [List.length_append]; omega) (Nat.le_trans (Nat.le_trans hZ.out (Nat.le_trans HKa.out.size kb.size)) hoc.out.size)
    have HRC := hid hrc.out
    have HRD := hid hrd.out
    have HKc := hid (own_kept (((hK.out.trans HKa.out (fun _ _ f => f)).trans kb (fun _ _ f => f))) (ownN_stay HBa.out kb) HZB.out hoc.out)
    have HKd := hid (own_kept HKc.out hbc.out HZB.out hod.out)
    have HBd := hid hbd.out
    have HZd := hid (Nat.le_trans (Nat.le_trans (Nat.le_trans hZ.out (Nat.le_trans HKa.out.size kb.size)) hoc.out.size) hod.out.size)
    obtain ⟨pa, pc, hpe⟩ := ownN_slice hp4
    generalize (putN (U.uN (TX.size : Int))).length = P4 at hpe
    subst hpe
    obtain ⟨sa', sc', hc1, hchs⟩ := HCHS.out wd HKd.out
    have HCS := hid hchs
    clear hp4 kb hrc hnc hbc hoc hrd hnd hbd hod HPT HCHS hchs
    go_wp2_with (at_builtin; first | refine Lys.wpList_append_run rfl _ _ _ rfl rfl rfl HRC.out ?_ | refine Lib.wpList_append_run _ rfl _ _ _ _ rfl _ _ rfl rfl _ _ HRD.out ?_)
    (try go_wp2_with fail)
    refine HCS.out.mono ?_
    rintro e we ⟨u, vs, rfl, hout, ke⟩
    obtain ⟨oa, oc, hu⟩ := ownN_slice hout.row
    rw [hout.len, HPN.out] at hu
    subst hu
    have HVL := hid (hout.len.trans HPN.out)
    have HPC := hid (U.rput_any we (PN : Int))
    have HBe := hid (ownN_stay HBd.out ke)
    have HKe := hid (HKd.out.trans ke (fun _ _ f => f))
    have HZe := hid (Nat.le_trans HZd.out ke.size)
    have HO := hid hout
    clear hout ke hc1 HCS HRC HRD
    go_wp2_with fail
    refine HPC.out.mono ?_
    rintro e wf ⟨p7, rfl, hp7, kf⟩
    obtain ⟨ag, ng, cg, wg, hrg, hng, hbg, hog⟩ := byt_app (ownN_stay HBe.out kf) (own_src hp7) (by have := HFP.out; have := HTS.out; simp only [List.length_append]; omega) (Nat.le_trans HZe.out kf.size)
    have HRG := hid hrg.out
    have HKg := hid (own_kept (HKe.out.trans kf (fun _ _ f => f)) (ownN_stay HBe.out kf) HZB.out hog.out)
    have HZg := hid (Nat.le_trans (Nat.le_trans HZe.out kf.size) hog.out.size)
    have HOg := hid (out_only (out_only HO.out kf (fun _ f => f.elim)) hog.out (fun j e => ownN_typed (ownN_stay HBe.out kf) e))
    obtain ⟨PRE, hPRE⟩ : ∃ x, headB l ++ (l.take k).flatMap serB ++ putN (U.uN (TX.size : Int)) ++ TX.data.toList ++ putN (U.uN (PN : Int)) = x := ⟨_, rfl⟩
    have HBg : Hid (BytAt wg w4.heap.size (.slice ag ng cg) PRE) := hid (by rw [← hPRE]; exact hbg.out)
    have HPL : Hid (PRE.length + (PS.flatMap chkB).length ≤ 9500000) := hid (by
     rw [← hPRE]
     have := HFP.out
     have := HTS.out
     simp only [List.length_append]
     omega)
    have HFIN : Hid (PRE ++ PS.flatMap chkB = headB l ++ (l.take (k + 1)).flatMap serB) := hid (by
     rw [← hPRE, HFS.out]
     simp only [List.append_assoc])
    obtain ⟨pa, pc, hpe⟩ := ownN_slice hp7
    generalize (putN (U.uN (PN : Int))).length = P7 at hpe
    subst hpe
    clear hp7 kf hrg hng hbg hog hPRE HPC HBe HBd HBa HFS HFP HTS HO hR hK hZ
    go_wp2_with (at_builtin; refine Lys.wpList_append_run rfl _ _ _ rfl rfl rfl HRG.out ?_)
    (try go_wp2_with fail)
    go_loopw [7, 11] (fun s7 s11 wq => ∃ (j m : Nat) (ra : Option Addr) (rc : Nat), j ≤ PN ∧ s11 = .int .i64 (j : Int) ∧ s7 = .slice ra m rc ∧ Hid (BytAt wq w4.heap.size (.slice ra m rc) (PRE ++ (PS.take j).flatMap chkB)) ∧ Hid (C.OutAt wq wd.heap.size (.slice oa PN oc) PS vs) ∧ Hid (Kept w wq) ∧ Hid (w4.heap.size ≤ wq.heap.size)) (fun _ s11 _ => PN - (intOf s11).toNat)
    case atStart => exact ⟨0, ng, ag, cg, by omega, rfl, rfl, hid (by simpa using HBg.out), HOg, HKg, HZg⟩
    case round =>
     clear HBg HOg HKg HZg
     obtain ⟨j, m, ra, rc, hj, rfl, rfl, hR, hout, hK, hZ⟩ := hrel
     by_cases hlt2 : j < PN
     ·have hjP : j < PS.length := by have := HPN.out; omega
      have hjv : j < vs.length := by have := HVL.out; omega
      obtain ⟨h1, h2, h3⟩ := HPO.out PS[j] (List.getElem_mem hjP)
      have hsm := hout.out.each j hjP hjv
      have HPK := hid (C.rchunk_any wr vs[j] PS[j] (SmpAt.src hsm) (by omega))
      obtain ⟨g, cap, hg⟩ := ownN_some hout.out.row (by omega)
      have hoa : oa = some ⟨g, 0, none⟩ := by simp only [Value.slice.injEq] at hg; exact hg.1
      have hcell : wr.cell? ⟨g, j, none⟩ = some vs[j] := by
       have hrow := hout.out.row
       rw [HVL.out] at hrow
       rw [hoa] at hrow
       rw [hrow.cellAt j (by omega)]
       exact List.getElem?_eq_getElem hjv
      obtain ⟨ea, ec, hek⟩ := ownN_slice hsm
      rw [hek] at hcell HPK
      have HFT := hid (flat_take PS j hjP)
      have HLE := hid (flat_le PS (j + 1))
      have HCH := hid (fun (b' : List UInt8) (x : Int) (h : C.Packs PS[j] b' x) => packs_chk h h1 h2 h3)
      generalize PS[j].length = EN at hcell HPK
      generalize PS[j] = EP at HFT HCH HPK
      subst hoa
      clear hsm hg hek h1 h2 h3
      go_wp2_with fail
      refine HPK.out.mono ?_
      rintro e wh ⟨kh, ub, cb, x, rfl, hpk, hub⟩
      obtain ⟨rfl, rfl⟩ := HCH.out _ _ hpk
      obtain ⟨ai, ni, ci, wi, hri, hni, hbi, hoi⟩ := byt_app (ownN_stay hR.out kh) (own_src hub) (by have hq := HLE.out; rw [HFT.out, List.length_append] at hq; have := HPL.out; rw [List.length_append]; omega) (Nat.le_trans hZ.out kh.size)
      have HRI := hid hri.out
      have HBi : Hid (BytAt wi w4.heap.size (.slice ai ni ci) (PRE ++ (PS.take (j + 1)).flatMap chkB)) := hid (by rw [HFT.out, ← List.append_assoc]; exact hbi.out)
      have HKi := hid (own_kept (hK.out.trans kh (fun _ _ f => f)) (ownN_stay hR.out kh) HZB.out hoi.out)
      have HZi := hid (Nat.le_trans (Nat.le_trans hZ.out kh.size) hoi.out.size)
      have HOi := hid (out_only (out_only hout.out kh (fun _ f => f.elim)) hoi.out (fun j e => ownN_typed (ownN_stay hR.out kh) e))
      obtain ⟨xa, xc, hxe⟩ := ownN_slice hub
      generalize (chkB EP).length = CN at hxe
      subst hxe
      clear hub kh hri hni hbi hoi hpk HPK HCH HFT HLE hR hout hK hZ hcell
      go_wp2_with (at_builtin; refine Lys.wpList_append_run rfl _ _ _ rfl rfl rfl HRI.out ?_)
      (try go_wp2_with fail)
      go_roundw
      case rel => exact ⟨j + 1, ni, ai, ci, by omega, by go_num, rfl, HBi, HOi, HKi, HZi⟩
      case measure => simp [intOf]; omega
     ·obtain rfl : PN = j := by omega
      have HBj : Hid (BytAt wr w4.heap.size (.slice ra m rc) (headB l ++ (l.take (k + 1)).flatMap serB)) := hid (by
       rw [← HFIN.out]
       have h := hR.out
       rw [List.take_of_length_le (by have := HPN.out; omega)] at h
       exact h)
      have hml : m ≤ 9500000 := by
       obtain ⟨_, _, e⟩ := ownN_slice hR.out
       rw [List.take_of_length_le (by have := HPN.out; omega), List.length_append] at e
       have := HPL.out
       injection e with _ e _
       omega
      have hd9 : decide ((16777216 : Int) < (m : Int)) = false := decide_eq_false (by omega)
      have HKj := hid hK.out
      have HZj := hid hZ.out
      clear hR hout hK hZ
      go_wp2_with fail
      go_roundw
      case rel => exact ⟨k + 1, m, ra, rc, by have := HLT.out; omega, by go_num, rfl, HBj, HKj, HZj⟩
      case measure => simp [intOf]; have := HLT.out; omega
   ·obtain rfl : N = k := by omega
    have hRB : BytAt wr w4.heap.size (.slice va vn vc) (bodyB l) := by
     have h := hR.out
     rw [List.take_of_length_le (by have := HN.out; omega)] at h
     rw [HBODY.out]
     exact h
    have hbl := HTOT.out HCKE.out
    have HSE := hid (rsealed_any wr w4.heap.size (.slice va vn vc) (bodyB l) hRB hZ.out (by omega))
    have HRB := hid hRB
    have HBL := hid hbl
    clear hRB hbl
    go_wp2_with fail
    refine HSE.out.mono ?_
    rintro e wz ⟨u, rfl, hu, ho⟩
    obtain ⟨ua, uc, hue⟩ := ownN_slice hu
    have hul : (bodyB l ++ G.four (G.sumL (bodyB l))).length = (bodyB l).length + 4 := by rw [List.length_append]; rfl
    have HF : Hid (PQ (.returned (.tuple #[u, .int .i64 0])) wz) := hid (by
     rw [← HPQ.out]
     refine ⟨own_kept hK.out HRB.out HZB.out ho, .inr ⟨HCKE.out, ua, _, uc, by rw [hue], ?_⟩⟩
     rw [← hue]
     exact ownN_base hu HZB.out)
    obtain ⟨UL, hUL⟩ : ∃ UL, (bodyB l ++ G.four (G.sumL (bodyB l))).length = UL := ⟨_, rfl⟩
    rw [hUL] at hue hul
    have hd9 : decide ((16777216 : Int) < (UL : Int)) = false := decide_eq_false (by have := HBL.out; omega)
    subst hue
    clear hu ho HSE hul hUL
    go_wp2_with fail
    (try go_ret2)
    exact HF.out
 ·have HFF : Hid (PQ (.returned (.tuple #[.slice none 0 0, .int .i64 CK])) w1) := hid (by
   rw [← HPQ.out]
   exact ⟨HK1.out, .inl ⟨by rw [HCKE.out]; exact h0, by rw [HCKE.out]⟩⟩)
  have hcb : (CK != 0) = true := by simpa using h0
  clear h0
  go_wp2_with fail
  (try go_ret2)
  exact HFF.out
end Go.Proofs.YtllfanlhgnkcfaaGreatDoor.K
namespace Go.Proofs.YtllfanlhgnkcfaaGreatDoor.K
open Go Go.RowKit Go.Proofs.Lys Go.Maps Go.Shelf
open Go.Proofs.YtllfanlhgnkcfaaGreatDoor.N (ownN_slice ownN_lt ownN_only ownN_stay ownN_base ownN_typed ownN_some)
set_option linter.unusedVariables false
set_option linter.unusedSimpArgs false
def pkS (l : List Ser) : List UInt8 := if checkB l = 0 then blockB l else []
theorem PkP.ans {w w' : World} {l : List Ser} {e : Ending} (h : PkP w l e w') : Kept w w' ∧ ∃ a n c, e = .returned (.tuple #[.slice a n c, .int .i64 (checkB l)]) ∧ BytAt w' w.heap.size (.slice a n c) (pkS l) := by
 obtain ⟨k, ⟨h0, u, rfl, hu⟩ | ⟨h0, rfl⟩⟩ := h
 ·obtain ⟨a, c, rfl⟩ := ownN_slice hu
  exact ⟨k, a, _, c, by rw [h0], by unfold pkS; rw [if_pos h0]; exact hu⟩
 ·exact ⟨k, none, 0, 0, rfl, by unfold pkS; rw [if_neg h0]; exact ⟨rfl, .inl ⟨rfl, rfl⟩⟩⟩
theorem BlkP.ans {w w' : World} {l : List Ser} {e : Ending} (h : BlkP w l e w') : Kept w w' ∧ ∃ a n c, e = .returned (.tuple #[.slice a n c, .int .i64 (checkB l)]) ∧ BytAt w' w.heap.size (.slice a n c) (pkS l) := by
 obtain ⟨k, ⟨h0, rfl⟩ | ⟨h0, a, n, c, rfl, hu⟩⟩ := h
 ·exact ⟨k, none, 0, 0, rfl, by unfold pkS; rw [if_neg h0]; exact ⟨rfl, .inl ⟨rfl, rfl⟩⟩⟩
 ·exact ⟨k, a, n, c, by rw [h0], by unfold pkS; rw [if_pos h0]; exact hu⟩
theorem pkS_len {l : List Ser} (h : Few l) : (pkS l).length ≤ 1300000 := by
 unfold pkS
 split
 ·rename_i h0
  exact few_len h h0
 ·simp
theorem kbyt_copy {w : World} {xv : Value} {bs : List UInt8} (hs : SrcOf w xv (bs.map bV)) (hl : bs.length ≤ 9000000) :
  ∃ a n c w', Hid ((Builtin.append_ #[28, 28] 0 #[.slice none 0 0, xv]).run Tryz.prog w = .ok (.slice a n c) w') ∧ BytAt w' w.heap.size (.slice a n c) bs ∧ Kept w w' := by
 obtain ⟨a, n, c, w', hr, _, h, ho⟩ := byt_app (w := w) (B := w.heap.size) (v := .slice none 0 0) (bs := []) ⟨rfl, .inl ⟨rfl, rfl⟩⟩ hs (by simp; omega) (Nat.le_refl _)
 rw [List.nil_append] at h
 exact ⟨a, n, c, w', hr, h.out, ho.out.mono (fun j hj e => by simp [Value.ownBlock] at e)⟩
theorem byt_bsrc {w : World} {B : Nat} {v : Value} {bs : List UInt8} (hb : BytAt w B v bs) : C.BSrc w v bs := by
 refine ⟨own_src hb, ?_⟩
 rcases hb.2 with ⟨hv, h0⟩ | ⟨g, cap, cur, hv, _, _, hcap, _⟩
 ·exact ⟨none, 0, by rw [hv, h0], by omega⟩
 ·exact ⟨_, cap, hv, hcap⟩
set_option maxRecDepth 100000 in
set_option maxHeartbeats 6400000 in
theorem packs16_walk (w : World) (va vo : Value) (l o : List Ser) (ha : SIn w va l) (ho : SIn w vo o) (hv : ∀ s ∈ l, V.In64 (s.2.map (·.2))) (hT : G.Tab w) (hG : ErrT w) (hM : N.Mx w) :
  Calls Tryz.prog 3 #[va, vo] w fun e w' => e = .returned (.bool true) ∧ Kept w w' := by
 have HAL := hid (alive16_any w hT hG)
 obtain ⟨R, hR⟩ : ∃ R, (fun (e : Ending) (w' : World) => e = .returned (.bool true) ∧ Kept w w') = R := ⟨_, rfl⟩
 rw [hR]
 have HF : Hid (∀ w', Kept w w' → R (.returned (.bool true)) w') := fun w' k => by rw [← hR]; exact ⟨rfl, k⟩
 clear hR
 have HBG := hid (fun W (k : Kept w W) => kbig_any W va l ⟨ha.src.stay k, ha.came, ha.len⟩)
 have HBO := hid (fun W (k : Kept w W) => kbig_any W vo o ⟨ho.src.stay k, ho.came, ho.len⟩)
 have HRB := hid (fun (f : Few l) s (hs : s ∈ l) => show s.1.length ≤ 100000 ∧ N.Small s.1 ∧ s.2.length ≤ 100000 from ⟨((few_reach f).all s hs).1, ((few_reach f).all s hs).2.1, by have := ((few_reach f).all s hs).2.2; omega⟩)
 have HCP := hid (fun W (k : Kept w W) (f : Few l) => rcopy_any W va l (ha.src.stay k) (few_reach f).len (fun s hs => ⟨(HRB.out f s hs).1, (HRB.out f s hs).2.2⟩))
 have HCK := hid (fun W u (k : Kept w W) (hu : SerIn W u l) (f : Few l) => check_any W u l hu (few_reach f).len (HRB.out f) (hG.stay k))
 have HPK := hid (fun W u (k : Kept w W) (hu : SerIn W u l) (f : Few l) => pack_any W u l hu (few_reach f) (hT.stay k) (hG.stay k))
 have HPO := hid (fun W (k : Kept w W) (f : Few o) => pack_any W vo o (ho.src.stay k) (few_reach f) (hT.stay k) (hG.stay k))
 have HSP := hid (fun W u (k : Kept w W) (hu : SerIn W u l) (f : Few l) => pspan_any W u l hu (few_reach f).len (HRB.out f) (hG.stay k))
 have HSR := hid (fun W (k : Kept w W) (f : Few l) => rspan_any W va l (ha.src.stay k) (few_reach f).len (HRB.out f))
 have HBR := hid (fun W (k : Kept w W) (f : Few l) => rblock_any W va l (ha.src.stay k) (few_reach f).len (few_reach f).all (few_reach f).tot)
 have HCR := hid (fun W (k : Kept w W) (f : Few l) => rcheck_any W va l (ha.src.stay k) (few_reach f).len (HRB.out f))
 have HSM := hid (fun W u u2 (hu : SerIn W u l) (hu2 : SerIn W u2 l) (f : Few l) => ksame_any W u u2 l hu hu2 (by have := (few_reach f).len; omega) (fun s hs => ⟨by have := (HRB.out f s hs).1; omega, by have := (HRB.out f s hs).2.2; omega⟩))
 have HUN := hid (fun W u (k : Kept w W) (hu : C.BSrc W u (blockB l)) (f : Few l) (h0 : checkB l = 0) => unpack_any W u (blockB l) hu (by have := few_len f h0; omega) (read_block f h0 hv).2.2.1 (hT.stay k) (hG.stay k) (hM.stay k) (read_block f h0 hv).2.2.2)
 have HLK := hid (fun W u (k : Kept w W) (hu : C.BSrc W u (blockB l)) (f : Few l) (h0 : checkB l = 0) => lookB_any W u (blockB l) hu (by have := few_len f h0; omega) (read_block f h0 hv).2.2.1 (hT.stay k) (hG.stay k) (hM.stay k) (read_block f h0 hv).2.2.2)
 have HRD := hid (fun (f : Few l) (h0 : checkB l = 0) => read_block f h0 hv)
 have HNU := hid (fun n W => num16_any n W)
 obtain ⟨a, c, rfl⟩ := ha.src.len
 obtain ⟨a', c', rfl⟩ := ho.src.len
 obtain ⟨L, hL⟩ : ∃ L, l.length = L := ⟨_, rfl⟩
 obtain ⟨M, hM2⟩ : ∃ M, o.length = M := ⟨_, rfl⟩
 have HL := hid hL
 rw [hL] at HBG HCP HSR HBR HCR ⊢
 rw [hM2] at HBO HPO ⊢
 clear ha ho hv hT hG hM hL hM2
 go_enter Tryz.func3, Tryz.ntmps3
 go_wp2_with fail
 refine HAL.out.mono ?_
 rintro e w1 ⟨rfl, k1⟩
 have K1 := hid k1
 clear k1 HAL
 go_wp2_with fail
 refine (HBG.out w1 K1.out).mono ?_
 rintro e w2 ⟨⟨B, rfl, hB⟩, k2⟩
 have K2 := hid (show Kept w w2 from K1.out.trans k2 (fun _ _ f => f))
 clear k2 HBG
 cases B with
 | true =>
  have HFN := hid (HF.out w2 K2.out)
  clear hB
  go_wp2_with fail
  exact HFN.out
 | false =>
  have HW := hid (hB rfl)
  clear hB
  go_wp2_with fail
  refine (HBO.out w2 K2.out).mono ?_
  rintro e w3 ⟨⟨B, rfl, hB⟩, k3⟩
  have K3 := hid (show Kept w w3 from K2.out.trans k3 (fun _ _ f => f))
  clear k3 HBO
  cases B with
  | true =>
   have HFN := hid (HF.out w3 K3.out)
   clear hB
   go_wp2_with fail
   exact HFN.out
  | false =>
   have HWO := hid (hB rfl)
   have HC3 := hid (HCP.out w3 K3.out HW.out)
   obtain ⟨S1, hS1⟩ : ∃ S1, (if checkB l = 0 then spanB l else (0, 0)).1 = S1 := ⟨_, rfl⟩
   obtain ⟨S2, hS2⟩ : ∃ S2, (if checkB l = 0 then spanB l else (0, 0)).2 = S2 := ⟨_, rfl⟩
   have HS1 := hid hS1
   have HS2 := hid hS2
   rw [hS1, hS2] at HSP HSR
   obtain ⟨X, hX⟩ : ∃ X, checkB l = X := ⟨_, rfl⟩
   have HX := hid hX
   clear hB hS1 hS2
   go_wp2_with fail
   refine HC3.out.mono ?_
   rintro e w4 ⟨u, rfl, hu, k4⟩
   obtain ⟨ua, uc, hue⟩ := hu.len
   rw [HL.out] at hue
   subst hue
   have K4 := hid (K3.out.trans k4 (fun _ _ f => f))
   have HU4 := hid hu
   have HCK4 := hid (HCK.out w4 _ K4.out hu HW.out)
   rw [hX] at HCK4
   clear hu k4 HC3 HCK
   go_wp2_with fail
   refine HCK4.out.mono ?_
   rintro e w5 ⟨rfl, k5⟩
   have K5 := hid (K4.out.trans k5 (fun _ _ f => f))
   have HU5 := hid (HU4.out.stay k5)
   have HPK5 := hid (HPK.out w5 _ K5.out HU5.out HW.out)
   clear k5 HCK4 HU4 HPK
   go_wp2_with fail
   refine HPK5.out.mono ?_
   intro e w6 hp6
   obtain ⟨k6, ba, bn, bc, rfl, hb6⟩ := hp6.ans
   rw [hX]
   have K6 := hid (K5.out.trans k6 (fun _ _ f => f))
   have HU6 := hid (HU5.out.stay k6)
   have HB6 := hid hb6
   have hbn : (pkS l).length = bn := by
    obtain ⟨_, _, e⟩ := ownN_slice hb6
    injection e with _ e _
    exact e.symm
   have HBN := hid hbn
   have HPO6 := hid (HPO.out w6 K6.out HWO.out)
   clear k6 hp6 hb6 HPK5 HU5 HPO hbn
   go_wp2_with fail
   refine HPO6.out.mono ?_
   intro e w7 hp7
   obtain ⟨k7, da, dn, dc, rfl, hd7⟩ := hp7.ans
   have K67 := hid k7
   have HD7 := hid hd7
   have hdn : (pkS o).length = dn := by
    obtain ⟨_, _, e⟩ := ownN_slice hd7
    injection e with _ e _
    exact e.symm
   have HDN := hid hdn
   have hdl := pkS_len HWO.out
   have hdn9 : dn ≤ 1300000 := by omega
   have HZ7 : Hid (∀ j, (Value.slice da dn dc).ownBlock = some j → w6.heap.size ≤ j) := hid (fun j hj => (ownN_lt hd7 hj).1)
   clear k7 hp7 hd7 hdl hdn HPO6
   generalize checkB o = XO
   go_wp2_with fail
   go_loopw [13] (fun s wr => ∃ (k : Nat) (ds : List UInt8), k ≤ dn ∧ s = .int .i64 (k : Int) ∧ ds.length = dn ∧ Hid (BytAt wr w6.heap.size (.slice da dn dc) ds) ∧ Hid (Only (fun j => (Value.slice da dn dc).ownBlock = some j) w7 wr)) (fun s _ => dn - (intOf s).toNat)
   case atStart => exact ⟨0, pkS o, by omega, rfl, HDN.out, HD7, hid (Only.refl _ _)⟩
   case round =>
    obtain ⟨k, ds, hk, rfl, hds, hD, hO⟩ := hrel
    by_cases hlt : k < dn
    ·obtain ⟨dg, dcap, hdv⟩ := ownN_some hD.out (by omega)
     have hdx : (Value.slice da dn dc) = .slice (some ⟨dg, 0, none⟩) dn dcap := by rw [hdv, hds]
     injection hdx with e1 e2 e3
     subst e1
     subst e3
     have hD' : wr.ownsRow w6.heap.size 5 1 (.slice (some ⟨dg, 0, none⟩) dn dc) dn (ds.map bV) := by
      have := hD.out
      unfold BytAt at this
      rw [hds] at this
      exact this
     obtain ⟨t0, t1, t2⟩ := G.own_turn6 hD' (k := k) (by omega)
     have hxb := G.xor_byte6 ds[k]
     obtain ⟨Y, hY⟩ : ∃ Y : UInt8, UInt8.ofNat (ds[k].toNat ^^^ 255) = Y := ⟨_, rfl⟩
     rw [hY] at hxb t2
     obtain ⟨XB, hXB⟩ : ∃ X : Nat, ds[k].toNat = X := ⟨_, rfl⟩
     obtain ⟨Z, hZ⟩ : ∃ Z : Nat, Y.toNat = Z := ⟨_, rfl⟩
     rw [hXB] at hxb t0
     rw [hZ] at hxb t2
     have HD2 : Hid (BytAt (wr.setCell ⟨dg, k, none⟩ (.int .u8 (Z : Int))) w6.heap.size (.slice (some ⟨dg, 0, none⟩) dn dc) (ds.set k Y)) := hid (by
      unfold BytAt
      rw [List.length_set, hds]
      exact t2)
     have HO2' := hid (hO.out.setCell (p := ⟨dg, k, none⟩) (fun _ => by simp [Value.ownBlock]) (.int .u8 (Z : Int)))
     have HLS : Hid ((ds.set k Y).length = dn) := hid (by rw [List.length_set]; exact hds)
     clear hD hO hD' hdv t2 hXB hY hZ
     go_wp2_with fail
     go_roundw
     case rel => exact ⟨k + 1, ds.set k Y, by omega, by go_num, HLS.out, HD2, HO2'⟩
     case measure => simp [intOf]; omega
    ·have k68 : Kept w6 wr := K67.out.trans hO.out (fun j hj e => by have := HZ7.out j e; omega)
     have K8 := hid (show Kept w wr from K6.out.trans k68 (fun _ _ f => f))
     have HU8 := hid (HU6.out.stay k68)
     have HB8 := hid (ownN_stay HB6.out k68)
     have HSP8 := hid (HSP.out wr _ K8.out HU8.out HW.out)
     have hkd : decide ((k : Int) < (dn : Int)) = false := decide_eq_false (by omega)
     clear hD hO hds k68 HSP HD7 HZ7 HU6 HB6
     go_wp2_with fail
     refine HSP8.out.mono ?_
     rintro e w9 ⟨rfl, k9⟩
     have K9 := hid (K8.out.trans k9 (fun _ _ f => f))
     have HU9 := hid (HU8.out.stay k9)
     have HB9 := hid (ownN_stay HB8.out k9)
     have HSR9 := hid (HSR.out w9 K9.out HW.out)
     clear k9 HSP8 HU8 HB8 HSR
     go_wp2_with fail
     refine HSR9.out.mono ?_
     rintro e w10 ⟨rfl, k10⟩
     have K10 := hid (K9.out.trans k10 (fun _ _ f => f))
     have HU10 := hid (HU9.out.stay k10)
     have HB10 := hid (ownN_stay HB9.out k10)
     have HBR10 := hid (HBR.out w10 K10.out HW.out)
     clear k10 HSR9 HU9 HB9 HBR
     go_wp2_with fail
     refine HBR10.out.mono ?_
     intro e w11 hr
     obtain ⟨k11, wa, wn, wc, rfl, hw11⟩ := hr.ans
     rw [HX.out]
     have hwn : wn = bn := by
      obtain ⟨_, _, e⟩ := ownN_slice hw11
      injection e with _ e _
      rw [e, HBN.out]
     subst hwn
     have K11 := hid (K10.out.trans k11 (fun _ _ f => f))
     have HU11 := hid (HU10.out.stay k11)
     have HB11 := hid (ownN_stay HB10.out k11)
     have HW11 := hid hw11
     have HCR11 := hid (HCR.out w11 K11.out HW.out)
     unfold ChkP at HCR11
     rw [HX.out] at HCR11
     clear k11 hr hw11 HBR10 HU10 HB10 HCR
     go_wp2_with fail
     refine (HNU.out _ _).mono ?_
     rintro e w' ⟨rfl, hw'⟩
     replace hw' := hw'.symm
     subst hw'
     go_wp2_with fail
     refine HCR11.out.mono ?_
     rintro e w12 ⟨rfl, k12⟩
     have K12 := hid (K11.out.trans k12 (fun _ _ f => f))
     have HU12 := hid (HU11.out.stay k12)
     have HB12 := hid (ownN_stay HB11.out k12)
     have s1 := G.bytes_str (own_src HB12.out)
     have s2 := G.bytes_str (own_src (ownN_stay HW11.out k12))
     generalize hSA : (⟨(pkS l).toArray⟩ : ByteArray) = sA at s1 s2
     have HC12 := hid (HCP.out w12 K12.out HW.out)
     clear k12 hSA HCR11 HU11 HB11 HW11
     go_wp2_with fail
     refine (HNU.out _ _).mono ?_
     rintro e w' ⟨rfl, hw'⟩
     replace hw' := hw'.symm
     subst hw'
     go_wp2_with fail
     refine HC12.out.mono ?_
     rintro e w13 ⟨u2, rfl, hu2, k13⟩
     obtain ⟨u2a, u2c, hue⟩ := hu2.len
     rw [HL.out] at hue
     subst hue
     have K13 := hid (K12.out.trans k13 (fun _ _ f => f))
     have HB13 := hid (ownN_stay HB12.out k13)
     have HSM13 := hid (HSM.out w13 _ _ (HU12.out.stay k13) hu2 HW.out)
     clear k13 hu2 s1 s2 HC12 HU12 HB12
     go_wp2_with fail
     refine HSM13.out.mono ?_
     rintro e w14 ⟨rfl, k14⟩
     have K14 := hid (K13.out.trans k14 (fun _ _ f => f))
     have HB14 := hid (ownN_stay HB13.out k14)
     clear k14 HSM13 HB13
     by_cases hx0 : X = 0
     ·subst hx0
      have h0 := HX.out
      have HRD0 := hid (HRD.out HW.out h0)
      have hpk : pkS l = blockB l := by unfold pkS; rw [if_pos h0]
      have hB14 : BytAt w14 w5.heap.size (.slice ba wn bc) (blockB l) := by rw [← hpk]; exact HB14.out
      have hs1 : (spanB l).1 = S1 := by have := HS1.out; rw [if_pos h0] at this; exact this
      have hs2 : (spanB l).2 = S2 := by have := HS2.out; rw [if_pos h0] at this; exact this
      obtain ⟨ca, cn, cc, w15, hr15, hb15, k15⟩ := kbyt_copy (own_src hB14) (by have := few_len HW.out h0; omega)
      have HR15 := hid hr15.out
      have K15 := hid (K14.out.trans k15 (fun _ _ f => f))
      have HB15 := hid (ownN_stay hB14 k15)
      have HUN15 := hid (HUN.out w15 _ K15.out (byt_bsrc hb15) HW.out h0)
      have HSS1 := hid hs1
      have HSS2 := hid hs2
      have HH0 := hid h0
      clear hr15 hb15 k15 hB14 hpk hs1 hs2 HUN HB14 h0
      go_wp2_with (at_builtin; refine Lys.wpList_append_run rfl _ _ _ rfl rfl rfl HR15.out ?_)
      refine HUN15.out.mono ?_
      rintro e w16 ⟨k16, ⟨hno, _⟩ | ⟨qs, v', hrk, rfl, hser⟩⟩
      ·exact absurd HRD0.out.1 (hno l)
      ·have hql := HRD0.out.2.1 _ hrk
       have hsi := hser.serIn
       rw [hql] at hsi
       obtain ⟨ma, mc, hme⟩ := hsi.len
       rw [HL.out] at hme
       subst hme
       have HSI16 := hid hsi
       have K16 := hid (K15.out.trans k16 (fun _ _ f => f))
       have HB16 := hid (ownN_stay HB15.out k16)
       have HLK16 := hid (HLK.out w16 _ K16.out (byt_bsrc HB16.out) HW.out HH0.out)
       clear k16 hrk hser hsi hql HUN15 HB15 HLK
       go_wp2_with fail
       refine HLK16.out.mono ?_
       rintro e w17 ⟨k17, ⟨hno, _⟩ | ⟨l2, hrk, rfl⟩⟩
       ·exact absurd HRD0.out.1 (hno l)
       ·have hql := HRD0.out.2.1 _ hrk
        subst hql
        rw [HSS1.out, HSS2.out, HL.out]
        have K17 := hid (K16.out.trans k17 (fun _ _ f => f))
        have HSI17 := hid (HSI16.out.stay k17)
        have HC17 := hid (HCP.out w17 K17.out HW.out)
        clear k17 hrk HLK16 HSI16 HB16
        go_wp2_with fail
        refine (HNU.out _ _).mono ?_
        rintro e w' ⟨rfl, hw'⟩
        replace hw' := hw'.symm
        subst hw'
        go_wp2_with fail
        refine HC17.out.mono ?_
        rintro e w18 ⟨u3, rfl, hu3, k18⟩
        obtain ⟨u3a, u3c, hue⟩ := hu3.len
        rw [HL.out] at hue
        subst hue
        have K18 := hid (K17.out.trans k18 (fun _ _ f => f))
        have HSM18 := hid (HSM.out w18 _ _ (HSI17.out.stay k18) hu3 HW.out)
        clear k18 hu3 HC17 HSI17
        go_wp2_with fail
        refine HSM18.out.mono ?_
        rintro e w19 ⟨rfl, k19⟩
        have HFN := hid (HF.out w19 (K18.out.trans k19 (fun _ _ f => f)))
        clear k19 HSM18
        go_wp2_with fail
        refine (HNU.out _ _).mono ?_
        rintro e w' ⟨rfl, hw'⟩
        replace hw' := hw'.symm
        subst hw'
        go_wp2_with fail
        exact HFN.out
     ·have hxb : (X == 0) = false := by simpa using hx0
      have HFN := hid (HF.out w14 K14.out)
      go_wp2_with fail
      exact HFN.out
end Go.Proofs.YtllfanlhgnkcfaaGreatDoor.K
