/-
  The document's own: a manifest's bytes.
-/
import Derived.Test.YtjifcgphlidimaaDoorJseal
import Derived.Test.YtjifcgphlidimaaDoorJrchk
import Derived.Test.YtjifcgphlidimaaDoorJread
namespace Go.Proofs.YtjifcgphlidimaaDoor.J
open Go Go.RowKit Go.Proofs.Lys
open Go.Proofs.YtjifcgphlidimaaDoor.U (zigN zigN_lt uN uN_lt)
set_option linter.unusedVariables false
set_option linter.unusedSimpArgs false

theorem tyO_kept2 {w W w1 : World} {B : Nat} (h : Only (TyO W B B) W w1) (k : Kept w W) (hB : w.heap.size < B) : Kept w w1 :=
  k.trans h (fun j hj e => by
    rcases e with e | ⟨e, _⟩
    · omega
    · omega)
set_option maxRecDepth 100000 in
set_option maxHeartbeats 3200000 in
theorem rpack_any (w : World) (a : Option Addr) (c : Nat) (m : Man) (hs : RfSrc w (.slice a m.bl.length c) m.bl) :
    Calls Tryd.prog 8 #[manV (.slice a m.bl.length c) m] w (PackP w m) := by
  obtain ⟨PQ, hPQ⟩ : ∃ PQ, PackP w m = PQ := ⟨_, rfl⟩
  rw [hPQ]
  have HPQ := hid hPQ
  have HS := hid hs
  obtain ⟨N, Gn, Lo, L, hN, hG, hLo, hL⟩ : ∃ N Gn Lo L, m.next = N ∧ m.log = Gn ∧ m.low = Lo ∧ m.bl.length = L := ⟨_, _, _, _, rfl, rfl, rfl, rfl⟩
  obtain ⟨w1, hw1⟩ : ∃ w1, w.alloc (.cells #[.slice a L c, .int .i64 N, .int .i64 Gn, .int .i64 Lo] 24) = w1 := ⟨_, rfl⟩
  have k1 : Kept w w1 := by rw [← hw1]; exact (Only.refl _ w).alloc _
  have hb1 : Blk w1 w.heap.size [.slice a L c, .int .i64 N, .int .i64 Gn, .int .i64 Lo] 24 := by rw [← hw1]; exact Blk.new w _ _
  have HCK := hid (rcheck_any w1 a c m (hs.stay k1))
  unfold manV at HCK ⊢
  rw [hN, hG, hLo, hL] at HCK ⊢
  rw [hL] at HS
  obtain ⟨CK, hCK⟩ : ∃ CK, chkO m = CK := ⟨_, rfl⟩
  rw [hCK] at HCK
  have HCKE := hid hCK
  have HN := hid hN
  have HG := hid hG
  have HLo := hid hLo
  have HL := hid hL
  have HK1 := hid k1
  have HB1 := hid hb1
  have HW1 := hid hw1
  have m0 := hb1.cell 0 rfl
  have m1 := hb1.cell 1 rfl
  have m2 := hb1.cell 2 rfl
  have m3 := hb1.cell 3 rfl
  clear hs hPQ hN hG hLo hL k1 hb1 hw1 hCK
  go_enter Tryd.func8, Tryd.ntmps8
  go_wp2_with fail
  rw [HW1.out]
  go_wp2_with fail
  refine HCK.out.mono ?_
  rintro e w2 ⟨rfl, k2⟩
  have HK2 := hid (HK1.out.trans k2 (fun _ _ f => f))
  have HM2 := hid (Only.blk k2 HB1.out (fun f => f))
  clear m0 m1 m2 m3
  by_cases h0 : CK = 0
  · have hci := chk_in (HCKE.out.trans h0)
    have HCI := hid hci
    have hL200 : L ≤ 200 := by have := HL.out; omega
    have n1 := HM2.out.cell 1 rfl
    have f1 := HM2.out.frozen 1
    subst h0
    have hcv : (convert 28 28 (.slice (some ⟨w2.heap.size, 0, none⟩) 4 4)).run Tryd.prog (w2.alloc (.cells #[.int .u8 76, .int .u8 89, .int .u8 83, .int .u8 77] 5)) = .ok (.slice (some ⟨w2.heap.size, 0, none⟩) 4 4) (w2.alloc (.cells #[.int .u8 76, .int .u8 89, .int .u8 83, .int .u8 77] 5 (4, 5))) := Lib.run_convert_bytes_const (P := Tryd.prog) w2 28 5 #[.int .u8 76, .int .u8 89, .int .u8 83, .int .u8 77] 4 4 Tryd.underlying28 Tryd.underlying5
    obtain ⟨B, hB⟩ : ∃ B, w2.heap.size = B := ⟨_, rfl⟩
    obtain ⟨w3, hw3⟩ : ∃ w3, w2.alloc (.cells #[.int .u8 76, .int .u8 89, .int .u8 83, .int .u8 77] 5 (4, 5)) = w3 := ⟨_, rfl⟩
    have k3 : Kept w2 w3 := by rw [← hw3]; exact (Only.refl _ w2).alloc _
    have hbz : w3.heap.size = B + 1 := by rw [← hw3, ← hB]; simp
    have hR3 : ByA w3 B (.slice (some ⟨B, 0, none⟩) 4 4) [76, 89, 83, 77] := by
      rw [← hB]
      refine bya_mark ?_ ?_ (by omega)
      · rw [← hw3]
        exact (G.lit_bsrc [76, 89, 83, 77] w2 (vs := #[.int .u8 76, .int .u8 89, .int .u8 83, .int .u8 77]) (fz := (4, 5)) rfl).1
      · rw [← hw3]
        exact ⟨_, _, heap_alloc_new w2 _⟩
    have hwB : w.heap.size < B := by rw [← hB]; exact HM2.out.lt
    have HM3 := hid (Only.blk k3 HM2.out (fun f => f))
    have HK3 := hid (HK2.out.trans k3 (fun _ _ f => f))
    have HWB := hid hwB
    have HW3 := hid hw3
    have HR3 := hid hR3
    have HZ3 := hid hbz
    rw [hB] at hcv
    have HB := hid hB
    have p1 := HM3.out.cell 1 rfl
    have HPUT := hid (U.rput_any w3 N)
    clear hci hR3 hw3 k3 hbz hB HCK
    go_wp2_with fail
    simp only [HB.out]
    rw [hcv, HW3.out]
    clear hcv n1 f1 k2
    go_simp
    go_wp2_with fail
    refine HPUT.out.mono ?_
    rintro e w4 ⟨pv, rfl, hp4, k4⟩
    have l10 := put10 N
    obtain ⟨a5, n5, c5, w5, hr5, hb5, ho5⟩ := HR3.out.app w4 pv _ k4 (own_src hp4) (putN_pos _) (by omega)
    have HR5 := hid hr5.out
    have HB5 := hid hb5
    have HO5 : Hid (Only (TyO w3 B B) w3 w5) := hid ((k4.mono (fun _ _ f => f.elim)).trans ho5 (fun j _ e => .inr (HR3.out.low j e)))
    obtain ⟨pa, pc, hpe⟩ := ownN_slice hp4
    subst hpe
    have e5 := ownN_slice hb5
    obtain ⟨_, _, e5⟩ := e5
    have HN5 : Hid (n5 = ([76, 89, 83, 77] ++ putN (uN N)).length) := hid (by injection e5)
    clear hp4 k4 hr5 hb5 ho5 e5 l10 HPUT p1
    go_wp2_with (at_builtin; refine Lys.wpList_append_run rfl _ _ _ rfl rfl rfl HR5.out ?_)
    have HK5 := hid (tyO_kept2 HO5.out HK3.out HWB.out)
    have hM5 := tyO_blk HO5.out HM3.out (by have := HWB.out; omega) (by decide)
    have HM5 := hid hM5
    have HBZ1 : Hid (B ≤ w5.heap.size) := hid (by have := HO5.out.size; have := HZ3.out; omega)
    have HLE1 : Hid (([76, 89, 83, 77] ++ putN (uN N)).length + (putN (uN Gn)).length + (putN (zigN Lo)).length ≤ 90000) := hid (by
      have q1 := put10 N
      have q2 := put10 Gn
      have q3 := sgn10 (x := Lo) (by rw [← HLo.out]; exact HCI.out.2.1)
      simp only [List.length_append, List.length_cons, List.length_nil]
      omega)
    have HBV1 : Hid (BytAt w5 B (.slice a5 n5 c5) ([76, 89, 83, 77] ++ putN (uN N))) := HB5
    have HLI : Hid (U.In64 Lo) := hid (by rw [← HLo.out]; exact HCI.out.2.1)
    clear hM5
    have hA1 : Hid (∀ X, Only (TyO w5 B B) w5 X → X.cell? ⟨w.heap.size, 2, none⟩ = some (.int .i64 Gn) ∧ X.cell? ⟨w.heap.size, 3, none⟩ = some (.int .i64 Lo)) := hid (fun X kx => by
      have hh := tyO_blk kx HM5.out (by have := HWB.out; omega) (by decide)
      exact ⟨hh.cell 2 rfl, hh.cell 3 rfl⟩)
    have hS : (fun w' : World => Only (TyO w5 B B) w5 w') w5.drew := (Only.refl _ w5).drew
    refine wp_region_noPanic ?_
    refine wp_region_last (L := 9) (S := fun w' => Only (TyO w5 B B) w5 w') (by kernel_rfl) ?_
    refine wpAnyL_take (i := 0) (v := .slice a5 n5 c5) rfl (by kernel_rfl) (by kernel_rfl) (by kernel_rfl) (by kernel_rfl) (by kernel_rfl) (fun _ _ _ h => h) (Or.inl ⟨by kernel_rfl, ?_⟩) hS ?_
    · (intro w' hSw; obtain ⟨x0, x1⟩ := hA1.out w' hSw; clear hSw; go_simp)
    (try simp only [List.getElem_toArray, List.getElem_cons_succ, List.getElem_cons_zero])
    go_frame
    refine wpAnyL_take (i := 1) (v := .pointer (some ⟨w.heap.size, 2, none⟩)) rfl (by kernel_rfl) (by kernel_rfl) (by kernel_rfl) (by kernel_rfl) (by kernel_rfl) (fun _ _ _ h => h) (Or.inl ⟨by kernel_rfl, ?_⟩) hS ?_
    · (intro w' hSw; obtain ⟨x0, x1⟩ := hA1.out w' hSw; clear hSw; go_simp)
    (try simp only [List.getElem_toArray, List.getElem_cons_succ, List.getElem_cons_zero])
    go_frame
    refine wpAnyL_take (i := 2) (v := .int .i64 Gn) rfl (by kernel_rfl) (by kernel_rfl) (by kernel_rfl) (by kernel_rfl) (by kernel_rfl) (fun _ _ _ h => h) (Or.inl ⟨by kernel_rfl, ?_⟩) hS ?_
    · (intro w' hSw; obtain ⟨x0, x1⟩ := hA1.out w' hSw; clear hSw; go_simp)
    (try simp only [List.getElem_toArray, List.getElem_cons_succ, List.getElem_cons_zero])
    go_frame
    refine wpAnyL_take (i := 5) (v := .pointer (some ⟨w.heap.size, 3, none⟩)) rfl (by kernel_rfl) (by kernel_rfl) (by kernel_rfl) (by kernel_rfl) (by kernel_rfl) (fun _ _ _ h => h) (Or.inl ⟨by kernel_rfl, ?_⟩) hS ?_
    · (intro w' hSw; obtain ⟨x0, x1⟩ := hA1.out w' hSw; clear hSw; go_simp)
    (try simp only [List.getElem_toArray, List.getElem_cons_succ, List.getElem_cons_zero])
    go_frame
    refine wpAnyL_take (i := 6) (v := .int .i64 Lo) rfl (by kernel_rfl) (by kernel_rfl) (by kernel_rfl) (by kernel_rfl) (by kernel_rfl) (fun _ _ _ h => h) (Or.inl ⟨by kernel_rfl, ?_⟩) hS ?_
    · (intro w' hSw; obtain ⟨x0, x1⟩ := hA1.out w' hSw; clear hSw; go_simp)
    (try simp only [List.getElem_toArray, List.getElem_cons_succ, List.getElem_cons_zero])
    go_frame
    refine wpAnyL_one (i := 3) (by kernel_rfl) rfl (by kernel_rfl) ?_
    go_simp
    refine ((hid (fun X => U.rput_any X Gn)).out _).mono ?_
    rintro e u1_1 ⟨pv1_1, rfl, hp1_1, k1_1⟩
    have kk1_1 : Kept w5 u1_1 := ((Only.refl _ w5).drew).trans k1_1 (fun _ _ f => f)
    have bb1_1 := ownN_stay HBV1.out kk1_1
    obtain ⟨a1_1, n1_1, c1_1, u2_1, HR1_1, hn1_1, h1_1, o1_1⟩ := byt_app bb1_1 (own_src hp1_1) (by have := HLE1.out; omega) (Nat.le_trans HBZ1.out kk1_1.size)
    have S1_1 : Only (TyO w5 B B) w5 u1_1 := kk1_1.mono (fun _ _ f => f.elim)
    have S2_1 : Only (TyO w5 B B) w5 u2_1 := tyO_trans S1_1 (o1_1.out.mono (fun j _ e => .inr ⟨(ownN_lt bb1_1 e).1, ownN_typed bb1_1 e⟩))
    have HS11 := hid S1_1
    clear hn1_1
    have HS21 := hid S2_1
    have HB11 := hid h1_1.out
    have HZ11 := hid (Nat.le_trans HBZ1.out S2_1.size)
    obtain ⟨pa1_1, pc1_1, hpe1_1⟩ := ownN_slice hp1_1
    subst hpe1_1
    clear hp1_1 k1_1 kk1_1 bb1_1 h1_1 o1_1 S1_1 S2_1
    refine ⟨HS11.out, ?_⟩
    (try simp only [List.getElem_toArray, List.getElem_cons_succ, List.getElem_cons_zero])
    (try go_frame)
    refine wpAnyL_one (i := 4) (by kernel_rfl) rfl (by kernel_rfl) (oper_appendH _ _ _ rfl rfl rfl HR1_1 ?_)
    refine ⟨HS21.out, ?_⟩
    (try go_frame)
    refine wpAnyL_one (i := 7) (by kernel_rfl) rfl (by kernel_rfl) ?_
    go_simp
    refine ((hid (fun X => U.rsigned_any X Lo HLI.out)).out _).mono ?_
    rintro e u3_1 ⟨pv2_1, rfl, hp2_1, k2_1⟩
    have bb2_1 := ownN_stay HB11.out k2_1
    obtain ⟨a2_1, n2_1, c2_1, u4_1, HR2_1, hn2_1, h2_1, o2_1⟩ := byt_app bb2_1 (own_src hp2_1) (by rw [List.length_append]; have := HLE1.out; omega) (Nat.le_trans HZ11.out k2_1.size)
    have S3_1 : Only (TyO w5 B B) w5 u3_1 := HS21.out.trans k2_1 (fun _ _ f => f.elim)
    have S4_1 : Only (TyO w5 B B) w5 u4_1 := tyO_trans S3_1 (o2_1.out.mono (fun j _ e => .inr ⟨(ownN_lt bb2_1 e).1, ownN_typed bb2_1 e⟩))
    have HS31 := hid S3_1
    have HS41 := hid S4_1
    have HB21 := hid h2_1.out
    have HZ21 := hid (Nat.le_trans HBZ1.out S4_1.size)
    obtain ⟨pa2_1, pc2_1, hpe2_1⟩ := ownN_slice hp2_1
    subst hpe2_1
    clear hp2_1 k2_1 bb2_1 h2_1 o2_1 S3_1 S4_1 hn2_1 HR1_1
    refine ⟨HS31.out, ?_⟩
    (try simp only [List.getElem_toArray, List.getElem_cons_succ, List.getElem_cons_zero])
    (try go_frame)
    refine wpAnyL_one (i := 8) (by kernel_rfl) rfl (by kernel_rfl) (oper_appendH _ _ _ rfl rfl rfl HR2_1 ?_)
    refine ⟨HS41.out, ?_⟩
    (try go_frame)
    refine wpAnyL_last (by kernel_rfl) (by kernel_rfl) rfl (by kernel_rfl) ?_
    go_simp
    refine NoPanic.normal ?_
    clear HR2_1 hS hA1
    have HK6 := hid (tyO_kept2 HS41.out HK5.out HWB.out)
    have HM6 := hid (tyO_blk HS41.out HM5.out (by have := HWB.out; omega) (by decide))
    have m0 := HM6.out.cell 0 rfl
    have HPL := hid (U.rput_any u4_1 (L : Int))
    have hBu : B < w3.heap.size := by have := HZ3.out; omega
    have hBu2 : B < u4_1.heap.size := Nat.lt_of_lt_of_le (Nat.lt_of_lt_of_le hBu HO5.out.size) HS41.out.size
    have HBU := hid hBu2
    clear hBu hBu2
    go_wp2_with fail
    refine HPL.out.mono ?_
    rintro e w7 ⟨pv, rfl, hp7, k7⟩
    have HLE2 : Hid ((([76, 89, 83, 77] ++ putN (uN N)) ++ putN (uN Gn) ++ putN (zigN Lo)).length + (putN (uN (L : Int))).length ≤ 90000) := hid (by
      have := HLE1.out
      have q4 := put10 (L : Int)
      have q1 := put10 N
      have q2 := put10 Gn
      have q3 := sgn10 (x := Lo) HLI.out
      simp only [List.length_append, List.length_cons, List.length_nil] at *
      omega)
    obtain ⟨a8, n8, c8, w8, hr8, hn8, h8, o8⟩ := byt_app (ownN_stay HB21.out k7) (own_src hp7) (by have := HLE2.out; omega) (Nat.le_trans HZ21.out k7.size)
    have HR8 := hid hr8.out
    have HB8 : Hid (BytAt w8 B (.slice a8 n8 c8) (headM m)) := hid (by
      have h := h8.out
      unfold headM
      rw [HN.out, HG.out, HLo.out, HL.out]
      exact h)
    have HO8 : Hid (Only (TyO u4_1 B B) u4_1 w8) := hid ((k7.mono (fun _ _ f => f.elim)).trans o8.out (fun j hj e => .inr (by
      have hh := ownN_stay HB21.out k7
      refine ⟨(ownN_lt hh e).1, ?_⟩
      exact ownN_typed HB21.out e)))
    obtain ⟨pa, pc, hpe⟩ := ownN_slice hp7
    subst hpe
    clear hp7 k7 hr8 h8 o8 hn8 HPL m0
    go_wp2_with (at_builtin; refine Lys.wpList_append_run rfl _ _ _ rfl rfl rfl HR8.out ?_)
    have HK8 := hid (tyO_kept2 HO8.out HK6.out HWB.out)
    have HM8 := hid (tyO_blk HO8.out HM6.out (by have := HWB.out; omega) (by decide))
    have HZ8 : Hid (B < w8.heap.size) := hid (Nat.lt_of_lt_of_le HBU.out HO8.out.size)
    go_wp2_with fail
    go_loopw [5, 6] (fun v s wr => ∃ (k : Nat), k ≤ L ∧ s = .int .i64 (k : Int) ∧ Hid (∃ xa xn xc, v = .slice xa xn xc) ∧ Hid (BytAt wr B v (headM m ++ refsB (m.bl.take k))) ∧ Hid (Kept w wr) ∧ Hid (Blk wr w.heap.size [.slice a L c, .int .i64 N, .int .i64 Gn, .int .i64 Lo] 24) ∧ Hid (B < wr.heap.size)) (fun _ s _ => L - (intOf s).toNat)
    case atStart => exact ⟨0, by omega, rfl, hid ⟨_, _, _, rfl⟩, hid (by rw [List.take_zero]; show BytAt _ _ _ (headM m ++ []); rw [List.append_nil]; exact HB8.out), HK8, HM8, HZ8⟩
    case round =>
      obtain ⟨k, hk, rfl, hv, hR, hK, hM, hZ⟩ := hrel
      obtain ⟨va, vn, vc, rfl⟩ := hv.out
      have hMc := hM.out.cell 0 rfl
      by_cases hlt : k < L
      · obtain ⟨b0, o0, hab, hc0, hc1, hc2, hc3⟩ := (HS.out.stay hK.out).cell HL.out k hlt
        have hkl : k < m.bl.length := by have := HL.out; omega
        have hxi := HCI.out.2.2 m.bl[k] (List.getElem_mem hkl)
        have hts : refsB (m.bl.take (k + 1)) = refsB (m.bl.take k) ++ refB m.bl[k] := by
          rw [← List.take_append_getElem hkl, refsB_snoc]
        have hrl : (refsB (m.bl.take k)).length ≤ 40 * 200 := by
          have h1 := refsB_len (l := m.bl.take k) (fun x hx => HCI.out.2.2 x (List.mem_of_mem_take hx))
          have h2 : (m.bl.take k).length ≤ 200 := by rw [List.length_take]; have := HCI.out.1; omega
          omega
        have hhl := headM_len HCI.out.2.1
        obtain ⟨⟨xi, xl, xf, xt⟩, hX⟩ : ∃ x, m.bl[k] = x := ⟨_, rfl⟩
        rw [hX] at hc0 hc1 hc2 hc3 hxi hts
        simp only at hc0 hc1 hc2 hc3
        obtain ⟨wx, hwx⟩ : ∃ wx, wr.alloc (.cells #[.int .i64 xi, .int .i64 xl, .int .i64 xf, .int .i64 xt] 54) = wx := ⟨_, rfl⟩
        have hXB : Blk wx wr.heap.size [.int .i64 xi, .int .i64 xl, .int .i64 xf, .int .i64 xt] 54 := by
          rw [← hwx]
          exact Blk.new wr [.int .i64 xi, .int .i64 xl, .int .i64 xf, .int .i64 xt] 54
        have kx : Kept wr wx := by
          rw [← hwx]
          exact (Only.refl _ wr).alloc _
        have HBV2 : Hid (BytAt wx B (.slice va vn vc) (headM m ++ refsB (m.bl.take k))) := hid (ownN_stay hR.out kx)
        have HXB := hid hXB
        have HKX := hid (hK.out.trans kx (fun _ _ f => f))
        have HMX := hid (Only.blk kx hM.out (fun f => f))
        have HBZ2 : Hid (B ≤ wx.heap.size) := hid (by have := kx.size; have := hZ.out; omega)
        have HLE2 : Hid ((headM m ++ refsB (m.bl.take k)).length + (putN (uN xi)).length + (putN (uN xl)).length ≤ 90000) := hid (by
          have q1 := put10 xi
          have q2 := put10 xl
          rw [List.length_append]
          omega)
        have HLE3 : Hid ((headM m ++ refsB (m.bl.take k) ++ putN (uN xi) ++ putN (uN xl)).length + (putN (zigN xf)).length + (putN (zigN xt)).length ≤ 90000) := hid (by
          have q1 := put10 xi
          have q2 := put10 xl
          have q3 := sgn10 (x := xf) hxi.1
          have q4 := sgn10 (x := xt) hxi.2
          simp only [List.length_append]
          omega)
        have HXI := hid hxi
        have HTS := hid hts
        have HNE : Hid (wr.heap.size ≠ B) := hid (by have := hZ.out; omega)
        have HWX := hid hwx
        have hBr := hZ.out
        have HLT := hid hlt
        subst hab
        clear hxi hts hrl hhl hX hXB kx hwx hkl hBr
        go_wp2_with fail
        rw [HWX.out]
        clear hc0 hc1 hc2 hc3 hMc
        have hA2 : Hid (∀ X, Only (TyO wx B B) wx X → X.cell? ⟨wr.heap.size, 0, none⟩ = some (.int .i64 xi) ∧ X.cell? ⟨wr.heap.size, 1, none⟩ = some (.int .i64 xl)) := hid (fun X kx => by
          have hh := tyO_blk kx HXB.out HNE.out (by decide)
          exact ⟨hh.cell 0 rfl, hh.cell 1 rfl⟩)
        have hS : (fun w' : World => Only (TyO wx B B) wx w') wx.drew := (Only.refl _ wx).drew
        refine wp_region_noPanic ?_
        refine wp_region_last (L := 9) (S := fun w' => Only (TyO wx B B) wx w') (by kernel_rfl) ?_
        refine wpAnyL_take (i := 0) (v := .slice va vn vc) rfl (by kernel_rfl) (by kernel_rfl) (by kernel_rfl) (by kernel_rfl) (by kernel_rfl) (fun _ _ _ h => h) (Or.inl ⟨by kernel_rfl, ?_⟩) hS ?_
        · (intro w' hSw; obtain ⟨x0, x1⟩ := hA2.out w' hSw; clear hSw; go_simp)
        (try simp only [List.getElem_toArray, List.getElem_cons_succ, List.getElem_cons_zero])
        go_frame
        refine wpAnyL_take (i := 1) (v := .pointer (some ⟨wr.heap.size, 0, none⟩)) rfl (by kernel_rfl) (by kernel_rfl) (by kernel_rfl) (by kernel_rfl) (by kernel_rfl) (fun _ _ _ h => h) (Or.inl ⟨by kernel_rfl, ?_⟩) hS ?_
        · (intro w' hSw; obtain ⟨x0, x1⟩ := hA2.out w' hSw; clear hSw; go_simp)
        (try simp only [List.getElem_toArray, List.getElem_cons_succ, List.getElem_cons_zero])
        go_frame
        refine wpAnyL_take (i := 2) (v := .int .i64 xi) rfl (by kernel_rfl) (by kernel_rfl) (by kernel_rfl) (by kernel_rfl) (by kernel_rfl) (fun _ _ _ h => h) (Or.inl ⟨by kernel_rfl, ?_⟩) hS ?_
        · (intro w' hSw; obtain ⟨x0, x1⟩ := hA2.out w' hSw; clear hSw; go_simp)
        (try simp only [List.getElem_toArray, List.getElem_cons_succ, List.getElem_cons_zero])
        go_frame
        refine wpAnyL_take (i := 5) (v := .pointer (some ⟨wr.heap.size, 1, none⟩)) rfl (by kernel_rfl) (by kernel_rfl) (by kernel_rfl) (by kernel_rfl) (by kernel_rfl) (fun _ _ _ h => h) (Or.inl ⟨by kernel_rfl, ?_⟩) hS ?_
        · (intro w' hSw; obtain ⟨x0, x1⟩ := hA2.out w' hSw; clear hSw; go_simp)
        (try simp only [List.getElem_toArray, List.getElem_cons_succ, List.getElem_cons_zero])
        go_frame
        refine wpAnyL_take (i := 6) (v := .int .i64 xl) rfl (by kernel_rfl) (by kernel_rfl) (by kernel_rfl) (by kernel_rfl) (by kernel_rfl) (fun _ _ _ h => h) (Or.inl ⟨by kernel_rfl, ?_⟩) hS ?_
        · (intro w' hSw; obtain ⟨x0, x1⟩ := hA2.out w' hSw; clear hSw; go_simp)
        (try simp only [List.getElem_toArray, List.getElem_cons_succ, List.getElem_cons_zero])
        go_frame
        refine wpAnyL_one (i := 3) (by kernel_rfl) rfl (by kernel_rfl) ?_
        go_simp
        refine ((hid (fun X => U.rput_any X xi)).out _).mono ?_
        rintro e u1_2 ⟨pv1_2, rfl, hp1_2, k1_2⟩
        have kk1_2 : Kept wx u1_2 := ((Only.refl _ wx).drew).trans k1_2 (fun _ _ f => f)
        have bb1_2 := ownN_stay HBV2.out kk1_2
        obtain ⟨a1_2, n1_2, c1_2, u2_2, HR1_2, hn1_2, h1_2, o1_2⟩ := byt_app bb1_2 (own_src hp1_2) (by have := HLE2.out; omega) (Nat.le_trans HBZ2.out kk1_2.size)
        have S1_2 : Only (TyO wx B B) wx u1_2 := kk1_2.mono (fun _ _ f => f.elim)
        have S2_2 : Only (TyO wx B B) wx u2_2 := tyO_trans S1_2 (o1_2.out.mono (fun j _ e => .inr ⟨(ownN_lt bb1_2 e).1, ownN_typed bb1_2 e⟩))
        have HS12 := hid S1_2
        clear hn1_2
        have HS22 := hid S2_2
        have HB12 := hid h1_2.out
        have HZ12 := hid (Nat.le_trans HBZ2.out S2_2.size)
        obtain ⟨pa1_2, pc1_2, hpe1_2⟩ := ownN_slice hp1_2
        subst hpe1_2
        clear hp1_2 k1_2 kk1_2 bb1_2 h1_2 o1_2 S1_2 S2_2
        refine ⟨HS12.out, ?_⟩
        (try simp only [List.getElem_toArray, List.getElem_cons_succ, List.getElem_cons_zero])
        (try go_frame)
        refine wpAnyL_one (i := 4) (by kernel_rfl) rfl (by kernel_rfl) (oper_appendH _ _ _ rfl rfl rfl HR1_2 ?_)
        refine ⟨HS22.out, ?_⟩
        (try go_frame)
        refine wpAnyL_one (i := 7) (by kernel_rfl) rfl (by kernel_rfl) ?_
        go_simp
        refine ((hid (fun X => U.rput_any X xl)).out _).mono ?_
        rintro e u3_2 ⟨pv2_2, rfl, hp2_2, k2_2⟩
        have bb2_2 := ownN_stay HB12.out k2_2
        obtain ⟨a2_2, n2_2, c2_2, u4_2, HR2_2, hn2_2, h2_2, o2_2⟩ := byt_app bb2_2 (own_src hp2_2) (by rw [List.length_append]; have := HLE2.out; omega) (Nat.le_trans HZ12.out k2_2.size)
        have S3_2 : Only (TyO wx B B) wx u3_2 := HS22.out.trans k2_2 (fun _ _ f => f.elim)
        have S4_2 : Only (TyO wx B B) wx u4_2 := tyO_trans S3_2 (o2_2.out.mono (fun j _ e => .inr ⟨(ownN_lt bb2_2 e).1, ownN_typed bb2_2 e⟩))
        have HS32 := hid S3_2
        have HS42 := hid S4_2
        have HB22 := hid h2_2.out
        have HZ22 := hid (Nat.le_trans HBZ2.out S4_2.size)
        obtain ⟨pa2_2, pc2_2, hpe2_2⟩ := ownN_slice hp2_2
        subst hpe2_2
        clear hp2_2 k2_2 bb2_2 h2_2 o2_2 S3_2 S4_2 hn2_2 HR1_2
        refine ⟨HS32.out, ?_⟩
        (try simp only [List.getElem_toArray, List.getElem_cons_succ, List.getElem_cons_zero])
        (try go_frame)
        refine wpAnyL_one (i := 8) (by kernel_rfl) rfl (by kernel_rfl) (oper_appendH _ _ _ rfl rfl rfl HR2_2 ?_)
        refine ⟨HS42.out, ?_⟩
        (try go_frame)
        refine wpAnyL_last (by kernel_rfl) (by kernel_rfl) rfl (by kernel_rfl) ?_
        go_simp
        refine NoPanic.normal ?_
        clear HR2_2 hS hA2
        have HX2 := hid (tyO_blk HS42.out HXB.out HNE.out (by decide))
        have HBZ3 := HZ22
        go_wp2_with fail
        have hA3 : Hid (∀ X, Only (TyO u4_2 B B) u4_2 X → X.cell? ⟨wr.heap.size, 2, none⟩ = some (.int .i64 xf) ∧ X.cell? ⟨wr.heap.size, 3, none⟩ = some (.int .i64 xt)) := hid (fun X kx => by
          have hh := tyO_blk kx HX2.out HNE.out (by decide)
          exact ⟨hh.cell 2 rfl, hh.cell 3 rfl⟩)
        have hS : (fun w' : World => Only (TyO u4_2 B B) u4_2 w') u4_2.drew := (Only.refl _ u4_2).drew
        refine wp_region_noPanic ?_
        refine wp_region_last (L := 9) (S := fun w' => Only (TyO u4_2 B B) u4_2 w') (by kernel_rfl) ?_
        refine wpAnyL_take (i := 0) (v := .slice a2_2 n2_2 c2_2) rfl (by kernel_rfl) (by kernel_rfl) (by kernel_rfl) (by kernel_rfl) (by kernel_rfl) (fun _ _ _ h => h) (Or.inl ⟨by kernel_rfl, ?_⟩) hS ?_
        · (intro w' hSw; obtain ⟨x0, x1⟩ := hA3.out w' hSw; clear hSw; go_simp)
        (try simp only [List.getElem_toArray, List.getElem_cons_succ, List.getElem_cons_zero])
        go_frame
        refine wpAnyL_take (i := 1) (v := .pointer (some ⟨wr.heap.size, 2, none⟩)) rfl (by kernel_rfl) (by kernel_rfl) (by kernel_rfl) (by kernel_rfl) (by kernel_rfl) (fun _ _ _ h => h) (Or.inl ⟨by kernel_rfl, ?_⟩) hS ?_
        · (intro w' hSw; obtain ⟨x0, x1⟩ := hA3.out w' hSw; clear hSw; go_simp)
        (try simp only [List.getElem_toArray, List.getElem_cons_succ, List.getElem_cons_zero])
        go_frame
        refine wpAnyL_take (i := 2) (v := .int .i64 xf) rfl (by kernel_rfl) (by kernel_rfl) (by kernel_rfl) (by kernel_rfl) (by kernel_rfl) (fun _ _ _ h => h) (Or.inl ⟨by kernel_rfl, ?_⟩) hS ?_
        · (intro w' hSw; obtain ⟨x0, x1⟩ := hA3.out w' hSw; clear hSw; go_simp)
        (try simp only [List.getElem_toArray, List.getElem_cons_succ, List.getElem_cons_zero])
        go_frame
        refine wpAnyL_take (i := 5) (v := .pointer (some ⟨wr.heap.size, 3, none⟩)) rfl (by kernel_rfl) (by kernel_rfl) (by kernel_rfl) (by kernel_rfl) (by kernel_rfl) (fun _ _ _ h => h) (Or.inl ⟨by kernel_rfl, ?_⟩) hS ?_
        · (intro w' hSw; obtain ⟨x0, x1⟩ := hA3.out w' hSw; clear hSw; go_simp)
        (try simp only [List.getElem_toArray, List.getElem_cons_succ, List.getElem_cons_zero])
        go_frame
        refine wpAnyL_take (i := 6) (v := .int .i64 xt) rfl (by kernel_rfl) (by kernel_rfl) (by kernel_rfl) (by kernel_rfl) (by kernel_rfl) (fun _ _ _ h => h) (Or.inl ⟨by kernel_rfl, ?_⟩) hS ?_
        · (intro w' hSw; obtain ⟨x0, x1⟩ := hA3.out w' hSw; clear hSw; go_simp)
        (try simp only [List.getElem_toArray, List.getElem_cons_succ, List.getElem_cons_zero])
        go_frame
        refine wpAnyL_one (i := 3) (by kernel_rfl) rfl (by kernel_rfl) ?_
        go_simp
        refine ((hid (fun X => U.rsigned_any X xf HXI.out.1)).out _).mono ?_
        rintro e u1_3 ⟨pv1_3, rfl, hp1_3, k1_3⟩
        have kk1_3 : Kept u4_2 u1_3 := ((Only.refl _ u4_2).drew).trans k1_3 (fun _ _ f => f)
        have bb1_3 := ownN_stay HB22.out kk1_3
        obtain ⟨a1_3, n1_3, c1_3, u2_3, HR1_3, hn1_3, h1_3, o1_3⟩ := byt_app bb1_3 (own_src hp1_3) (by have := HLE3.out; omega) (Nat.le_trans HBZ3.out kk1_3.size)
        have S1_3 : Only (TyO u4_2 B B) u4_2 u1_3 := kk1_3.mono (fun _ _ f => f.elim)
        have S2_3 : Only (TyO u4_2 B B) u4_2 u2_3 := tyO_trans S1_3 (o1_3.out.mono (fun j _ e => .inr ⟨(ownN_lt bb1_3 e).1, ownN_typed bb1_3 e⟩))
        have HS13 := hid S1_3
        clear hn1_3
        have HS23 := hid S2_3
        have HB13 := hid h1_3.out
        have HZ13 := hid (Nat.le_trans HBZ3.out S2_3.size)
        obtain ⟨pa1_3, pc1_3, hpe1_3⟩ := ownN_slice hp1_3
        subst hpe1_3
        clear hp1_3 k1_3 kk1_3 bb1_3 h1_3 o1_3 S1_3 S2_3
        refine ⟨HS13.out, ?_⟩
        (try simp only [List.getElem_toArray, List.getElem_cons_succ, List.getElem_cons_zero])
        (try go_frame)
        refine wpAnyL_one (i := 4) (by kernel_rfl) rfl (by kernel_rfl) (oper_appendH _ _ _ rfl rfl rfl HR1_3 ?_)
        refine ⟨HS23.out, ?_⟩
        (try go_frame)
        refine wpAnyL_one (i := 7) (by kernel_rfl) rfl (by kernel_rfl) ?_
        go_simp
        refine ((hid (fun X => U.rsigned_any X xt HXI.out.2)).out _).mono ?_
        rintro e u3_3 ⟨pv2_3, rfl, hp2_3, k2_3⟩
        have bb2_3 := ownN_stay HB13.out k2_3
        obtain ⟨a2_3, n2_3, c2_3, u4_3, HR2_3, hn2_3, h2_3, o2_3⟩ := byt_app bb2_3 (own_src hp2_3) (by rw [List.length_append]; have := HLE3.out; omega) (Nat.le_trans HZ13.out k2_3.size)
        have S3_3 : Only (TyO u4_2 B B) u4_2 u3_3 := HS23.out.trans k2_3 (fun _ _ f => f.elim)
        have S4_3 : Only (TyO u4_2 B B) u4_2 u4_3 := tyO_trans S3_3 (o2_3.out.mono (fun j _ e => .inr ⟨(ownN_lt bb2_3 e).1, ownN_typed bb2_3 e⟩))
        have HS33 := hid S3_3
        have HS43 := hid S4_3
        have HB23 := hid h2_3.out
        have HZ23 := hid (Nat.le_trans HBZ3.out S4_3.size)
        obtain ⟨pa2_3, pc2_3, hpe2_3⟩ := ownN_slice hp2_3
        subst hpe2_3
        clear hp2_3 k2_3 bb2_3 h2_3 o2_3 S3_3 S4_3 hn2_3 HR1_3
        refine ⟨HS33.out, ?_⟩
        (try simp only [List.getElem_toArray, List.getElem_cons_succ, List.getElem_cons_zero])
        (try go_frame)
        refine wpAnyL_one (i := 8) (by kernel_rfl) rfl (by kernel_rfl) (oper_appendH _ _ _ rfl rfl rfl HR2_3 ?_)
        refine ⟨HS43.out, ?_⟩
        (try go_frame)
        refine wpAnyL_last (by kernel_rfl) (by kernel_rfl) rfl (by kernel_rfl) ?_
        go_simp
        refine NoPanic.normal ?_
        clear HR2_3 hS hA3
        have HKE := hid (tyO_kept2 HS43.out (tyO_kept2 HS42.out HKX.out HWB.out) HWB.out)
        have HME := hid (tyO_blk HS43.out (tyO_blk HS42.out HMX.out (by have := HWB.out; omega) (by decide)) (by have := HWB.out; omega) (by decide))
        have HZE : Hid (B < u4_3.heap.size) := hid (Nat.lt_of_lt_of_le (Nat.lt_of_lt_of_le (Nat.lt_of_lt_of_le hZ.out (by have := HKX.out.size; have := HXB.out.lt; omega)) HS42.out.size) HS43.out.size)
        have HRE : Hid (BytAt u4_3 B (.slice a2_3 n2_3 c2_3) (headM m ++ refsB (m.bl.take (k + 1)))) := hid (by
          rw [HTS.out]
          have h := HB23.out
          unfold refB
          simp only [List.append_assoc] at h ⊢
          exact h)
        clear hR hK hM
        go_wp2_with fail
        go_roundw
        case rel => exact ⟨k + 1, by have := HLT.out; omega, by go_num, hid ⟨_, _, _, rfl⟩, HRE, HKE, HME, HZE⟩
        case measure => simp [intOf]; have := HLT.out; omega
      · have e : k = L := by omega
        subst e
        have hRB : BytAt wr B (.slice va vn vc) (bodyM m) := by
          have h := hR.out
          rw [List.take_of_length_le (by have := HL.out; omega)] at h
          exact h
        have hbl : (bodyM m).length ≤ 8100 := by
          have h1 := refsB_len (l := m.bl) HCI.out.2.2
          have h2 := headM_len HCI.out.2.1
          have h3 := HCI.out.1
          unfold bodyM
          rw [List.length_append]
          omega
        have HSE := hid (sealed_any wr B (.slice va vn vc) (bodyM m) hRB (Nat.le_of_lt hZ.out) (by omega))
        have HRB := hid hRB
        clear hRB hbl
        go_wp2_with fail
        refine HSE.out.mono ?_
        rintro e w9 ⟨u, rfl, hu, ho⟩
        have HF : Hid (PQ (.returned (.tuple #[u, .int .i64 0])) w9) := hid (by
          rw [← HPQ.out]
          refine ⟨hK.out.trans ho (fun j hj e => by have := (ownN_lt HRB.out e).1; have := HWB.out; omega), .inr ⟨HCKE.out, u, rfl, ?_⟩⟩
          have hh := ownN_base hu (Nat.le_of_lt HWB.out)
          unfold packM
          exact hh)
        obtain ⟨ua, uc, hue⟩ := ownN_slice hu
        generalize (bodyM m ++ G.four (G.sumL (bodyM m))).length = UL at hue
        subst hue
        clear hu ho HSE
        go_wp2_with fail
        (try go_ret)
        exact HF.out
  · have HF : Hid (PQ (.returned (.tuple #[.slice none 0 0, .int .i64 CK])) w2) := hid (by
      rw [← HPQ.out]
      exact ⟨HK2.out, .inl ⟨by rw [HCKE.out]; exact h0, by rw [HCKE.out]⟩⟩)
    have e0 : (CK != 0) = true := by simpa using h0
    clear h0 k2 HCK
    go_wp2
    (try go_ret)
    exact HF.out
end Go.Proofs.YtjifcgphlidimaaDoor.J
