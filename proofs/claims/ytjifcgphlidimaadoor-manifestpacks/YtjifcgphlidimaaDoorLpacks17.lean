/-
  The law ManifestPacks, walked.
-/
import Derived.Test.YtjifcgphlidimaaDoorLreads17
namespace Go.Proofs.YtjifcgphlidimaaDoor.J
open Go Go.RowKit Go.Proofs.Lys
set_option linter.unusedVariables false
set_option linter.unusedSimpArgs false

/-- The bytes that Pack tells. -/
def pkB (m : Man) : List UInt8 := if chkO m = 0 then packM m else []
theorem PackP.ans {w w' : World} {m : Man} {e : Ending} (h : PackP w m e w') : Kept w w' ∧ ∃ a n c, e = .returned (.tuple #[.slice a n c, .int .i64 (chkO m)]) ∧ BytAt w' w.heap.size (.slice a n c) (pkB m) := by
  obtain ⟨k, ⟨h0, rfl⟩ | ⟨h0, v, rfl, hb⟩⟩ := h
  · refine ⟨k, none, 0, 0, rfl, ?_⟩
    unfold pkB
    rw [if_neg h0]
    exact ⟨rfl, .inl ⟨rfl, rfl⟩⟩
  · obtain ⟨a, c, rfl⟩ := ownN_slice hb
    refine ⟨k, a, _, c, by rw [h0], ?_⟩
    unfold pkB
    rw [if_pos h0]
    exact hb
theorem pkB_len (m : Man) : (pkB m).length ≤ 9000 := by
  unfold pkB
  by_cases h0 : chkO m = 0
  · rw [if_pos h0]
    have hci := chk_in h0
    have h1 := refsB_len (l := m.bl) hci.2.2
    have h2 := headM_len hci.2.1
    have h3 := hci.1
    have h4 : (G.four (G.sumL (bodyM m))).length = 4 := rfl
    unfold packM
    rw [List.length_append, h4]
    unfold bodyM
    rw [List.length_append]
    omega
  · rw [if_neg h0]
    exact Nat.zero_le _
theorem isM_pack {m n : Man} {x : Int} (h0 : chkO m = 0) (h : AnsM (packM m) n x) : n = m ∧ x = 0 := by
  have k : AnsM (packM m) m 0 := .inl ⟨⟨h0, rfl⟩, rfl⟩
  exact h.inj k
set_option maxRecDepth 100000 in
set_option maxHeartbeats 6400000 in
theorem packs17_walk (w : World) (a1 a2 : Option Addr) (c1 c2 : Nat) (m o : Man) (h1 : RfSrc w (.slice a1 m.bl.length c1) m.bl) (h2 : RfSrc w (.slice a2 o.bl.length c2) o.bl) (hT : G.Tab w) :
    Calls Tryd.prog 3 #[manV (.slice a1 m.bl.length c1) m, manV (.slice a2 o.bl.length c2) o] w fun e w' => e = .returned (.bool true) ∧ Kept w w' := by
  obtain ⟨PQ, hPQ⟩ : ∃ PQ, (fun (e : Ending) (w' : World) => e = .returned (.bool true) ∧ Kept w w') = PQ := ⟨_, rfl⟩
  rw [hPQ]
  have HPQ := hid hPQ
  have HF : Hid (∀ W, Kept w W → PQ (.returned (.bool true)) W) := hid (fun W k => by rw [← HPQ.out]; exact ⟨rfl, k⟩)
  have HCHK : Hid (∀ W, Kept w W → Calls Tryd.prog 6 #[manV (.slice a1 m.bl.length c1) m] W fun e w' => e = .returned (.int .i64 (chkO m)) ∧ Kept W w') := hid (fun W k => check_any W a1 c1 m (h1.stay k))
  have HRCK : Hid (∀ W, Kept w W → Calls Tryd.prog 10 #[manV (.slice a1 m.bl.length c1) m] W fun e w' => e = .returned (.int .i64 (chkO m)) ∧ Kept W w') := hid (fun W k => rcheck_any W a1 c1 m (h1.stay k))
  have HPK1 : Hid (∀ W, Kept w W → Calls Tryd.prog 7 #[manV (.slice a1 m.bl.length c1) m] W (PackP W m)) := hid (fun W k => pack_any W a1 c1 m (h1.stay k) (hT.stay k))
  have HPK2 : Hid (∀ W, Kept w W → Calls Tryd.prog 7 #[manV (.slice a2 o.bl.length c2) o] W (PackP W o)) := hid (fun W k => pack_any W a2 c2 o (h2.stay k) (hT.stay k))
  have HRPK : Hid (∀ W, Kept w W → Calls Tryd.prog 8 #[manV (.slice a1 m.bl.length c1) m] W (PackP W m)) := hid (fun W k => rpack_any W a1 c1 m (h1.stay k))
  have HH1 := hid h1
  have HT := hid hT
  have HCI : Hid (chkO m = 0 → m.bl.length ≤ 200) := hid (fun h0 => (chk_in h0).1)
  have HMM : Hid (∃ q : Man, q = m) := hid ⟨m, rfl⟩
  obtain ⟨C, hC⟩ : ∃ C, chkO m = C := ⟨_, rfl⟩
  obtain ⟨C2, hC2⟩ : ∃ C2, chkO o = C2 := ⟨_, rfl⟩
  rw [hC] at HCHK HRCK
  have HC := hid hC
  have HC2 := hid hC2
  obtain ⟨L, N, Gn, Lo, hL, hN, hG, hLo⟩ : ∃ L N Gn Lo, m.bl.length = L ∧ m.next = N ∧ m.log = Gn ∧ m.low = Lo := ⟨_, _, _, _, rfl, rfl, rfl, rfl⟩
  obtain ⟨L2, N2, Gn2, Lo2, hL2, hN2, hG2, hLo2⟩ : ∃ L N Gn Lo, o.bl.length = L ∧ o.next = N ∧ o.log = Gn ∧ o.low = Lo := ⟨_, _, _, _, rfl, rfl, rfl, rfl⟩
  unfold manV at HCHK HRCK HPK1 HPK2 HRPK ⊢
  rw [hL, hN, hG, hLo] at HCHK HRCK HPK1 HRPK
  rw [hL2, hN2, hG2, hLo2] at HPK2
  rw [hL, hN, hG, hLo, hL2, hN2, hG2, hLo2]
  have HL := hid hL
  have HN := hid hN
  have HG := hid hG
  have HLo := hid hLo
  have HL2 := hid hL2
  obtain ⟨w1, hw1⟩ : ∃ w1, (w.alloc (.cells #[.slice a1 L c1, .int .i64 N, .int .i64 Gn, .int .i64 Lo] 24)).alloc (.cells #[.slice a2 L2 c2, .int .i64 N2, .int .i64 Gn2, .int .i64 Lo2] 24) = w1 := ⟨_, rfl⟩
  have k1 : Kept w w1 := by rw [← hw1]; exact ((Only.refl _ w).alloc _).alloc _
  have hM1 : Blk w1 w.heap.size [.slice a1 L c1, .int .i64 N, .int .i64 Gn, .int .i64 Lo] 24 := by rw [← hw1]; exact (Blk.new w [.slice a1 L c1, .int .i64 N, .int .i64 Gn, .int .i64 Lo] 24).alloc _
  have hO1 : Blk w1 (w.heap.size + 1) [.slice a2 L2 c2, .int .i64 N2, .int .i64 Gn2, .int .i64 Lo2] 24 := by
    have := Blk.new (w.alloc (.cells #[.slice a1 L c1, .int .i64 N, .int .i64 Gn, .int .i64 Lo] 24)) [.slice a2 L2 c2, .int .i64 N2, .int .i64 Gn2, .int .i64 Lo2] 24
    rw [World.size_alloc] at this
    rw [← hw1]
    exact this
  have HA := hid (alive17_any w1)
  have HW1 := hid hw1
  have HK1 := hid k1
  have HM1 := hid hM1
  have HO1 := hid hO1
  clear h1 h2 hT hPQ hC hC2 hL hN hG hLo hL2 hN2 hG2 hLo2 hw1 k1 hM1 hO1
  go_enter Tryd.func3, Tryd.ntmps3
  go_wp2_with fail
  rw [HW1.out]
  go_wp2_with fail
  refine HA.out.mono ?_
  rintro e w2 ⟨rfl, k2⟩
  have HK2 := hid (HK1.out.trans k2 (fun _ _ f => f))
  have hM2 := Only.blk k2 HM1.out (fun f => f)
  have hO2 := Only.blk k2 HO1.out (fun f => f)
  have m0 := hM2.cell 0 rfl
  have m1 := hM2.cell 1 rfl
  have m2 := hM2.cell 2 rfl
  have m3 := hM2.cell 3 rfl
  have o0 := hO2.cell 0 rfl
  have HM2 := hid hM2
  have HO2 := hid hO2
  have HFF := hid (HF.out _ HK2.out)
  clear k2 hM2 hO2 HA
  by_cases hb1 : 400 < L
  · have d1 : decide (400 < (L : Int)) = true := decide_eq_true (by omega)
    clear hb1
    go_wp2_with fail
    (try go_ret)
    exact HFF.out
  have d1 : decide (400 < (L : Int)) = false := decide_eq_false (by omega)
  by_cases hb2 : 400 < L2
  · have d2 : decide (400 < (L2 : Int)) = true := decide_eq_true (by omega)
    clear hb1 hb2
    go_wp2_with fail
    (try go_ret)
    exact HFF.out
  have d2 : decide (400 < (L2 : Int)) = false := decide_eq_false (by omega)
  clear hb1 hb2
  have HCH := hid (HCHK.out w2 HK2.out)
  go_wp2_with fail
  refine HCH.out.mono ?_
  rintro e w3 ⟨rfl, k3⟩
  have HK3 := hid (HK2.out.trans k3 (fun _ _ f => f))
  have hM3 := Only.blk k3 HM2.out (fun f => f)
  have HM3 := hid hM3
  have HO3 := hid (Only.blk k3 HO2.out (fun f => f))
  have HP3 := hid (HPK1.out w3 HK3.out)
  have n0 := hM3.cell 0 rfl
  have n1 := hM3.cell 1 rfl
  have n2 := hM3.cell 2 rfl
  have n3 := hM3.cell 3 rfl
  clear k3 hM3 m0 m1 m2 m3 o0 HCH
  go_wp2_with fail
  refine HP3.out.mono ?_
  intro e w4 hp4
  obtain ⟨k4, ba, bn, bc, rfl, hb4⟩ := hp4.ans
  rw [HC.out]
  have HK4 := hid (HK3.out.trans k4 (fun _ _ f => f))
  have hO4 := Only.blk k4 HO3.out (fun f => f)
  have HM4 := hid (Only.blk k4 HM3.out (fun f => f))
  have HB4 := hid hb4
  have HP4 := hid (HPK2.out w4 HK4.out)
  have o0 := hO4.cell 0 rfl
  have o1 := hO4.cell 1 rfl
  have o2 := hO4.cell 2 rfl
  have o3 := hO4.cell 3 rfl
  clear k4 hO4 n0 n1 n2 n3 hp4 hb4 HP3
  go_wp2_with fail
  refine HP4.out.mono ?_
  intro e w5 hp5
  obtain ⟨k5, da, dn, dc, rfl, hd5⟩ := hp5.ans
  rw [HC2.out]
  have HK5 := hid (HK4.out.trans k5 (fun _ _ f => f))
  have HM5 := hid (Only.blk k5 HM4.out (fun f => f))
  have HB5 := hid (ownN_stay HB4.out k5)
  have HD5 := hid hd5
  have hdl := pkB_len o
  have hdn : (pkB o).length = dn := by
    obtain ⟨_, _, e⟩ := ownN_slice hd5
    injection e with _ e _
    exact e.symm
  have HDN := hid hdn
  have hdn9 : dn ≤ 9000 := by omega
  have HZ5 : Hid (∀ j, (Value.slice da dn dc).ownBlock = some j → w4.heap.size ≤ j) := hid (fun j hj => (ownN_lt hd5 hj).1)
  have HZB : Hid (∀ j, (Value.slice ba bn bc).ownBlock = some j → j < w4.heap.size) := hid (fun j hj => (ownN_lt HB4.out hj).2)
  clear k5 hp5 hd5 hdl hdn o0 o1 o2 o3 HP4
  go_wp2_with fail
  go_loopw [11] (fun s wr => ∃ (k : Nat) (ds : List UInt8), k ≤ dn ∧ s = .int .i64 (k : Int) ∧ ds.length = dn ∧ Hid (BytAt wr w4.heap.size (.slice da dn dc) ds) ∧ Hid (Only (fun j => (Value.slice da dn dc).ownBlock = some j) w5 wr)) (fun s _ => dn - (intOf s).toNat)
  case atStart => exact ⟨0, pkB o, by omega, rfl, HDN.out, HD5, hid (Only.refl _ _)⟩
  case round =>
    obtain ⟨k, ds, hk, rfl, hds, hD, hO⟩ := hrel
    by_cases hlt : k < dn
    · obtain ⟨dg, dcap, hdv⟩ := ownN_some hD.out (by omega)
      have hdx : (Value.slice da dn dc) = .slice (some ⟨dg, 0, none⟩) dn dcap := by rw [hdv, hds]
      injection hdx with e1 e2 e3
      subst e1
      subst e3
      have hD' : wr.ownsRow w4.heap.size 5 1 (.slice (some ⟨dg, 0, none⟩) dn dc) dn (ds.map bV) := by
        have := hD.out
        unfold BytAt at this
        rw [hds] at this
        exact this
      obtain ⟨t0, t1, t2⟩ := G.own_turn6 hD' (k := k) (by omega)
      have hxb := G.xor_byte6 ds[k]
      obtain ⟨Y, hY⟩ : ∃ Y : UInt8, UInt8.ofNat (ds[k].toNat ^^^ 255) = Y := ⟨_, rfl⟩
      rw [hY] at hxb t2
      obtain ⟨X, hX⟩ : ∃ X : Nat, ds[k].toNat = X := ⟨_, rfl⟩
      obtain ⟨Z, hZ⟩ : ∃ Z : Nat, Y.toNat = Z := ⟨_, rfl⟩
      rw [hX] at hxb t0
      rw [hZ] at hxb t2
      have HD2 : Hid (BytAt (wr.setCell ⟨dg, k, none⟩ (.int .u8 (Z : Int))) w4.heap.size (.slice (some ⟨dg, 0, none⟩) dn dc) (ds.set k Y)) := hid (by
        unfold BytAt
        rw [List.length_set, hds]
        exact t2)
      have HO2' := hid (hO.out.setCell (p := ⟨dg, k, none⟩) (fun _ => by simp [Value.ownBlock]) (.int .u8 (Z : Int)))
      have HLS : Hid ((ds.set k Y).length = dn) := hid (by rw [List.length_set]; exact hds)
      clear hD hO hD' hdv t2 hX hY hZ
      go_wp2_with fail
      go_roundw
      case rel => exact ⟨k + 1, ds.set k Y, by omega, by go_num, HLS.out, HD2, HO2'⟩
      case measure => simp [intOf]; omega
    · have HM6 := hid (Only.blk hO.out HM5.out (fun e => by have := HZ5.out _ e; have := HM4.out.lt; omega))
      have HK6 : Hid (Kept w wr) := hid (HK5.out.trans hO.out (fun j hj e => by have := HZ5.out j e; have := HK4.out.size; omega))
      have HB6 := hid (ownN_only HB5.out hO.out (fun j hj e => by have := HZ5.out j e; have := HZB.out j hj; omega))
      have HP6 := hid (HRPK.out wr HK6.out)
      have n0 := HM6.out.cell 0 rfl
      have n1 := HM6.out.cell 1 rfl
      have n2 := HM6.out.cell 2 rfl
      have n3 := HM6.out.cell 3 rfl
      have hkd : decide ((k : Int) < (dn : Int)) = false := decide_eq_false (by omega)
      clear hD hO hds
      go_wp2_with fail
      refine HP6.out.mono ?_
      intro e w7 hp7
      obtain ⟨k7, wa, wn, wc, rfl, hw7⟩ := hp7.ans
      rw [HC.out]
      have HK7 := hid (HK6.out.trans k7 (fun _ _ f => f))
      have HM7 := hid (Only.blk k7 HM6.out (fun f => f))
      have HB7 := hid (ownN_stay HB6.out k7)
      have HW7 := hid hw7
      clear k7 hp7 hw7 n0 n1 n2 n3 HP6
      go_wp2_with fail
      have HA7 : Hid (∀ X, Kept w7 X → (X.cell? ⟨w.heap.size, 0, none⟩ = some (.slice a1 L c1) ∧ X.cell? ⟨w.heap.size, 1, none⟩ = some (.int .i64 N) ∧ X.cell? ⟨w.heap.size, 2, none⟩ = some (.int .i64 Gn) ∧ X.cell? ⟨w.heap.size, 3, none⟩ = some (.int .i64 Lo)) ∧ (convert 28 9 (.slice ba bn bc)).run Tryd.prog X = .ok (.string ⟨(pkB m).toArray⟩) X ∧ (convert 28 9 (.slice wa wn wc)).run Tryd.prog X = .ok (.string ⟨(pkB m).toArray⟩) X) := hid (fun X kx => by
        have hh := Only.blk kx HM7.out (fun f => f)
        exact ⟨⟨hh.cell 0 rfl, hh.cell 1 rfl, hh.cell 2 rfl, hh.cell 3 rfl⟩, G.bytes_str (own_src (ownN_stay HB7.out kx)), G.bytes_str (own_src (ownN_stay HW7.out kx))⟩)
      generalize hSA : (⟨(pkB m).toArray⟩ : ByteArray) = sA at HA7
      clear hSA
      have hS : (fun w' : World => Kept w7 w') w7.drew := (Only.refl _ w7).drew
      have HKD : Hid (Kept w w7.drew) := hid (HK7.out.trans hS (fun _ _ f => f))
      have HS7 := hid hS
      refine wp_region_noPanic ?_
      refine wp_region_last (L := 18) (S := fun w' => Kept w7 w') (by kernel_rfl) ?_
      refine wpAnyN_take (i := 0) (v := .int .i64 C) rfl (by kernel_rfl) (by kernel_rfl) (by kernel_rfl) (by decide) (by kernel_rfl) (fun _ _ _ h => h) (Or.inl ⟨by kernel_rfl, ?_⟩) hS ?_
      · (intro w' hSw; obtain ⟨⟨x0, x1, x2, x3⟩, x4, x5⟩ := HA7.out w' hSw; clear hSw; go_simp)
      (try simp only [List.getElem_toArray, List.getElem_cons_succ, List.getElem_cons_zero])
      go_frame
      refine wpAnyN_take (i := 2) (v := .agg #[.slice a1 L c1, .int .i64 N, .int .i64 Gn, .int .i64 Lo]) rfl (by kernel_rfl) (by kernel_rfl) (by kernel_rfl) (by decide) (by kernel_rfl) (fun _ _ _ h => h) (Or.inl ⟨by kernel_rfl, ?_⟩) hS ?_
      · (intro w' hSw; obtain ⟨⟨x0, x1, x2, x3⟩, x4, x5⟩ := HA7.out w' hSw; clear hSw; go_simp)
      (try simp only [List.getElem_toArray, List.getElem_cons_succ, List.getElem_cons_zero])
      go_frame
      refine wpAnyL_one (i := 1) (by kernel_rfl) rfl (by kernel_rfl) ?_
      go_simp
      refine (num17_any C _).mono ?_
      rintro e u1 ⟨rfl, rfl⟩
      refine ⟨HS7.out, ?_⟩
      (try simp only [List.getElem_toArray, List.getElem_cons_succ, List.getElem_cons_zero])
      (try go_frame)
      refine wpAnyL_one (i := 3) (by kernel_rfl) rfl (by kernel_rfl) ?_
      go_simp
      refine (HRCK.out _ HKD.out).mono ?_
      rintro e u3 ⟨rfl, ku⟩
      have hS3 : (fun w' : World => Kept w7 w') u3 := HS7.out.trans ku (fun _ _ f => f)
      have HS3 := hid hS3
      refine ⟨HS3.out, ?_⟩
      (try simp only [List.getElem_toArray, List.getElem_cons_succ, List.getElem_cons_zero])
      (try go_frame)
      clear ku hS
      refine wpAnyN_take (i := 4) (v := .bool false) rfl (by kernel_rfl) (by kernel_rfl) (by kernel_rfl) (by decide) (by kernel_rfl) (fun _ _ _ h => h) (Or.inl ⟨by kernel_rfl, ?_⟩) hS3 ?_
      · (intro w' hSw; obtain ⟨⟨x0, x1, x2, x3⟩, x4, x5⟩ := HA7.out w' hSw; clear hSw; go_simp)
      (try simp only [List.getElem_toArray, List.getElem_cons_succ, List.getElem_cons_zero])
      go_frame
      refine wpAnyN_take (i := 5) (v := .bool false) rfl (by kernel_rfl) (by kernel_rfl) (by kernel_rfl) (by decide) (by kernel_rfl) (fun _ _ _ h => h) (Or.inl ⟨by kernel_rfl, ?_⟩) hS3 ?_
      · (intro w' hSw; obtain ⟨⟨x0, x1, x2, x3⟩, x4, x5⟩ := HA7.out w' hSw; clear hSw; go_simp)
      (try simp only [List.getElem_toArray, List.getElem_cons_succ, List.getElem_cons_zero])
      go_frame
      refine wpAnyN_take (i := 6) (v := .int .i64 C) rfl (by kernel_rfl) (by kernel_rfl) (by kernel_rfl) (by decide) (by kernel_rfl) (fun _ _ _ h => h) (Or.inl ⟨by kernel_rfl, ?_⟩) hS3 ?_
      · (intro w' hSw; obtain ⟨⟨x0, x1, x2, x3⟩, x4, x5⟩ := HA7.out w' hSw; clear hSw; go_simp)
      (try simp only [List.getElem_toArray, List.getElem_cons_succ, List.getElem_cons_zero])
      go_frame
      refine wpAnyN_take (i := 8) (v := .int .i64 C) rfl (by kernel_rfl) (by kernel_rfl) (by kernel_rfl) (by decide) (by kernel_rfl) (fun _ _ _ h => h) (Or.inl ⟨by kernel_rfl, ?_⟩) hS3 ?_
      · (intro w' hSw; obtain ⟨⟨x0, x1, x2, x3⟩, x4, x5⟩ := HA7.out w' hSw; clear hSw; go_simp)
      (try simp only [List.getElem_toArray, List.getElem_cons_succ, List.getElem_cons_zero])
      go_frame
      refine wpAnyL_one (i := 7) (by kernel_rfl) rfl (by kernel_rfl) ?_
      go_simp
      refine (num17_any C _).mono ?_
      rintro e u4 ⟨rfl, rfl⟩
      refine ⟨HS3.out, ?_⟩
      (try simp only [List.getElem_toArray, List.getElem_cons_succ, List.getElem_cons_zero])
      (try go_frame)
      refine wpAnyN_take (i := 9) (v := .bool false) rfl (by kernel_rfl) (by kernel_rfl) (by kernel_rfl) (by decide) (by kernel_rfl) (fun _ _ _ h => h) (Or.inl ⟨by kernel_rfl, ?_⟩) hS3 ?_
      · (intro w' hSw; obtain ⟨⟨x0, x1, x2, x3⟩, x4, x5⟩ := HA7.out w' hSw; clear hSw; go_simp)
      (try simp only [List.getElem_toArray, List.getElem_cons_succ, List.getElem_cons_zero])
      go_frame
      refine wpAnyN_take (i := 10) (v := .bool false) rfl (by kernel_rfl) (by kernel_rfl) (by kernel_rfl) (by decide) (by kernel_rfl) (fun _ _ _ h => h) (Or.inl ⟨by kernel_rfl, ?_⟩) hS3 ?_
      · (intro w' hSw; obtain ⟨⟨x0, x1, x2, x3⟩, x4, x5⟩ := HA7.out w' hSw; clear hSw; go_simp)
      (try simp only [List.getElem_toArray, List.getElem_cons_succ, List.getElem_cons_zero])
      go_frame
      refine wpAnyN_take (i := 11) (v := .bool false) rfl (by kernel_rfl) (by kernel_rfl) (by kernel_rfl) (by decide) (by kernel_rfl) (fun _ _ _ h => h) (Or.inl ⟨by kernel_rfl, ?_⟩) hS3 ?_
      · (intro w' hSw; obtain ⟨⟨x0, x1, x2, x3⟩, x4, x5⟩ := HA7.out w' hSw; clear hSw; go_simp)
      (try simp only [List.getElem_toArray, List.getElem_cons_succ, List.getElem_cons_zero])
      go_frame
      refine wpAnyN_take (i := 12) (v := .slice ba bn bc) rfl (by kernel_rfl) (by kernel_rfl) (by kernel_rfl) (by decide) (by kernel_rfl) (fun _ _ _ h => h) (Or.inl ⟨by kernel_rfl, ?_⟩) hS3 ?_
      · (intro w' hSw; obtain ⟨⟨x0, x1, x2, x3⟩, x4, x5⟩ := HA7.out w' hSw; clear hSw; go_simp)
      (try simp only [List.getElem_toArray, List.getElem_cons_succ, List.getElem_cons_zero])
      go_frame
      refine wpAnyN_take (i := 14) (v := .slice wa wn wc) rfl (by kernel_rfl) (by kernel_rfl) (by kernel_rfl) (by decide) (by kernel_rfl) (fun _ _ _ h => h) (Or.inl ⟨by kernel_rfl, ?_⟩) hS3 ?_
      · (intro w' hSw; obtain ⟨⟨x0, x1, x2, x3⟩, x4, x5⟩ := HA7.out w' hSw; clear hSw; go_simp)
      (try simp only [List.getElem_toArray, List.getElem_cons_succ, List.getElem_cons_zero])
      go_frame
      refine wpAnyN_take (i := 13) (v := .string sA) rfl (by kernel_rfl) (by kernel_rfl) (by kernel_rfl) (by decide) (by kernel_rfl) (fun _ _ _ h => h) (Or.inl ⟨by kernel_rfl, ?_⟩) hS3 ?_
      · (intro w' hSw; obtain ⟨⟨x0, x1, x2, x3⟩, x4, x5⟩ := HA7.out w' hSw; clear hSw; go_simp)
      (try simp only [List.getElem_toArray, List.getElem_cons_succ, List.getElem_cons_zero])
      go_frame
      refine wpAnyN_take (i := 15) (v := .string sA) rfl (by kernel_rfl) (by kernel_rfl) (by kernel_rfl) (by decide) (by kernel_rfl) (fun _ _ _ h => h) (Or.inl ⟨by kernel_rfl, ?_⟩) hS3 ?_
      · (intro w' hSw; obtain ⟨⟨x0, x1, x2, x3⟩, x4, x5⟩ := HA7.out w' hSw; clear hSw; go_simp)
      (try simp only [List.getElem_toArray, List.getElem_cons_succ, List.getElem_cons_zero])
      go_frame
      refine wpAnyN_take (i := 16) (v := .bool false) rfl (by kernel_rfl) (by kernel_rfl) (by kernel_rfl) (by decide) (by kernel_rfl) (fun _ _ _ h => h) (Or.inl ⟨by kernel_rfl, ?_⟩) hS3 ?_
      · (intro w' hSw; obtain ⟨⟨x0, x1, x2, x3⟩, x4, x5⟩ := HA7.out w' hSw; clear hSw; go_simp)
      (try simp only [List.getElem_toArray, List.getElem_cons_succ, List.getElem_cons_zero])
      go_frame
      refine wpAnyN_take (i := 17) (v := .bool false) rfl (by kernel_rfl) (by kernel_rfl) (by kernel_rfl) (by decide) (by kernel_rfl) (fun _ _ _ h => h) (Or.inl ⟨by kernel_rfl, ?_⟩) hS3 ?_
      · (intro w' hSw; obtain ⟨⟨x0, x1, x2, x3⟩, x4, x5⟩ := HA7.out w' hSw; clear hSw; go_simp)
      (try simp only [List.getElem_toArray, List.getElem_cons_succ, List.getElem_cons_zero])
      go_frame
      refine wpAnyN_done (by kernel_rfl) ?_
      refine NoPanic.normal ?_
      have HK8 := hid (HK7.out.trans HS3.out (fun _ _ f => f))
      have HM8 := hid (Only.blk HS3.out HM7.out (fun f => f))
      have HB8 := hid (ownN_stay HB7.out HS3.out)
      clear hS3
      by_cases hc0 : C = 0
      · subst hc0
        have hpk : pkB m = packM m := by unfold pkB; rw [if_pos HC.out]
        have HB9 : Hid (BytAt u4 w3.heap.size (.slice ba bn bc) (packM m)) := hid (by rw [← hpk]; exact HB8.out)
        have hl9 : (packM m).length ≤ 9000 := by rw [← hpk]; exact pkB_len m
        obtain ⟨a9, n9, c9, w9, hr9, hb9, k9⟩ := byt_copy (own_src HB9.out) (by omega)
        have HR9 := hid hr9.out
        have HK9 := hid (HK8.out.trans k9 (fun _ _ f => f))
        have HM9 := hid (Only.blk k9 HM8.out (fun f => f))
        have HUN := hid (unpack_any w9 (.slice a9 n9 c9) (packM m) (by
          refine ⟨own_src hb9, ?_⟩
          rcases hb9.2 with ⟨hv, h0⟩ | ⟨g, cap, cur, hv, _, _, hcap, _⟩
          · exact ⟨none, 0, by rw [hv, h0], by omega⟩
          · exact ⟨_, cap, hv, hcap⟩) (by omega) (HT.out.stay HK9.out))
        clear hpk hl9 hr9 hb9 k9
        go_wp2_with (at_builtin; refine Lys.wpList_append_run rfl _ _ _ rfl rfl rfl HR9.out ?_)
        refine HUN.out.mono ?_
        intro e wA hu
        obtain ⟨kA, q, x, aA, cA, hans, rfl, hsrcA⟩ := hu.ans
        obtain ⟨hq, rfl⟩ := isM_pack HC.out hans
        rw [hq] at hsrcA ⊢
        unfold manV
        rw [HL.out] at hsrcA
        rw [HL.out, HN.out, HG.out, HLo.out]
        obtain ⟨wB, hwB⟩ : ∃ wB, wA.alloc (.cells #[.slice aA L cA, .int .i64 N, .int .i64 Gn, .int .i64 Lo] 24) = wB := ⟨_, rfl⟩
        have kB : Kept wA wB := by rw [← hwB]; exact (Only.refl _ wA).alloc _
        have hbB : Blk wB wA.heap.size [.slice aA L cA, .int .i64 N, .int .i64 Gn, .int .i64 Lo] 24 := by rw [← hwB]; exact Blk.new wA _ _
        have kAB := kA.trans kB (fun _ _ f => f)
        have hmB := Only.blk kAB HM9.out (fun f => f)
        have HKB := hid (HK9.out.trans kAB (fun _ _ f => f))
        have HNU := hid (num17_any 0 wB)
        have HH2 : Hid (RfSrc wB (.slice a1 L c1) m.bl) := hid (by
          have := HH1.out
          rw [HL.out] at this
          exact this.stay HKB.out)
        have HSA := hid (rsame_any wB a1 aA c1 cA L m.bl N Gn Lo HH2.out (hsrcA.stay kB) HL.out (by have := HCI.out HC.out; have := HL.out; omega))
        have HWB := hid hwB
        have y0 := hmB.cell 0 rfl
        have y1 := hmB.cell 1 rfl
        have y2 := hmB.cell 2 rfl
        have y3 := hmB.cell 3 rfl
        have z0 := hbB.cell 0 rfl
        have z1 := hbB.cell 1 rfl
        have z2 := hbB.cell 2 rfl
        have z3 := hbB.cell 3 rfl
        clear hu kA hans hsrcA hwB kB hbB kAB hmB HUN HR9
        go_wp2_with fail
        rw [HWB.out]
        go_wp2_with fail
        refine HNU.out.mono ?_
        rintro e w7 ⟨rfl, hw⟩
        replace hw := hw.symm
        subst hw
        go_wp2_with fail
        refine HSA.out.mono ?_
        rintro e wC ⟨rfl, kC⟩
        have HFC := hid (HF.out _ (HKB.out.trans kC (fun _ _ f => f)))
        clear kC HSA
        go_wp2_with fail
        (try go_ret)
        exact HFC.out
      · have hcb : (C != 0) = true := by simpa using hc0
        have HFC := hid (HF.out _ HK8.out)
        clear hc0
        go_wp2_with fail
        (try go_ret)
        exact HFC.out
end Go.Proofs.YtjifcgphlidimaaDoor.J
