/-
  Package frame: the iterator, walked.
-/
import Derived.Test.YtjohnomlhcncnaaDoorGi1
namespace Go.Proofs.YtjohnomlhcncnaaDoor.G
open Go.RowKit Go.Proofs.Lys Go.Shelf
set_option linter.unusedVariables false
attribute [local go_sem] Oper.semAt_some

theorem kept2 {a b c : World} (h : Kept a b) (k : Kept b c) : Kept a c := h.trans k (fun _ _ f => f)
set_option maxRecDepth 100000 in
set_option maxHeartbeats 3200000 in
theorem frames1_in (n : Nat) (hn : 1 ≤ n) (l Bn b o c : Nat) (bs : List UInt8) (hL : bs.length ≤ 400000) (a : Option Addr) (w : World) (hs : BSrc w (.slice a bs.length c) bs) (hT : Tab w) (ha : 0 < bs.length → a = some ⟨b, o, none⟩) (J Jx : List (FrmI bs.length) → World → Prop)
    (hJk : ∀ pre W W', J pre W → Kept W W' → J pre W')
    (hY : ∀ pre x W, J pre W → pre.length < bs.length + 1 → YieldAt Fence.wide (n - 1) Tryd.prog l #[.int .i64 ((x.1.1 + (9 + x.1.2) : Nat) : Int), .agg #[.int .i64 (frmK bs x : Int), frmV b o c x]] W fun e W' =>
      (e = .returned (.bool true) ∧ J (pre ++ [x]) W' ∧ KpB w.heap.size Bn W W') ∨ (e = .returned (.bool false) ∧ Jx (pre ++ [x]) W'))
    (W : World) (hBn : W.cell? ⟨Bn, 0, none⟩ = some (.slice a bs.length c)) (hbel : Below w.heap.size w W) (h0 : J [] W) :
    CallsIn Fence.wide n Tryd.prog 23 #[.func (.yield l) #[] #[], .pointer (some ⟨Bn, 0, none⟩)] W fun e W' => (∃ v, e = .returned v) ∧
      ((∃ ys, (ChainI bs ys ∧ readF (bs.drop (endI ys)) = none) ∧ J ys W') ∨ (∃ pre, ChainI bs pre ∧ Jx pre W')) := by
  refine callsIn_of_wp Tryd.func23 rfl trivial ?_ rfl
  simp only [Tryd.ntmps23, List.size_toArray, List.length_cons, List.length_nil, Nat.reduceAdd, Nat.reduceSub, Array.replicate_succ, Array.replicate_zero, List.push_toArray, List.append_toArray, List.nil_append, List.cons_append]
  have hnot : ∀ (x : Bool) (w : World), (Op.unary .not (.bool x)).run Tryd.prog w = .ok (.bool (!x)) w := fun _ _ => rfl
  obtain ⟨L, hLe⟩ : ∃ L, bs.length = L := ⟨_, rfl⟩
  have HLe := hid hLe
  have hlc : L ≤ c := by obtain ⟨_, x, y, e, h⟩ := hs; cases e; omega
  have HS := hid hs
  have HY := hid hY
  have HJ := hid hJk
  have HTb := hid hT
  rw [hLe] at ha hBn hL
  clear hs hY hLe hJk hT
  refine wpIn_wide.2 (wp_scope_straight ((wpIn_wide (n := n)).1 ?_))
  gi_wp2
  refine wpIn_label ?_
  gi_wp2
  gi_loopw [3] (fun p wr => ∃ (pre : List (FrmI bs.length)) (k : Nat), p = .int .i64 (k : Int) ∧ ChainI bs pre ∧ endI pre = k ∧ pre.length ≤ k ∧ k ≤ L ∧ J pre wr ∧ wr.cell? ⟨Bn, 0, none⟩ = some (.slice a L c) ∧ Below w.heap.size w wr) (fun p _ => L - (intOf p).toNat)
  case atStart => exact ⟨[], 0, rfl, ⟨trivial, rfl⟩, rfl, Nat.le_refl _, Nat.zero_le _, h0, hBn, hbel⟩
  case round =>
    obtain ⟨pre, k, rfl, hC, hE, hp, hk, hJ, hcell, hbr⟩ := hrel
    have hBS := HS.out.stay (Only.below hbr)
    have HC := hid hC
    have HE := hid hE
    have HBel := hid hbr
    have HJr := hid hJ
    by_cases h9 : L - k < 9
    · obtain ⟨a1, c1, hr1, hb1⟩ := hBS.tail (lo := k) (by have := HLe.out; omega)
      have HN : Hid (readF (bs.drop (endI pre)) = none) := by
        show _ = _
        rw [HE.out]
        unfold readF
        rw [if_pos (.inl (by rw [List.length_drop, HLe.out]; exact h9))]
      rw [HLe.out] at hr1
      obtain ⟨R, hR⟩ : ∃ R, L - k = R := ⟨_, rfl⟩
      rw [hR] at hr1 h9
      clear hBS hb1 hC hE hbr hJ hR
      gi_wp2
      rw [Exit.noGoto_normal]
      go_end0
      exact ⟨⟨_, rfl⟩, .inl ⟨_, ⟨HC.out, HN.out⟩, HJr.out⟩⟩
    · obtain rfl := ha (by omega)
      obtain ⟨a1, c1, hr1', hb1⟩ := hBS.tail (lo := k) (by have := HLe.out; omega)
      have hr1 := bslice1 b o L c k hk hlc (by omega)
      rw [HLe.out] at hr1' hb1
      have e1 := (hr1' wr).symm.trans (hr1 wr)
      simp only [Result.ok.injEq, Value.slice.injEq, and_true, true_and] at e1
      obtain ⟨rfl, rfl⟩ := e1
      clear hr1' hBS
      obtain ⟨rs, hrs⟩ : ∃ rs, bs.drop k = rs := ⟨_, rfl⟩
      have hRl : rs.length = L - k := by rw [← hrs, List.length_drop, HLe.out]
      rw [hrs] at hb1
      obtain ⟨R, hR⟩ : ∃ R, L - k = R := ⟨_, rfl⟩
      obtain ⟨rc, hrc⟩ : ∃ rc, c - k = rc := ⟨_, rfl⟩
      rw [hR] at hr1 hb1 h9 hRl
      rw [hrc] at hr1 hb1
      obtain ⟨aw, cw, hsw, hbw⟩ := hb1.tail (lo := 1) (by omega)
      rw [hRl] at hsw hbw
      have hw1 := word_any wr _ (rs.drop 1) hbw (by rw [List.length_drop]; omega)
      rw [← lenF_word rs] at hw1
      have hNl : lenF rs < 4294967296 := le4_lt _ _ _ _
      obtain ⟨N, hN⟩ : ∃ N, lenF rs = N := ⟨_, rfl⟩
      rw [hN] at hw1 hNl
      have HN := hid hN
      have HRl := hid hRl
      have HRS := hid hrs
      have HB1 := hid hb1
      have HRk := hid hR
      have HRc := hid hrc
      have hkR : k + R = L := by omega
      have hRc2 : R ≤ rc := by omega
      rw [show ((1 : Nat) : Int) = 1 from rfl] at hsw
      clear hN hRl hrs hb1 hbw hR hrc hC hE hbr hJ
      have HNO : Hid (1048576 < N ∨ R - 9 < N → readF (bs.drop (endI pre)) = none) := by
        intro h
        rw [HE.out, HRS.out]
        unfold readF
        rw [if_pos (by rw [HRl.out, HN.out]; omega)]
      by_cases hN1 : 1048576 < N
      · gi_wp2_with (refine ⟨trivial, ?_⟩; gi_at_call 24; refine (callsIn_wide.2 hw1).mono ?_; rintro e w1 ⟨rfl, hk1⟩)
        rw [Exit.noGoto_normal]
        go_end0
        exact ⟨⟨_, rfl⟩, .inl ⟨_, ⟨HC.out, HNO.out (.inl hN1)⟩, HJ.out _ _ _ HJr.out hk1⟩⟩
      · by_cases hN2 : (R : Int) - 9 < (N : Int)
        · gi_wp2_with (refine ⟨trivial, ?_⟩; gi_at_call 24; refine (callsIn_wide.2 hw1).mono ?_; rintro e w1 ⟨rfl, hk1⟩)
          rw [Exit.noGoto_normal]
          go_end0
          exact ⟨⟨_, rfl⟩, .inl ⟨_, ⟨HC.out, HNO.out (.inr (by omega))⟩, HJ.out _ _ _ HJr.out hk1⟩⟩
        · obtain ⟨a5, c5, hs5, hb5⟩ := HB1.out.tail (lo := 5) (by rw [HRl.out]; omega)
          obtain ⟨ap, cp, hsp, hbp⟩ := HB1.out.pre (hi := 5) (by rw [HRl.out]; omega)
          obtain ⟨av, cv, hsv, hbv⟩ := HB1.out.sub (lo := 9) (hi := 9 + N) (by omega) (by rw [HRl.out]; omega)
          have hsv2 := bslice2 b (o + k) R rc 9 (9 + N) (by omega) (by omega) hRc2
          have e2 := (hsv wr).symm.trans (hsv2 wr)
          simp only [Result.ok.injEq, Value.slice.injEq, and_true, true_and] at e2
          obtain ⟨rfl, rfl⟩ := e2
          rw [show 9 + N - 9 = N by omega] at hsv hbv
          rw [HRl.out] at hs5 hb5
          rw [show ((5 : Nat) : Int) = 5 from rfl] at hs5 hsp
          rw [show ((9 + N : Nat) : Int) = 9 + (N : Int) by omega, show ((9 : Nat) : Int) = 9 from rfl] at hsv
          clear hsv2
          have hbody : (rs.take (9 + N)).drop 9 = (rs.drop 9).take N := by rw [List.drop_take, show 9 + N - 9 = N by omega]
          rw [hbody] at hbv
          obtain ⟨D, hD⟩ : ∃ D, le4 ((rs.drop 5).getD 0 0) ((rs.drop 5).getD 1 0) ((rs.drop 5).getD 2 0) ((rs.drop 5).getD 3 0) = D := ⟨_, rfl⟩
          have HW5 : Hid (∀ W', Kept wr W' → Calls Tryd.prog 24 #[.slice a5 (R - 5) c5] W' fun e w' => e = .returned (.int .i64 (D : Int)) ∧ Kept W' w') := fun W' k' => by
            have := word_any W' _ (rs.drop 5) (hb5.stay k') (by rw [List.length_drop, HRl.out]; omega)
            rw [hD] at this
            exact this
          obtain ⟨A9, hA9⟩ : ∃ A : Addr, (⟨b, if rc = 9 then o + k else o + k + 9, none⟩ : Addr) = A := ⟨_, rfl⟩
          obtain ⟨c9, hc9⟩ : ∃ x, rc - 9 = x := ⟨_, rfl⟩
          rw [hA9, hc9] at hsv hbv
          obtain ⟨S, hS⟩ : ∃ S, sumL (rs.take 5 ++ (rs.drop 9).take N) = S := ⟨_, rfl⟩
          have HSm : Hid (∀ W' g, Kept wr W' → SrcOf W' (.slice (some ⟨g, 0, none⟩) 2 2) [.slice ap 5 cp, .slice (some A9) N c9] → Calls Tryd.prog 18 #[.slice (some ⟨g, 0, none⟩) 2 2] W' fun e w' => e = .returned (.int .i64 (S : Int)) ∧ w' = W') := fun W' g k' hsr => by
            have hl9 : ((rs.drop 9).take N).length ≤ 10000000 := by rw [List.length_take]; omega
            have := sumOf_any W' _ _ [rs.take 5, (rs.drop 9).take N] hsr rfl (by simp) (fun i h => by
              have h2 : i = 0 ∨ i = 1 := by simp at h; omega
              rcases h2 with rfl | rfl
              · exact hbp.stay k'
              · exact hbv.stay k') (by
                intro x hx
                simp at hx
                rcases hx with rfl | rfl
                · rw [List.length_take]; omega
                · exact hl9) (HTb.out.stay ((Only.below HBel.out).trans k' (fun _ _ f => f)))
            rw [show [rs.take 5, (rs.drop 9).take N].flatten = rs.take 5 ++ (rs.drop 9).take N by simp, hS] at this
            exact this
          have HRD : Hid (readF (bs.drop k) = if D = S then some ((rs.getD 0 0).toNat, (rs.drop 9).take N, 9 + N) else none) := by
            show _ = _
            have := readF_word (rs := rs) (by rw [HRl.out]; omega) (by rw [HN.out]; omega) (by rw [HN.out, HRl.out]; omega)
            rw [HN.out, hD, hS] at this
            rw [HRS.out, this]
          have HV : Hid ((⟨b, if rc = 9 then o + k else o + k + 9, none⟩ : Addr) = A9 ∧ rc - 9 = c9) := ⟨hA9, hc9⟩
          have HLit : Hid (∀ (W' : World), SrcOf (W'.alloc (.cells #[.slice ap 5 cp, .slice (some A9) N c9] 22)) (.slice (some ⟨W'.heap.size, 0, none⟩) 2 2) [.slice ap 5 cp, .slice (some A9) N c9]) := fun W' =>
            own_src (World.ownsRow_lit W' #[.slice ap 5 cp, .slice (some A9) N c9] 2 (Nat.zero_le _) (by decide) rfl)
          obtain ⟨T9, hT9⟩ : ∃ T : Nat, 9 + N = T := ⟨_, rfl⟩
          have hT9i : 9 + (N : Int) = (T9 : Int) := by omega
          have hT9w : IntKind.i64.wrap (T9 : Int) = (T9 : Int) := by rw [wrap_is]; unfold wrap64; omega
          rw [hT9i] at hsv
          have HT9 := hid hT9
          clear hb5 hbp hbv hbody hD hS hA9 hc9 hT9
          by_cases hDS : D = S
          · rw [if_pos hDS] at HRD
            subst hDS
            gi_wp2_with (refine ⟨trivial, ?_⟩; gi_at_call 24; refine (callsIn_wide.2 hw1).mono ?_; rintro e w1 ⟨rfl, hk1⟩)
            refine wpIn_wide.2 ?_
            go_region_with (first | (go_at_call 24; refine (HW5.out _ (by first | exact hk1.drew | exact hk1.drew.alloc _ | exact (hk1.alloc _).drew)).mono ?_; rintro e w2 ⟨rfl, hk2⟩) | (go_at_call 18; refine (HSm.out _ _ (by first | exact hk1.drew.alloc _ | exact (hk1.alloc _).drew | exact (kept2 hk1.drew hk2).alloc _ | exact kept2 (hk1.drew.alloc _) hk2 | exact kept2 (hk1.alloc _).drew hk2) (by first | exact HLit.out _ | exact (HLit.out _).stay (Only.refl _ _).drew | exact (HLit.out w1.drew).stay hk2 | exact ((HLit.out w1).stay (Only.refl _ _).drew).stay hk2)).mono ?_; rintro e w3 ⟨rfl, hw⟩; replace hw := hw.symm; subst hw))
            all_goals simp only [List.getElem_toArray, List.getElem_cons_succ, List.getElem_cons_zero]
            all_goals go_frame
            · have hkA : Kept wr (w2.alloc (.cells #[.slice ap 5 cp, .slice (some A9) N c9] 22)) := (kept2 hk1.drew hk2).alloc _
              generalize w2.alloc (.cells #[.slice ap 5 cp, .slice (some A9) N c9] 22) = wA at hkA ⊢
              have hxl : k + (9 + N) ≤ bs.length := by have := HLe.out; omega
              have HX : Hid (ChainI bs (pre ++ [(⟨(k, N), hxl⟩ : FrmI bs.length)]) ∧ endI (pre ++ [(⟨(k, N), hxl⟩ : FrmI bs.length)]) = k + (9 + N)) := by
                refine ⟨ChainI_snoc HC.out HE.out.symm ?_, endI_snoc _ _⟩
                have := HRD.out
                rw [← HRS.out, getD_drop, Nat.add_zero, List.drop_drop] at this
                exact this
              obtain ⟨fn, tmps, assign, body, hy, hR⟩ := HY.out pre ⟨(k, N), hxl⟩ wA.drew (HJ.out _ _ _ HJr.out hkA.drew) (by have := HLe.out; omega)
              have hfv : frmV b o c (⟨(k, N), hxl⟩ : FrmI bs.length) = .slice (some A9) N c9 := by
                unfold frmV
                simp only
                rw [HRc.out, HV.out.1, HV.out.2]
              obtain ⟨T, hTT⟩ : ∃ T : Nat, k + (9 + N) = T := ⟨_, rfl⟩
              have hTi : (k : Int) + (T9 : Int) = (T : Int) := by have := HT9.out; omega
              have hTw : IntKind.i64.wrap (T : Int) = (T : Int) := by rw [wrap_is]; unfold wrap64; omega
              obtain ⟨K0, hK0⟩ : ∃ K0, frmK bs (⟨(k, N), hxl⟩ : FrmI bs.length) = K0 := ⟨_, rfl⟩
              simp only at hy
              rw [hfv, hTT, hK0] at hy
              have hK0l : K0 < 256 := by rw [← hK0]; exact byte_lt _
              have hK0w : IntKind.i64.wrap (K0 : Int) = (K0 : Int) := by rw [wrap_is]; unfold wrap64; omega
              have hc0 : wA.cell? ⟨b, o + k, none⟩ = some (.int .u8 (K0 : Int)) := by
                obtain ⟨b1, o1, e1, hcc⟩ := BSrc.cell (HB1.out.stay hkA).1 0 (by rw [HRl.out]; omega)
                cases e1
                rw [Nat.add_zero] at hcc
                rw [hcc, ← hK0]
                unfold frmK
                have : rs[0]'(by rw [HRl.out]; omega) = bs.getD k 0 := by
                  have h1 := getD_drop bs k 0
                  rw [HRS.out, Nat.add_zero, List.getD_eq_getElem?_getD, List.getElem?_eq_getElem (by rw [HRl.out]; omega)] at h1
                  exact h1
                rw [this]
              have hcA : wA.cell? ⟨Bn, 0, none⟩ = some (.slice (some ⟨b, o, none⟩) L c) := kept_cell hkA hcell
              have HR : Hid (RoundIn Fence.wide (n - 1) Tryd.prog l fn tmps assign body wA.drew fun e W' => ∃ bb, e = .returned (.bool bb) ∧ ((bb = true ∧ J (pre ++ [(⟨(k, N), hxl⟩ : FrmI bs.length)]) W' ∧ KpB w.heap.size Bn wA.drew W') ∨ (bb = false ∧ Jx (pre ++ [(⟨(k, N), hxl⟩ : FrmI bs.length)]) W'))) := by
                refine hR.mono ?_
                rintro e W3 (⟨rfl, h1, h2⟩ | ⟨rfl, h1⟩)
                · exact ⟨true, rfl, .inl ⟨rfl, h1, h2⟩⟩
                · exact ⟨false, rfl, .inr ⟨rfl, h1⟩⟩
              have HTT := hid hTT
              clear hR hfv hTT hK0 hw1
              gi_wp2
              gi_region_with (refine HR.out.mono ?_; rintro e W3 ⟨bb, rfl, hcase⟩)
              simp only [List.getElem_toArray, List.getElem_cons_succ, List.getElem_cons_zero]
              go_frame
              rcases hcase with ⟨rfl, hJ3, hk3⟩ | ⟨rfl, hJx3⟩
              · have hc3 := hk3.cell (v := .slice (some ⟨b, o, none⟩) L c) hcA
                have HB3 : Hid (Below w.heap.size w W3) := (HBel.out.trans (hkA.drew.toBelow (fun _ f => f.elim) HBel.out.size)).trans hk3.1
                have hTl : T ≤ L := by have := HTT.out; have := HLe.out; omega
                have hTp : pre.length + 1 ≤ T := by have := HTT.out; omega
                have hTk : k < T := by have := HTT.out; omega
                clear hk3 hy
                gi_wp2
                go_roundw
                case rel => exact ⟨_, T, by go_num, HX.out.1, HX.out.2.trans HTT.out, by rw [List.length_append]; exact hTp, hTl, hJ3, hc3, HB3.out⟩
                case measure => simp [intOf]; omega
              · clear hy
                gi_wp2
                (try rw [Exit.noGoto_ret])
                refine bodyPost_ret (results_none rfl _ _ _) rfl ?_
                exact ⟨⟨_, rfl⟩, .inr ⟨_, HX.out.1, hJx3⟩⟩
            · have hkA : Kept wr w2 := kept2 (hk1.alloc _).drew hk2
              have hxl : k + (9 + N) ≤ bs.length := by have := HLe.out; omega
              have HX : Hid (ChainI bs (pre ++ [(⟨(k, N), hxl⟩ : FrmI bs.length)]) ∧ endI (pre ++ [(⟨(k, N), hxl⟩ : FrmI bs.length)]) = k + (9 + N)) := by
                refine ⟨ChainI_snoc HC.out HE.out.symm ?_, endI_snoc _ _⟩
                have := HRD.out
                rw [← HRS.out, getD_drop, Nat.add_zero, List.drop_drop] at this
                exact this
              obtain ⟨fn, tmps, assign, body, hy, hR⟩ := HY.out pre ⟨(k, N), hxl⟩ w2.drew (HJ.out _ _ _ HJr.out hkA.drew) (by have := HLe.out; omega)
              have hfv : frmV b o c (⟨(k, N), hxl⟩ : FrmI bs.length) = .slice (some A9) N c9 := by
                unfold frmV
                simp only
                rw [HRc.out, HV.out.1, HV.out.2]
              obtain ⟨T, hTT⟩ : ∃ T : Nat, k + (9 + N) = T := ⟨_, rfl⟩
              have hTi : (k : Int) + (T9 : Int) = (T : Int) := by have := HT9.out; omega
              have hTw : IntKind.i64.wrap (T : Int) = (T : Int) := by rw [wrap_is]; unfold wrap64; omega
              obtain ⟨K0, hK0⟩ : ∃ K0, frmK bs (⟨(k, N), hxl⟩ : FrmI bs.length) = K0 := ⟨_, rfl⟩
              simp only at hy
              rw [hfv, hTT, hK0] at hy
              have hK0l : K0 < 256 := by rw [← hK0]; exact byte_lt _
              have hK0w : IntKind.i64.wrap (K0 : Int) = (K0 : Int) := by rw [wrap_is]; unfold wrap64; omega
              have hc0 : w2.cell? ⟨b, o + k, none⟩ = some (.int .u8 (K0 : Int)) := by
                obtain ⟨b1, o1, e1, hcc⟩ := BSrc.cell (HB1.out.stay hkA).1 0 (by rw [HRl.out]; omega)
                cases e1
                rw [Nat.add_zero] at hcc
                rw [hcc, ← hK0]
                unfold frmK
                have : rs[0]'(by rw [HRl.out]; omega) = bs.getD k 0 := by
                  have h1 := getD_drop bs k 0
                  rw [HRS.out, Nat.add_zero, List.getD_eq_getElem?_getD, List.getElem?_eq_getElem (by rw [HRl.out]; omega)] at h1
                  exact h1
                rw [this]
              have hcA : w2.cell? ⟨Bn, 0, none⟩ = some (.slice (some ⟨b, o, none⟩) L c) := kept_cell hkA hcell
              have HR : Hid (RoundIn Fence.wide (n - 1) Tryd.prog l fn tmps assign body w2.drew fun e W' => ∃ bb, e = .returned (.bool bb) ∧ ((bb = true ∧ J (pre ++ [(⟨(k, N), hxl⟩ : FrmI bs.length)]) W' ∧ KpB w.heap.size Bn w2.drew W') ∨ (bb = false ∧ Jx (pre ++ [(⟨(k, N), hxl⟩ : FrmI bs.length)]) W'))) := by
                refine hR.mono ?_
                rintro e W3 (⟨rfl, h1, h2⟩ | ⟨rfl, h1⟩)
                · exact ⟨true, rfl, .inl ⟨rfl, h1, h2⟩⟩
                · exact ⟨false, rfl, .inr ⟨rfl, h1⟩⟩
              have HTT := hid hTT
              clear hR hfv hTT hK0 hw1
              gi_wp2
              gi_region_with (refine HR.out.mono ?_; rintro e W3 ⟨bb, rfl, hcase⟩)
              simp only [List.getElem_toArray, List.getElem_cons_succ, List.getElem_cons_zero]
              go_frame
              rcases hcase with ⟨rfl, hJ3, hk3⟩ | ⟨rfl, hJx3⟩
              · have hc3 := hk3.cell (v := .slice (some ⟨b, o, none⟩) L c) hcA
                have HB3 : Hid (Below w.heap.size w W3) := (HBel.out.trans (hkA.drew.toBelow (fun _ f => f.elim) HBel.out.size)).trans hk3.1
                have hTl : T ≤ L := by have := HTT.out; have := HLe.out; omega
                have hTp : pre.length + 1 ≤ T := by have := HTT.out; omega
                have hTk : k < T := by have := HTT.out; omega
                clear hk3 hy
                gi_wp2
                go_roundw
                case rel => exact ⟨_, T, by go_num, HX.out.1, HX.out.2.trans HTT.out, by rw [List.length_append]; exact hTp, hTl, hJ3, hc3, HB3.out⟩
                case measure => simp [intOf]; omega
              · clear hy
                gi_wp2
                (try rw [Exit.noGoto_ret])
                refine bodyPost_ret (results_none rfl _ _ _) rfl ?_
                exact ⟨⟨_, rfl⟩, .inr ⟨_, HX.out.1, hJx3⟩⟩
          · rw [if_neg hDS] at HRD
            have hds : ((D : Int) != (S : Int)) = true := by simp; omega
            gi_wp2_with (refine ⟨trivial, ?_⟩; gi_at_call 24; refine (callsIn_wide.2 hw1).mono ?_; rintro e w1 ⟨rfl, hk1⟩)
            refine wpIn_wide.2 ?_
            go_region_with (first | (go_at_call 24; refine (HW5.out _ (by first | exact hk1.drew | exact hk1.drew.alloc _ | exact (hk1.alloc _).drew)).mono ?_; rintro e w2 ⟨rfl, hk2⟩) | (go_at_call 18; refine (HSm.out _ _ (by first | exact hk1.drew.alloc _ | exact (hk1.alloc _).drew | exact (kept2 hk1.drew hk2).alloc _ | exact kept2 (hk1.drew.alloc _) hk2 | exact kept2 (hk1.alloc _).drew hk2) (by first | exact HLit.out _ | exact (HLit.out _).stay (Only.refl _ _).drew | exact (HLit.out w1.drew).stay hk2 | exact ((HLit.out w1).stay (Only.refl _ _).drew).stay hk2)).mono ?_; rintro e w3 ⟨rfl, hw⟩; replace hw := hw.symm; subst hw))
            all_goals simp only [List.getElem_toArray, List.getElem_cons_succ, List.getElem_cons_zero]
            all_goals go_frame
            · have hkA : Kept wr (w2.alloc (.cells #[.slice ap 5 cp, .slice (some A9) N c9] 22)) := (kept2 hk1.drew hk2).alloc _
              generalize w2.alloc (.cells #[.slice ap 5 cp, .slice (some A9) N c9] 22) = wA at hkA ⊢
              gi_wp2
              (try rw [Exit.noGoto_normal])
              go_end0
              exact ⟨⟨_, rfl⟩, .inl ⟨_, ⟨HC.out, by rw [HE.out]; exact HRD.out⟩, HJ.out _ _ _ HJr.out hkA⟩⟩
            · have hkA : Kept wr w2 := kept2 (hk1.alloc _).drew hk2
              gi_wp2
              (try rw [Exit.noGoto_normal])
              go_end0
              exact ⟨⟨_, rfl⟩, .inl ⟨_, ⟨HC.out, by rw [HE.out]; exact HRD.out⟩, HJ.out _ _ _ HJr.out hkA⟩⟩

set_option maxHeartbeats 400000 in
theorem frames_in (n : Nat) (a : Option Addr) (L c : Nat) (w : World) :
    CallsIn Fence.wide n Tryd.prog 21 #[.slice a L c] w fun e w' => e = .returned (.func (.func 23) #[] #[.pointer (some ⟨w.heap.size, 0, none⟩)]) ∧ w' = w.alloc (.cells #[.slice a L c] 22) := by
  have hmf : ∀ (fn : Fn) (first cap : Array Value) (w : World), (Instr.makeFunc fn first cap).run Tryd.prog w = .ok (.func fn first cap) w := fun _ _ _ _ => rfl
  refine callsIn_of_wp Tryd.func21 rfl trivial ?_ rfl
  simp only [Tryd.ntmps21, List.size_toArray, List.length_cons, List.length_nil, Nat.reduceAdd, Nat.reduceSub, Array.replicate_succ, Array.replicate_zero, List.push_toArray, List.append_toArray, List.nil_append, List.cons_append]
  gi_wp2
  go_ret
  exact ⟨rfl, rfl⟩

theorem frames_stops (n : Nat) (hn : 1 ≤ n) (Bn b o c : Nat) (bs : List UInt8) (hL : bs.length ≤ 400000) (a : Option Addr) (w W0 : World) (hs : BSrc w (.slice a bs.length c) bs) (hT : Tab w) (ha : 0 < bs.length → a = some ⟨b, o, none⟩) (hlt : Bn < W0.heap.size) (hBn : W0.cell? ⟨Bn, 0, none⟩ = some (.slice a bs.length c)) (hb0 : Below w.heap.size w W0) :
    SeqStopsK Fence.wide n Tryd.prog 23 #[.pointer (some ⟨Bn, 0, none⟩)] (fun x : FrmI bs.length => #[.int .i64 ((x.1.1 + (9 + x.1.2) : Nat) : Int), .agg #[.int .i64 (frmK bs x : Int), frmV b o c x]]) (KpB w.heap.size Bn) (fun ys => ChainI bs ys ∧ readF (bs.drop (endI ys)) = none) (fun pre => ChainI bs pre) (bs.length + 1) W0 := fun l J Jx W hW hJa _ hY h0 =>
  frames1_in n hn l Bn b o c bs hL a w hs hT ha J Jx (fun pre A B hA hk => hJa pre A B none hA (kept_grown hk) (fun r e => by cases e)) hY W ((hW.cell (p := ⟨Bn, 0, none⟩) hlt).trans hBn) (hb0.trans (hW.mono hb0.size)) h0
end Go.Proofs.YtjohnomlhcncnaaDoor.G
