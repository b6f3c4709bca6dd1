/-
  Xrrd, Lreads15.
-/
import Derived.Test.YteknpfldemgmnaaGreatQ50
import Derived.Test.YteknpfldemgmnaaGreatQ29
import Derived.Test.YteknpfldemgmnaaGreatQ51
import Derived.Test.YteknpfldemgmnaaGreatQ45
import Derived.Test.YteknpfldemgmnaaGreatQ52

/-
  The document's own ReadIndex.
-/
namespace Go.Proofs.YteknpfldemgmnaaGreat.X
open Go.RowKit Go.Proofs.Lys Go.Maps Go.Proofs.YteknpfldemgmnaaGreat.N
set_option linter.unusedVariables false
set_option linter.unusedSimpArgs false

/-- What ReadIndex tells. -/
def RRdP (w : World) (bs : List UInt8) (e : Ending) (w' : World) : Prop :=
  Kept w w' ∧ ((∃ v L, UnR bs L ∧ e = .returned (.tuple #[v, .int .i64 0]) ∧ LSrc w' v L) ∨ ((∀ L, ¬ UnR bs L) ∧ e = .returned (.tuple #[.slice none 0 0, .int .i64 5])))
/-- What Get tells, as a number of at most 63 bits. -/
def NumG (w : World) (bs : List UInt8) (e : Ending) (w' : World) : Prop :=
  w' = w ∧ ((numR bs = none ∧ e = .returned (.tuple #[.int .i64 0, .int .i64 0, .int .i64 5])) ∨ (∃ (n : Int) (k : Nat), numR bs = none ∧ n < 0 ∧ e = .returned (.tuple #[.int .i64 n, .int .i64 (k : Int), .int .i64 0])) ∨
    ∃ n k : Nat, numR bs = some (n, k) ∧ k ≤ bs.length ∧ n < 9223372036854775808 ∧ e = .returned (.tuple #[.int .i64 (n : Int), .int .i64 (k : Int), .int .i64 0]))
theorem rgetI_any (w : World) (v : Value) (bs : List UInt8) (hs : SrcOf w v (bs.map bV)) (hl : bs.length ≤ 1000000) :
    Calls Tryz.prog 38 #[v] w (NumG w bs) := by
  refine (U.rget_any w v bs hs hl).mono ?_
  rintro e w' ⟨rfl, rfl⟩
  refine ⟨rfl, ?_⟩
  have hnum : numR bs = if (getA bs 0 0).2.2 = 0 ∧ (getA bs 0 0).1 < 9223372036854775808 then some ((getA bs 0 0).1, (getA bs 0 0).2.1) else none := rfl
  rcases Po.getA_cases bs 0 0 (by decide) (by decide) with e0 | ⟨u, k, e0, hu, hk⟩
  · rw [e0] at hnum ⊢
    refine .inl ⟨by rw [hnum]; rfl, ?_⟩
    unfold U.got
    rw [show wrap64 ((0 : Nat) : Int) = 0 by unfold wrap64; omega]
    rfl
  · rw [e0] at hnum ⊢
    by_cases h63 : u < 9223372036854775808
    · refine .inr (.inr ⟨u, k, by rw [hnum, if_pos ⟨rfl, h63⟩], by omega, h63, ?_⟩)
      unfold U.got
      rw [show wrap64 (u : Int) = (u : Int) by unfold wrap64; omega]
      rfl
    · exact .inr (.inl ⟨wrap64 (u : Int), k, by rw [hnum, if_neg (fun hx => h63 hx.2)], by unfold wrap64; omega, rfl⟩)
set_option maxRecDepth 100000 in
set_option maxHeartbeats 12800000 in
theorem rreadI_any (w : World) (v : Value) (bs : List UInt8) (hs : Po.BSrc w v bs) (hl : bs.length ≤ 5000) :
    Calls Tryz.prog 16 #[v] w (RRdP w bs) := by
  obtain ⟨i0, hi0, hz0, hz1, hz2⟩ := info_parts Tryz.infoLabs
  have HNO : Hid (∀ w', rreadI bs = none → Kept w w' → RRdP w bs (.returned (.tuple #[.slice none 0 0, .int .i64 5])) w') := fun w' h k => ⟨k, .inr ⟨fun L hL => (by rw [hL.1] at h; cases h), rfl⟩⟩
  have HS := hid hs
  have HG0 := hid (rgetI_any w v bs hs.1 (by omega))
  have HTAIL := hid (fun (lo : Nat) (h : lo ≤ bs.length) => hs.tail h)
  have HTX := hid (fun (W : World) (k : Kept w W) (at_ : Nat) (h : at_ ≤ bs.length) => rtextI_any W v bs at_ (hs.stay k) h (by omega))
  obtain ⟨va, vc, rfl, _⟩ := hs.2
  obtain ⟨M, hM⟩ : ∃ M, bs.length = M := ⟨_, rfl⟩
  have HM := hid hM
  rw [hM] at HS HG0 HTAIL HTX hl ⊢
  clear hs hM
  go_enter Tryz.func16, Tryz.ntmps16
  go_wp2_with fail
  refine HG0.out.mono ?_
  rintro e wq ⟨hw, hA⟩
  replace hw := hw.symm
  subst hw
  obtain ⟨hno, rfl⟩ | ⟨n, k, hno, hneg, rfl⟩ | ⟨cc, k1, hn1, hk1, hc63, rfl⟩ := hA
  · have HF := hid (HNO.out w (by unfold rreadI; rw [hno]) (Only.refl _ _))
    clear hno
    go_wp2
    go_ret2
    exact HF.out
  · have HF := hid (HNO.out w (by unfold rreadI; rw [hno]) (Only.refl _ _))
    have d1 : decide (n < 0) = true := decide_eq_true hneg
    clear hno
    go_wp2
    go_ret2
    exact HF.out
  · have HN1 := hid hn1
    clear hn1
    have hkM : k1 ≤ M := by have := HM.out; omega
    have z1 : decide ((cc : Int) < 0) = false := decide_eq_false (by omega)
    by_cases hcc : 1000 < cc
    · have d1 : decide (1000 < cc) = true := decide_eq_true hcc
      have d2 : decide ((1000 : Int) < (cc : Int)) = true := decide_eq_true (by omega)
      have HF := hid (HNO.out w (by unfold rreadI; rw [HN1.out]; simp only; rw [if_pos hcc]) (Only.refl _ _))
      go_wp2
      go_ret2
      exact HF.out
    · have d1 : decide (1000 < cc) = false := decide_eq_false hcc
      have d2 : decide ((1000 : Int) < (cc : Int)) = false := decide_eq_false (by omega)
      have d3 : ¬ 1000 < cc := hcc
      obtain ⟨a2, c2, s2, b2⟩ := HTAIL.out k1 hkM
      have hs2 := s2 w
      have HG1 := hid (rgetI_any w _ (bs.drop k1) b2.1 (by rw [List.length_drop]; have := HM.out; omega))
      generalize hT1 : M - k1 = T1 at hs2 HG1
      clear s2 b2 hT1
      go_wp2_with fail
      refine HG1.out.mono ?_
      rintro e wq ⟨hw, hA⟩
      replace hw := hw.symm
      subst hw
      obtain ⟨hno, rfl⟩ | ⟨n, k, hno, hneg, rfl⟩ | ⟨m, k2, hn2, hk2, hm63, rfl⟩ := hA
      · have HF := hid (HNO.out w (by unfold rreadI; rw [HN1.out]; simp only; rw [if_neg hcc, hno]) (Only.refl _ _))
        clear hno
        go_wp2
        go_ret2
        exact HF.out
      · have HF := hid (HNO.out w (by unfold rreadI; rw [HN1.out]; simp only; rw [if_neg hcc, hno]) (Only.refl _ _))
        have e1 : decide (n < 0) = true := decide_eq_true hneg
        clear hno
        go_wp2
        go_ret2
        exact HF.out
      · have HN2 := hid hn2
        clear hn2
        rw [List.length_drop] at hk2
        have hA0 : k1 + k2 ≤ M := by have := HM.out; omega
        clear hk2
        have z2 : decide ((m : Int) < 0) = false := decide_eq_false (by omega)
        by_cases hmm : 16000 < m
        · have e1 : decide (16000 < m) = true := decide_eq_true hmm
          have e2 : decide ((16000 : Int) < (m : Int)) = true := decide_eq_true (by omega)
          have HF := hid (HNO.out w (by unfold rreadI; rw [HN1.out]; simp only; rw [if_neg hcc, HN2.out]; simp only; rw [if_pos hmm]) (Only.refl _ _))
          go_wp2
          go_ret2
          exact HF.out
        · have e1 : decide (16000 < m) = false := decide_eq_false hmm
          have e2 : decide ((16000 : Int) < (m : Int)) = false := decide_eq_false (by omega)
          have e3 : ¬ 16000 < m := hmm
          have HRI0 : Hid (rreadI bs = rrdM m (List.replicate cc []) (bs.drop (k1 + k2))) := by
            show _ = _
            unfold rreadI
            rw [HN1.out]
            simp only
            rw [if_neg hcc, HN2.out]
            simp only
            rw [if_neg hmm, List.drop_drop]
          obtain ⟨A0, hA0e⟩ : ∃ A0, k1 + k2 = A0 := ⟨_, rfl⟩
          rw [hA0e] at hA0 HRI0
          have i1 : (k1 : Int) + (k2 : Int) = (A0 : Int) := by omega
          have hmk : ∀ w, (Instr.makeSlice 22 (.int .i64 (cc : Int)) (.int .i64 (cc : Int))).run Tryz.prog w = .ok (.slice (some ⟨w.heap.size, 0, none⟩) cc cc) (w.alloc (.cells (madeCells #[Value.slice none 0 0] cc) 44)) := fun w => by
            have := run_make (P := Tryz.prog) w 22 44 i0 (.slice none 0 0) Tryz.underlying22 hi0 hz0 .i64 .i64 (cc : Int) (cc : Int) (by omega) (by omega) (by rw [hz2]; omega) (by omega)
            rw [hz1] at this
            simp only [Int.toNat_natCast, Nat.mul_one] at this
            exact this
          have hk3 : Kept w (w.alloc (.cells (madeCells #[Value.slice none 0 0] cc) 44)) := (Only.refl _ w).alloc _
          have hown3 : (w.alloc (.cells (madeCells #[Value.slice none 0 0] cc) 44)).ownsRow w.heap.size 44 1 (.slice (some ⟨w.heap.size, 0, none⟩) cc cc) cc (List.replicate cc (.slice none 0 0)) := by
            rw [← made_nil]
            exact World.ownsRow_lit w _ cc (Nat.le_refl _) (by unfold maxLen; omega) (by rw [size_madeCells]; omega)
          have hsz3 := World.size_alloc w (.cells (madeCells #[Value.slice none 0 0] cc) 44)
          have hmk1 := hmk w
          obtain ⟨w3, hw3⟩ : ∃ w3, w.alloc (.cells (madeCells #[Value.slice none 0 0] cc) 44) = w3 := ⟨_, rfl⟩
          rw [hw3] at hk3 hown3 hmk1 hsz3
          obtain ⟨base2, hbase2⟩ : ∃ b, w.heap.size = b := ⟨_, rfl⟩
          rw [hbase2] at hown3 hmk1 hsz3
          have HBW : Hid (w.heap.size = base2) := hbase2
          have HO3 := hid (ownR_nil w3 base2 cc _ hown3)
          have HV3 : Hid ((List.replicate cc (Value.slice none 0 0)).length = cc) := by show _ = _; simp
          generalize List.replicate cc (Value.slice none 0 0) = vs0 at HO3 HV3
          have HK3 := hid hk3
          have hb3 : base2 < w3.heap.size := by omega
          clear hown3 hk3 hbase2 hmk hA0e hsz3 hw3
          go_wp2_with fail
          go_loopw [5, 10] (fun s5 s10 wr => ∃ (i at_ : Nat) (vs : List Value) (L : List Labs), i ≤ m ∧ s10 = .int .i64 (i : Int) ∧ s5 = .int .i64 (at_ : Int) ∧ at_ ≤ M ∧ Hid (OwnR wr base2 (.slice (some ⟨base2, 0, none⟩) cc cc) vs L) ∧ Hid (vs.length = cc) ∧ Hid (rreadI bs = rrdM (m - i) L (bs.drop at_)) ∧ Hid (Kept w wr) ∧ base2 < wr.heap.size) (fun _ s10 _ => m - (intOf s10).toNat)
          case atStart => exact ⟨0, A0, vs0, _, by omega, rfl, rfl, hA0, HO3, HV3, HRI0, HK3, hb3⟩
          case round =>
            obtain ⟨i, at_, vs, L, hi, rfl, rfl, hat, hor, hvl, hri, hkr, hbs⟩ := hrel
            by_cases hlt : i < m
            · have HT1 := hid (HTX.out wr hkr.out at_ hat)
              obtain ⟨mi, hmi⟩ : ∃ mi, m - i = mi + 1 := ⟨m - i - 1, by omega⟩
              have HMI : Hid (m - (i + 1) = mi) := by show _ = _; omega
              rw [hmi] at hri
              clear hmi HO3 HV3 HRI0 HK3 hb3 hmk1
              go_wp2_with fail
              refine HT1.out.mono ?_
              rintro e wq ⟨hw, hA⟩
              replace hw := hw.symm
              subst hw
              obtain ⟨hno, rfl⟩ | ⟨s, r1, q1, ht1, rfl, hq1, rfl⟩ := hA
              · have HF := hid (HNO.out wr (by rw [hri.out, rrdM, hno]) hkr.out)
                clear hno
                go_wp2
                go_ret2
                exact HF.out
              · have HT2 := hid (HTX.out wr hkr.out q1 (by have := HM.out; omega))
                have HTT := hid ht1
                clear ht1 HT1
                go_wp2_with fail
                refine HT2.out.mono ?_
                rintro e wq ⟨hw, hA⟩
                replace hw := hw.symm
                subst hw
                obtain ⟨hno, rfl⟩ | ⟨t, r2, q2, ht2, rfl, hq2, rfl⟩ := hA
                · have HF := hid (HNO.out wr (by rw [hri.out, rrdM, HTT.out]; simp only; rw [hno]) hkr.out)
                  clear hno
                  go_wp2
                  go_ret2
                  exact HF.out
                · have HTU := hid ht2
                  have hq2M : q2 ≤ M := by have := HM.out; omega
                  obtain ⟨a3, c3, s3, b3⟩ := HTAIL.out q2 hq2M
                  have hs3 := s3 wr
                  have HRL := hid (Po.rread_any wr _ (bs.drop q2) (b3.stay hkr.out) (by rw [List.length_drop]; have := HM.out; omega))
                  generalize hT3 : M - q2 = T3 at hs3 HRL
                  have HT3 := hid hT3
                  clear s3 b3 hT3 ht2 HT2 hq1 hq2
                  go_wp2_with fail
                  refine HRL.out.mono ?_
                  rintro e wc ⟨kc, hA⟩
                  obtain ⟨hno, rfl⟩ | ⟨u, l, k, ht3, rfl, hown⟩ := hA
                  · have HF := hid (HNO.out wc (by rw [hri.out, rrdM, HTT.out]; simp only; rw [HTU.out]; simp only; rw [hno]) (hkr.out.trans kc (fun _ _ f => f)))
                    clear hno kc
                    go_wp2
                    go_ret2
                    exact HF.out
                  · have hl3 := read_bounds ht3
                    have hA3 : q2 + k ≤ M := by have h1 := hl3.2.1; rw [List.length_drop] at h1; have := HM.out; omega
                    obtain ⟨la0, lc0, rfl⟩ := ownN_slice hown
                    have horc := hid (hor.out.stay kc)
                    have hkc := hid (hkr.out.trans kc (fun _ _ f => f))
                    have hsc := kc.size
                    have HPOS := hid hl3.1
                    obtain ⟨LN, hLN⟩ : ∃ LN, l.length = LN := ⟨_, rfl⟩
                    have HLN := hid hLN
                    have hln : LN ≤ 10000 := by have := hl3.2.2; omega
                    rw [hLN] at hown ⊢
                    have HOWN := hid hown
                    have HSTEP : Hid (rreadI bs = match rputL (mkB s, mkB t) l L with | none => none | some L2 => rrdM mi L2 (bs.drop (q2 + k))) := by
                      show _ = _
                      rw [hri.out, rrdM, HTT.out]; simp only; rw [HTU.out]; simp only; rw [ht3, ← List.drop_drop]
                      try rfl
                    obtain ⟨A3, hA3e⟩ : ∃ A3, q2 + k = A3 := ⟨_, rfl⟩
                    rw [hA3e] at hA3 HSTEP
                    have i3 : (q2 : Int) + (k : Int) = (A3 : Int) := by omega
                    obtain ⟨bl, hbl⟩ : ∃ bl, wr.heap.size = bl := ⟨_, rfl⟩
                    rw [hbl] at HOWN
                    have hbs3 : base2 < wc.heap.size := by omega
                    generalize mkB s = TS at HSTEP ⊢
                    generalize mkB t = TT at HSTEP ⊢
                    clear hown ht3 kc hl3 HRL hor hkr hLN HTU HTT hri hbl hA3e hs3 HT3
                    go_wp2_with fail
                    go_loopw [18] (fun s18 wr => ∃ (j : Nat) (vs : List Value) (L' : List Labs), j ≤ LN ∧ s18 = .int .i64 (j : Int) ∧ Hid (OwnR wr base2 (.slice (some ⟨base2, 0, none⟩) cc cc) vs L') ∧ Hid (vs.length = cc) ∧ Hid (wr.ownsRow bl 3 1 (.slice la0 LN lc0) LN (l.map (Value.int .i64))) ∧ Hid (rputL (TS, TT) l L = rputL (TS, TT) (l.drop j) L') ∧ Hid (Kept w wr) ∧ base2 < wr.heap.size) (fun s18 _ => LN - (intOf s18).toNat)
                    case atStart => exact ⟨0, vs, L, by omega, rfl, horc, hvl, HOWN, hid rfl, hkc, hbs3⟩
                    case round =>
                      obtain ⟨j, vs4, L4, hj, rfl, hor4, hvl4, hls4, hpl4, hkr4, hbs4⟩ := hrel
                      by_cases hjl : j < LN
                      · have hjl2 : j < l.length := by have := HLN.out; omega
                        have hx0 := HPOS.out l[j] (List.getElem_mem hjl2)
                        obtain ⟨gl, cl, hgl⟩ := ownN_some hls4.out (by omega)
                        have hcl : ∃ b, la0 = some ⟨b, 0, none⟩ := ⟨gl, by cases hgl; rfl⟩
                        obtain ⟨b, rfl⟩ := hcl
                        clear hgl
                        have hcj : wr.cell? ⟨b, j, none⟩ = some (.int .i64 l[j]) := by
                          rw [hls4.out.cellAt j (by omega), List.getElem?_map, List.getElem?_eq_getElem hjl2]
                          rfl
                        have HDR : Hid (l.drop j = l[j] :: l.drop (j + 1)) := List.drop_eq_getElem_cons hjl2
                        have hL4 : L4.length = cc := by rw [← hor4.out.len]; exact hvl4.out
                        generalize l[j] = x at hx0 hcj HDR
                        obtain ⟨q, rfl⟩ : ∃ q : Nat, x = (q : Int) := ⟨x.toNat, by omega⟩
                        generalize lc0 = lc at *
                        by_cases hq : q < cc
                        · have dq : decide (cc ≤ q) = false := decide_eq_false (by omega)
                          have dq1 : decide ((cc : Int) ≤ (q : Int)) = false := decide_eq_false (by omega)
                          have dq2 : ¬ cc ≤ q := by omega
                          have hkd : Kept wr wr.drew := (Only.refl _ _).drew
                          by_cases h16 : (L4.getD q []).length ≤ 16
                          · obtain ⟨la, ln, lc5, w5, a5, n5, c5, vs5, w6, hln5, r5, r6, r7, r8, r9, r10, o1, o2, o3, o4⟩ := rput_step (w := wr.drew) (hor4.out.stay hkd) hvl4.out (by have := hkd.size; omega) (ownN_stay hls4.out hkd) hjl hq (TS, TT) h16
                            have HPL : Hid (rputL (TS, TT) l L = rputL (TS, TT) (l.drop (j + 1)) (putAt L4 q (TS, TT))) := by
                              show _ = _
                              rw [hpl4.out, HDR.out, rputL, if_pos ⟨by rw [hL4]; omega, h16⟩]
                              rfl
                            have hcq : wr.cell? ⟨base2, q, none⟩ = some (.slice la ln lc5) := r5
                            have HSD : Hid (wr.drew.cell? ⟨b, j, none⟩ = some (.int .i64 (q : Int)) ∧ wr.drew.cell? ⟨base2, q, none⟩ = some (.slice la ln lc5)) := ⟨hcj, r5⟩
                            have ha1 : Kept wr.drew (wr.drew.alloc (.cells #[.string TS, .string TT] 43)) := (Only.refl _ _).alloc _
                            have HSA : Hid ((wr.drew.alloc (.cells #[.string TS, .string TT] 43)).cell? ⟨b, j, none⟩ = some (.int .i64 (q : Int)) ∧ (wr.drew.alloc (.cells #[.string TS, .string TT] 43)).cell? ⟨base2, q, none⟩ = some (.slice la ln lc5)) := ⟨cell_kept ha1 hcj, cell_kept ha1 r5⟩
                            have HSB : Hid (w5.cell? ⟨b, j, none⟩ = some (.int .i64 (q : Int)) ∧ w5.cell? ⟨base2, q, none⟩ = some (.slice la ln lc5)) := ⟨by rw [r9]; exact hcj, r8⟩
                            have d16 : decide ((16 : Int) < (ln : Int)) = false := decide_eq_false (by omega)
                            have d17 : ¬ 16 < ln := by omega
                            have HK6 := hid (show Kept w w6 from (hkr4.out.trans hkd (fun _ _ f => f)).trans o4.out (fun k hk e => by have := HBW.out; omega))
                            have hb6 : base2 < w6.heap.size := by have := o4.out.size; have := hkd.size; omega
                            dsimp only at r6
                            clear hpl4 HDR hor4 hls4 hvl4 hkd h16 hln5 r9 ha1 o4
                            go_wp2_with fail
                            refine wp_region_noPanic ?_
                            refine wp_region_last (L := 18) (S := fun w' => w'.cell? ⟨b, j, none⟩ = some (.int .i64 (q : Int)) ∧ w'.cell? ⟨base2, q, none⟩ = some (.slice la ln lc5)) (by kernel_rfl) ?_
                            have hS : (fun w' : World => w'.cell? ⟨b, j, none⟩ = some (.int .i64 (q : Int)) ∧ w'.cell? ⟨base2, q, none⟩ = some (.slice la ln lc5)) wr.drew := HSD.out
                            refine wpAnyL_take (i := 0) (v := .slice (some ⟨base2, 0, none⟩) cc cc) rfl (by kernel_rfl) (by kernel_rfl) (by kernel_rfl) (by kernel_rfl) (by kernel_rfl) (fun _ _ _ h => h) (Or.inl ⟨by kernel_rfl, ?_⟩) hS ?_
                            · (intro w' hSw; obtain ⟨s0, s1⟩ := hSw; go_simp)
                            (try simp only [List.getElem_toArray, List.getElem_cons_succ, List.getElem_cons_zero])
                            go_frame
                            refine wpAnyL_take (i := 1) (v := .slice (some ⟨b, 0, none⟩) LN lc) rfl (by kernel_rfl) (by kernel_rfl) (by kernel_rfl) (by kernel_rfl) (by kernel_rfl) (fun _ _ _ h => h) (Or.inl ⟨by kernel_rfl, ?_⟩) hS ?_
                            · (intro w' hSw; obtain ⟨s0, s1⟩ := hSw; go_simp)
                            (try simp only [List.getElem_toArray, List.getElem_cons_succ, List.getElem_cons_zero])
                            go_frame
                            refine wpAnyL_take (i := 2) (v := .int .i64 (j : Int)) rfl (by kernel_rfl) (by kernel_rfl) (by kernel_rfl) (by kernel_rfl) (by kernel_rfl) (fun _ _ _ h => h) (Or.inl ⟨by kernel_rfl, ?_⟩) hS ?_
                            · (intro w' hSw; obtain ⟨s0, s1⟩ := hSw; go_simp)
                            (try simp only [List.getElem_toArray, List.getElem_cons_succ, List.getElem_cons_zero])
                            go_frame
                            refine wpAnyL_take (i := 3) (v := .pointer (some ⟨b, j, none⟩)) rfl (by kernel_rfl) (by kernel_rfl) (by kernel_rfl) (by kernel_rfl) (by kernel_rfl) (fun _ _ _ h => h) (Or.inl ⟨by kernel_rfl, ?_⟩) hS ?_
                            · (intro w' hSw; obtain ⟨s0, s1⟩ := hSw; go_simp)
                            (try simp only [List.getElem_toArray, List.getElem_cons_succ, List.getElem_cons_zero])
                            go_frame
                            refine wpAnyL_take (i := 4) (v := .int .i64 (q : Int)) rfl (by kernel_rfl) (by kernel_rfl) (by kernel_rfl) (by kernel_rfl) (by kernel_rfl) (fun _ _ _ h => h) (Or.inl ⟨by kernel_rfl, ?_⟩) hS ?_
                            · (intro w' hSw; obtain ⟨s0, s1⟩ := hSw; go_simp)
                            (try simp only [List.getElem_toArray, List.getElem_cons_succ, List.getElem_cons_zero])
                            go_frame
                            refine wpAnyL_take (i := 5) (v := .slice (some ⟨base2, 0, none⟩) cc cc) rfl (by kernel_rfl) (by kernel_rfl) (by kernel_rfl) (by kernel_rfl) (by kernel_rfl) (fun _ _ _ h => h) (Or.inl ⟨by kernel_rfl, ?_⟩) hS ?_
                            · (intro w' hSw; obtain ⟨s0, s1⟩ := hSw; go_simp)
                            (try simp only [List.getElem_toArray, List.getElem_cons_succ, List.getElem_cons_zero])
                            go_frame
                            refine wpAnyL_take (i := 6) (v := .slice (some ⟨b, 0, none⟩) LN lc) rfl (by kernel_rfl) (by kernel_rfl) (by kernel_rfl) (by kernel_rfl) (by kernel_rfl) (fun _ _ _ h => h) (Or.inl ⟨by kernel_rfl, ?_⟩) hS ?_
                            · (intro w' hSw; obtain ⟨s0, s1⟩ := hSw; go_simp)
                            (try simp only [List.getElem_toArray, List.getElem_cons_succ, List.getElem_cons_zero])
                            go_frame
                            refine wpAnyL_take (i := 7) (v := .int .i64 (j : Int)) rfl (by kernel_rfl) (by kernel_rfl) (by kernel_rfl) (by kernel_rfl) (by kernel_rfl) (fun _ _ _ h => h) (Or.inl ⟨by kernel_rfl, ?_⟩) hS ?_
                            · (intro w' hSw; obtain ⟨s0, s1⟩ := hSw; go_simp)
                            (try simp only [List.getElem_toArray, List.getElem_cons_succ, List.getElem_cons_zero])
                            go_frame
                            refine wpAnyL_take (i := 8) (v := .pointer (some ⟨b, j, none⟩)) rfl (by kernel_rfl) (by kernel_rfl) (by kernel_rfl) (by kernel_rfl) (by kernel_rfl) (fun _ _ _ h => h) (Or.inl ⟨by kernel_rfl, ?_⟩) hS ?_
                            · (intro w' hSw; obtain ⟨s0, s1⟩ := hSw; go_simp)
                            (try simp only [List.getElem_toArray, List.getElem_cons_succ, List.getElem_cons_zero])
                            go_frame
                            refine wpAnyL_take (i := 9) (v := .int .i64 (q : Int)) rfl (by kernel_rfl) (by kernel_rfl) (by kernel_rfl) (by kernel_rfl) (by kernel_rfl) (fun _ _ _ h => h) (Or.inl ⟨by kernel_rfl, ?_⟩) hS ?_
                            · (intro w' hSw; obtain ⟨s0, s1⟩ := hSw; go_simp)
                            (try simp only [List.getElem_toArray, List.getElem_cons_succ, List.getElem_cons_zero])
                            go_frame
                            refine wpAnyL_take (i := 10) (v := .pointer (some ⟨base2, q, none⟩)) rfl (by kernel_rfl) (by kernel_rfl) (by kernel_rfl) (by kernel_rfl) (by kernel_rfl) (fun _ _ _ h => h) (Or.inl ⟨by kernel_rfl, ?_⟩) hS ?_
                            · (intro w' hSw; obtain ⟨s0, s1⟩ := hSw; go_simp)
                            (try simp only [List.getElem_toArray, List.getElem_cons_succ, List.getElem_cons_zero])
                            go_frame
                            refine wpAnyL_take (i := 11) (v := .slice la ln lc5) rfl (by kernel_rfl) (by kernel_rfl) (by kernel_rfl) (by kernel_rfl) (by kernel_rfl) (fun _ _ _ h => h) (Or.inl ⟨by kernel_rfl, ?_⟩) hS ?_
                            · (intro w' hSw; obtain ⟨s0, s1⟩ := hSw; go_simp)
                            (try simp only [List.getElem_toArray, List.getElem_cons_succ, List.getElem_cons_zero])
                            go_frame
                            refine wpAnyL_take (i := 12) (v := .string TS) rfl (by kernel_rfl) (by kernel_rfl) (by kernel_rfl) (by kernel_rfl) (by kernel_rfl) (fun _ _ _ h => h) (Or.inl ⟨by kernel_rfl, ?_⟩) hS ?_
                            · (intro w' hSw; obtain ⟨s0, s1⟩ := hSw; go_simp)
                            (try simp only [List.getElem_toArray, List.getElem_cons_succ, List.getElem_cons_zero])
                            go_frame
                            refine wpAnyL_take (i := 13) (v := .string TT) rfl (by kernel_rfl) (by kernel_rfl) (by kernel_rfl) (by kernel_rfl) (by kernel_rfl) (fun _ _ _ h => h) (Or.inl ⟨by kernel_rfl, ?_⟩) hS ?_
                            · (intro w' hSw; obtain ⟨s0, s1⟩ := hSw; go_simp)
                            (try simp only [List.getElem_toArray, List.getElem_cons_succ, List.getElem_cons_zero])
                            go_frame
                            refine wpAnyL_take (i := 14) (v := .agg #[.string TS, .string TT]) rfl (by kernel_rfl) (by kernel_rfl) (by kernel_rfl) (by kernel_rfl) (by kernel_rfl) (fun _ _ _ h => h) (Or.inl ⟨by kernel_rfl, ?_⟩) hS ?_
                            · (intro w' hSw; obtain ⟨s0, s1⟩ := hSw; go_simp)
                            (try simp only [List.getElem_toArray, List.getElem_cons_succ, List.getElem_cons_zero])
                            go_frame
                            refine wpAnyL_one (i := 15) (by kernel_rfl) rfl (by kernel_rfl) ?_
                            go_simp
                            first | refine ⟨HSA.out, ?_⟩ | refine ⟨HSA.out.1, HSA.out.2, ?_⟩ | refine ⟨HSA.out.1, ?_⟩
                            (try go_frame)
                            refine wpAnyL_one (i := 16) (by kernel_rfl) rfl (by kernel_rfl) (oper_appendH _ _ _ rfl rfl rfl r6 ?_)
                            first | refine ⟨HSB.out, ?_⟩ | refine ⟨HSB.out.1, HSB.out.2, ?_⟩ | refine ⟨HSB.out.1, ?_⟩
                            (try go_frame)
                            refine wpAnyL_one (i := 17) (by kernel_rfl) rfl (by kernel_rfl) ?_
                            go_simp
                            first | refine ⟨HSB.out, ?_⟩ | refine ⟨HSB.out.1, HSB.out.2, ?_⟩ | refine ⟨HSB.out.1, ?_⟩
                            (try go_frame)
                            refine wpAnyL_last (by kernel_rfl) (by kernel_rfl) rfl (by kernel_rfl) ?_
                            clear hS
                            go_simp
                            refine NoPanic.normal ?_
                            go_wp2_with fail
                            refine ⟨⟨j + 1, vs5, _, by omega, by go_num, o1, o2, o3, HPL, HK6, hb6⟩, ?_⟩
                            simp [intOf]
                            omega
                          · obtain ⟨la, lc5, e5⟩ : ∃ la lc5, wr.cell? ⟨base2, q, none⟩ = some (.slice la (L4.getD q []).length lc5) := by
                              have hq4 : q < vs4.length := by rw [hvl4.out]; exact hq
                              have hqL : q < L4.length := by omega
                              obtain ⟨la, lc5, e5⟩ := ownN_slice (hor4.out.each q hq4 hqL)
                              refine ⟨la, lc5, ?_⟩
                              have hrow := hor4.out.row
                              rw [hvl4.out] at hrow
                              rw [hrow.cellAt q (by omega), List.getElem?_eq_getElem hq4, e5, List.getD_eq_getElem?_getD, List.getElem?_eq_getElem hqL]
                              rfl
                            have HF := hid (HNO.out wr (by
                              rw [HSTEP.out, hpl4.out, HDR.out, rputL, if_neg (fun h => h16 h.2)]) hkr4.out)
                            generalize (L4.getD q []).length = ln at h16 e5
                            have d16 : decide ((16 : Int) < (ln : Int)) = true := decide_eq_true (by omega)
                            have d17 : 16 < ln := by omega
                            clear hpl4 HDR hor4 hls4 hvl4
                            go_wp2
                            go_ret2
                            exact HF.out
                        · have dq : decide (cc ≤ q) = true := decide_eq_true (by omega)
                          have dq1 : decide ((cc : Int) ≤ (q : Int)) = true := decide_eq_true (by omega)
                          have HF := hid (HNO.out wr (by
                            rw [HSTEP.out, hpl4.out, HDR.out, rputL, if_neg (fun h => by have := h.1; rw [hL4] at this; omega)]) hkr4.out)
                          clear hpl4 HDR hor4 hls4 hvl4
                          go_wp2
                          go_ret2
                          exact HF.out
                      · have hje : j = LN := by omega
                        have HPL : Hid (rputL (TS, TT) l L = some L4) := by
                          show _ = _
                          rw [hpl4.out, List.drop_eq_nil_of_le (by have := HLN.out; omega), rputL]
                        have HRI2 : Hid (rreadI bs = rrdM (m - (i + 1)) L4 (bs.drop A3)) := by
                          show _ = _
                          rw [HSTEP.out, HPL.out, HMI.out]
                        have hne : ¬ ((j : Int) < (LN : Int)) := by omega
                        clear hje
                        go_wp2_with fail
                        go_roundw
                        case rel => exact ⟨i + 1, A3, vs4, L4, by omega, by go_num, rfl, hA3, hor4, hvl4, HRI2, hkr4, hbs4⟩
                        case measure => simp [intOf]; omega
            · have hie : m - i = 0 := by omega
              have HRL : Hid (rreadI bs = some L) := by show _ = _; rw [hri.out, hie, rrdM]
              have hne : ¬ ((i : Int) < (m : Int)) := by omega
              have HRD := hid (rreadI_read HRL.out)
              have HOK := hid (readI_ok HRD.out (by rw [HM.out]; omega))
              have HSUM := hid (show sumN L ≤ 5000 from by have h1 := readI_sum HRD.out; rw [HM.out] at h1; omega)
              have HCK := hid (fun (W : World) (k : Kept wr W) => rcheckI_any W (.slice (some ⟨base2, 0, none⟩) cc cc) L ((hor.out.stay k).src) (by have := HOK.out.1; omega) HOK.out.2)
              have K0 := hid (show Kept wr wr.drew from (Only.refl _ _).drew)
              have HOR := hid hor.out
              have hkr2 := hid hkr.out
              clear hie hor hri hkr HO3 HV3 HRI0 HK3
              by_cases hck : checkI L = 0
              · rw [hck] at HCK
                have hpk := pk_ok hck HSUM.out
                have HPL : Hid ((packI L.length (postsOf L)).length = (packI L.length (postsOf L)).length) := hid rfl
                have HPK := hid (fun (W : World) (k : Kept wr W) => rpackI_any W (.slice (some ⟨base2, 0, none⟩) cc cc) L ((HOR.out.stay k).src) (by have := HSUM.out; omega) (by have := HOK.out.1; omega) (fun l hl => (HOK.out.2 l hl).1) hpk.1.2.1 hpk.1.2.2)
                have HCV := hid (fun (W : World) (k : Kept wr W) => conv_bytes ((HS.out.stay (hkr2.out.trans k (fun _ _ f => f))).1))
                have HFY : Hid (∀ W, Kept wr W → packI L.length (postsOf L) = bs → RRdP w bs (.returned (.tuple #[.slice (some ⟨base2, 0, none⟩) cc cc, .int .i64 0])) W) := fun W k h => ⟨hkr2.out.trans k (fun _ _ f => f), .inl ⟨_, L, ⟨HRL.out, hck, h⟩, rfl, (HOR.out.stay k).src⟩⟩
                have HFN : Hid (∀ W, Kept wr W → ¬ packI L.length (postsOf L) = bs → RRdP w bs (.returned (.tuple #[.slice none 0 0, .int .i64 5])) W) := fun W k h => ⟨hkr2.out.trans k (fun _ _ f => f), .inr ⟨fun L' hL' => (by
                  have h1 := hL'.1
                  rw [HRL.out] at h1
                  cases h1
                  exact h hL'.2.2), rfl⟩⟩
                have HEQ : Hid (packI L.length (postsOf L) = bs ∧ ((mkB (packI L.length (postsOf L))).toList == (mkB bs).toList) = true ∨ ¬ packI L.length (postsOf L) = bs ∧ ((mkB (packI L.length (postsOf L))).toList == (mkB bs).toList) = false) := by
                  have := xstr_eq (packI L.length (postsOf L)) bs
                  by_cases h : packI L.length (postsOf L) = bs
                  · exact .inl ⟨h, by rw [show ((mkB (packI L.length (postsOf L))).toList == (mkB bs).toList) = decide (packI L.length (postsOf L) = bs) from this]; exact decide_eq_true h⟩
                  · exact .inr ⟨h, by rw [show ((mkB (packI L.length (postsOf L))).toList == (mkB bs).toList) = decide (packI L.length (postsOf L) = bs) from this]; exact decide_eq_false h⟩
                generalize packI L.length (postsOf L) = PB at *
                obtain ⟨PBL, hPBL⟩ : ∃ n, PB.length = n := ⟨_, rfl⟩
                clear HPL
                have HPL := hid hPBL
                obtain ⟨SA, hSA⟩ : ∃ s, mkB PB = s := ⟨_, rfl⟩
                obtain ⟨SB, hSB⟩ : ∃ s, mkB bs = s := ⟨_, rfl⟩
                rw [hSA, hSB] at HEQ
                rw [hSB] at HCV
                have HSA := hid hSA
                clear hpk hck hPBL hSA hSB
                rcases HEQ.out with ⟨h1, h2⟩ | ⟨h1, h2⟩
                · have HF := hid (fun W k => HFY.out W k h1)
                  clear h1 HFY HFN HEQ
                  go_wp2_with fail
                  refine wp_region_noPanic ?_
                  refine wp_region_last (L := 1000) (S := fun w' => Kept wr w') (by kernel_rfl) ?_
                  refine wpAnyN_take (i := 0) (v := .slice (some ⟨base2, 0, none⟩) cc cc) rfl (by kernel_rfl) (by kernel_rfl) (by kernel_rfl) (by decide) (by kernel_rfl) (fun _ _ _ h => h) (Or.inl ⟨by kernel_rfl, ?_⟩) K0.out ?_
                  · (intro w' hSw; go_simp)
                  (try simp only [List.getElem_toArray, List.getElem_cons_succ, List.getElem_cons_zero])
                  go_frame
                  refine wpAnyL_one (i := 1) (by kernel_rfl) rfl (by kernel_rfl) ?_
                  go_simp
                  refine (HCK.out _ K0.out).mono ?_
                  rintro e X7 ⟨rfl, k7⟩
                  have K7 := hid (show Kept wr X7 from K0.out.trans k7 (fun _ _ f => f))
                  clear k7
                  refine ⟨K7.out, ?_⟩
                  (try go_frame)
                  refine wpAnyN_take (i := 2) (v := .bool false) rfl (by kernel_rfl) (by kernel_rfl) (by kernel_rfl) (by decide) (by kernel_rfl) (fun _ _ _ h => h) (Or.inl ⟨by kernel_rfl, ?_⟩) K7.out ?_
                  · (intro w' hSw; go_simp)
                  (try simp only [List.getElem_toArray, List.getElem_cons_succ, List.getElem_cons_zero])
                  go_frame
                  refine wpAnyN_take (i := 3) (v := .bool false) rfl (by kernel_rfl) (by kernel_rfl) (by kernel_rfl) (by decide) (by kernel_rfl) (fun _ _ _ h => h) (Or.inl ⟨by kernel_rfl, ?_⟩) K7.out ?_
                  · (intro w' hSw; go_simp)
                  (try simp only [List.getElem_toArray, List.getElem_cons_succ, List.getElem_cons_zero])
                  go_frame
                  refine wpAnyN_take (i := 4) (v := .slice (some ⟨base2, 0, none⟩) cc cc) rfl (by kernel_rfl) (by kernel_rfl) (by kernel_rfl) (by decide) (by kernel_rfl) (fun _ _ _ h => h) (Or.inl ⟨by kernel_rfl, ?_⟩) K7.out ?_
                  · (intro w' hSw; go_simp)
                  (try simp only [List.getElem_toArray, List.getElem_cons_succ, List.getElem_cons_zero])
                  go_frame
                  refine wpAnyN_take (i := 7) (v := .slice va M vc) rfl (by kernel_rfl) (by kernel_rfl) (by kernel_rfl) (by decide) (by kernel_rfl) (fun _ _ _ h => h) (Or.inl ⟨by kernel_rfl, ?_⟩) K7.out ?_
                  · (intro w' hSw; go_simp)
                  (try simp only [List.getElem_toArray, List.getElem_cons_succ, List.getElem_cons_zero])
                  go_frame
                  refine wpAnyN_take (i := 8) (v := .string SB) rfl (by kernel_rfl) (by kernel_rfl) (by kernel_rfl) (by decide) (by kernel_rfl) (fun _ _ _ h => h) (Or.inl ⟨by kernel_rfl, ?_⟩) K7.out ?_
                  · (intro w' hSw; have scv := HCV.out w' hSw; clear hSw; go_simp)
                  (try simp only [List.getElem_toArray, List.getElem_cons_succ, List.getElem_cons_zero])
                  go_frame
                  refine wpAnyL_one (i := 5) (by kernel_rfl) rfl (by kernel_rfl) ?_
                  go_simp
                  refine (HPK.out _ K7.out).mono ?_
                  rintro e X8 ⟨u8, rfl, hu8, k8⟩
                  have K8 := hid (show Kept wr X8 from K7.out.trans k8 (fun _ _ f => f))
                  have hcv8 := conv_bytes (own_src hu8)
                  rw [HSA.out] at hcv8
                  obtain ⟨ua, uc, e8⟩ := ownN_slice hu8
                  rw [HPL.out] at e8
                  subst e8
                  clear k8 hu8
                  refine ⟨K8.out, ?_⟩
                  (try go_frame)
                  refine wpAnyL_one (i := 6) (by kernel_rfl) rfl (by kernel_rfl) ?_
                  go_simp
                  refine ⟨K8.out, ?_⟩
                  (try go_frame)
                  refine wpAnyL_one (i := 9) (by kernel_rfl) rfl (by kernel_rfl) ?_
                  go_simp
                  refine ⟨K8.out, ?_⟩
                  (try go_frame)
                  refine wpAnyL_one (i := 10) (by kernel_rfl) rfl (by kernel_rfl) ?_
                  go_simp
                  refine ⟨K8.out, ?_⟩
                  (try go_frame)
                  refine wpAnyN_done (by kernel_rfl) ?_
                  refine NoPanic.normal ?_
                  have HF2 := hid (HF.out X8 K8.out)
                  go_wp2
                  go_ret2
                  exact HF2.out
                · have HF := hid (fun W k => HFN.out W k h1)
                  have h3 : ¬ SA.toList = SB.toList := by simpa using h2
                  clear h1 HFY HFN HEQ
                  go_wp2_with fail
                  refine wp_region_noPanic ?_
                  refine wp_region_last (L := 1000) (S := fun w' => Kept wr w') (by kernel_rfl) ?_
                  refine wpAnyN_take (i := 0) (v := .slice (some ⟨base2, 0, none⟩) cc cc) rfl (by kernel_rfl) (by kernel_rfl) (by kernel_rfl) (by decide) (by kernel_rfl) (fun _ _ _ h => h) (Or.inl ⟨by kernel_rfl, ?_⟩) K0.out ?_
                  · (intro w' hSw; go_simp)
                  (try simp only [List.getElem_toArray, List.getElem_cons_succ, List.getElem_cons_zero])
                  go_frame
                  refine wpAnyL_one (i := 1) (by kernel_rfl) rfl (by kernel_rfl) ?_
                  go_simp
                  refine (HCK.out _ K0.out).mono ?_
                  rintro e X7 ⟨rfl, k7⟩
                  have K7 := hid (show Kept wr X7 from K0.out.trans k7 (fun _ _ f => f))
                  clear k7
                  refine ⟨K7.out, ?_⟩
                  (try go_frame)
                  refine wpAnyN_take (i := 2) (v := .bool false) rfl (by kernel_rfl) (by kernel_rfl) (by kernel_rfl) (by decide) (by kernel_rfl) (fun _ _ _ h => h) (Or.inl ⟨by kernel_rfl, ?_⟩) K7.out ?_
                  · (intro w' hSw; go_simp)
                  (try simp only [List.getElem_toArray, List.getElem_cons_succ, List.getElem_cons_zero])
                  go_frame
                  refine wpAnyN_take (i := 3) (v := .bool false) rfl (by kernel_rfl) (by kernel_rfl) (by kernel_rfl) (by decide) (by kernel_rfl) (fun _ _ _ h => h) (Or.inl ⟨by kernel_rfl, ?_⟩) K7.out ?_
                  · (intro w' hSw; go_simp)
                  (try simp only [List.getElem_toArray, List.getElem_cons_succ, List.getElem_cons_zero])
                  go_frame
                  refine wpAnyN_take (i := 4) (v := .slice (some ⟨base2, 0, none⟩) cc cc) rfl (by kernel_rfl) (by kernel_rfl) (by kernel_rfl) (by decide) (by kernel_rfl) (fun _ _ _ h => h) (Or.inl ⟨by kernel_rfl, ?_⟩) K7.out ?_
                  · (intro w' hSw; go_simp)
                  (try simp only [List.getElem_toArray, List.getElem_cons_succ, List.getElem_cons_zero])
                  go_frame
                  refine wpAnyN_take (i := 7) (v := .slice va M vc) rfl (by kernel_rfl) (by kernel_rfl) (by kernel_rfl) (by decide) (by kernel_rfl) (fun _ _ _ h => h) (Or.inl ⟨by kernel_rfl, ?_⟩) K7.out ?_
                  · (intro w' hSw; go_simp)
                  (try simp only [List.getElem_toArray, List.getElem_cons_succ, List.getElem_cons_zero])
                  go_frame
                  refine wpAnyN_take (i := 8) (v := .string SB) rfl (by kernel_rfl) (by kernel_rfl) (by kernel_rfl) (by decide) (by kernel_rfl) (fun _ _ _ h => h) (Or.inl ⟨by kernel_rfl, ?_⟩) K7.out ?_
                  · (intro w' hSw; have scv := HCV.out w' hSw; clear hSw; go_simp)
                  (try simp only [List.getElem_toArray, List.getElem_cons_succ, List.getElem_cons_zero])
                  go_frame
                  refine wpAnyL_one (i := 5) (by kernel_rfl) rfl (by kernel_rfl) ?_
                  go_simp
                  refine (HPK.out _ K7.out).mono ?_
                  rintro e X8 ⟨u8, rfl, hu8, k8⟩
                  have K8 := hid (show Kept wr X8 from K7.out.trans k8 (fun _ _ f => f))
                  have hcv8 := conv_bytes (own_src hu8)
                  rw [HSA.out] at hcv8
                  obtain ⟨ua, uc, e8⟩ := ownN_slice hu8
                  rw [HPL.out] at e8
                  subst e8
                  clear k8 hu8
                  refine ⟨K8.out, ?_⟩
                  (try go_frame)
                  refine wpAnyL_one (i := 6) (by kernel_rfl) rfl (by kernel_rfl) ?_
                  go_simp
                  refine ⟨K8.out, ?_⟩
                  (try go_frame)
                  refine wpAnyL_one (i := 9) (by kernel_rfl) rfl (by kernel_rfl) ?_
                  go_simp
                  refine ⟨K8.out, ?_⟩
                  (try go_frame)
                  refine wpAnyL_one (i := 10) (by kernel_rfl) rfl (by kernel_rfl) ?_
                  go_simp
                  refine ⟨K8.out, ?_⟩
                  (try go_frame)
                  refine wpAnyN_done (by kernel_rfl) ?_
                  refine NoPanic.normal ?_
                  have HF2 := hid (HF.out X8 K8.out)
                  go_wp2
                  go_ret2
                  exact HF2.out
              · generalize hckn : checkI L = ck at HCK hck
                have dck : (ck == 0) = false := by simpa using hck
                have dck2 : (ck != 0) = true := by simpa using hck
                have HFN : Hid (∀ W, Kept wr W → RRdP w bs (.returned (.tuple #[.slice none 0 0, .int .i64 5])) W) := fun W k => ⟨hkr2.out.trans k (fun _ _ f => f), .inr ⟨fun L' hL' => (by
                  have h1 := hL'.1
                  rw [HRL.out] at h1
                  cases h1
                  have h2 := hL'.2.1
                  rw [hckn] at h2
                  exact hck h2), rfl⟩⟩
                clear hckn hck
                go_wp2_with fail
                refine wp_region_noPanic ?_
                refine wp_region_last (L := 1000) (S := fun w' => Kept wr w') (by kernel_rfl) ?_
                refine wpAnyN_take (i := 0) (v := .slice (some ⟨base2, 0, none⟩) cc cc) rfl (by kernel_rfl) (by kernel_rfl) (by kernel_rfl) (by decide) (by kernel_rfl) (fun _ _ _ h => h) (Or.inl ⟨by kernel_rfl, ?_⟩) K0.out ?_
                · (intro w' hSw; go_simp)
                (try simp only [List.getElem_toArray, List.getElem_cons_succ, List.getElem_cons_zero])
                go_frame
                refine wpAnyL_one (i := 1) (by kernel_rfl) rfl (by kernel_rfl) ?_
                go_simp
                refine (HCK.out _ K0.out).mono ?_
                rintro e X7 ⟨rfl, k7⟩
                have K7 := hid (show Kept wr X7 from K0.out.trans k7 (fun _ _ f => f))
                clear k7
                refine ⟨K7.out, ?_⟩
                (try go_frame)
                refine wpAnyN_take (i := 2) (v := .bool true) rfl (by kernel_rfl) (by kernel_rfl) (by kernel_rfl) (by decide) (by kernel_rfl) (fun _ _ _ h => h) (Or.inl ⟨by kernel_rfl, ?_⟩) K7.out ?_
                · (intro w' hSw; go_simp)
                (try simp only [List.getElem_toArray, List.getElem_cons_succ, List.getElem_cons_zero])
                go_frame
                refine wpAnyN_take (i := 3) (v := .bool true) rfl (by kernel_rfl) (by kernel_rfl) (by kernel_rfl) (by decide) (by kernel_rfl) (fun _ _ _ h => h) (Or.inl ⟨by kernel_rfl, ?_⟩) K7.out ?_
                · (intro w' hSw; go_simp)
                (try simp only [List.getElem_toArray, List.getElem_cons_succ, List.getElem_cons_zero])
                go_frame
                refine wpAnyN_take (i := 4) (v := undef) rfl (by kernel_rfl) (by kernel_rfl) (by kernel_rfl) (by decide) (by kernel_rfl) (fun _ _ _ h => h) (Or.inr ⟨by kernel_rfl, rfl⟩) K7.out ?_
                (try simp only [List.getElem_toArray, List.getElem_cons_succ, List.getElem_cons_zero])
                go_frame
                refine wpAnyN_take (i := 5) (v := undef) rfl (by kernel_rfl) (by kernel_rfl) (by kernel_rfl) (by decide) (by kernel_rfl) (fun _ _ _ h => h) (Or.inr ⟨by kernel_rfl, rfl⟩) K7.out ?_
                (try simp only [List.getElem_toArray, List.getElem_cons_succ, List.getElem_cons_zero])
                go_frame
                refine wpAnyN_take (i := 7) (v := undef) rfl (by kernel_rfl) (by kernel_rfl) (by kernel_rfl) (by decide) (by kernel_rfl) (fun _ _ _ h => h) (Or.inr ⟨by kernel_rfl, rfl⟩) K7.out ?_
                (try simp only [List.getElem_toArray, List.getElem_cons_succ, List.getElem_cons_zero])
                go_frame
                refine wpAnyN_take (i := 8) (v := undef) rfl (by kernel_rfl) (by kernel_rfl) (by kernel_rfl) (by decide) (by kernel_rfl) (fun _ _ _ h => h) (Or.inr ⟨by kernel_rfl, rfl⟩) K7.out ?_
                (try simp only [List.getElem_toArray, List.getElem_cons_succ, List.getElem_cons_zero])
                go_frame
                refine wpAnyN_take (i := 6) (v := undef) rfl (by kernel_rfl) (by kernel_rfl) (by kernel_rfl) (by decide) (by kernel_rfl) (fun _ _ _ h => h) (Or.inr ⟨by kernel_rfl, rfl⟩) K7.out ?_
                (try simp only [List.getElem_toArray, List.getElem_cons_succ, List.getElem_cons_zero])
                go_frame
                refine wpAnyN_take (i := 9) (v := undef) rfl (by kernel_rfl) (by kernel_rfl) (by kernel_rfl) (by decide) (by kernel_rfl) (fun _ _ _ h => h) (Or.inr ⟨by kernel_rfl, rfl⟩) K7.out ?_
                (try simp only [List.getElem_toArray, List.getElem_cons_succ, List.getElem_cons_zero])
                go_frame
                refine wpAnyL_one (i := 10) (by kernel_rfl) rfl (by kernel_rfl) ?_
                go_simp
                refine ⟨K7.out, ?_⟩
                (try go_frame)
                refine wpAnyN_done (by kernel_rfl) ?_
                refine NoPanic.normal ?_
                have HF := hid (HFN.out X7 K7.out)
                go_wp2
                go_ret2
                exact HF.out
end Go.Proofs.YteknpfldemgmnaaGreat.X

/-
  What the law IndexReads walks through.
-/
namespace Go.Proofs.YteknpfldemgmnaaGreat.X
open Go.RowKit Go.Proofs.Lys Go.Maps Go.Proofs.YteknpfldemgmnaaGreat.N
set_option linter.unusedVariables false
set_option linter.unusedSimpArgs false

theorem unI_inj {bs : List UInt8} {L L' : List Labs} (h : UnI bs L) (h' : UnI bs L') : L = L' := by
  have h1 := h.1
  rw [h'.1] at h1
  cases h1
  rfl
set_option maxRecDepth 100000 in
set_option maxHeartbeats 6400000 in
theorem reads15_walk (w : World) (v : Value) (bs : List UInt8) (h : Po.BIn w v bs) :
    Calls Tryz.prog 4 #[v] w fun e w' => e = .returned (.bool true) ∧ Kept w w' := by
  obtain ⟨hs, hm⟩ := h
  obtain ⟨a, c, rfl⟩ : ∃ a c, v = .slice a bs.length c := ⟨_, _, hs.2.choose_spec.choose_spec.1⟩
  have HS := hid hs
  have HA := hid (xalive_any w)
  have HNUM := hid num15_any
  by_cases hl : bs.length ≤ 5000
  · have HUR := hid (unR_iff hl)
    have HUN := hid (fun (W : World) (x : Value) (hx : Po.BSrc W x bs) => unpack_ix W x bs hx (by omega) (fun L h => readI_ok h (by omega)) (fun L h hc => (pk_ok hc (by have := readI_sum h; omega)).1))
    have HRD := hid (fun (W : World) (x : Value) (hx : Po.BSrc W x bs) => rreadI_any W x bs hx hl)
    obtain ⟨M, hM⟩ : ∃ M, bs.length = M := ⟨_, rfl⟩
    have HL := hid hl
    have HM := hid hM
    rw [hM] at hl hm HS ⊢
    clear hs hM
    go_enter Tryz.func4, Tryz.ntmps4
    go_wp2_with fail
    refine HA.out.mono ?_
    rintro e w1 ⟨rfl, k1⟩
    obtain ⟨v2, w2, Hr, ho2, k2⟩ := Po.copy_bytes (HS.out.stay k1).1 (by have := HL.out; omega)
    have HK2 := hid (show Kept w w2 from k1.trans k2 (fun _ _ f => f))
    have HU := hid (HUN.out w2 v2 (Po.own_bsrc ho2))
    clear ho2 k2 k1 HA HUN
    go_wp2_with (at_builtin; refine wpList_append_run rfl _ _ _ rfl rfl rfl Hr ?_)
    (try go_wp2_with fail)
    refine HU.out.mono ?_
    rintro e w3 ⟨hR3, k3⟩
    have HK3 := hid (HK2.out.trans k3 (fun _ _ f => f))
    have HV := hid (HRD.out w3 _ (HS.out.stay HK3.out))
    clear HU k3 HRD
    rcases hR3 with ⟨L, x, hU, rfl, hmd⟩ | ⟨hno, rfl⟩
    · have HUI := hid hU
      have HMD := hid hmd
      obtain ⟨XB, hXB⟩ : ∃ XB, x.xb = XB := ⟨_, rfl⟩
      have HXB := hid hXB
      rw [hXB]
      clear hU hmd hXB
      go_wp2_with fail
      refine HV.out.mono ?_
      rintro e w4 ⟨k4, hR4⟩
      rcases hR4 with ⟨v6, L', hU', rfl, hsrc⟩ | ⟨hno, _⟩
      · obtain rfl : L = L' := unI_inj HUI.out ((HUR.out L').1 hU')
        have hsum : sumN L ≤ 5000 := by have h1 := readI_sum HUI.out.1; have h2 := HL.out; omega
        have hrk := readI_ok HUI.out.1 (by have := HL.out; omega)
        have hpk := (pk_ok HUI.out.2.1 hsum).1
        have HK4 := hid (HK3.out.trans k4 (fun _ _ f => f))
        have HAT := hid (HMD.out.at_.only k4 (fun _ _ f => f))
        have HPO := hid (posts_any HAT.out HMD.out.is (by have := hpk.1; omega) (fun p hp => by have := (hpk.2.1 p hp).1; omega))
        have HRP := hid (fun (W : World) (k : Kept w4 W) => rposts_any W v6 L (hsrc.stay k) (by omega) (by have := hrk.1; omega) (fun l hl => (hrk.2 l hl).1))
        have HPL := hid (show (postsOf L).length ≤ 1000000 ∧ ∀ p ∈ postsOf L, p.2.length ≤ 1000000 from ⟨by have := hpk.1; omega, fun p hp => by have := (hpk.2.1 p hp).1; omega⟩)
        rw [HXB.out] at HPO
        obtain ⟨a6, c6, e6⟩ := hsrc.len
        obtain ⟨NL, hNL⟩ : ∃ NL, L.length = NL := ⟨_, rfl⟩
        rw [hNL] at e6
        subst e6
        clear k4 hU' hsrc hrk hpk hsum hNL
        go_wp2_with fail
        refine (HNUM.out _ _).mono ?_
        rintro e w' ⟨rfl, hw⟩
        replace hw := hw.symm
        subst hw
        go_wp2_with fail
        refine HPO.out.mono ?_
        rintro e w5 ⟨va, qa, rfl, hpa, hqa, k5⟩
        have HK5 := hid (HK4.out.trans k5 (fun _ _ f => f))
        have HPA := hid (hpa.psrc hqa)
        have HR5 := hid (HRP.out w5 k5)
        obtain ⟨aa, ca, ea⟩ := (pv_cells hpa.row).len
        generalize hQA : qa.length = QA at ea
        subst ea
        clear k5 hpa hqa hQA HPO
        go_wp2_with fail
        refine HR5.out.mono ?_
        rintro e w6 ⟨vb, qb, rfl, hpb, hqb, k6⟩
        have HK6 := hid (HK5.out.trans k6 (fun _ _ f => f))
        have HPB := hid (hpb.psrc hqb)
        have HSM := hid (sameposts_any w6 _ _ _ qa qb (HPA.out.stay k6) HPB.out HPL.out.1 HPL.out.2)
        obtain ⟨ab, cb, eb⟩ := (pv_cells hpb.row).len
        generalize hQB : qb.length = QB at eb
        subst eb
        clear k6 hpb hqb hQB HR5
        go_wp2_with fail
        refine HSM.out.mono ?_
        rintro e w7 ⟨rfl, k7⟩
        have HK7 := hid (HK6.out.trans k7 (fun _ _ f => f))
        clear k7
        go_wp2_with fail
        go_ret
        exact ⟨rfl, HK7.out⟩
      · exact absurd ((HUR.out L).2 HUI.out) (hno L)
    · have HNO := hid hno
      clear hno
      go_wp2_with fail
      refine HV.out.mono ?_
      rintro e w4 ⟨k4, hR4⟩
      rcases hR4 with ⟨v6, L', hU', _⟩ | ⟨_, rfl⟩
      · exact absurd ((HUR.out L').1 hU') (HNO.out L')
      · have HK4 := hid (HK3.out.trans k4 (fun _ _ f => f))
        clear k4
        go_wp2_with fail
        refine (HNUM.out _ _).mono ?_
        rintro e w' ⟨rfl, hw⟩
        replace hw := hw.symm
        subst hw
        go_wp2_with fail
        go_ret
        exact ⟨rfl, HK4.out⟩
  · obtain ⟨M, hM⟩ : ∃ M, bs.length = M := ⟨_, rfl⟩
    rw [hM] at hl hm ⊢
    clear hs hM HS
    go_enter Tryz.func4, Tryz.ntmps4
    go_wp2_with fail
    refine HA.out.mono ?_
    rintro e w1 ⟨rfl, k1⟩
    go_wp2_with fail
    go_ret
    exact ⟨rfl, k1⟩
end Go.Proofs.YteknpfldemgmnaaGreat.X
