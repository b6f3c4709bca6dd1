/-
  The document's own MergeSeries, walked.
-/
import Derived.Test.YtcacoanhiphbiaaZrm2
namespace Go.Proofs.Ytcacoanhiphbiaa.Ms
open Go Go.RowKit Go.Proofs.Lys Go.Maps
open Go.Proofs.Ytcacoanhiphbiaa.N (Labs LabAt LabSrc cmpL)
set_option linter.unusedVariables false
set_option linter.unusedSimpArgs false

set_option maxRecDepth 100000 in
set_option maxHeartbeats 12800000 in
theorem rmseries_any {RK : Rank} (w : World) (v : Value) (vs : List Value) (ls : List Smps) (hs : LLSrc RK w v vs ls) (hl : ls.flatten.length ≤ 90000) (hm : ls.length ≤ 90000) (hsm : wsum ls.flatten ≤ 90000) (hlab : ∀ a ∈ RK.ls, a.length ≤ 90000) :
    Calls Try.prog 8 #[v] w (RmP w ls.flatten) := by
  obtain ⟨R, hR⟩ : ∃ R, RmP w ls.flatten = R := ⟨_, rfl⟩
  rw [hR]
  have HRR := hid hR
  have HS := hid hs
  have HLAB := hid hlab
  have HL := hid hl
  have HSM := hid hsm
  obtain ⟨a0, c0, rfl⟩ := hs.src.len
  have hvl := hs.len
  obtain ⟨M, hM⟩ : ∃ M, vs.length = M := ⟨_, rfl⟩
  rw [hM] at HS ⊢
  have HM : Hid (ls.length = M) := hid (by rw [← hvl, hM])
  have hM9 : M ≤ 90000 := by rw [← hM, hvl]; exact hm
  clear hs hR hl hm hsm hlab hvl hM
  go_enter Try.func8, Try.ntmps8
  go_wp2_with fail
  go_loopw [4, 3] (fun s4 s3 W => ∃ (i : Nat) (u : Value) (qs : List SV), i ≤ M ∧ s4 = .int .i64 (i : Int) ∧ u = s3 ∧ Hid (RmI w (ls.take i).flatten u qs W)) (fun s4 _ _ => M - (intOf s4).toNat)
  case atStart => exact ⟨0, _, [], by omega, rfl, rfl, hid ⟨SerAt.nil _ _, rfl, Nat.zero_le _, Nat.le_refl _, (fun q hq => by cases hq), Only.refl _ _⟩⟩
  case round =>
    obtain ⟨i, u, qs, hi, rfl, rfl, HI⟩ := hrel
    by_cases hlt : i < M
    · have hil : i < ls.length := by have := HM.out; omega
      obtain ⟨bL, oL, a1, c1, rfl, q0, hsk⟩ := ll_cell HS.out HM.out i hlt
      obtain ⟨l, hle⟩ : ∃ l, ls[i] = l := ⟨_, rfl⟩
      rw [hle] at q0 hsk
      have HLE := hid hle
      obtain ⟨N, hN⟩ : ∃ N, l.length = N := ⟨_, rfl⟩
      rw [hN] at q0 hsk
      have HN := hid hN
      have HSK := hid hsk
      have hbL : bL < w.heap.size := World.block_lt_of_cell? w _ q0
      have HQ := hid q0
      have hfl : (ls.take (i + 1)).flatten = (ls.take i).flatten ++ l := by
        rw [List.take_add_one, List.getElem?_eq_getElem hil, Option.toList_some, List.flatten_append, hle]
        simp
      have hpre : (ls.take (i + 1)).flatten.length ≤ ls.flatten.length ∧ wsum (ls.take (i + 1)).flatten ≤ wsum ls.flatten := by
        have h1 := congrArg List.flatten (List.take_append_drop (i + 1) ls)
        rw [List.flatten_append] at h1
        rw [← h1, List.length_append, wsum_app]
        omega
      rw [hfl, List.length_append, wsum_app, hN] at hpre
      have HPRE := hid hpre
      have HFL := hid hfl
      have hN9 : N ≤ 90000 := by have := HL.out; omega
      clear q0 hsk hle hN hfl hpre
      go_wp2_with fail
      go_loopw [5, 3] (fun s5 s3 W => ∃ (k : Nat) (u : Value) (qs : List SV), k ≤ N ∧ s5 = .int .i64 (k : Int) ∧ u = s3 ∧ Hid (RmI w ((ls.take i).flatten ++ l.take k) u qs W)) (fun s5 _ _ => N - (intOf s5).toNat)
      case atStart => exact ⟨0, u, qs, by omega, rfl, rfl, hid (by rw [List.take_zero, List.append_nil]; exact HI.out)⟩
      case round =>
        clear HI
        obtain ⟨k, u, qs, hk, rfl, rfl, HI⟩ := hrel
        have q1 := each_cell HI.out.kept _ _ HQ.out
        by_cases hkl : k < N
        · have hkl2 : k < l.length := by have := HN.out; omega
          obtain ⟨b, o, rfl, p0, p1, pf⟩ := ((HSK.out.stay HI.out.kept).1).cell HN.out k hkl
          obtain ⟨x, hx⟩ : ∃ x, l[k] = x := ⟨_, rfl⟩
          rw [hx] at p0 p1 pf
          have HX := hid hx
          have htk : l.take (k + 1) = l.take k ++ [x] := by rw [← List.take_append_getElem hkl2, hx]
          have HTK := hid htk
          have HW : Hid (wsum ((ls.take i).flatten ++ l.take k) + x.2.smps.length ≤ 90000) := hid (by
            have h1 := wsum_take l (k + 1)
            rw [htk, wsum_app, wsum_cons] at h1
            have h2 := HPRE.out.2
            have h3 := HSM.out
            rw [wsum_app]
            omega)
          have HLEN : Hid (((ls.take i).flatten ++ l.take k).length ≤ 90000) := hid (by
            have h2 := HPRE.out.1
            have h3 := HL.out
            rw [List.length_append, List.length_take]
            omega)
          obtain ⟨la, ln, lc, hLV⟩ : ∃ a b c, x.2.lv = .slice a b c := ⟨_, _, _, rfl⟩
          obtain ⟨sa, sn, sc, hSV⟩ : ∃ a b c, x.2.sv = .slice a b c := ⟨_, _, _, rfl⟩
          rw [hLV] at p0
          rw [hSV] at p1
          have HLV := hid hLV
          have HSV := hid hSV
          have hsn : x.2.smps.length = sn := by
            obtain ⟨_, _, e, _⟩ := pf.2.2.1.2
            rw [hSV] at e
            injection e with _ e _
            exact e.symm
          have hbb : b < wr.heap.size := World.block_lt_of_cell? wr _ p0
          have HFX := hid pf
          clear hx htk hLV hSV pf
          have hsm0 : sn ≠ 0 → x.2.smps ≠ [] := fun h e => h (by rw [← hsn, e]; rfl)
          by_cases hsn0 : sn = 0
          · subst hsn0
            have HI2 : Hid (RmI w ((ls.take i).flatten ++ l.take (k + 1)) u qs (wr.alloc (.cells #[.slice la ln lc, .slice sa 0 sc] 29))) := hid (by
              rw [HTK.out, ← List.append_assoc]
              exact (HI.out.skip (List.eq_nil_of_length_eq_zero hsn)).stay ((Only.refl _ _).alloc _))
            clear HI
            go_wp2_with fail
            go_roundw
            case rel => exact ⟨k + 1, u, qs, by omega, by go_num, rfl, HI2⟩
            case measure => simp [intOf]; omega
          · have hsb : ((sn : Int) == 0) = false := by
              rw [beq_eq_false_iff_ne]; omega
            obtain ⟨ua, uc, rfl, huc⟩ := own_cap HI.out.row.row
            obtain ⟨UL, hUL⟩ : ∃ n, qs.length = n := ⟨_, rfl⟩
            have HUL := hid hUL
            have hu9 : UL ≤ 90000 := by
              have h1 := HI.out.len
              have h2 := HPRE.out.1
              have h3 := HL.out
              rw [List.length_append, List.length_take] at h1
              omega
            rw [hUL] at HI huc ⊢
            clear hUL
            go_wp2_with fail
            obtain ⟨X, hX⟩ : ∃ X, wr.heap.size = X := ⟨_, rfl⟩
            obtain ⟨w1, hw1⟩ : ∃ W, wr.alloc (.cells #[.slice la ln lc, .slice sa sn sc] 29) = W := ⟨_, rfl⟩
            have K1 : Hid (Kept wr w1) := hid (by rw [← hw1]; exact (Only.refl _ _).alloc _)
            have HB1 : Hid (Blk w1 X [.slice la ln lc, .slice sa sn sc] 29) := hid (by
              rw [← hw1, ← hX]
              exact Blk.new wr [.slice la ln lc, .slice sa sn sc] 29)
            have HX1 : Hid (w.heap.size ≤ X) := hid (by rw [← hX]; exact HI.out.kept.size)
            have HS1 := hid (HI.out.row.stay K1.out)
            have HI1 := hid (HI.out.stay K1.out)
            have HF1 := hid (HFX.out.stay K1.out)
            have hXl : X < w1.heap.size := by rw [← hw1, ← hX]; simp
            rw [hw1, hX]
            clear hw1 hX p0 p1 q1 hbb HI HFX K1
            go_loopw [7] (fun s7 W => ∃ (t : Nat), t ≤ UL ∧ s7 = .int .i64 (t : Int) ∧ Hid (Kept w1 W) ∧ Hid (∀ j (h : j < qs.length), j < t → cmpL qs[j].labs x.2.labs < 0)) (fun s7 _ => UL - (intOf s7).toNat)
            case atStart => exact ⟨0, Nat.zero_le _, rfl, hid (Only.refl _ _), hid (fun j h hj => absurd hj (Nat.not_lt_zero _))⟩
            case round =>
              obtain ⟨t, ht, rfl, K2, HBT⟩ := hrel
              have HB2 := hid (K2.out.blk HB1.out (fun f => f))
              have B0 := hid (HB2.out.cell 0 rfl)
              have B1 := hid (HB2.out.cell 1 rfl)
              have HS2 := hid (HS1.out.stay K2.out)
              by_cases htl : t < UL
              · have htq : t < qs.length := by have := HUL.out; omega
                have hrw := HS2.out.row
                obtain ⟨g, cap, hue⟩ := ownN_some hrw (by have := HUL.out; omega)
                clear hrw
                rw [HUL.out] at hue
                injection hue with hu1 hu2 hu3
                subst hu1
                subst hu3
                obtain ⟨y, hy⟩ : ∃ y, qs[t] = y := ⟨_, rfl⟩
                have HY := hid hy
                have hym : y ∈ qs := by rw [← hy]; exact List.getElem_mem _
                have HYM := hid hym
                obtain ⟨ya, yn, yc, hyl⟩ : ∃ a n c, y.lv = .slice a n c := by
                  obtain ⟨a, c, e⟩ := ownN_slice (HS2.out.lab y hym)
                  exact ⟨a, _, c, e⟩
                have HYL := hid hyl
                have C0 : Hid (wr.cell? ⟨g, t * 2, none⟩ = some (.slice ya yn yc)) := hid (by
                  have hrw := HS2.out.row
                  rw [HUL.out] at hrw
                  have h := hrw.cellAt (t * 2) (show t * 2 < UL * 2 by omega)
                  rw [(svL_at qs t htq).1, hy, hyl] at h
                  exact h)
                have HCM : Hid (∀ W, Kept wr W → Calls Try.prog 20 #[.slice ya yn yc, .slice la ln lc] W fun e w' => e = .returned (.int .i64 (cmpL y.labs x.2.labs)) ∧ Kept W w') := hid (fun W k => by
                  have h1 : LabSrc W (.slice ya yn yc) y.labs := by
                    rw [← hyl]
                    exact Go.Proofs.Ytcacoanhiphbiaa.N.LabAt.src ((HS2.out.stay k).lab y hym)
                  have h2 : LabSrc W (.slice la ln lc) x.2.labs := by
                    have h := ((HF1.out.stay K2.out).stay k).2.1
                    rw [HLV.out] at h
                    exact h
                  exact Go.Proofs.Ytcacoanhiphbiaa.N.rcmp_any W _ _ _ _ h1 h2 (by have := HI1.out.labn y HYM.out; omega) (by have := HLAB.out _ HF1.out.1; omega))
                obtain ⟨Z, hZ⟩ : ∃ Z, cmpL y.labs x.2.labs = Z := ⟨_, rfl⟩
                have HZ := hid hZ
                rw [hZ] at HCM
                clear hy hym hyl hZ
                have KA := hid (show Kept wr wr.drew from (Only.refl _ _).drew)
                go_wp2_with fail
                refine wp_region_noPanic ?_
                refine wp_region_last (L := 1000) (S := fun w' => Kept wr w') (by kernel_rfl) ?_
                refine wpAnyN_take (i := 0) (v := .int .i64 (t : Int)) rfl (by kernel_rfl) (by kernel_rfl) (by kernel_rfl) (by decide) (by kernel_rfl) (fun _ _ _ h => h) (Or.inl ⟨by kernel_rfl, ?_⟩) KA.out ?_
                · (intro w' hSw; go_simp)
                (try simp only [List.getElem_toArray, List.getElem_cons_succ, List.getElem_cons_zero])
                go_frame
                refine wpAnyN_take (i := 1) (v := .slice (some ⟨g, 0, none⟩) UL uc) rfl (by kernel_rfl) (by kernel_rfl) (by kernel_rfl) (by decide) (by kernel_rfl) (fun _ _ _ h => h) (Or.inl ⟨by kernel_rfl, ?_⟩) KA.out ?_
                · (intro w' hSw; go_simp)
                (try simp only [List.getElem_toArray, List.getElem_cons_succ, List.getElem_cons_zero])
                go_frame
                refine wpAnyN_take (i := 2) (v := .int .i64 (UL : Int)) rfl (by kernel_rfl) (by kernel_rfl) (by kernel_rfl) (by decide) (by kernel_rfl) (fun _ _ _ h => h) (Or.inl ⟨by kernel_rfl, ?_⟩) KA.out ?_
                · (intro w' hSw; go_simp)
                (try simp only [List.getElem_toArray, List.getElem_cons_succ, List.getElem_cons_zero])
                go_frame
                refine wpAnyN_take (i := 3) (v := .bool true) rfl (by kernel_rfl) (by kernel_rfl) (by kernel_rfl) (by decide) (by kernel_rfl) (fun _ _ _ h => h) (Or.inl ⟨by kernel_rfl, ?_⟩) KA.out ?_
                · (intro w' hSw; go_simp)
                (try simp only [List.getElem_toArray, List.getElem_cons_succ, List.getElem_cons_zero])
                go_frame
                refine wpAnyN_take (i := 4) (v := .bool true) rfl (by kernel_rfl) (by kernel_rfl) (by kernel_rfl) (by decide) (by kernel_rfl) (fun _ _ _ h => h) (Or.inl ⟨by kernel_rfl, ?_⟩) KA.out ?_
                · (intro w' hSw; go_simp)
                (try simp only [List.getElem_toArray, List.getElem_cons_succ, List.getElem_cons_zero])
                go_frame
                refine wpAnyN_take (i := 5) (v := .slice (some ⟨g, 0, none⟩) UL uc) rfl (by kernel_rfl) (by kernel_rfl) (by kernel_rfl) (by decide) (by kernel_rfl) (fun _ _ _ h => h) (Or.inl ⟨by kernel_rfl, ?_⟩) KA.out ?_
                · (intro w' hSw; go_simp)
                (try simp only [List.getElem_toArray, List.getElem_cons_succ, List.getElem_cons_zero])
                go_frame
                refine wpAnyN_take (i := 6) (v := .int .i64 (t : Int)) rfl (by kernel_rfl) (by kernel_rfl) (by kernel_rfl) (by decide) (by kernel_rfl) (fun _ _ _ h => h) (Or.inl ⟨by kernel_rfl, ?_⟩) KA.out ?_
                · (intro w' hSw; go_simp)
                (try simp only [List.getElem_toArray, List.getElem_cons_succ, List.getElem_cons_zero])
                go_frame
                refine wpAnyN_take (i := 7) (v := .pointer (some ⟨g, t * 2, none⟩)) rfl (by kernel_rfl) (by kernel_rfl) (by kernel_rfl) (by decide) (by kernel_rfl) (fun _ _ _ h => h) (Or.inl ⟨by kernel_rfl, ?_⟩) KA.out ?_
                · (intro w' hSw; go_simp)
                (try simp only [List.getElem_toArray, List.getElem_cons_succ, List.getElem_cons_zero])
                go_frame
                refine wpAnyN_take (i := 8) (v := .pointer (some ⟨g, t * 2, none⟩)) rfl (by kernel_rfl) (by kernel_rfl) (by kernel_rfl) (by decide) (by kernel_rfl) (fun _ _ _ h => h) (Or.inl ⟨by kernel_rfl, ?_⟩) KA.out ?_
                · (intro w' hSw; go_simp)
                (try simp only [List.getElem_toArray, List.getElem_cons_succ, List.getElem_cons_zero])
                go_frame
                refine wpAnyN_take (i := 9) (v := .slice ya yn yc) rfl (by kernel_rfl) (by kernel_rfl) (by kernel_rfl) (by decide) (by kernel_rfl) (fun _ _ _ h => h) (Or.inl ⟨by kernel_rfl, ?_⟩) KA.out ?_
                · (intro w' hSw; have s0 := each_cell hSw _ _ C0.out; clear hSw; go_simp)
                (try simp only [List.getElem_toArray, List.getElem_cons_succ, List.getElem_cons_zero])
                go_frame
                refine wpAnyN_take (i := 10) (v := .pointer (some ⟨X, 0, none⟩)) rfl (by kernel_rfl) (by kernel_rfl) (by kernel_rfl) (by decide) (by kernel_rfl) (fun _ _ _ h => h) (Or.inl ⟨by kernel_rfl, ?_⟩) KA.out ?_
                · (intro w' hSw; go_simp)
                (try simp only [List.getElem_toArray, List.getElem_cons_succ, List.getElem_cons_zero])
                go_frame
                refine wpAnyN_take (i := 11) (v := .slice la ln lc) rfl (by kernel_rfl) (by kernel_rfl) (by kernel_rfl) (by decide) (by kernel_rfl) (fun _ _ _ h => h) (Or.inl ⟨by kernel_rfl, ?_⟩) KA.out ?_
                · (intro w' hSw; have s0 := each_cell hSw _ _ B0.out; clear hSw; go_simp)
                (try simp only [List.getElem_toArray, List.getElem_cons_succ, List.getElem_cons_zero])
                go_frame
                refine wpAnyL_one (i := 12) (by kernel_rfl) rfl rfl ?_
                go_simp
                refine (HCM.out _ KA.out).mono ?_
                rintro e w6 ⟨rfl, k6⟩
                have K6 := hid (show Kept wr w6 from KA.out.trans k6 (fun _ _ f => f))
                clear k6
                refine ⟨K6.out, ?_⟩
                (try simp only [List.getElem_toArray, List.getElem_cons_succ, List.getElem_cons_zero])
                (try go_frame)
                by_cases hz0 : Z < 0
                · have HZ0 := hid hz0
                  refine wpAnyL_one (i := 13) (by kernel_rfl) rfl rfl ?_
                  go_simp
                  refine ⟨K6.out, ?_⟩
                  (try simp only [List.getElem_toArray, List.getElem_cons_succ, List.getElem_cons_zero])
                  (try go_frame)
                  refine wpAnyL_one (i := 14) (by kernel_rfl) rfl rfl ?_
                  go_simp
                  refine ⟨K6.out, ?_⟩
                  (try simp only [List.getElem_toArray, List.getElem_cons_succ, List.getElem_cons_zero])
                  (try go_frame)
                  refine wpAnyN_done (by kernel_rfl) ?_
                  refine NoPanic.normal ?_
                  go_wp2_with fail
                  go_roundw
                  case rel => exact ⟨t + 1, by omega, by go_num, hid (K2.out.trans K6.out (fun _ _ f => f)), hid (fun j h hj => by
                    by_cases e : j = t
                    · subst e
                      rw [HY.out, HZ.out]
                      exact HZ0.out
                    · exact HBT.out j h (by omega))⟩
                  case measure => simp [intOf]; omega
                · have HZ0 := hid hz0
                  refine wpAnyL_one (i := 13) (by kernel_rfl) rfl rfl ?_
                  go_simp
                  refine ⟨K6.out, ?_⟩
                  (try simp only [List.getElem_toArray, List.getElem_cons_succ, List.getElem_cons_zero])
                  (try go_frame)
                  refine wpAnyL_one (i := 14) (by kernel_rfl) rfl rfl ?_
                  go_simp
                  refine ⟨K6.out, ?_⟩
                  (try simp only [List.getElem_toArray, List.getElem_cons_succ, List.getElem_cons_zero])
                  (try go_frame)
                  refine wpAnyN_done (by kernel_rfl) ?_
                  refine NoPanic.normal ?_
                  clear hz0
                  have KB := hid (show Kept wr w6.drew from K6.out.trans (Only.refl _ _).drew (fun _ _ f => f))
                  go_wp2_with fail
                  refine wp_region_noPanic ?_
                  refine wp_region_last (L := 1000) (S := fun w' => Kept wr w') (by kernel_rfl) ?_
                  refine wpAnyN_take (i := 0) (v := .int .i64 (t : Int)) rfl (by kernel_rfl) (by kernel_rfl) (by kernel_rfl) (by decide) (by kernel_rfl) (fun _ _ _ h => h) (Or.inl ⟨by kernel_rfl, ?_⟩) KB.out ?_
                  · (intro w' hSw; go_simp)
                  (try simp only [List.getElem_toArray, List.getElem_cons_succ, List.getElem_cons_zero])
                  go_frame
                  refine wpAnyN_take (i := 1) (v := .slice (some ⟨g, 0, none⟩) UL uc) rfl (by kernel_rfl) (by kernel_rfl) (by kernel_rfl) (by decide) (by kernel_rfl) (fun _ _ _ h => h) (Or.inl ⟨by kernel_rfl, ?_⟩) KB.out ?_
                  · (intro w' hSw; go_simp)
                  (try simp only [List.getElem_toArray, List.getElem_cons_succ, List.getElem_cons_zero])
                  go_frame
                  refine wpAnyN_take (i := 2) (v := .int .i64 (UL : Int)) rfl (by kernel_rfl) (by kernel_rfl) (by kernel_rfl) (by decide) (by kernel_rfl) (fun _ _ _ h => h) (Or.inl ⟨by kernel_rfl, ?_⟩) KB.out ?_
                  · (intro w' hSw; go_simp)
                  (try simp only [List.getElem_toArray, List.getElem_cons_succ, List.getElem_cons_zero])
                  go_frame
                  refine wpAnyN_take (i := 3) (v := .bool true) rfl (by kernel_rfl) (by kernel_rfl) (by kernel_rfl) (by decide) (by kernel_rfl) (fun _ _ _ h => h) (Or.inl ⟨by kernel_rfl, ?_⟩) KB.out ?_
                  · (intro w' hSw; go_simp)
                  (try simp only [List.getElem_toArray, List.getElem_cons_succ, List.getElem_cons_zero])
                  go_frame
                  refine wpAnyN_take (i := 4) (v := .bool true) rfl (by kernel_rfl) (by kernel_rfl) (by kernel_rfl) (by decide) (by kernel_rfl) (fun _ _ _ h => h) (Or.inl ⟨by kernel_rfl, ?_⟩) KB.out ?_
                  · (intro w' hSw; go_simp)
                  (try simp only [List.getElem_toArray, List.getElem_cons_succ, List.getElem_cons_zero])
                  go_frame
                  refine wpAnyN_take (i := 5) (v := .slice (some ⟨g, 0, none⟩) UL uc) rfl (by kernel_rfl) (by kernel_rfl) (by kernel_rfl) (by decide) (by kernel_rfl) (fun _ _ _ h => h) (Or.inl ⟨by kernel_rfl, ?_⟩) KB.out ?_
                  · (intro w' hSw; go_simp)
                  (try simp only [List.getElem_toArray, List.getElem_cons_succ, List.getElem_cons_zero])
                  go_frame
                  refine wpAnyN_take (i := 6) (v := .int .i64 (t : Int)) rfl (by kernel_rfl) (by kernel_rfl) (by kernel_rfl) (by decide) (by kernel_rfl) (fun _ _ _ h => h) (Or.inl ⟨by kernel_rfl, ?_⟩) KB.out ?_
                  · (intro w' hSw; go_simp)
                  (try simp only [List.getElem_toArray, List.getElem_cons_succ, List.getElem_cons_zero])
                  go_frame
                  refine wpAnyN_take (i := 7) (v := .pointer (some ⟨g, t * 2, none⟩)) rfl (by kernel_rfl) (by kernel_rfl) (by kernel_rfl) (by decide) (by kernel_rfl) (fun _ _ _ h => h) (Or.inl ⟨by kernel_rfl, ?_⟩) KB.out ?_
                  · (intro w' hSw; go_simp)
                  (try simp only [List.getElem_toArray, List.getElem_cons_succ, List.getElem_cons_zero])
                  go_frame
                  refine wpAnyN_take (i := 8) (v := .pointer (some ⟨g, t * 2, none⟩)) rfl (by kernel_rfl) (by kernel_rfl) (by kernel_rfl) (by decide) (by kernel_rfl) (fun _ _ _ h => h) (Or.inl ⟨by kernel_rfl, ?_⟩) KB.out ?_
                  · (intro w' hSw; go_simp)
                  (try simp only [List.getElem_toArray, List.getElem_cons_succ, List.getElem_cons_zero])
                  go_frame
                  refine wpAnyN_take (i := 9) (v := .slice ya yn yc) rfl (by kernel_rfl) (by kernel_rfl) (by kernel_rfl) (by decide) (by kernel_rfl) (fun _ _ _ h => h) (Or.inl ⟨by kernel_rfl, ?_⟩) KB.out ?_
                  · (intro w' hSw; have s0 := each_cell hSw _ _ C0.out; clear hSw; go_simp)
                  (try simp only [List.getElem_toArray, List.getElem_cons_succ, List.getElem_cons_zero])
                  go_frame
                  refine wpAnyN_take (i := 10) (v := .pointer (some ⟨X, 0, none⟩)) rfl (by kernel_rfl) (by kernel_rfl) (by kernel_rfl) (by decide) (by kernel_rfl) (fun _ _ _ h => h) (Or.inl ⟨by kernel_rfl, ?_⟩) KB.out ?_
                  · (intro w' hSw; go_simp)
                  (try simp only [List.getElem_toArray, List.getElem_cons_succ, List.getElem_cons_zero])
                  go_frame
                  refine wpAnyN_take (i := 11) (v := .slice la ln lc) rfl (by kernel_rfl) (by kernel_rfl) (by kernel_rfl) (by decide) (by kernel_rfl) (fun _ _ _ h => h) (Or.inl ⟨by kernel_rfl, ?_⟩) KB.out ?_
                  · (intro w' hSw; have s0 := each_cell hSw _ _ B0.out; clear hSw; go_simp)
                  (try simp only [List.getElem_toArray, List.getElem_cons_succ, List.getElem_cons_zero])
                  go_frame
                  refine wpAnyL_one (i := 12) (by kernel_rfl) rfl rfl ?_
                  go_simp
                  refine (HCM.out _ KB.out).mono ?_
                  rintro e w7 ⟨rfl, k7⟩
                  have K7 := hid (show Kept wr w7 from KB.out.trans k7 (fun _ _ f => f))
                  clear k7
                  refine ⟨K7.out, ?_⟩
                  (try simp only [List.getElem_toArray, List.getElem_cons_succ, List.getElem_cons_zero])
                  (try go_frame)
                  by_cases hz1 : Z = 0
                  · subst hz1
                    refine wpAnyL_one (i := 13) (by kernel_rfl) rfl rfl ?_
                    go_simp
                    refine ⟨K7.out, ?_⟩
                    (try simp only [List.getElem_toArray, List.getElem_cons_succ, List.getElem_cons_zero])
                    (try go_frame)
                    refine wpAnyL_one (i := 14) (by kernel_rfl) rfl rfl ?_
                    go_simp
                    refine ⟨K7.out, ?_⟩
                    (try simp only [List.getElem_toArray, List.getElem_cons_succ, List.getElem_cons_zero])
                    (try go_frame)
                    refine wpAnyN_done (by kernel_rfl) ?_
                    refine NoPanic.normal ?_
                    have KD := hid (show Kept wr w7.drew from K7.out.trans (Only.refl _ _).drew (fun _ _ f => f))
                    have HSD := hid (HS2.out.stay KD.out)
                    have HID := hid (HI1.out.stay (K2.out.trans KD.out (fun _ _ f => f)))
                    obtain ⟨za, zn, zc, hys⟩ : ∃ a n c, y.sv = .slice a n c := by
                      obtain ⟨a, c, e⟩ := ownN_slice (HS2.out.smp y HYM.out)
                      exact ⟨a, _, c, e⟩
                    have C1 : Hid (wr.cell? ⟨g, t * 2 + 1, none⟩ = some (.slice za zn zc)) := hid (by
                      have hrw := HS2.out.row
                      rw [HUL.out] at hrw
                      have h := hrw.cellAt (t * 2 + 1) (show t * 2 + 1 < UL * 2 by omega)
                      rw [(svL_at qs t htq).2, HY.out, hys] at h
                      exact h)
                    have HRM : Hid (Calls Try.prog 21 #[.slice (some ⟨w7.drew.heap.size, 0, none⟩) 2 2] (w7.drew.alloc (.cells #[.slice za zn zc, .slice sa sn sc] 27)) (Mg.RngP w7.drew (Mg.mrg (y.smps ++ x.2.smps)))) := hid (by
                      have h1 : Mg.SSrc w7.drew (.slice za zn zc) y.smps := by
                        rw [← hys]
                        exact Mg.smpAt_ssrc (HSD.out.smp y HYM.out)
                      have h2 : Mg.SSrc w7.drew (.slice sa sn sc) x.2.smps := by
                        have h := ((HF1.out.stay K2.out).stay KD.out).2.2.1
                        rw [HSV.out] at h
                        exact h
                      exact Mg.rmerge2 _ _ _ _ _ h1 h2 (by have h3 := sumQ_mem HYM.out; have h4 := HI1.out.sum; have h5 := HW.out; omega))
                    have HQX : Hid (x.2.smps ≠ []) := hid (hsm0 hsn0)
                    have HT0 : Hid (cmpL qs[t].labs x.2.labs = 0) := hid (by rw [HY.out]; exact HZ.out)
                    have HYE : Hid (y.smps = qs[t].smps) := hid (by rw [HY.out])
                    obtain ⟨VL, hVL⟩ : ∃ n, (Mg.mrg (y.smps ++ x.2.smps)).length = n := ⟨_, rfl⟩
                    have HVL := hid hVL
                    clear hys hVL HZ0 HCM HYL K6 KA KB hsm0
                    go_wp2_with fail
                    refine wp_region_noPanic ?_
                    refine wp_region_last (L := 13) (S := fun w' => Kept wr w') (by kernel_rfl) ?_
                    generalize w7.drew = w8 at KD HSD HID HRM ⊢
                    refine wpAnyL_take (i := 0) (v := .slice (some ⟨g, 0, none⟩) UL uc) rfl (by kernel_rfl) (by kernel_rfl) (by kernel_rfl) (by kernel_rfl) (by kernel_rfl) (fun _ _ _ h => h) (Or.inl ⟨by kernel_rfl, ?_⟩) KD.out ?_
                    · (intro w' hSw; go_simp)
                    (try simp only [List.getElem_toArray, List.getElem_cons_succ, List.getElem_cons_zero])
                    go_frame
                    refine wpAnyL_take (i := 1) (v := .int .i64 (t : Int)) rfl (by kernel_rfl) (by kernel_rfl) (by kernel_rfl) (by kernel_rfl) (by kernel_rfl) (fun _ _ _ h => h) (Or.inl ⟨by kernel_rfl, ?_⟩) KD.out ?_
                    · (intro w' hSw; go_simp)
                    (try simp only [List.getElem_toArray, List.getElem_cons_succ, List.getElem_cons_zero])
                    go_frame
                    refine wpAnyL_take (i := 2) (v := .slice (some ⟨g, 0, none⟩) UL uc) rfl (by kernel_rfl) (by kernel_rfl) (by kernel_rfl) (by kernel_rfl) (by kernel_rfl) (fun _ _ _ h => h) (Or.inl ⟨by kernel_rfl, ?_⟩) KD.out ?_
                    · (intro w' hSw; go_simp)
                    (try simp only [List.getElem_toArray, List.getElem_cons_succ, List.getElem_cons_zero])
                    go_frame
                    refine wpAnyL_take (i := 3) (v := .int .i64 (t : Int)) rfl (by kernel_rfl) (by kernel_rfl) (by kernel_rfl) (by kernel_rfl) (by kernel_rfl) (fun _ _ _ h => h) (Or.inl ⟨by kernel_rfl, ?_⟩) KD.out ?_
                    · (intro w' hSw; go_simp)
                    (try simp only [List.getElem_toArray, List.getElem_cons_succ, List.getElem_cons_zero])
                    go_frame
                    refine wpAnyL_take (i := 4) (v := .pointer (some ⟨g, t * 2, none⟩)) rfl (by kernel_rfl) (by kernel_rfl) (by kernel_rfl) (by kernel_rfl) (by kernel_rfl) (fun _ _ _ h => h) (Or.inl ⟨by kernel_rfl, ?_⟩) KD.out ?_
                    · (intro w' hSw; go_simp)
                    (try simp only [List.getElem_toArray, List.getElem_cons_succ, List.getElem_cons_zero])
                    go_frame
                    refine wpAnyL_take (i := 5) (v := .pointer (some ⟨g, t * 2 + 1, none⟩)) rfl (by kernel_rfl) (by kernel_rfl) (by kernel_rfl) (by kernel_rfl) (by kernel_rfl) (fun _ _ _ h => h) (Or.inl ⟨by kernel_rfl, ?_⟩) KD.out ?_
                    · (intro w' hSw; go_simp)
                    (try simp only [List.getElem_toArray, List.getElem_cons_succ, List.getElem_cons_zero])
                    go_frame
                    refine wpAnyL_take (i := 6) (v := .slice za zn zc) rfl (by kernel_rfl) (by kernel_rfl) (by kernel_rfl) (by kernel_rfl) (by kernel_rfl) (fun _ _ _ h => h) (Or.inl ⟨by kernel_rfl, ?_⟩) KD.out ?_
                    · (intro w' hSw; have s0 := each_cell hSw _ _ C1.out; clear hSw; go_simp)
                    (try simp only [List.getElem_toArray, List.getElem_cons_succ, List.getElem_cons_zero])
                    go_frame
                    refine wpAnyL_take (i := 7) (v := .pointer (some ⟨X, 1, none⟩)) rfl (by kernel_rfl) (by kernel_rfl) (by kernel_rfl) (by kernel_rfl) (by kernel_rfl) (fun _ _ _ h => h) (Or.inl ⟨by kernel_rfl, ?_⟩) KD.out ?_
                    · (intro w' hSw; go_simp)
                    (try simp only [List.getElem_toArray, List.getElem_cons_succ, List.getElem_cons_zero])
                    go_frame
                    refine wpAnyL_take (i := 8) (v := .slice sa sn sc) rfl (by kernel_rfl) (by kernel_rfl) (by kernel_rfl) (by kernel_rfl) (by kernel_rfl) (fun _ _ _ h => h) (Or.inl ⟨by kernel_rfl, ?_⟩) KD.out ?_
                    · (intro w' hSw; have s0 := each_cell hSw _ _ B1.out; clear hSw; go_simp)
                    (try simp only [List.getElem_toArray, List.getElem_cons_succ, List.getElem_cons_zero])
                    go_frame
                    have KE := hid (show Kept wr (w8.alloc (.cells #[.slice za zn zc, .slice sa sn sc] 27)) from KD.out.alloc _)
                    refine wpAnyL_one (i := 9) (by kernel_rfl) rfl rfl ?_
                    go_simp
                    refine ⟨KE.out, ?_⟩
                    (try simp only [List.getElem_toArray, List.getElem_cons_succ, List.getElem_cons_zero])
                    (try go_frame)
                    refine wpAnyL_one (i := 10) (by kernel_rfl) rfl rfl ?_
                    go_simp
                    refine HRM.out.mono ?_
                    rintro e w10 ⟨v10, rfl, h10, k10⟩
                    have K10 := hid (show Kept wr w10 from KD.out.trans k10 (fun _ _ f => f))
                    have H10 := hid h10
                    have K810 := hid k10
                    obtain ⟨va, vc, hv10⟩ := ownN_slice h10
                    rw [HVL.out] at hv10
                    subst hv10
                    clear h10 k10 HRM KE
                    refine ⟨K10.out, ?_⟩
                    (try simp only [List.getElem_toArray, List.getElem_cons_succ, List.getElem_cons_zero])
                    (try go_frame)
                    refine wpAnyL_take (i := 11) (v := .pointer (some ⟨g, t * 2, none⟩)) rfl (by kernel_rfl) (by kernel_rfl) (by kernel_rfl) (by kernel_rfl) (by kernel_rfl) (fun _ _ _ h => h) (Or.inl ⟨by kernel_rfl, ?_⟩) K10.out ?_
                    · (intro w' hSw; go_simp)
                    (try simp only [List.getElem_toArray, List.getElem_cons_succ, List.getElem_cons_zero])
                    go_frame
                    refine wpAnyL_take (i := 12) (v := .pointer (some ⟨g, t * 2 + 1, none⟩)) rfl (by kernel_rfl) (by kernel_rfl) (by kernel_rfl) (by kernel_rfl) (by kernel_rfl) (fun _ _ _ h => h) (Or.inl ⟨by kernel_rfl, ?_⟩) K10.out ?_
                    · (intro w' hSw; go_simp)
                    (try simp only [List.getElem_toArray, List.getElem_cons_succ, List.getElem_cons_zero])
                    go_frame
                    have hrw := (HSD.out.stay K810.out).row
                    rw [HUL.out] at hrw
                    have fz : w10.frozen? ⟨g, t * 2 + 1, none⟩ = false := hrw.frozenAt _
                    clear hrw
                    have cz := each_cell K10.out _ _ C1.out
                    have HN2 : Hid (RmI w ((ls.take i).flatten ++ l.take (k + 1)) (.slice (some ⟨g, 0, none⟩) UL uc) (qs.set t ⟨qs[t].lv, .slice va VL vc, qs[t].labs, Mg.mrg (qs[t].smps ++ x.2.smps)⟩) (w10.setCell ⟨g, t * 2 + 1, none⟩ (.slice va VL vc))) := hid (by
                      rw [HTK.out, ← List.append_assoc]
                      refine HID.out.set K810.out htq HBT.out HT0.out HQX.out ?_
                      rw [← HYE.out]
                      exact H10.out)
                    refine wpAnyL_last (by kernel_rfl) (by kernel_rfl) rfl rfl ?_
                    go_simp
                    refine NoPanic.normal ?_
                    clear fz cz
                    go_wp2_with fail
                    go_roundw
                    case rel => exact ⟨k + 1, _, _, by omega, by go_num, rfl, HN2⟩
                    case measure => simp [intOf]; omega
                  · have hzb : (Z == 0) = false := by rw [beq_eq_false_iff_ne]; exact hz1
                    refine wpAnyL_one (i := 13) (by kernel_rfl) rfl rfl ?_
                    go_simp
                    refine ⟨K7.out, ?_⟩
                    (try simp only [List.getElem_toArray, List.getElem_cons_succ, List.getElem_cons_zero])
                    (try go_frame)
                    refine wpAnyL_one (i := 14) (by kernel_rfl) rfl rfl ?_
                    go_simp
                    refine ⟨K7.out, ?_⟩
                    (try simp only [List.getElem_toArray, List.getElem_cons_succ, List.getElem_cons_zero])
                    (try go_frame)
                    refine wpAnyN_done (by kernel_rfl) ?_
                    refine NoPanic.normal ?_
                    have HPOS : Hid (t = qs.length ∨ ∃ h : t < qs.length, 0 < cmpL qs[t].labs x.2.labs) := hid (.inr ⟨htq, by rw [HY.out, HZ.out]; have := HZ0.out; omega⟩)
                    have HTL : Hid (t ≤ UL) := hid ht
                    have KT := hid (K2.out.trans K7.out (fun _ _ f => f))
                    obtain ⟨ua, hua⟩ : ∃ a : Option Addr, some (⟨g, 0, none⟩ : Addr) = a := ⟨_, rfl⟩
                    rw [hua] at HS1 HI1 HS2 ⊢
                    clear hua
                    clear hzb hz1 HZ0 HZ HCM C0 HYL HYM HY KA KB K6 K7 B0 B1
                    have HI7 := hid (HI1.out.stay KT.out)
                    have HB7 := hid (KT.out.blk HB1.out (fun f => f))
                    have HF7 := hid (HF1.out.stay KT.out)
                    have HQX : Hid (x.2.smps ≠ []) := hid (hsm0 hsn0)
                    have hpl : SvPlain qs := fun q hq => ⟨by
                      obtain ⟨a, c, e⟩ := ownN_slice (HI7.out.row.lab q hq)
                      exact ⟨a, _, c, e⟩, by
                      obtain ⟨a, c, e⟩ := ownN_slice (HI7.out.row.smp q hq)
                      exact ⟨a, _, c, e⟩⟩
                    have HPL := hid hpl
                    obtain ⟨pa, fa, fc, hto, hct, hfrom, hcf⟩ := sv_cut (B := w.heap.size) HI7.out.row.row t (by rw [HUL.out]; exact HTL.out)
                    rw [HUL.out] at hfrom hcf
                    obtain ⟨v13, w8, R13, o13, k13⟩ := sv_copy hcf (fun q hq => hpl q (List.mem_of_mem_drop hq)) (by rw [List.length_drop, HUL.out]; omega)
                    obtain ⟨g13, cap13, hv13⟩ := ownN_slice o13
                    obtain ⟨LD, hLD⟩ : ∃ n, (qs.drop t).length = n := ⟨_, rfl⟩
                    rw [hLD] at hv13
                    subst hv13
                    have hLU : UL - t = LD := by rw [← hLD, List.length_drop, HUL.out]
                    rw [hLU] at hfrom R13
                    have HCT := hid hct
                    have HO13 := hid o13
                    have HK13 := hid k13
                    have K9 := hid (show Kept w7 w8.drew from k13.trans (Only.refl _ _).drew (fun _ _ f => f))
                    have HLS : LabSrc w8.drew (.slice la ln lc) x.2.labs := by
                      have h := (HF7.out.stay K9.out).2.1
                      rw [HLV.out] at h
                      exact h
                    have HLN : x.2.labs.length = ln := by
                      obtain ⟨a, c, e⟩ := HLS.len
                      injection e with _ e2 _
                      exact e2.symm
                    have hxl : x.2.labs.length ≤ 90000 := HLAB.out _ HF1.out.1
                    have HXL := hid hxl
                    have HLC := hid (lab_more HLN HLS (by omega))
                    have HSS : Mg.SSrc w8.drew (.slice sa sn sc) x.2.smps := by
                      have h := (HF7.out.stay K9.out).2.2.1
                      rw [HSV.out] at h
                      exact h
                    obtain ⟨m, hm⟩ : ∃ m, Mg.mrg x.2.smps = m := ⟨_, rfl⟩
                    obtain ⟨SL, hSL⟩ : ∃ n, m.length = n := ⟨_, rfl⟩
                    have HM1 := hid (smp_more hm hSL HSS (by have := HW.out; omega))
                    have HMM := hid hm
                    have HB9 := hid (K9.out.blk HB7.out (fun f => f))
                    have B0 := hid (HB9.out.cell 0 rfl)
                    have B1 := hid (HB9.out.cell 1 rfl)
                    have htu9 : t ≤ UL := HTL.out
                    obtain ⟨w9, hw9⟩ : ∃ W, w8.drew = W := ⟨_, rfl⟩
                    have HW9 := hid hw9
                    rw [hw9] at K9 HLC HM1 HB9 B0 B1
                    have HKD : Hid (Kept w8 w9) := hid (by rw [← hw9]; exact (Only.refl _ _).drew)
                    clear hw9
                    clear hLU hpl hct hcf o13 k13 HLS HLN hxl HSS hm hSL hLD hsm0
                    go_wp2_with (at_builtin; refine wpList_append_run rfl _ _ _ rfl rfl rfl R13 ?_)
                    apply wp_region_thenM (fun nb qa qc ma mc W => NewS w9 x.2.labs m nb (.slice qa ln qc) (.slice ma SL mc) W)
                    · refine wp_region_noPanic ?_
                      refine wp_region_last (L := 9) (S := fun w' => Kept w9 w') (by kernel_rfl) ?_
                      rw [HW9.out]
                      have K0 := hid (show Kept w9 w9 from Only.refl _ _)
                      refine wpAnyL_take (i := 0) (v := .pointer (some ⟨X, 0, none⟩)) rfl (by kernel_rfl) (by kernel_rfl) (by kernel_rfl) (by kernel_rfl) (by kernel_rfl) (fun _ _ _ h => h) (Or.inl ⟨by kernel_rfl, ?_⟩) K0.out ?_
                      · (intro w' hSw; go_simp)
                      (try simp only [List.getElem_toArray, List.getElem_cons_succ, List.getElem_cons_zero])
                      go_frame
                      refine wpAnyL_take (i := 1) (v := .slice la ln lc) rfl (by kernel_rfl) (by kernel_rfl) (by kernel_rfl) (by kernel_rfl) (by kernel_rfl) (fun _ _ _ h => h) (Or.inl ⟨by kernel_rfl, ?_⟩) K0.out ?_
                      · (intro w' hSw; have s0 := each_cell hSw _ _ B0.out; clear hSw; go_simp)
                      (try simp only [List.getElem_toArray, List.getElem_cons_succ, List.getElem_cons_zero])
                      go_frame
                      refine wpAnyL_take (i := 3) (v := .pointer (some ⟨X, 1, none⟩)) rfl (by kernel_rfl) (by kernel_rfl) (by kernel_rfl) (by kernel_rfl) (by kernel_rfl) (fun _ _ _ h => h) (Or.inl ⟨by kernel_rfl, ?_⟩) K0.out ?_
                      · (intro w' hSw; go_simp)
                      (try simp only [List.getElem_toArray, List.getElem_cons_succ, List.getElem_cons_zero])
                      go_frame
                      refine wpAnyL_take (i := 4) (v := .slice sa sn sc) rfl (by kernel_rfl) (by kernel_rfl) (by kernel_rfl) (by kernel_rfl) (by kernel_rfl) (fun _ _ _ h => h) (Or.inl ⟨by kernel_rfl, ?_⟩) K0.out ?_
                      · (intro w' hSw; have s0 := each_cell hSw _ _ B1.out; clear hSw; go_simp)
                      (try simp only [List.getElem_toArray, List.getElem_cons_succ, List.getElem_cons_zero])
                      go_frame
                      refine wpAnyL_three (i := 2) (j := 5) (k := 8) (by kernel_rfl) rfl rfl rfl rfl rfl rfl ?_ ?_ ?_
                      · skip
                        obtain ⟨qa, qc, y1, R1, hl1, kk1⟩ := HLC.out w9 K0.out
                        have K1 := hid (show Kept w9 y1 from K0.out.trans kk1 (fun _ _ f => f))
                        have HL1 := hid hl1
                        clear hl1 kk1
                        refine oper_appendH _ _ _ rfl rfl rfl R1 ?_
                        refine ⟨K1.out, ?_⟩
                        (try simp only [List.getElem_toArray, List.getElem_cons_succ, List.getElem_cons_zero])
                        (try go_frame)
                        refine wpAnyL_two (i := 5) (j := 8) (by kernel_rfl) rfl rfl rfl rfl ?_ ?_
                        · skip
                          obtain ⟨pb, hpb⟩ : ∃ n, y1.heap.size = n := ⟨_, rfl⟩
                          obtain ⟨y2, hy2⟩ : ∃ W, y1.alloc (.cells #[.slice sa sn sc] 27) = W := ⟨_, rfl⟩
                          have kk2 : Kept y1 y2 := by rw [← hy2]; exact (Only.refl _ _).alloc _
                          have K2 := hid (show Kept w9 y2 from K1.out.trans kk2 (fun _ _ f => f))
                          have HL2 := hid (Go.Proofs.Ytcacoanhiphbiaa.N.ownN_stay HL1.out kk2)
                          have HP2 : Hid (Blk y2 pb [.slice sa sn sc] 27) := hid (by rw [← hy2, ← hpb]; exact Blk.new y1 [.slice sa sn sc] 27)
                          have HY2 := hid hy2
                          have HZ2 := hid hpb
                          clear hy2 hpb kk2
                          go_simp
                          rw [HY2.out, HZ2.out]
                          clear HY2 HZ2
                          refine ⟨K2.out, ?_⟩
                          (try simp only [List.getElem_toArray, List.getElem_cons_succ, List.getElem_cons_zero])
                          (try go_frame)
                          refine wpAnyL_two (i := 6) (j := 8) (by kernel_rfl) rfl rfl rfl rfl ?_ ?_
                          · skip
                            go_simp
                            refine (HM1.out y2 pb K2.out HP2.out).mono ?_
                            rintro e y3 ⟨ma, mc, rfl, hs3, kk3⟩
                            have K3 := hid (show Kept w9 y3 from K2.out.trans kk3 (fun _ _ f => f))
                            have HP3 := hid (kk3.blk HP2.out (fun f => f))
                            have HL3 := hid (Go.Proofs.Ytcacoanhiphbiaa.N.ownN_stay HL2.out kk3)
                            have HS3 := hid hs3
                            clear hs3 kk3
                            refine ⟨K3.out, ?_⟩
                            (try simp only [List.getElem_toArray, List.getElem_cons_succ, List.getElem_cons_zero])
                            (try go_frame)
                            refine wpAnyL_take (i := 7) (v := .agg #[.slice qa ln qc, .slice ma SL mc]) rfl (by kernel_rfl) (by kernel_rfl) (by kernel_rfl) (by kernel_rfl) (by kernel_rfl) (fun _ _ _ h => h) (Or.inl ⟨by kernel_rfl, ?_⟩) K3.out ?_
                            · (intro w' hSw; go_simp)
                            (try simp only [List.getElem_toArray, List.getElem_cons_succ, List.getElem_cons_zero])
                            go_frame
                            refine wpAnyL_one (i := 8) (by kernel_rfl) rfl rfl ?_
                            obtain ⟨nb, hnb⟩ : ∃ n, y3.heap.size = n := ⟨_, rfl⟩
                            obtain ⟨y4, hy4⟩ : ∃ W, y3.alloc (.cells #[.slice none 0 0, .slice none 0 0] 29) = W := ⟨_, rfl⟩
                            have kk4 : Kept y3 y4 := by rw [← hy4]; exact (Only.refl _ _).alloc _
                            have K4 := hid (show Kept w9 y4 from K3.out.trans kk4 (fun _ _ f => f))
                            have HP4 := hid (kk4.blk HP3.out (fun f => f))
                            have HL4 := hid (Go.Proofs.Ytcacoanhiphbiaa.N.ownN_stay HL3.out kk4)
                            have HS4 := hid (ownN_stay HS3.out kk4)
                            have HN4 : Hid (Blk y4 nb [.slice none 0 0, .slice none 0 0] 29) := hid (by rw [← hy4, ← hnb]; exact Blk.new y3 [.slice none 0 0, .slice none 0 0] 29)
                            have HNB : Hid (w9.heap.size ≤ nb) := hid (by rw [← hnb]; exact K3.out.size)
                            have HY4 := hid hy4
                            have HZ4 := hid hnb
                            clear hy4 hnb kk4
                            go_simp
                            rw [HY4.out, HZ4.out]
                            clear HY4 HZ4
                            refine ⟨K4.out, ?_⟩
                            (try simp only [List.getElem_toArray, List.getElem_cons_succ, List.getElem_cons_zero])
                            (try go_frame)
                            have HE := hid (new_end K4.out HN4.out HNB.out HL4.out HS4.out)
                            have c0 := HN4.out.cell 0 rfl
                            have c1 := HN4.out.cell 1 rfl
                            have g0 := HN4.out.frozen 0
                            have g1 := HN4.out.frozen 1
                            refine wpAnyL_last (by kernel_rfl) (by kernel_rfl) rfl rfl ?_
                            go_simp
                            refine NoPanic.normal ?_
                            exact ⟨rfl, pb, nb, qa, qc, ma, mc, rfl, HE.out⟩
                          · skip
                            obtain ⟨nb, hnb⟩ : ∃ n, y2.heap.size = n := ⟨_, rfl⟩
                            obtain ⟨y5, hy5⟩ : ∃ W, y2.alloc (.cells #[.slice none 0 0, .slice none 0 0] 29) = W := ⟨_, rfl⟩
                            have kk5 : Kept y2 y5 := by rw [← hy5]; exact (Only.refl _ _).alloc _
                            have K5 := hid (show Kept w9 y5 from K2.out.trans kk5 (fun _ _ f => f))
                            have HP5 := hid (kk5.blk HP2.out (fun f => f))
                            have HL5 := hid (Go.Proofs.Ytcacoanhiphbiaa.N.ownN_stay HL2.out kk5)
                            have HN5 : Hid (Blk y5 nb [.slice none 0 0, .slice none 0 0] 29) := hid (by rw [← hy5, ← hnb]; exact Blk.new y2 [.slice none 0 0, .slice none 0 0] 29)
                            have HNB : Hid (w9.heap.size ≤ nb) := hid (by rw [← hnb]; exact K2.out.size)
                            have HY5 := hid hy5
                            have HZ5 := hid hnb
                            clear hy5 hnb kk5
                            go_simp
                            rw [HY5.out, HZ5.out]
                            clear HY5 HZ5
                            refine ⟨K5.out, ?_⟩
                            (try simp only [List.getElem_toArray, List.getElem_cons_succ, List.getElem_cons_zero])
                            (try go_frame)
                            refine wpAnyL_one (i := 6) (by kernel_rfl) rfl rfl ?_
                            go_simp
                            refine (HM1.out y5 pb K5.out HP5.out).mono ?_
                            rintro e y6 ⟨ma, mc, rfl, hs6, kk6⟩
                            have K6 := hid (show Kept w9 y6 from K5.out.trans kk6 (fun _ _ f => f))
                            have HP6 := hid (kk6.blk HP5.out (fun f => f))
                            have HN6 := hid (kk6.blk HN5.out (fun f => f))
                            have HL6 := hid (Go.Proofs.Ytcacoanhiphbiaa.N.ownN_stay HL5.out kk6)
                            have HS6 := hid hs6
                            clear hs6 kk6
                            refine ⟨K6.out, ?_⟩
                            (try simp only [List.getElem_toArray, List.getElem_cons_succ, List.getElem_cons_zero])
                            (try go_frame)
                            refine wpAnyL_take (i := 7) (v := .agg #[.slice qa ln qc, .slice ma SL mc]) rfl (by kernel_rfl) (by kernel_rfl) (by kernel_rfl) (by kernel_rfl) (by kernel_rfl) (fun _ _ _ h => h) (Or.inl ⟨by kernel_rfl, ?_⟩) K6.out ?_
                            · (intro w' hSw; go_simp)
                            (try simp only [List.getElem_toArray, List.getElem_cons_succ, List.getElem_cons_zero])
                            go_frame
                            have HE := hid (new_end K6.out HN6.out HNB.out HL6.out HS6.out)
                            have c0 := HN6.out.cell 0 rfl
                            have c1 := HN6.out.cell 1 rfl
                            have g0 := HN6.out.frozen 0
                            have g1 := HN6.out.frozen 1
                            refine wpAnyL_last (by kernel_rfl) (by kernel_rfl) rfl rfl ?_
                            go_simp
                            refine NoPanic.normal ?_
                            exact ⟨rfl, pb, nb, qa, qc, ma, mc, rfl, HE.out⟩
                        · skip
                          obtain ⟨nb, hnb⟩ : ∃ n, y1.heap.size = n := ⟨_, rfl⟩
                          obtain ⟨y7, hy7⟩ : ∃ W, y1.alloc (.cells #[.slice none 0 0, .slice none 0 0] 29) = W := ⟨_, rfl⟩
                          have kk7 : Kept y1 y7 := by rw [← hy7]; exact (Only.refl _ _).alloc _
                          have K7 := hid (show Kept w9 y7 from K1.out.trans kk7 (fun _ _ f => f))
                          have HL7 := hid (Go.Proofs.Ytcacoanhiphbiaa.N.ownN_stay HL1.out kk7)
                          have HN7 : Hid (Blk y7 nb [.slice none 0 0, .slice none 0 0] 29) := hid (by rw [← hy7, ← hnb]; exact Blk.new y1 [.slice none 0 0, .slice none 0 0] 29)
                          have HNB : Hid (w9.heap.size ≤ nb) := hid (by rw [← hnb]; exact K1.out.size)
                          have HY7 := hid hy7
                          have HZ7 := hid hnb
                          clear hy7 hnb kk7
                          go_simp
                          rw [HY7.out, HZ7.out]
                          clear HY7 HZ7
                          refine ⟨K7.out, ?_⟩
                          (try simp only [List.getElem_toArray, List.getElem_cons_succ, List.getElem_cons_zero])
                          (try go_frame)
                          refine wpAnyL_one (i := 5) (by kernel_rfl) rfl rfl ?_
                          obtain ⟨pb, hpb⟩ : ∃ n, y7.heap.size = n := ⟨_, rfl⟩
                          obtain ⟨y8, hy8⟩ : ∃ W, y7.alloc (.cells #[.slice sa sn sc] 27) = W := ⟨_, rfl⟩
                          have kk8 : Kept y7 y8 := by rw [← hy8]; exact (Only.refl _ _).alloc _
                          have K8 := hid (show Kept w9 y8 from K7.out.trans kk8 (fun _ _ f => f))
                          have HN8 := hid (kk8.blk HN7.out (fun f => f))
                          have HL8 := hid (Go.Proofs.Ytcacoanhiphbiaa.N.ownN_stay HL7.out kk8)
                          have HP8 : Hid (Blk y8 pb [.slice sa sn sc] 27) := hid (by rw [← hy8, ← hpb]; exact Blk.new y7 [.slice sa sn sc] 27)
                          have HY8 := hid hy8
                          have HZ8 := hid hpb
                          clear hy8 hpb kk8
                          go_simp
                          rw [HY8.out, HZ8.out]
                          clear HY8 HZ8
                          refine ⟨K8.out, ?_⟩
                          (try simp only [List.getElem_toArray, List.getElem_cons_succ, List.getElem_cons_zero])
                          (try go_frame)
                          refine wpAnyL_one (i := 6) (by kernel_rfl) rfl rfl ?_
                          go_simp
                          refine (HM1.out y8 pb K8.out HP8.out).mono ?_
                          rintro e y9 ⟨ma, mc, rfl, hs9, kk9⟩
                          have K9 := hid (show Kept w9 y9 from K8.out.trans kk9 (fun _ _ f => f))
                          have HP9 := hid (kk9.blk HP8.out (fun f => f))
                          have HN9 := hid (kk9.blk HN8.out (fun f => f))
                          have HL9 := hid (Go.Proofs.Ytcacoanhiphbiaa.N.ownN_stay HL8.out kk9)
                          have HS9 := hid hs9
                          clear hs9 kk9
                          refine ⟨K9.out, ?_⟩
                          (try simp only [List.getElem_toArray, List.getElem_cons_succ, List.getElem_cons_zero])
                          (try go_frame)
                          refine wpAnyL_take (i := 7) (v := .agg #[.slice qa ln qc, .slice ma SL mc]) rfl (by kernel_rfl) (by kernel_rfl) (by kernel_rfl) (by kernel_rfl) (by kernel_rfl) (fun _ _ _ h => h) (Or.inl ⟨by kernel_rfl, ?_⟩) K9.out ?_
                          · (intro w' hSw; go_simp)
                          (try simp only [List.getElem_toArray, List.getElem_cons_succ, List.getElem_cons_zero])
                          go_frame
                          have HE := hid (new_end K9.out HN9.out HNB.out HL9.out HS9.out)
                          have c0 := HN9.out.cell 0 rfl
                          have c1 := HN9.out.cell 1 rfl
                          have g0 := HN9.out.frozen 0
                          have g1 := HN9.out.frozen 1
                          refine wpAnyL_last (by kernel_rfl) (by kernel_rfl) rfl rfl ?_
                          go_simp
                          refine NoPanic.normal ?_
                          exact ⟨rfl, pb, nb, qa, qc, ma, mc, rfl, HE.out⟩
                      · skip
                        obtain ⟨pb, hpb⟩ : ∃ n, w9.heap.size = n := ⟨_, rfl⟩
                        obtain ⟨y10, hy10⟩ : ∃ W, w9.alloc (.cells #[.slice sa sn sc] 27) = W := ⟨_, rfl⟩
                        have kk10 : Kept w9 y10 := by rw [← hy10]; exact (Only.refl _ _).alloc _
                        have K10 := hid (show Kept w9 y10 from K0.out.trans kk10 (fun _ _ f => f))
                        have HP10 : Hid (Blk y10 pb [.slice sa sn sc] 27) := hid (by rw [← hy10, ← hpb]; exact Blk.new w9 [.slice sa sn sc] 27)
                        have HY10 := hid hy10
                        have HZ10 := hid hpb
                        clear hy10 hpb kk10
                        go_simp
                        rw [HY10.out, HZ10.out]
                        clear HY10 HZ10
                        refine ⟨K10.out, ?_⟩
                        (try simp only [List.getElem_toArray, List.getElem_cons_succ, List.getElem_cons_zero])
                        (try go_frame)
                        refine wpAnyL_two (i := 2) (j := 8) (by kernel_rfl) rfl rfl rfl rfl ?_ ?_
                        · skip
                          obtain ⟨qa, qc, y11, R11, hl11, kk11⟩ := HLC.out y10 K10.out
                          have K11 := hid (show Kept w9 y11 from K10.out.trans kk11 (fun _ _ f => f))
                          have HP11 := hid (kk11.blk HP10.out (fun f => f))
                          have HL11 := hid hl11
                          clear hl11 kk11
                          refine oper_appendH _ _ _ rfl rfl rfl R11 ?_
                          refine ⟨K11.out, ?_⟩
                          (try simp only [List.getElem_toArray, List.getElem_cons_succ, List.getElem_cons_zero])
                          (try go_frame)
                          refine wpAnyL_two (i := 6) (j := 8) (by kernel_rfl) rfl rfl rfl rfl ?_ ?_
                          · skip
                            go_simp
                            refine (HM1.out y11 pb K11.out HP11.out).mono ?_
                            rintro e y12 ⟨ma, mc, rfl, hs12, kk12⟩
                            have K12 := hid (show Kept w9 y12 from K11.out.trans kk12 (fun _ _ f => f))
                            have HP12 := hid (kk12.blk HP11.out (fun f => f))
                            have HL12 := hid (Go.Proofs.Ytcacoanhiphbiaa.N.ownN_stay HL11.out kk12)
                            have HS12 := hid hs12
                            clear hs12 kk12
                            refine ⟨K12.out, ?_⟩
                            (try simp only [List.getElem_toArray, List.getElem_cons_succ, List.getElem_cons_zero])
                            (try go_frame)
                            refine wpAnyL_take (i := 7) (v := .agg #[.slice qa ln qc, .slice ma SL mc]) rfl (by kernel_rfl) (by kernel_rfl) (by kernel_rfl) (by kernel_rfl) (by kernel_rfl) (fun _ _ _ h => h) (Or.inl ⟨by kernel_rfl, ?_⟩) K12.out ?_
                            · (intro w' hSw; go_simp)
                            (try simp only [List.getElem_toArray, List.getElem_cons_succ, List.getElem_cons_zero])
                            go_frame
                            refine wpAnyL_one (i := 8) (by kernel_rfl) rfl rfl ?_
                            obtain ⟨nb, hnb⟩ : ∃ n, y12.heap.size = n := ⟨_, rfl⟩
                            obtain ⟨y13, hy13⟩ : ∃ W, y12.alloc (.cells #[.slice none 0 0, .slice none 0 0] 29) = W := ⟨_, rfl⟩
                            have kk13 : Kept y12 y13 := by rw [← hy13]; exact (Only.refl _ _).alloc _
                            have K13 := hid (show Kept w9 y13 from K12.out.trans kk13 (fun _ _ f => f))
                            have HP13 := hid (kk13.blk HP12.out (fun f => f))
                            have HL13 := hid (Go.Proofs.Ytcacoanhiphbiaa.N.ownN_stay HL12.out kk13)
                            have HS13 := hid (ownN_stay HS12.out kk13)
                            have HN13 : Hid (Blk y13 nb [.slice none 0 0, .slice none 0 0] 29) := hid (by rw [← hy13, ← hnb]; exact Blk.new y12 [.slice none 0 0, .slice none 0 0] 29)
                            have HNB : Hid (w9.heap.size ≤ nb) := hid (by rw [← hnb]; exact K12.out.size)
                            have HY13 := hid hy13
                            have HZ13 := hid hnb
                            clear hy13 hnb kk13
                            go_simp
                            rw [HY13.out, HZ13.out]
                            clear HY13 HZ13
                            refine ⟨K13.out, ?_⟩
                            (try simp only [List.getElem_toArray, List.getElem_cons_succ, List.getElem_cons_zero])
                            (try go_frame)
                            have HE := hid (new_end K13.out HN13.out HNB.out HL13.out HS13.out)
                            have c0 := HN13.out.cell 0 rfl
                            have c1 := HN13.out.cell 1 rfl
                            have g0 := HN13.out.frozen 0
                            have g1 := HN13.out.frozen 1
                            refine wpAnyL_last (by kernel_rfl) (by kernel_rfl) rfl rfl ?_
                            go_simp
                            refine NoPanic.normal ?_
                            exact ⟨rfl, pb, nb, qa, qc, ma, mc, rfl, HE.out⟩
                          · skip
                            obtain ⟨nb, hnb⟩ : ∃ n, y11.heap.size = n := ⟨_, rfl⟩
                            obtain ⟨y14, hy14⟩ : ∃ W, y11.alloc (.cells #[.slice none 0 0, .slice none 0 0] 29) = W := ⟨_, rfl⟩
                            have kk14 : Kept y11 y14 := by rw [← hy14]; exact (Only.refl _ _).alloc _
                            have K14 := hid (show Kept w9 y14 from K11.out.trans kk14 (fun _ _ f => f))
                            have HP14 := hid (kk14.blk HP11.out (fun f => f))
                            have HL14 := hid (Go.Proofs.Ytcacoanhiphbiaa.N.ownN_stay HL11.out kk14)
                            have HN14 : Hid (Blk y14 nb [.slice none 0 0, .slice none 0 0] 29) := hid (by rw [← hy14, ← hnb]; exact Blk.new y11 [.slice none 0 0, .slice none 0 0] 29)
                            have HNB : Hid (w9.heap.size ≤ nb) := hid (by rw [← hnb]; exact K11.out.size)
                            have HY14 := hid hy14
                            have HZ14 := hid hnb
                            clear hy14 hnb kk14
                            go_simp
                            rw [HY14.out, HZ14.out]
                            clear HY14 HZ14
                            refine ⟨K14.out, ?_⟩
                            (try simp only [List.getElem_toArray, List.getElem_cons_succ, List.getElem_cons_zero])
                            (try go_frame)
                            refine wpAnyL_one (i := 6) (by kernel_rfl) rfl rfl ?_
                            go_simp
                            refine (HM1.out y14 pb K14.out HP14.out).mono ?_
                            rintro e y15 ⟨ma, mc, rfl, hs15, kk15⟩
                            have K15 := hid (show Kept w9 y15 from K14.out.trans kk15 (fun _ _ f => f))
                            have HP15 := hid (kk15.blk HP14.out (fun f => f))
                            have HN15 := hid (kk15.blk HN14.out (fun f => f))
                            have HL15 := hid (Go.Proofs.Ytcacoanhiphbiaa.N.ownN_stay HL14.out kk15)
                            have HS15 := hid hs15
                            clear hs15 kk15
                            refine ⟨K15.out, ?_⟩
                            (try simp only [List.getElem_toArray, List.getElem_cons_succ, List.getElem_cons_zero])
                            (try go_frame)
                            refine wpAnyL_take (i := 7) (v := .agg #[.slice qa ln qc, .slice ma SL mc]) rfl (by kernel_rfl) (by kernel_rfl) (by kernel_rfl) (by kernel_rfl) (by kernel_rfl) (fun _ _ _ h => h) (Or.inl ⟨by kernel_rfl, ?_⟩) K15.out ?_
                            · (intro w' hSw; go_simp)
                            (try simp only [List.getElem_toArray, List.getElem_cons_succ, List.getElem_cons_zero])
                            go_frame
                            have HE := hid (new_end K15.out HN15.out HNB.out HL15.out HS15.out)
                            have c0 := HN15.out.cell 0 rfl
                            have c1 := HN15.out.cell 1 rfl
                            have g0 := HN15.out.frozen 0
                            have g1 := HN15.out.frozen 1
                            refine wpAnyL_last (by kernel_rfl) (by kernel_rfl) rfl rfl ?_
                            go_simp
                            refine NoPanic.normal ?_
                            exact ⟨rfl, pb, nb, qa, qc, ma, mc, rfl, HE.out⟩
                        · skip
                          obtain ⟨nb, hnb⟩ : ∃ n, y10.heap.size = n := ⟨_, rfl⟩
                          obtain ⟨y16, hy16⟩ : ∃ W, y10.alloc (.cells #[.slice none 0 0, .slice none 0 0] 29) = W := ⟨_, rfl⟩
                          have kk16 : Kept y10 y16 := by rw [← hy16]; exact (Only.refl _ _).alloc _
                          have K16 := hid (show Kept w9 y16 from K10.out.trans kk16 (fun _ _ f => f))
                          have HP16 := hid (kk16.blk HP10.out (fun f => f))
                          have HN16 : Hid (Blk y16 nb [.slice none 0 0, .slice none 0 0] 29) := hid (by rw [← hy16, ← hnb]; exact Blk.new y10 [.slice none 0 0, .slice none 0 0] 29)
                          have HNB : Hid (w9.heap.size ≤ nb) := hid (by rw [← hnb]; exact K10.out.size)
                          have HY16 := hid hy16
                          have HZ16 := hid hnb
                          clear hy16 hnb kk16
                          go_simp
                          rw [HY16.out, HZ16.out]
                          clear HY16 HZ16
                          refine ⟨K16.out, ?_⟩
                          (try simp only [List.getElem_toArray, List.getElem_cons_succ, List.getElem_cons_zero])
                          (try go_frame)
                          refine wpAnyL_one (i := 2) (by kernel_rfl) rfl rfl ?_
                          obtain ⟨qa, qc, y17, R17, hl17, kk17⟩ := HLC.out y16 K16.out
                          have K17 := hid (show Kept w9 y17 from K16.out.trans kk17 (fun _ _ f => f))
                          have HP17 := hid (kk17.blk HP16.out (fun f => f))
                          have HN17 := hid (kk17.blk HN16.out (fun f => f))
                          have HL17 := hid hl17
                          clear hl17 kk17
                          refine oper_appendH _ _ _ rfl rfl rfl R17 ?_
                          refine ⟨K17.out, ?_⟩
                          (try simp only [List.getElem_toArray, List.getElem_cons_succ, List.getElem_cons_zero])
                          (try go_frame)
                          refine wpAnyL_one (i := 6) (by kernel_rfl) rfl rfl ?_
                          go_simp
                          refine (HM1.out y17 pb K17.out HP17.out).mono ?_
                          rintro e y18 ⟨ma, mc, rfl, hs18, kk18⟩
                          have K18 := hid (show Kept w9 y18 from K17.out.trans kk18 (fun _ _ f => f))
                          have HP18 := hid (kk18.blk HP17.out (fun f => f))
                          have HN18 := hid (kk18.blk HN17.out (fun f => f))
                          have HL18 := hid (Go.Proofs.Ytcacoanhiphbiaa.N.ownN_stay HL17.out kk18)
                          have HS18 := hid hs18
                          clear hs18 kk18
                          refine ⟨K18.out, ?_⟩
                          (try simp only [List.getElem_toArray, List.getElem_cons_succ, List.getElem_cons_zero])
                          (try go_frame)
                          refine wpAnyL_take (i := 7) (v := .agg #[.slice qa ln qc, .slice ma SL mc]) rfl (by kernel_rfl) (by kernel_rfl) (by kernel_rfl) (by kernel_rfl) (by kernel_rfl) (fun _ _ _ h => h) (Or.inl ⟨by kernel_rfl, ?_⟩) K18.out ?_
                          · (intro w' hSw; go_simp)
                          (try simp only [List.getElem_toArray, List.getElem_cons_succ, List.getElem_cons_zero])
                          go_frame
                          have HE := hid (new_end K18.out HN18.out HNB.out HL18.out HS18.out)
                          have c0 := HN18.out.cell 0 rfl
                          have c1 := HN18.out.cell 1 rfl
                          have g0 := HN18.out.frozen 0
                          have g1 := HN18.out.frozen 1
                          refine wpAnyL_last (by kernel_rfl) (by kernel_rfl) rfl rfl ?_
                          go_simp
                          refine NoPanic.normal ?_
                          exact ⟨rfl, pb, nb, qa, qc, ma, mc, rfl, HE.out⟩
                      · skip
                        obtain ⟨nb, hnb⟩ : ∃ n, w9.heap.size = n := ⟨_, rfl⟩
                        obtain ⟨y19, hy19⟩ : ∃ W, w9.alloc (.cells #[.slice none 0 0, .slice none 0 0] 29) = W := ⟨_, rfl⟩
                        have kk19 : Kept w9 y19 := by rw [← hy19]; exact (Only.refl _ _).alloc _
                        have K19 := hid (show Kept w9 y19 from K0.out.trans kk19 (fun _ _ f => f))
                        have HN19 : Hid (Blk y19 nb [.slice none 0 0, .slice none 0 0] 29) := hid (by rw [← hy19, ← hnb]; exact Blk.new w9 [.slice none 0 0, .slice none 0 0] 29)
                        have HNB : Hid (w9.heap.size ≤ nb) := hid (by rw [← hnb]; exact K0.out.size)
                        have HY19 := hid hy19
                        have HZ19 := hid hnb
                        clear hy19 hnb kk19
                        go_simp
                        rw [HY19.out, HZ19.out]
                        clear HY19 HZ19
                        refine ⟨K19.out, ?_⟩
                        (try simp only [List.getElem_toArray, List.getElem_cons_succ, List.getElem_cons_zero])
                        (try go_frame)
                        refine wpAnyL_two (i := 2) (j := 5) (by kernel_rfl) rfl rfl rfl rfl ?_ ?_
                        · skip
                          obtain ⟨qa, qc, y20, R20, hl20, kk20⟩ := HLC.out y19 K19.out
                          have K20 := hid (show Kept w9 y20 from K19.out.trans kk20 (fun _ _ f => f))
                          have HN20 := hid (kk20.blk HN19.out (fun f => f))
                          have HL20 := hid hl20
                          clear hl20 kk20
                          refine oper_appendH _ _ _ rfl rfl rfl R20 ?_
                          refine ⟨K20.out, ?_⟩
                          (try simp only [List.getElem_toArray, List.getElem_cons_succ, List.getElem_cons_zero])
                          (try go_frame)
                          refine wpAnyL_one (i := 5) (by kernel_rfl) rfl rfl ?_
                          obtain ⟨pb, hpb⟩ : ∃ n, y20.heap.size = n := ⟨_, rfl⟩
                          obtain ⟨y21, hy21⟩ : ∃ W, y20.alloc (.cells #[.slice sa sn sc] 27) = W := ⟨_, rfl⟩
                          have kk21 : Kept y20 y21 := by rw [← hy21]; exact (Only.refl _ _).alloc _
                          have K21 := hid (show Kept w9 y21 from K20.out.trans kk21 (fun _ _ f => f))
                          have HN21 := hid (kk21.blk HN20.out (fun f => f))
                          have HL21 := hid (Go.Proofs.Ytcacoanhiphbiaa.N.ownN_stay HL20.out kk21)
                          have HP21 : Hid (Blk y21 pb [.slice sa sn sc] 27) := hid (by rw [← hy21, ← hpb]; exact Blk.new y20 [.slice sa sn sc] 27)
                          have HY21 := hid hy21
                          have HZ21 := hid hpb
                          clear hy21 hpb kk21
                          go_simp
                          rw [HY21.out, HZ21.out]
                          clear HY21 HZ21
                          refine ⟨K21.out, ?_⟩
                          (try simp only [List.getElem_toArray, List.getElem_cons_succ, List.getElem_cons_zero])
                          (try go_frame)
                          refine wpAnyL_one (i := 6) (by kernel_rfl) rfl rfl ?_
                          go_simp
                          refine (HM1.out y21 pb K21.out HP21.out).mono ?_
                          rintro e y22 ⟨ma, mc, rfl, hs22, kk22⟩
                          have K22 := hid (show Kept w9 y22 from K21.out.trans kk22 (fun _ _ f => f))
                          have HP22 := hid (kk22.blk HP21.out (fun f => f))
                          have HN22 := hid (kk22.blk HN21.out (fun f => f))
                          have HL22 := hid (Go.Proofs.Ytcacoanhiphbiaa.N.ownN_stay HL21.out kk22)
                          have HS22 := hid hs22
                          clear hs22 kk22
                          refine ⟨K22.out, ?_⟩
                          (try simp only [List.getElem_toArray, List.getElem_cons_succ, List.getElem_cons_zero])
                          (try go_frame)
                          refine wpAnyL_take (i := 7) (v := .agg #[.slice qa ln qc, .slice ma SL mc]) rfl (by kernel_rfl) (by kernel_rfl) (by kernel_rfl) (by kernel_rfl) (by kernel_rfl) (fun _ _ _ h => h) (Or.inl ⟨by kernel_rfl, ?_⟩) K22.out ?_
                          · (intro w' hSw; go_simp)
                          (try simp only [List.getElem_toArray, List.getElem_cons_succ, List.getElem_cons_zero])
                          go_frame
                          have HE := hid (new_end K22.out HN22.out HNB.out HL22.out HS22.out)
                          have c0 := HN22.out.cell 0 rfl
                          have c1 := HN22.out.cell 1 rfl
                          have g0 := HN22.out.frozen 0
                          have g1 := HN22.out.frozen 1
                          refine wpAnyL_last (by kernel_rfl) (by kernel_rfl) rfl rfl ?_
                          go_simp
                          refine NoPanic.normal ?_
                          exact ⟨rfl, pb, nb, qa, qc, ma, mc, rfl, HE.out⟩
                        · skip
                          obtain ⟨pb, hpb⟩ : ∃ n, y19.heap.size = n := ⟨_, rfl⟩
                          obtain ⟨y23, hy23⟩ : ∃ W, y19.alloc (.cells #[.slice sa sn sc] 27) = W := ⟨_, rfl⟩
                          have kk23 : Kept y19 y23 := by rw [← hy23]; exact (Only.refl _ _).alloc _
                          have K23 := hid (show Kept w9 y23 from K19.out.trans kk23 (fun _ _ f => f))
                          have HN23 := hid (kk23.blk HN19.out (fun f => f))
                          have HP23 : Hid (Blk y23 pb [.slice sa sn sc] 27) := hid (by rw [← hy23, ← hpb]; exact Blk.new y19 [.slice sa sn sc] 27)
                          have HY23 := hid hy23
                          have HZ23 := hid hpb
                          clear hy23 hpb kk23
                          go_simp
                          rw [HY23.out, HZ23.out]
                          clear HY23 HZ23
                          refine ⟨K23.out, ?_⟩
                          (try simp only [List.getElem_toArray, List.getElem_cons_succ, List.getElem_cons_zero])
                          (try go_frame)
                          refine wpAnyL_one (i := 2) (by kernel_rfl) rfl rfl ?_
                          obtain ⟨qa, qc, y24, R24, hl24, kk24⟩ := HLC.out y23 K23.out
                          have K24 := hid (show Kept w9 y24 from K23.out.trans kk24 (fun _ _ f => f))
                          have HP24 := hid (kk24.blk HP23.out (fun f => f))
                          have HN24 := hid (kk24.blk HN23.out (fun f => f))
                          have HL24 := hid hl24
                          clear hl24 kk24
                          refine oper_appendH _ _ _ rfl rfl rfl R24 ?_
                          refine ⟨K24.out, ?_⟩
                          (try simp only [List.getElem_toArray, List.getElem_cons_succ, List.getElem_cons_zero])
                          (try go_frame)
                          refine wpAnyL_one (i := 6) (by kernel_rfl) rfl rfl ?_
                          go_simp
                          refine (HM1.out y24 pb K24.out HP24.out).mono ?_
                          rintro e y25 ⟨ma, mc, rfl, hs25, kk25⟩
                          have K25 := hid (show Kept w9 y25 from K24.out.trans kk25 (fun _ _ f => f))
                          have HP25 := hid (kk25.blk HP24.out (fun f => f))
                          have HN25 := hid (kk25.blk HN24.out (fun f => f))
                          have HL25 := hid (Go.Proofs.Ytcacoanhiphbiaa.N.ownN_stay HL24.out kk25)
                          have HS25 := hid hs25
                          clear hs25 kk25
                          refine ⟨K25.out, ?_⟩
                          (try simp only [List.getElem_toArray, List.getElem_cons_succ, List.getElem_cons_zero])
                          (try go_frame)
                          refine wpAnyL_take (i := 7) (v := .agg #[.slice qa ln qc, .slice ma SL mc]) rfl (by kernel_rfl) (by kernel_rfl) (by kernel_rfl) (by kernel_rfl) (by kernel_rfl) (fun _ _ _ h => h) (Or.inl ⟨by kernel_rfl, ?_⟩) K25.out ?_
                          · (intro w' hSw; go_simp)
                          (try simp only [List.getElem_toArray, List.getElem_cons_succ, List.getElem_cons_zero])
                          go_frame
                          have HE := hid (new_end K25.out HN25.out HNB.out HL25.out HS25.out)
                          have c0 := HN25.out.cell 0 rfl
                          have c1 := HN25.out.cell 1 rfl
                          have g0 := HN25.out.frozen 0
                          have g1 := HN25.out.frozen 1
                          refine wpAnyL_last (by kernel_rfl) (by kernel_rfl) rfl rfl ?_
                          go_simp
                          refine NoPanic.normal ?_
                          exact ⟨rfl, pb, nb, qa, qc, ma, mc, rfl, HE.out⟩
                    · intro pb nb qa qc ma mc wN HN
                      have HNS := hid HN
                      clear HN
                      go_wp2_with fail
                      obtain ⟨wD, hwD⟩ : ∃ W, wN.drew = W := ⟨_, rfl⟩
                      have KN : Hid (Kept wN wD) := hid (by rw [← hwD]; exact (Only.refl _ _).drew)
                      have HWD := hid hwD
                      clear hwD
                      have N0 := hid (HNS.out.blk.cell 0 rfl)
                      have N1 := hid (HNS.out.blk.cell 1 rfl)
                      refine wp_region_noPanic ?_
                      refine wp_region_last (L := 9) (S := fun w' => Kept wN w') (by kernel_rfl) ?_
                      rw [HWD.out]
                      refine wpAnyL_take (i := 0) (v := .slice ua UL uc) rfl (by kernel_rfl) (by kernel_rfl) (by kernel_rfl) (by kernel_rfl) (by kernel_rfl) (fun _ _ _ h => h) (Or.inl ⟨by kernel_rfl, ?_⟩) KN.out ?_
                      · (intro w' hSw; go_simp)
                      (try simp only [List.getElem_toArray, List.getElem_cons_succ, List.getElem_cons_zero])
                      go_frame
                      refine wpAnyL_take (i := 1) (v := .int .i64 (t : Int)) rfl (by kernel_rfl) (by kernel_rfl) (by kernel_rfl) (by kernel_rfl) (by kernel_rfl) (fun _ _ _ h => h) (Or.inl ⟨by kernel_rfl, ?_⟩) KN.out ?_
                      · (intro w' hSw; go_simp)
                      (try simp only [List.getElem_toArray, List.getElem_cons_succ, List.getElem_cons_zero])
                      go_frame
                      refine wpAnyL_take (i := 2) (v := .int .i64 (t : Int)) rfl (by kernel_rfl) (by kernel_rfl) (by kernel_rfl) (by kernel_rfl) (by kernel_rfl) (fun _ _ _ h => h) (Or.inl ⟨by kernel_rfl, ?_⟩) KN.out ?_
                      · (intro w' hSw; go_simp)
                      (try simp only [List.getElem_toArray, List.getElem_cons_succ, List.getElem_cons_zero])
                      go_frame
                      refine wpAnyL_take (i := 3) (v := .slice pa t t) rfl (by kernel_rfl) (by kernel_rfl) (by kernel_rfl) (by kernel_rfl) (by kernel_rfl) (fun _ _ _ h => h) (Or.inl ⟨by kernel_rfl, ?_⟩) KN.out ?_
                      · (intro w' hSw; go_simp)
                      (try simp only [List.getElem_toArray, List.getElem_cons_succ, List.getElem_cons_zero])
                      go_frame
                      refine wpAnyL_take (i := 4) (v := .agg #[.slice qa ln qc, .slice ma SL mc]) rfl (by kernel_rfl) (by kernel_rfl) (by kernel_rfl) (by kernel_rfl) (by kernel_rfl) (fun _ _ _ h => h) (Or.inl ⟨by kernel_rfl, ?_⟩) KN.out ?_
                      · (intro w' hSw; have s0 := each_cell hSw _ _ N0.out; have s1 := each_cell hSw _ _ N1.out; clear hSw; go_simp)
                      (try simp only [List.getElem_toArray, List.getElem_cons_succ, List.getElem_cons_zero])
                      go_frame
                      refine wpAnyL_take (i := 7) (v := .slice g13 LD cap13) rfl (by kernel_rfl) (by kernel_rfl) (by kernel_rfl) (by kernel_rfl) (by kernel_rfl) (fun _ _ _ h => h) (Or.inl ⟨by kernel_rfl, ?_⟩) KN.out ?_
                      · (intro w' hSw; go_simp)
                      (try simp only [List.getElem_toArray, List.getElem_cons_succ, List.getElem_cons_zero])
                      go_frame
                      obtain ⟨nb2, hnb2⟩ : ∃ n, wD.heap.size = n := ⟨_, rfl⟩
                      obtain ⟨z1, hz1⟩ : ∃ W, wD.alloc (.cells #[.slice qa ln qc, .slice ma SL mc] 29) = W := ⟨_, rfl⟩
                      have KZ : Hid (Kept wN z1) := hid (by rw [← hz1]; exact KN.out.alloc _)
                      have HX2 : Hid (Blk z1 nb2 [.slice qa ln qc, .slice ma SL mc] 29) := hid (by rw [← hz1, ← hnb2]; exact Blk.new wD [.slice qa ln qc, .slice ma SL mc] 29)
                      have K9N := hid (HNS.out.kept.trans KZ.out (fun _ _ f => f))
                      have KWZ := hid (K9.out.trans K9N.out (fun _ _ f => f))
                      have K8Z := hid (HKD.out.trans K9N.out (fun _ _ f => f))
                      obtain ⟨c6, z2, R6, k6, v8, z3, R8, k8, hrow⟩ := put_rows (labs := x.2.labs) (m := m) (by rw [HUL.out]; exact HTL.out) (by rw [HUL.out]; exact hu9) HPL.out (HCT.out.stay KWZ.out) ((own_cells HO13.out).stay K8Z.out) HX2.out
                      have HRES : Hid (RmI w ((ls.take i).flatten ++ l.take (k + 1)) v8 (qs.take t ++ [(⟨.slice qa ln qc, .slice ma SL mc, x.2.labs, m⟩ : SV)] ++ qs.drop t) z3) := hid (by
                        rw [HTK.out, ← List.append_assoc]
                        have kk := KZ.out.trans k8 (fun _ _ f => f)
                        exact (HI7.out.stay K9.out).put (HNS.out.kept.trans kk (fun _ _ f => f)) (by rw [HUL.out]; exact HTL.out) HBT.out HPOS.out HQX.out HXL.out HMM.out (Go.Proofs.Ytcacoanhiphbiaa.N.ownN_stay HNS.out.lab kk) (ownN_stay HNS.out.smp kk) (ownN_base hrow (HI7.out.kept.trans KWZ.out (fun _ _ f => f)).size))
                      have K6 := hid (show Kept wN z2 from KZ.out.trans k6 (fun _ _ f => f))
                      have K8 := hid (show Kept wN z3 from KZ.out.trans k8 (fun _ _ f => f))
                      have HZ1 := hid hz1
                      have HZ2 := hid hnb2
                      clear hz1 hnb2 k6 k8 hrow hto hfrom
                      refine wpAnyL_one (i := 5) (by kernel_rfl) rfl rfl ?_
                      go_simp
                      rw [HZ1.out, HZ2.out]
                      refine ⟨KZ.out, ?_⟩
                      (try simp only [List.getElem_toArray, List.getElem_cons_succ, List.getElem_cons_zero])
                      (try go_frame)
                      refine wpAnyL_one (i := 6) (by kernel_rfl) rfl rfl ?_
                      refine oper_appendH _ _ _ rfl rfl rfl R6 ?_
                      refine ⟨K6.out, ?_⟩
                      (try simp only [List.getElem_toArray, List.getElem_cons_succ, List.getElem_cons_zero])
                      (try go_frame)
                      refine wpAnyL_one (i := 8) (by kernel_rfl) rfl rfl ?_
                      refine oper_appendH _ _ _ rfl rfl rfl R8 ?_
                      refine ⟨K8.out, ?_⟩
                      (try simp only [List.getElem_toArray, List.getElem_cons_succ, List.getElem_cons_zero])
                      (try go_frame)
                      refine wpAnyL_last (by kernel_rfl) (by kernel_rfl) rfl rfl ?_
                      go_simp
                      refine NoPanic.normal ?_
                      go_wp2_with fail
                      go_roundw
                      case rel => exact ⟨k + 1, _, _, by omega, by go_num, rfl, HRES⟩
                      case measure => simp [intOf]; omega
              · have htu : Hid (UL = t) := hid (by omega)
                have KA := hid (show Kept wr wr.drew from (Only.refl _ _).drew)
                go_wp2_with fail
                refine wp_region_noPanic ?_
                refine wp_region_last (L := 1000) (S := fun w' => Kept wr w') (by kernel_rfl) ?_
                refine wpAnyN_take (i := 0) (v := .int .i64 (t : Int)) rfl (by kernel_rfl) (by kernel_rfl) (by kernel_rfl) (by decide) (by kernel_rfl) (fun _ _ _ h => h) (Or.inl ⟨by kernel_rfl, ?_⟩) KA.out ?_
                · (intro w' hSw; go_simp)
                (try simp only [List.getElem_toArray, List.getElem_cons_succ, List.getElem_cons_zero])
                go_frame
                refine wpAnyN_take (i := 1) (v := .slice ua UL uc) rfl (by kernel_rfl) (by kernel_rfl) (by kernel_rfl) (by decide) (by kernel_rfl) (fun _ _ _ h => h) (Or.inl ⟨by kernel_rfl, ?_⟩) KA.out ?_
                · (intro w' hSw; go_simp)
                (try simp only [List.getElem_toArray, List.getElem_cons_succ, List.getElem_cons_zero])
                go_frame
                refine wpAnyN_take (i := 2) (v := .int .i64 (UL : Int)) rfl (by kernel_rfl) (by kernel_rfl) (by kernel_rfl) (by decide) (by kernel_rfl) (fun _ _ _ h => h) (Or.inl ⟨by kernel_rfl, ?_⟩) KA.out ?_
                · (intro w' hSw; go_simp)
                (try simp only [List.getElem_toArray, List.getElem_cons_succ, List.getElem_cons_zero])
                go_frame
                refine wpAnyN_take (i := 3) (v := .bool false) rfl (by kernel_rfl) (by kernel_rfl) (by kernel_rfl) (by decide) (by kernel_rfl) (fun _ _ _ h => h) (Or.inl ⟨by kernel_rfl, ?_⟩) KA.out ?_
                · (intro w' hSw; go_simp)
                (try simp only [List.getElem_toArray, List.getElem_cons_succ, List.getElem_cons_zero])
                go_frame
                refine wpAnyN_take (i := 4) (v := .bool false) rfl (by kernel_rfl) (by kernel_rfl) (by kernel_rfl) (by decide) (by kernel_rfl) (fun _ _ _ h => h) (Or.inl ⟨by kernel_rfl, ?_⟩) KA.out ?_
                · (intro w' hSw; go_simp)
                (try simp only [List.getElem_toArray, List.getElem_cons_succ, List.getElem_cons_zero])
                go_frame
                refine wpAnyN_take (i := 5) (v := undef) rfl (by kernel_rfl) (by kernel_rfl) (by kernel_rfl) (by decide) (by kernel_rfl) (fun _ _ _ h => h) (Or.inr ⟨by kernel_rfl, rfl⟩) KA.out ?_
                (try simp only [List.getElem_toArray, List.getElem_cons_succ, List.getElem_cons_zero])
                go_frame
                refine wpAnyN_take (i := 6) (v := undef) rfl (by kernel_rfl) (by kernel_rfl) (by kernel_rfl) (by decide) (by kernel_rfl) (fun _ _ _ h => h) (Or.inr ⟨by kernel_rfl, rfl⟩) KA.out ?_
                (try simp only [List.getElem_toArray, List.getElem_cons_succ, List.getElem_cons_zero])
                go_frame
                refine wpAnyN_take (i := 7) (v := undef) rfl (by kernel_rfl) (by kernel_rfl) (by kernel_rfl) (by decide) (by kernel_rfl) (fun _ _ _ h => h) (Or.inr ⟨by kernel_rfl, rfl⟩) KA.out ?_
                (try simp only [List.getElem_toArray, List.getElem_cons_succ, List.getElem_cons_zero])
                go_frame
                refine wpAnyN_take (i := 8) (v := undef) rfl (by kernel_rfl) (by kernel_rfl) (by kernel_rfl) (by decide) (by kernel_rfl) (fun _ _ _ h => h) (Or.inr ⟨by kernel_rfl, rfl⟩) KA.out ?_
                (try simp only [List.getElem_toArray, List.getElem_cons_succ, List.getElem_cons_zero])
                go_frame
                refine wpAnyN_take (i := 9) (v := undef) rfl (by kernel_rfl) (by kernel_rfl) (by kernel_rfl) (by decide) (by kernel_rfl) (fun _ _ _ h => h) (Or.inr ⟨by kernel_rfl, rfl⟩) KA.out ?_
                (try simp only [List.getElem_toArray, List.getElem_cons_succ, List.getElem_cons_zero])
                go_frame
                refine wpAnyN_take (i := 10) (v := undef) rfl (by kernel_rfl) (by kernel_rfl) (by kernel_rfl) (by decide) (by kernel_rfl) (fun _ _ _ h => h) (Or.inr ⟨by kernel_rfl, rfl⟩) KA.out ?_
                (try simp only [List.getElem_toArray, List.getElem_cons_succ, List.getElem_cons_zero])
                go_frame
                refine wpAnyN_take (i := 11) (v := undef) rfl (by kernel_rfl) (by kernel_rfl) (by kernel_rfl) (by decide) (by kernel_rfl) (fun _ _ _ h => h) (Or.inr ⟨by kernel_rfl, rfl⟩) KA.out ?_
                (try simp only [List.getElem_toArray, List.getElem_cons_succ, List.getElem_cons_zero])
                go_frame
                refine wpAnyN_take (i := 12) (v := undef) rfl (by kernel_rfl) (by kernel_rfl) (by kernel_rfl) (by decide) (by kernel_rfl) (fun _ _ _ h => h) (Or.inr ⟨by kernel_rfl, rfl⟩) KA.out ?_
                (try simp only [List.getElem_toArray, List.getElem_cons_succ, List.getElem_cons_zero])
                go_frame
                refine wpAnyN_take (i := 13) (v := undef) rfl (by kernel_rfl) (by kernel_rfl) (by kernel_rfl) (by decide) (by kernel_rfl) (fun _ _ _ h => h) (Or.inr ⟨by kernel_rfl, rfl⟩) KA.out ?_
                (try simp only [List.getElem_toArray, List.getElem_cons_succ, List.getElem_cons_zero])
                go_frame
                refine wpAnyL_one (i := 14) (by kernel_rfl) rfl rfl ?_
                go_simp
                refine ⟨KA.out, ?_⟩
                (try simp only [List.getElem_toArray, List.getElem_cons_succ, List.getElem_cons_zero])
                (try go_frame)
                refine wpAnyN_done (by kernel_rfl) ?_
                refine NoPanic.normal ?_
                have KB := hid (show Kept wr wr.drew.drew from KA.out.trans (Only.refl _ _).drew (fun _ _ f => f))
                go_wp2_with fail
                refine wp_region_noPanic ?_
                refine wp_region_last (L := 1000) (S := fun w' => Kept wr w') (by kernel_rfl) ?_
                refine wpAnyN_take (i := 0) (v := .int .i64 (t : Int)) rfl (by kernel_rfl) (by kernel_rfl) (by kernel_rfl) (by decide) (by kernel_rfl) (fun _ _ _ h => h) (Or.inl ⟨by kernel_rfl, ?_⟩) KB.out ?_
                · (intro w' hSw; go_simp)
                (try simp only [List.getElem_toArray, List.getElem_cons_succ, List.getElem_cons_zero])
                go_frame
                refine wpAnyN_take (i := 1) (v := .slice ua UL uc) rfl (by kernel_rfl) (by kernel_rfl) (by kernel_rfl) (by decide) (by kernel_rfl) (fun _ _ _ h => h) (Or.inl ⟨by kernel_rfl, ?_⟩) KB.out ?_
                · (intro w' hSw; go_simp)
                (try simp only [List.getElem_toArray, List.getElem_cons_succ, List.getElem_cons_zero])
                go_frame
                refine wpAnyN_take (i := 2) (v := .int .i64 (UL : Int)) rfl (by kernel_rfl) (by kernel_rfl) (by kernel_rfl) (by decide) (by kernel_rfl) (fun _ _ _ h => h) (Or.inl ⟨by kernel_rfl, ?_⟩) KB.out ?_
                · (intro w' hSw; go_simp)
                (try simp only [List.getElem_toArray, List.getElem_cons_succ, List.getElem_cons_zero])
                go_frame
                refine wpAnyN_take (i := 3) (v := .bool false) rfl (by kernel_rfl) (by kernel_rfl) (by kernel_rfl) (by decide) (by kernel_rfl) (fun _ _ _ h => h) (Or.inl ⟨by kernel_rfl, ?_⟩) KB.out ?_
                · (intro w' hSw; go_simp)
                (try simp only [List.getElem_toArray, List.getElem_cons_succ, List.getElem_cons_zero])
                go_frame
                refine wpAnyN_take (i := 4) (v := .bool false) rfl (by kernel_rfl) (by kernel_rfl) (by kernel_rfl) (by decide) (by kernel_rfl) (fun _ _ _ h => h) (Or.inl ⟨by kernel_rfl, ?_⟩) KB.out ?_
                · (intro w' hSw; go_simp)
                (try simp only [List.getElem_toArray, List.getElem_cons_succ, List.getElem_cons_zero])
                go_frame
                refine wpAnyN_take (i := 5) (v := undef) rfl (by kernel_rfl) (by kernel_rfl) (by kernel_rfl) (by decide) (by kernel_rfl) (fun _ _ _ h => h) (Or.inr ⟨by kernel_rfl, rfl⟩) KB.out ?_
                (try simp only [List.getElem_toArray, List.getElem_cons_succ, List.getElem_cons_zero])
                go_frame
                refine wpAnyN_take (i := 6) (v := undef) rfl (by kernel_rfl) (by kernel_rfl) (by kernel_rfl) (by decide) (by kernel_rfl) (fun _ _ _ h => h) (Or.inr ⟨by kernel_rfl, rfl⟩) KB.out ?_
                (try simp only [List.getElem_toArray, List.getElem_cons_succ, List.getElem_cons_zero])
                go_frame
                refine wpAnyN_take (i := 7) (v := undef) rfl (by kernel_rfl) (by kernel_rfl) (by kernel_rfl) (by decide) (by kernel_rfl) (fun _ _ _ h => h) (Or.inr ⟨by kernel_rfl, rfl⟩) KB.out ?_
                (try simp only [List.getElem_toArray, List.getElem_cons_succ, List.getElem_cons_zero])
                go_frame
                refine wpAnyN_take (i := 8) (v := undef) rfl (by kernel_rfl) (by kernel_rfl) (by kernel_rfl) (by decide) (by kernel_rfl) (fun _ _ _ h => h) (Or.inr ⟨by kernel_rfl, rfl⟩) KB.out ?_
                (try simp only [List.getElem_toArray, List.getElem_cons_succ, List.getElem_cons_zero])
                go_frame
                refine wpAnyN_take (i := 9) (v := undef) rfl (by kernel_rfl) (by kernel_rfl) (by kernel_rfl) (by decide) (by kernel_rfl) (fun _ _ _ h => h) (Or.inr ⟨by kernel_rfl, rfl⟩) KB.out ?_
                (try simp only [List.getElem_toArray, List.getElem_cons_succ, List.getElem_cons_zero])
                go_frame
                refine wpAnyN_take (i := 10) (v := undef) rfl (by kernel_rfl) (by kernel_rfl) (by kernel_rfl) (by decide) (by kernel_rfl) (fun _ _ _ h => h) (Or.inr ⟨by kernel_rfl, rfl⟩) KB.out ?_
                (try simp only [List.getElem_toArray, List.getElem_cons_succ, List.getElem_cons_zero])
                go_frame
                refine wpAnyN_take (i := 11) (v := undef) rfl (by kernel_rfl) (by kernel_rfl) (by kernel_rfl) (by decide) (by kernel_rfl) (fun _ _ _ h => h) (Or.inr ⟨by kernel_rfl, rfl⟩) KB.out ?_
                (try simp only [List.getElem_toArray, List.getElem_cons_succ, List.getElem_cons_zero])
                go_frame
                refine wpAnyN_take (i := 12) (v := undef) rfl (by kernel_rfl) (by kernel_rfl) (by kernel_rfl) (by decide) (by kernel_rfl) (fun _ _ _ h => h) (Or.inr ⟨by kernel_rfl, rfl⟩) KB.out ?_
                (try simp only [List.getElem_toArray, List.getElem_cons_succ, List.getElem_cons_zero])
                go_frame
                refine wpAnyN_take (i := 13) (v := undef) rfl (by kernel_rfl) (by kernel_rfl) (by kernel_rfl) (by decide) (by kernel_rfl) (fun _ _ _ h => h) (Or.inr ⟨by kernel_rfl, rfl⟩) KB.out ?_
                (try simp only [List.getElem_toArray, List.getElem_cons_succ, List.getElem_cons_zero])
                go_frame
                refine wpAnyL_one (i := 14) (by kernel_rfl) rfl rfl ?_
                go_simp
                refine ⟨KB.out, ?_⟩
                (try simp only [List.getElem_toArray, List.getElem_cons_succ, List.getElem_cons_zero])
                (try go_frame)
                refine wpAnyN_done (by kernel_rfl) ?_
                refine NoPanic.normal ?_
                have HPOS : Hid (t = qs.length ∨ ∃ h : t < qs.length, 0 < cmpL qs[t].labs x.2.labs) := hid (.inl (by have := HUL.out; have := htu.out; omega))
                have HTL : Hid (t ≤ UL) := hid ht
                have KT := hid (K2.out.trans KB.out (fun _ _ f => f))
                clear KA KB HB2 B0 B1 HS2 K2 htu htl
                generalize wr.drew.drew = w7 at KT ⊢
                have HI7 := hid (HI1.out.stay KT.out)
                have HB7 := hid (KT.out.blk HB1.out (fun f => f))
                have HF7 := hid (HF1.out.stay KT.out)
                have HQX : Hid (x.2.smps ≠ []) := hid (hsm0 hsn0)
                have hpl : SvPlain qs := fun q hq => ⟨by
                  obtain ⟨a, c, e⟩ := ownN_slice (HI7.out.row.lab q hq)
                  exact ⟨a, _, c, e⟩, by
                  obtain ⟨a, c, e⟩ := ownN_slice (HI7.out.row.smp q hq)
                  exact ⟨a, _, c, e⟩⟩
                have HPL := hid hpl
                obtain ⟨pa, fa, fc, hto, hct, hfrom, hcf⟩ := sv_cut (B := w.heap.size) HI7.out.row.row t (by rw [HUL.out]; exact HTL.out)
                rw [HUL.out] at hfrom hcf
                obtain ⟨v13, w8, R13, o13, k13⟩ := sv_copy hcf (fun q hq => hpl q (List.mem_of_mem_drop hq)) (by rw [List.length_drop, HUL.out]; omega)
                obtain ⟨g13, cap13, hv13⟩ := ownN_slice o13
                obtain ⟨LD, hLD⟩ : ∃ n, (qs.drop t).length = n := ⟨_, rfl⟩
                rw [hLD] at hv13
                subst hv13
                have hLU : UL - t = LD := by rw [← hLD, List.length_drop, HUL.out]
                rw [hLU] at hfrom R13
                have HCT := hid hct
                have HO13 := hid o13
                have HK13 := hid k13
                have K9 := hid (show Kept w7 w8.drew from k13.trans (Only.refl _ _).drew (fun _ _ f => f))
                have HLS : LabSrc w8.drew (.slice la ln lc) x.2.labs := by
                  have h := (HF7.out.stay K9.out).2.1
                  rw [HLV.out] at h
                  exact h
                have HLN : x.2.labs.length = ln := by
                  obtain ⟨a, c, e⟩ := HLS.len
                  injection e with _ e2 _
                  exact e2.symm
                have hxl : x.2.labs.length ≤ 90000 := HLAB.out _ HF1.out.1
                have HXL := hid hxl
                have HLC := hid (lab_more HLN HLS (by omega))
                have HSS : Mg.SSrc w8.drew (.slice sa sn sc) x.2.smps := by
                  have h := (HF7.out.stay K9.out).2.2.1
                  rw [HSV.out] at h
                  exact h
                obtain ⟨m, hm⟩ : ∃ m, Mg.mrg x.2.smps = m := ⟨_, rfl⟩
                obtain ⟨SL, hSL⟩ : ∃ n, m.length = n := ⟨_, rfl⟩
                have HM1 := hid (smp_more hm hSL HSS (by have := HW.out; omega))
                have HMM := hid hm
                have HB9 := hid (K9.out.blk HB7.out (fun f => f))
                have B0 := hid (HB9.out.cell 0 rfl)
                have B1 := hid (HB9.out.cell 1 rfl)
                have htu9 : t ≤ UL := HTL.out
                obtain ⟨w9, hw9⟩ : ∃ W, w8.drew = W := ⟨_, rfl⟩
                have HW9 := hid hw9
                rw [hw9] at K9 HLC HM1 HB9 B0 B1
                have HKD : Hid (Kept w8 w9) := hid (by rw [← hw9]; exact (Only.refl _ _).drew)
                clear hw9
                clear hLU hpl hct hcf o13 k13 HLS HLN hxl HSS hm hSL hLD hsm0
                go_wp2_with (at_builtin; refine wpList_append_run rfl _ _ _ rfl rfl rfl R13 ?_)
                apply wp_region_thenM (fun nb qa qc ma mc W => NewS w9 x.2.labs m nb (.slice qa ln qc) (.slice ma SL mc) W)
                · refine wp_region_noPanic ?_
                  refine wp_region_last (L := 9) (S := fun w' => Kept w9 w') (by kernel_rfl) ?_
                  rw [HW9.out]
                  have K0 := hid (show Kept w9 w9 from Only.refl _ _)
                  refine wpAnyL_take (i := 0) (v := .pointer (some ⟨X, 0, none⟩)) rfl (by kernel_rfl) (by kernel_rfl) (by kernel_rfl) (by kernel_rfl) (by kernel_rfl) (fun _ _ _ h => h) (Or.inl ⟨by kernel_rfl, ?_⟩) K0.out ?_
                  · (intro w' hSw; go_simp)
                  (try simp only [List.getElem_toArray, List.getElem_cons_succ, List.getElem_cons_zero])
                  go_frame
                  refine wpAnyL_take (i := 1) (v := .slice la ln lc) rfl (by kernel_rfl) (by kernel_rfl) (by kernel_rfl) (by kernel_rfl) (by kernel_rfl) (fun _ _ _ h => h) (Or.inl ⟨by kernel_rfl, ?_⟩) K0.out ?_
                  · (intro w' hSw; have s0 := each_cell hSw _ _ B0.out; clear hSw; go_simp)
                  (try simp only [List.getElem_toArray, List.getElem_cons_succ, List.getElem_cons_zero])
                  go_frame
                  refine wpAnyL_take (i := 3) (v := .pointer (some ⟨X, 1, none⟩)) rfl (by kernel_rfl) (by kernel_rfl) (by kernel_rfl) (by kernel_rfl) (by kernel_rfl) (fun _ _ _ h => h) (Or.inl ⟨by kernel_rfl, ?_⟩) K0.out ?_
                  · (intro w' hSw; go_simp)
                  (try simp only [List.getElem_toArray, List.getElem_cons_succ, List.getElem_cons_zero])
                  go_frame
                  refine wpAnyL_take (i := 4) (v := .slice sa sn sc) rfl (by kernel_rfl) (by kernel_rfl) (by kernel_rfl) (by kernel_rfl) (by kernel_rfl) (fun _ _ _ h => h) (Or.inl ⟨by kernel_rfl, ?_⟩) K0.out ?_
                  · (intro w' hSw; have s0 := each_cell hSw _ _ B1.out; clear hSw; go_simp)
                  (try simp only [List.getElem_toArray, List.getElem_cons_succ, List.getElem_cons_zero])
                  go_frame
                  refine wpAnyL_three (i := 2) (j := 5) (k := 8) (by kernel_rfl) rfl rfl rfl rfl rfl rfl ?_ ?_ ?_
                  · skip
                    obtain ⟨qa, qc, y1, R1, hl1, kk1⟩ := HLC.out w9 K0.out
                    have K1 := hid (show Kept w9 y1 from K0.out.trans kk1 (fun _ _ f => f))
                    have HL1 := hid hl1
                    clear hl1 kk1
                    refine oper_appendH _ _ _ rfl rfl rfl R1 ?_
                    refine ⟨K1.out, ?_⟩
                    (try simp only [List.getElem_toArray, List.getElem_cons_succ, List.getElem_cons_zero])
                    (try go_frame)
                    refine wpAnyL_two (i := 5) (j := 8) (by kernel_rfl) rfl rfl rfl rfl ?_ ?_
                    · skip
                      obtain ⟨pb, hpb⟩ : ∃ n, y1.heap.size = n := ⟨_, rfl⟩
                      obtain ⟨y2, hy2⟩ : ∃ W, y1.alloc (.cells #[.slice sa sn sc] 27) = W := ⟨_, rfl⟩
                      have kk2 : Kept y1 y2 := by rw [← hy2]; exact (Only.refl _ _).alloc _
                      have K2 := hid (show Kept w9 y2 from K1.out.trans kk2 (fun _ _ f => f))
                      have HL2 := hid (Go.Proofs.Ytcacoanhiphbiaa.N.ownN_stay HL1.out kk2)
                      have HP2 : Hid (Blk y2 pb [.slice sa sn sc] 27) := hid (by rw [← hy2, ← hpb]; exact Blk.new y1 [.slice sa sn sc] 27)
                      have HY2 := hid hy2
                      have HZ2 := hid hpb
                      clear hy2 hpb kk2
                      go_simp
                      rw [HY2.out, HZ2.out]
                      clear HY2 HZ2
                      refine ⟨K2.out, ?_⟩
                      (try simp only [List.getElem_toArray, List.getElem_cons_succ, List.getElem_cons_zero])
                      (try go_frame)
                      refine wpAnyL_two (i := 6) (j := 8) (by kernel_rfl) rfl rfl rfl rfl ?_ ?_
                      · skip
                        go_simp
                        refine (HM1.out y2 pb K2.out HP2.out).mono ?_
                        rintro e y3 ⟨ma, mc, rfl, hs3, kk3⟩
                        have K3 := hid (show Kept w9 y3 from K2.out.trans kk3 (fun _ _ f => f))
                        have HP3 := hid (kk3.blk HP2.out (fun f => f))
                        have HL3 := hid (Go.Proofs.Ytcacoanhiphbiaa.N.ownN_stay HL2.out kk3)
                        have HS3 := hid hs3
                        clear hs3 kk3
                        refine ⟨K3.out, ?_⟩
                        (try simp only [List.getElem_toArray, List.getElem_cons_succ, List.getElem_cons_zero])
                        (try go_frame)
                        refine wpAnyL_take (i := 7) (v := .agg #[.slice qa ln qc, .slice ma SL mc]) rfl (by kernel_rfl) (by kernel_rfl) (by kernel_rfl) (by kernel_rfl) (by kernel_rfl) (fun _ _ _ h => h) (Or.inl ⟨by kernel_rfl, ?_⟩) K3.out ?_
                        · (intro w' hSw; go_simp)
                        (try simp only [List.getElem_toArray, List.getElem_cons_succ, List.getElem_cons_zero])
                        go_frame
                        refine wpAnyL_one (i := 8) (by kernel_rfl) rfl rfl ?_
                        obtain ⟨nb, hnb⟩ : ∃ n, y3.heap.size = n := ⟨_, rfl⟩
                        obtain ⟨y4, hy4⟩ : ∃ W, y3.alloc (.cells #[.slice none 0 0, .slice none 0 0] 29) = W := ⟨_, rfl⟩
                        have kk4 : Kept y3 y4 := by rw [← hy4]; exact (Only.refl _ _).alloc _
                        have K4 := hid (show Kept w9 y4 from K3.out.trans kk4 (fun _ _ f => f))
                        have HP4 := hid (kk4.blk HP3.out (fun f => f))
                        have HL4 := hid (Go.Proofs.Ytcacoanhiphbiaa.N.ownN_stay HL3.out kk4)
                        have HS4 := hid (ownN_stay HS3.out kk4)
                        have HN4 : Hid (Blk y4 nb [.slice none 0 0, .slice none 0 0] 29) := hid (by rw [← hy4, ← hnb]; exact Blk.new y3 [.slice none 0 0, .slice none 0 0] 29)
                        have HNB : Hid (w9.heap.size ≤ nb) := hid (by rw [← hnb]; exact K3.out.size)
                        have HY4 := hid hy4
                        have HZ4 := hid hnb
                        clear hy4 hnb kk4
                        go_simp
                        rw [HY4.out, HZ4.out]
                        clear HY4 HZ4
                        refine ⟨K4.out, ?_⟩
                        (try simp only [List.getElem_toArray, List.getElem_cons_succ, List.getElem_cons_zero])
                        (try go_frame)
                        have HE := hid (new_end K4.out HN4.out HNB.out HL4.out HS4.out)
                        have c0 := HN4.out.cell 0 rfl
                        have c1 := HN4.out.cell 1 rfl
                        have g0 := HN4.out.frozen 0
                        have g1 := HN4.out.frozen 1
                        refine wpAnyL_last (by kernel_rfl) (by kernel_rfl) rfl rfl ?_
                        go_simp
                        refine NoPanic.normal ?_
                        exact ⟨rfl, pb, nb, qa, qc, ma, mc, rfl, HE.out⟩
                      · skip
                        obtain ⟨nb, hnb⟩ : ∃ n, y2.heap.size = n := ⟨_, rfl⟩
                        obtain ⟨y5, hy5⟩ : ∃ W, y2.alloc (.cells #[.slice none 0 0, .slice none 0 0] 29) = W := ⟨_, rfl⟩
                        have kk5 : Kept y2 y5 := by rw [← hy5]; exact (Only.refl _ _).alloc _
                        have K5 := hid (show Kept w9 y5 from K2.out.trans kk5 (fun _ _ f => f))
                        have HP5 := hid (kk5.blk HP2.out (fun f => f))
                        have HL5 := hid (Go.Proofs.Ytcacoanhiphbiaa.N.ownN_stay HL2.out kk5)
                        have HN5 : Hid (Blk y5 nb [.slice none 0 0, .slice none 0 0] 29) := hid (by rw [← hy5, ← hnb]; exact Blk.new y2 [.slice none 0 0, .slice none 0 0] 29)
                        have HNB : Hid (w9.heap.size ≤ nb) := hid (by rw [← hnb]; exact K2.out.size)
                        have HY5 := hid hy5
                        have HZ5 := hid hnb
                        clear hy5 hnb kk5
                        go_simp
                        rw [HY5.out, HZ5.out]
                        clear HY5 HZ5
                        refine ⟨K5.out, ?_⟩
                        (try simp only [List.getElem_toArray, List.getElem_cons_succ, List.getElem_cons_zero])
                        (try go_frame)
                        refine wpAnyL_one (i := 6) (by kernel_rfl) rfl rfl ?_
                        go_simp
                        refine (HM1.out y5 pb K5.out HP5.out).mono ?_
                        rintro e y6 ⟨ma, mc, rfl, hs6, kk6⟩
                        have K6 := hid (show Kept w9 y6 from K5.out.trans kk6 (fun _ _ f => f))
                        have HP6 := hid (kk6.blk HP5.out (fun f => f))
                        have HN6 := hid (kk6.blk HN5.out (fun f => f))
                        have HL6 := hid (Go.Proofs.Ytcacoanhiphbiaa.N.ownN_stay HL5.out kk6)
                        have HS6 := hid hs6
                        clear hs6 kk6
                        refine ⟨K6.out, ?_⟩
                        (try simp only [List.getElem_toArray, List.getElem_cons_succ, List.getElem_cons_zero])
                        (try go_frame)
                        refine wpAnyL_take (i := 7) (v := .agg #[.slice qa ln qc, .slice ma SL mc]) rfl (by kernel_rfl) (by kernel_rfl) (by kernel_rfl) (by kernel_rfl) (by kernel_rfl) (fun _ _ _ h => h) (Or.inl ⟨by kernel_rfl, ?_⟩) K6.out ?_
                        · (intro w' hSw; go_simp)
                        (try simp only [List.getElem_toArray, List.getElem_cons_succ, List.getElem_cons_zero])
                        go_frame
                        have HE := hid (new_end K6.out HN6.out HNB.out HL6.out HS6.out)
                        have c0 := HN6.out.cell 0 rfl
                        have c1 := HN6.out.cell 1 rfl
                        have g0 := HN6.out.frozen 0
                        have g1 := HN6.out.frozen 1
                        refine wpAnyL_last (by kernel_rfl) (by kernel_rfl) rfl rfl ?_
                        go_simp
                        refine NoPanic.normal ?_
                        exact ⟨rfl, pb, nb, qa, qc, ma, mc, rfl, HE.out⟩
                    · skip
                      obtain ⟨nb, hnb⟩ : ∃ n, y1.heap.size = n := ⟨_, rfl⟩
                      obtain ⟨y7, hy7⟩ : ∃ W, y1.alloc (.cells #[.slice none 0 0, .slice none 0 0] 29) = W := ⟨_, rfl⟩
                      have kk7 : Kept y1 y7 := by rw [← hy7]; exact (Only.refl _ _).alloc _
                      have K7 := hid (show Kept w9 y7 from K1.out.trans kk7 (fun _ _ f => f))
                      have HL7 := hid (Go.Proofs.Ytcacoanhiphbiaa.N.ownN_stay HL1.out kk7)
                      have HN7 : Hid (Blk y7 nb [.slice none 0 0, .slice none 0 0] 29) := hid (by rw [← hy7, ← hnb]; exact Blk.new y1 [.slice none 0 0, .slice none 0 0] 29)
                      have HNB : Hid (w9.heap.size ≤ nb) := hid (by rw [← hnb]; exact K1.out.size)
                      have HY7 := hid hy7
                      have HZ7 := hid hnb
                      clear hy7 hnb kk7
                      go_simp
                      rw [HY7.out, HZ7.out]
                      clear HY7 HZ7
                      refine ⟨K7.out, ?_⟩
                      (try simp only [List.getElem_toArray, List.getElem_cons_succ, List.getElem_cons_zero])
                      (try go_frame)
                      refine wpAnyL_one (i := 5) (by kernel_rfl) rfl rfl ?_
                      obtain ⟨pb, hpb⟩ : ∃ n, y7.heap.size = n := ⟨_, rfl⟩
                      obtain ⟨y8, hy8⟩ : ∃ W, y7.alloc (.cells #[.slice sa sn sc] 27) = W := ⟨_, rfl⟩
                      have kk8 : Kept y7 y8 := by rw [← hy8]; exact (Only.refl _ _).alloc _
                      have K8 := hid (show Kept w9 y8 from K7.out.trans kk8 (fun _ _ f => f))
                      have HN8 := hid (kk8.blk HN7.out (fun f => f))
                      have HL8 := hid (Go.Proofs.Ytcacoanhiphbiaa.N.ownN_stay HL7.out kk8)
                      have HP8 : Hid (Blk y8 pb [.slice sa sn sc] 27) := hid (by rw [← hy8, ← hpb]; exact Blk.new y7 [.slice sa sn sc] 27)
                      have HY8 := hid hy8
                      have HZ8 := hid hpb
                      clear hy8 hpb kk8
                      go_simp
                      rw [HY8.out, HZ8.out]
                      clear HY8 HZ8
                      refine ⟨K8.out, ?_⟩
                      (try simp only [List.getElem_toArray, List.getElem_cons_succ, List.getElem_cons_zero])
                      (try go_frame)
                      refine wpAnyL_one (i := 6) (by kernel_rfl) rfl rfl ?_
                      go_simp
                      refine (HM1.out y8 pb K8.out HP8.out).mono ?_
                      rintro e y9 ⟨ma, mc, rfl, hs9, kk9⟩
                      have K9 := hid (show Kept w9 y9 from K8.out.trans kk9 (fun _ _ f => f))
                      have HP9 := hid (kk9.blk HP8.out (fun f => f))
                      have HN9 := hid (kk9.blk HN8.out (fun f => f))
                      have HL9 := hid (Go.Proofs.Ytcacoanhiphbiaa.N.ownN_stay HL8.out kk9)
                      have HS9 := hid hs9
                      clear hs9 kk9
                      refine ⟨K9.out, ?_⟩
                      (try simp only [List.getElem_toArray, List.getElem_cons_succ, List.getElem_cons_zero])
                      (try go_frame)
                      refine wpAnyL_take (i := 7) (v := .agg #[.slice qa ln qc, .slice ma SL mc]) rfl (by kernel_rfl) (by kernel_rfl) (by kernel_rfl) (by kernel_rfl) (by kernel_rfl) (fun _ _ _ h => h) (Or.inl ⟨by kernel_rfl, ?_⟩) K9.out ?_
                      · (intro w' hSw; go_simp)
                      (try simp only [List.getElem_toArray, List.getElem_cons_succ, List.getElem_cons_zero])
                      go_frame
                      have HE := hid (new_end K9.out HN9.out HNB.out HL9.out HS9.out)
                      have c0 := HN9.out.cell 0 rfl
                      have c1 := HN9.out.cell 1 rfl
                      have g0 := HN9.out.frozen 0
                      have g1 := HN9.out.frozen 1
                      refine wpAnyL_last (by kernel_rfl) (by kernel_rfl) rfl rfl ?_
                      go_simp
                      refine NoPanic.normal ?_
                      exact ⟨rfl, pb, nb, qa, qc, ma, mc, rfl, HE.out⟩
                  · skip
                    obtain ⟨pb, hpb⟩ : ∃ n, w9.heap.size = n := ⟨_, rfl⟩
                    obtain ⟨y10, hy10⟩ : ∃ W, w9.alloc (.cells #[.slice sa sn sc] 27) = W := ⟨_, rfl⟩
                    have kk10 : Kept w9 y10 := by rw [← hy10]; exact (Only.refl _ _).alloc _
                    have K10 := hid (show Kept w9 y10 from K0.out.trans kk10 (fun _ _ f => f))
                    have HP10 : Hid (Blk y10 pb [.slice sa sn sc] 27) := hid (by rw [← hy10, ← hpb]; exact Blk.new w9 [.slice sa sn sc] 27)
                    have HY10 := hid hy10
                    have HZ10 := hid hpb
                    clear hy10 hpb kk10
                    go_simp
                    rw [HY10.out, HZ10.out]
                    clear HY10 HZ10
                    refine ⟨K10.out, ?_⟩
                    (try simp only [List.getElem_toArray, List.getElem_cons_succ, List.getElem_cons_zero])
                    (try go_frame)
                    refine wpAnyL_two (i := 2) (j := 8) (by kernel_rfl) rfl rfl rfl rfl ?_ ?_
                    · skip
                      obtain ⟨qa, qc, y11, R11, hl11, kk11⟩ := HLC.out y10 K10.out
                      have K11 := hid (show Kept w9 y11 from K10.out.trans kk11 (fun _ _ f => f))
                      have HP11 := hid (kk11.blk HP10.out (fun f => f))
                      have HL11 := hid hl11
                      clear hl11 kk11
                      refine oper_appendH _ _ _ rfl rfl rfl R11 ?_
                      refine ⟨K11.out, ?_⟩
                      (try simp only [List.getElem_toArray, List.getElem_cons_succ, List.getElem_cons_zero])
                      (try go_frame)
                      refine wpAnyL_two (i := 6) (j := 8) (by kernel_rfl) rfl rfl rfl rfl ?_ ?_
                      · skip
                        go_simp
                        refine (HM1.out y11 pb K11.out HP11.out).mono ?_
                        rintro e y12 ⟨ma, mc, rfl, hs12, kk12⟩
                        have K12 := hid (show Kept w9 y12 from K11.out.trans kk12 (fun _ _ f => f))
                        have HP12 := hid (kk12.blk HP11.out (fun f => f))
                        have HL12 := hid (Go.Proofs.Ytcacoanhiphbiaa.N.ownN_stay HL11.out kk12)
                        have HS12 := hid hs12
                        clear hs12 kk12
                        refine ⟨K12.out, ?_⟩
                        (try simp only [List.getElem_toArray, List.getElem_cons_succ, List.getElem_cons_zero])
                        (try go_frame)
                        refine wpAnyL_take (i := 7) (v := .agg #[.slice qa ln qc, .slice ma SL mc]) rfl (by kernel_rfl) (by kernel_rfl) (by kernel_rfl) (by kernel_rfl) (by kernel_rfl) (fun _ _ _ h => h) (Or.inl ⟨by kernel_rfl, ?_⟩) K12.out ?_
                        · (intro w' hSw; go_simp)
                        (try simp only [List.getElem_toArray, List.getElem_cons_succ, List.getElem_cons_zero])
                        go_frame
                        refine wpAnyL_one (i := 8) (by kernel_rfl) rfl rfl ?_
                        obtain ⟨nb, hnb⟩ : ∃ n, y12.heap.size = n := ⟨_, rfl⟩
                        obtain ⟨y13, hy13⟩ : ∃ W, y12.alloc (.cells #[.slice none 0 0, .slice none 0 0] 29) = W := ⟨_, rfl⟩
                        have kk13 : Kept y12 y13 := by rw [← hy13]; exact (Only.refl _ _).alloc _
                        have K13 := hid (show Kept w9 y13 from K12.out.trans kk13 (fun _ _ f => f))
                        have HP13 := hid (kk13.blk HP12.out (fun f => f))
                        have HL13 := hid (Go.Proofs.Ytcacoanhiphbiaa.N.ownN_stay HL12.out kk13)
                        have HS13 := hid (ownN_stay HS12.out kk13)
                        have HN13 : Hid (Blk y13 nb [.slice none 0 0, .slice none 0 0] 29) := hid (by rw [← hy13, ← hnb]; exact Blk.new y12 [.slice none 0 0, .slice none 0 0] 29)
                        have HNB : Hid (w9.heap.size ≤ nb) := hid (by rw [← hnb]; exact K12.out.size)
                        have HY13 := hid hy13
                        have HZ13 := hid hnb
                        clear hy13 hnb kk13
                        go_simp
                        rw [HY13.out, HZ13.out]
                        clear HY13 HZ13
                        refine ⟨K13.out, ?_⟩
                        (try simp only [List.getElem_toArray, List.getElem_cons_succ, List.getElem_cons_zero])
                        (try go_frame)
                        have HE := hid (new_end K13.out HN13.out HNB.out HL13.out HS13.out)
                        have c0 := HN13.out.cell 0 rfl
                        have c1 := HN13.out.cell 1 rfl
                        have g0 := HN13.out.frozen 0
                        have g1 := HN13.out.frozen 1
                        refine wpAnyL_last (by kernel_rfl) (by kernel_rfl) rfl rfl ?_
                        go_simp
                        refine NoPanic.normal ?_
                        exact ⟨rfl, pb, nb, qa, qc, ma, mc, rfl, HE.out⟩
                      · skip
                        obtain ⟨nb, hnb⟩ : ∃ n, y11.heap.size = n := ⟨_, rfl⟩
                        obtain ⟨y14, hy14⟩ : ∃ W, y11.alloc (.cells #[.slice none 0 0, .slice none 0 0] 29) = W := ⟨_, rfl⟩
                        have kk14 : Kept y11 y14 := by rw [← hy14]; exact (Only.refl _ _).alloc _
                        have K14 := hid (show Kept w9 y14 from K11.out.trans kk14 (fun _ _ f => f))
                        have HP14 := hid (kk14.blk HP11.out (fun f => f))
                        have HL14 := hid (Go.Proofs.Ytcacoanhiphbiaa.N.ownN_stay HL11.out kk14)
                        have HN14 : Hid (Blk y14 nb [.slice none 0 0, .slice none 0 0] 29) := hid (by rw [← hy14, ← hnb]; exact Blk.new y11 [.slice none 0 0, .slice none 0 0] 29)
                        have HNB : Hid (w9.heap.size ≤ nb) := hid (by rw [← hnb]; exact K11.out.size)
                        have HY14 := hid hy14
                        have HZ14 := hid hnb
                        clear hy14 hnb kk14
                        go_simp
                        rw [HY14.out, HZ14.out]
                        clear HY14 HZ14
                        refine ⟨K14.out, ?_⟩
                        (try simp only [List.getElem_toArray, List.getElem_cons_succ, List.getElem_cons_zero])
                        (try go_frame)
                        refine wpAnyL_one (i := 6) (by kernel_rfl) rfl rfl ?_
                        go_simp
                        refine (HM1.out y14 pb K14.out HP14.out).mono ?_
                        rintro e y15 ⟨ma, mc, rfl, hs15, kk15⟩
                        have K15 := hid (show Kept w9 y15 from K14.out.trans kk15 (fun _ _ f => f))
                        have HP15 := hid (kk15.blk HP14.out (fun f => f))
                        have HN15 := hid (kk15.blk HN14.out (fun f => f))
                        have HL15 := hid (Go.Proofs.Ytcacoanhiphbiaa.N.ownN_stay HL14.out kk15)
                        have HS15 := hid hs15
                        clear hs15 kk15
                        refine ⟨K15.out, ?_⟩
                        (try simp only [List.getElem_toArray, List.getElem_cons_succ, List.getElem_cons_zero])
                        (try go_frame)
                        refine wpAnyL_take (i := 7) (v := .agg #[.slice qa ln qc, .slice ma SL mc]) rfl (by kernel_rfl) (by kernel_rfl) (by kernel_rfl) (by kernel_rfl) (by kernel_rfl) (fun _ _ _ h => h) (Or.inl ⟨by kernel_rfl, ?_⟩) K15.out ?_
                        · (intro w' hSw; go_simp)
                        (try simp only [List.getElem_toArray, List.getElem_cons_succ, List.getElem_cons_zero])
                        go_frame
                        have HE := hid (new_end K15.out HN15.out HNB.out HL15.out HS15.out)
                        have c0 := HN15.out.cell 0 rfl
                        have c1 := HN15.out.cell 1 rfl
                        have g0 := HN15.out.frozen 0
                        have g1 := HN15.out.frozen 1
                        refine wpAnyL_last (by kernel_rfl) (by kernel_rfl) rfl rfl ?_
                        go_simp
                        refine NoPanic.normal ?_
                        exact ⟨rfl, pb, nb, qa, qc, ma, mc, rfl, HE.out⟩
                    · skip
                      obtain ⟨nb, hnb⟩ : ∃ n, y10.heap.size = n := ⟨_, rfl⟩
                      obtain ⟨y16, hy16⟩ : ∃ W, y10.alloc (.cells #[.slice none 0 0, .slice none 0 0] 29) = W := ⟨_, rfl⟩
                      have kk16 : Kept y10 y16 := by rw [← hy16]; exact (Only.refl _ _).alloc _
                      have K16 := hid (show Kept w9 y16 from K10.out.trans kk16 (fun _ _ f => f))
                      have HP16 := hid (kk16.blk HP10.out (fun f => f))
                      have HN16 : Hid (Blk y16 nb [.slice none 0 0, .slice none 0 0] 29) := hid (by rw [← hy16, ← hnb]; exact Blk.new y10 [.slice none 0 0, .slice none 0 0] 29)
                      have HNB : Hid (w9.heap.size ≤ nb) := hid (by rw [← hnb]; exact K10.out.size)
                      have HY16 := hid hy16
                      have HZ16 := hid hnb
                      clear hy16 hnb kk16
                      go_simp
                      rw [HY16.out, HZ16.out]
                      clear HY16 HZ16
                      refine ⟨K16.out, ?_⟩
                      (try simp only [List.getElem_toArray, List.getElem_cons_succ, List.getElem_cons_zero])
                      (try go_frame)
                      refine wpAnyL_one (i := 2) (by kernel_rfl) rfl rfl ?_
                      obtain ⟨qa, qc, y17, R17, hl17, kk17⟩ := HLC.out y16 K16.out
                      have K17 := hid (show Kept w9 y17 from K16.out.trans kk17 (fun _ _ f => f))
                      have HP17 := hid (kk17.blk HP16.out (fun f => f))
                      have HN17 := hid (kk17.blk HN16.out (fun f => f))
                      have HL17 := hid hl17
                      clear hl17 kk17
                      refine oper_appendH _ _ _ rfl rfl rfl R17 ?_
                      refine ⟨K17.out, ?_⟩
                      (try simp only [List.getElem_toArray, List.getElem_cons_succ, List.getElem_cons_zero])
                      (try go_frame)
                      refine wpAnyL_one (i := 6) (by kernel_rfl) rfl rfl ?_
                      go_simp
                      refine (HM1.out y17 pb K17.out HP17.out).mono ?_
                      rintro e y18 ⟨ma, mc, rfl, hs18, kk18⟩
                      have K18 := hid (show Kept w9 y18 from K17.out.trans kk18 (fun _ _ f => f))
                      have HP18 := hid (kk18.blk HP17.out (fun f => f))
                      have HN18 := hid (kk18.blk HN17.out (fun f => f))
                      have HL18 := hid (Go.Proofs.Ytcacoanhiphbiaa.N.ownN_stay HL17.out kk18)
                      have HS18 := hid hs18
                      clear hs18 kk18
                      refine ⟨K18.out, ?_⟩
                      (try simp only [List.getElem_toArray, List.getElem_cons_succ, List.getElem_cons_zero])
                      (try go_frame)
                      refine wpAnyL_take (i := 7) (v := .agg #[.slice qa ln qc, .slice ma SL mc]) rfl (by kernel_rfl) (by kernel_rfl) (by kernel_rfl) (by kernel_rfl) (by kernel_rfl) (fun _ _ _ h => h) (Or.inl ⟨by kernel_rfl, ?_⟩) K18.out ?_
                      · (intro w' hSw; go_simp)
                      (try simp only [List.getElem_toArray, List.getElem_cons_succ, List.getElem_cons_zero])
                      go_frame
                      have HE := hid (new_end K18.out HN18.out HNB.out HL18.out HS18.out)
                      have c0 := HN18.out.cell 0 rfl
                      have c1 := HN18.out.cell 1 rfl
                      have g0 := HN18.out.frozen 0
                      have g1 := HN18.out.frozen 1
                      refine wpAnyL_last (by kernel_rfl) (by kernel_rfl) rfl rfl ?_
                      go_simp
                      refine NoPanic.normal ?_
                      exact ⟨rfl, pb, nb, qa, qc, ma, mc, rfl, HE.out⟩
                  · skip
                    obtain ⟨nb, hnb⟩ : ∃ n, w9.heap.size = n := ⟨_, rfl⟩
                    obtain ⟨y19, hy19⟩ : ∃ W, w9.alloc (.cells #[.slice none 0 0, .slice none 0 0] 29) = W := ⟨_, rfl⟩
                    have kk19 : Kept w9 y19 := by rw [← hy19]; exact (Only.refl _ _).alloc _
                    have K19 := hid (show Kept w9 y19 from K0.out.trans kk19 (fun _ _ f => f))
                    have HN19 : Hid (Blk y19 nb [.slice none 0 0, .slice none 0 0] 29) := hid (by rw [← hy19, ← hnb]; exact Blk.new w9 [.slice none 0 0, .slice none 0 0] 29)
                    have HNB : Hid (w9.heap.size ≤ nb) := hid (by rw [← hnb]; exact K0.out.size)
                    have HY19 := hid hy19
                    have HZ19 := hid hnb
                    clear hy19 hnb kk19
                    go_simp
                    rw [HY19.out, HZ19.out]
                    clear HY19 HZ19
                    refine ⟨K19.out, ?_⟩
                    (try simp only [List.getElem_toArray, List.getElem_cons_succ, List.getElem_cons_zero])
                    (try go_frame)
                    refine wpAnyL_two (i := 2) (j := 5) (by kernel_rfl) rfl rfl rfl rfl ?_ ?_
                    · skip
                      obtain ⟨qa, qc, y20, R20, hl20, kk20⟩ := HLC.out y19 K19.out
                      have K20 := hid (show Kept w9 y20 from K19.out.trans kk20 (fun _ _ f => f))
                      have HN20 := hid (kk20.blk HN19.out (fun f => f))
                      have HL20 := hid hl20
                      clear hl20 kk20
                      refine oper_appendH _ _ _ rfl rfl rfl R20 ?_
                      refine ⟨K20.out, ?_⟩
                      (try simp only [List.getElem_toArray, List.getElem_cons_succ, List.getElem_cons_zero])
                      (try go_frame)
                      refine wpAnyL_one (i := 5) (by kernel_rfl) rfl rfl ?_
                      obtain ⟨pb, hpb⟩ : ∃ n, y20.heap.size = n := ⟨_, rfl⟩
                      obtain ⟨y21, hy21⟩ : ∃ W, y20.alloc (.cells #[.slice sa sn sc] 27) = W := ⟨_, rfl⟩
                      have kk21 : Kept y20 y21 := by rw [← hy21]; exact (Only.refl _ _).alloc _
                      have K21 := hid (show Kept w9 y21 from K20.out.trans kk21 (fun _ _ f => f))
                      have HN21 := hid (kk21.blk HN20.out (fun f => f))
                      have HL21 := hid (Go.Proofs.Ytcacoanhiphbiaa.N.ownN_stay HL20.out kk21)
                      have HP21 : Hid (Blk y21 pb [.slice sa sn sc] 27) := hid (by rw [← hy21, ← hpb]; exact Blk.new y20 [.slice sa sn sc] 27)
                      have HY21 := hid hy21
                      have HZ21 := hid hpb
                      clear hy21 hpb kk21
                      go_simp
                      rw [HY21.out, HZ21.out]
                      clear HY21 HZ21
                      refine ⟨K21.out, ?_⟩
                      (try simp only [List.getElem_toArray, List.getElem_cons_succ, List.getElem_cons_zero])
                      (try go_frame)
                      refine wpAnyL_one (i := 6) (by kernel_rfl) rfl rfl ?_
                      go_simp
                      refine (HM1.out y21 pb K21.out HP21.out).mono ?_
                      rintro e y22 ⟨ma, mc, rfl, hs22, kk22⟩
                      have K22 := hid (show Kept w9 y22 from K21.out.trans kk22 (fun _ _ f => f))
                      have HP22 := hid (kk22.blk HP21.out (fun f => f))
                      have HN22 := hid (kk22.blk HN21.out (fun f => f))
                      have HL22 := hid (Go.Proofs.Ytcacoanhiphbiaa.N.ownN_stay HL21.out kk22)
                      have HS22 := hid hs22
                      clear hs22 kk22
                      refine ⟨K22.out, ?_⟩
                      (try simp only [List.getElem_toArray, List.getElem_cons_succ, List.getElem_cons_zero])
                      (try go_frame)
                      refine wpAnyL_take (i := 7) (v := .agg #[.slice qa ln qc, .slice ma SL mc]) rfl (by kernel_rfl) (by kernel_rfl) (by kernel_rfl) (by kernel_rfl) (by kernel_rfl) (fun _ _ _ h => h) (Or.inl ⟨by kernel_rfl, ?_⟩) K22.out ?_
                      · (intro w' hSw; go_simp)
                      (try simp only [List.getElem_toArray, List.getElem_cons_succ, List.getElem_cons_zero])
                      go_frame
                      have HE := hid (new_end K22.out HN22.out HNB.out HL22.out HS22.out)
                      have c0 := HN22.out.cell 0 rfl
                      have c1 := HN22.out.cell 1 rfl
                      have g0 := HN22.out.frozen 0
                      have g1 := HN22.out.frozen 1
                      refine wpAnyL_last (by kernel_rfl) (by kernel_rfl) rfl rfl ?_
                      go_simp
                      refine NoPanic.normal ?_
                      exact ⟨rfl, pb, nb, qa, qc, ma, mc, rfl, HE.out⟩
                    · skip
                      obtain ⟨pb, hpb⟩ : ∃ n, y19.heap.size = n := ⟨_, rfl⟩
                      obtain ⟨y23, hy23⟩ : ∃ W, y19.alloc (.cells #[.slice sa sn sc] 27) = W := ⟨_, rfl⟩
                      have kk23 : Kept y19 y23 := by rw [← hy23]; exact (Only.refl _ _).alloc _
                      have K23 := hid (show Kept w9 y23 from K19.out.trans kk23 (fun _ _ f => f))
                      have HN23 := hid (kk23.blk HN19.out (fun f => f))
                      have HP23 : Hid (Blk y23 pb [.slice sa sn sc] 27) := hid (by rw [← hy23, ← hpb]; exact Blk.new y19 [.slice sa sn sc] 27)
                      have HY23 := hid hy23
                      have HZ23 := hid hpb
                      clear hy23 hpb kk23
                      go_simp
                      rw [HY23.out, HZ23.out]
                      clear HY23 HZ23
                      refine ⟨K23.out, ?_⟩
                      (try simp only [List.getElem_toArray, List.getElem_cons_succ, List.getElem_cons_zero])
                      (try go_frame)
                      refine wpAnyL_one (i := 2) (by kernel_rfl) rfl rfl ?_
                      obtain ⟨qa, qc, y24, R24, hl24, kk24⟩ := HLC.out y23 K23.out
                      have K24 := hid (show Kept w9 y24 from K23.out.trans kk24 (fun _ _ f => f))
                      have HP24 := hid (kk24.blk HP23.out (fun f => f))
                      have HN24 := hid (kk24.blk HN23.out (fun f => f))
                      have HL24 := hid hl24
                      clear hl24 kk24
                      refine oper_appendH _ _ _ rfl rfl rfl R24 ?_
                      refine ⟨K24.out, ?_⟩
                      (try simp only [List.getElem_toArray, List.getElem_cons_succ, List.getElem_cons_zero])
                      (try go_frame)
                      refine wpAnyL_one (i := 6) (by kernel_rfl) rfl rfl ?_
                      go_simp
                      refine (HM1.out y24 pb K24.out HP24.out).mono ?_
                      rintro e y25 ⟨ma, mc, rfl, hs25, kk25⟩
                      have K25 := hid (show Kept w9 y25 from K24.out.trans kk25 (fun _ _ f => f))
                      have HP25 := hid (kk25.blk HP24.out (fun f => f))
                      have HN25 := hid (kk25.blk HN24.out (fun f => f))
                      have HL25 := hid (Go.Proofs.Ytcacoanhiphbiaa.N.ownN_stay HL24.out kk25)
                      have HS25 := hid hs25
                      clear hs25 kk25
                      refine ⟨K25.out, ?_⟩
                      (try simp only [List.getElem_toArray, List.getElem_cons_succ, List.getElem_cons_zero])
                      (try go_frame)
                      refine wpAnyL_take (i := 7) (v := .agg #[.slice qa ln qc, .slice ma SL mc]) rfl (by kernel_rfl) (by kernel_rfl) (by kernel_rfl) (by kernel_rfl) (by kernel_rfl) (fun _ _ _ h => h) (Or.inl ⟨by kernel_rfl, ?_⟩) K25.out ?_
                      · (intro w' hSw; go_simp)
                      (try simp only [List.getElem_toArray, List.getElem_cons_succ, List.getElem_cons_zero])
                      go_frame
                      have HE := hid (new_end K25.out HN25.out HNB.out HL25.out HS25.out)
                      have c0 := HN25.out.cell 0 rfl
                      have c1 := HN25.out.cell 1 rfl
                      have g0 := HN25.out.frozen 0
                      have g1 := HN25.out.frozen 1
                      refine wpAnyL_last (by kernel_rfl) (by kernel_rfl) rfl rfl ?_
                      go_simp
                      refine NoPanic.normal ?_
                      exact ⟨rfl, pb, nb, qa, qc, ma, mc, rfl, HE.out⟩
                · intro pb nb qa qc ma mc wN HN
                  have HNS := hid HN
                  clear HN
                  go_wp2_with fail
                  obtain ⟨wD, hwD⟩ : ∃ W, wN.drew = W := ⟨_, rfl⟩
                  have KN : Hid (Kept wN wD) := hid (by rw [← hwD]; exact (Only.refl _ _).drew)
                  have HWD := hid hwD
                  clear hwD
                  have N0 := hid (HNS.out.blk.cell 0 rfl)
                  have N1 := hid (HNS.out.blk.cell 1 rfl)
                  refine wp_region_noPanic ?_
                  refine wp_region_last (L := 9) (S := fun w' => Kept wN w') (by kernel_rfl) ?_
                  rw [HWD.out]
                  refine wpAnyL_take (i := 0) (v := .slice ua UL uc) rfl (by kernel_rfl) (by kernel_rfl) (by kernel_rfl) (by kernel_rfl) (by kernel_rfl) (fun _ _ _ h => h) (Or.inl ⟨by kernel_rfl, ?_⟩) KN.out ?_
                  · (intro w' hSw; go_simp)
                  (try simp only [List.getElem_toArray, List.getElem_cons_succ, List.getElem_cons_zero])
                  go_frame
                  refine wpAnyL_take (i := 1) (v := .int .i64 (t : Int)) rfl (by kernel_rfl) (by kernel_rfl) (by kernel_rfl) (by kernel_rfl) (by kernel_rfl) (fun _ _ _ h => h) (Or.inl ⟨by kernel_rfl, ?_⟩) KN.out ?_
                  · (intro w' hSw; go_simp)
                  (try simp only [List.getElem_toArray, List.getElem_cons_succ, List.getElem_cons_zero])
                  go_frame
                  refine wpAnyL_take (i := 2) (v := .int .i64 (t : Int)) rfl (by kernel_rfl) (by kernel_rfl) (by kernel_rfl) (by kernel_rfl) (by kernel_rfl) (fun _ _ _ h => h) (Or.inl ⟨by kernel_rfl, ?_⟩) KN.out ?_
                  · (intro w' hSw; go_simp)
                  (try simp only [List.getElem_toArray, List.getElem_cons_succ, List.getElem_cons_zero])
                  go_frame
                  refine wpAnyL_take (i := 3) (v := .slice pa t t) rfl (by kernel_rfl) (by kernel_rfl) (by kernel_rfl) (by kernel_rfl) (by kernel_rfl) (fun _ _ _ h => h) (Or.inl ⟨by kernel_rfl, ?_⟩) KN.out ?_
                  · (intro w' hSw; go_simp)
                  (try simp only [List.getElem_toArray, List.getElem_cons_succ, List.getElem_cons_zero])
                  go_frame
                  refine wpAnyL_take (i := 4) (v := .agg #[.slice qa ln qc, .slice ma SL mc]) rfl (by kernel_rfl) (by kernel_rfl) (by kernel_rfl) (by kernel_rfl) (by kernel_rfl) (fun _ _ _ h => h) (Or.inl ⟨by kernel_rfl, ?_⟩) KN.out ?_
                  · (intro w' hSw; have s0 := each_cell hSw _ _ N0.out; have s1 := each_cell hSw _ _ N1.out; clear hSw; go_simp)
                  (try simp only [List.getElem_toArray, List.getElem_cons_succ, List.getElem_cons_zero])
                  go_frame
                  refine wpAnyL_take (i := 7) (v := .slice g13 LD cap13) rfl (by kernel_rfl) (by kernel_rfl) (by kernel_rfl) (by kernel_rfl) (by kernel_rfl) (fun _ _ _ h => h) (Or.inl ⟨by kernel_rfl, ?_⟩) KN.out ?_
                  · (intro w' hSw; go_simp)
                  (try simp only [List.getElem_toArray, List.getElem_cons_succ, List.getElem_cons_zero])
                  go_frame
                  obtain ⟨nb2, hnb2⟩ : ∃ n, wD.heap.size = n := ⟨_, rfl⟩
                  obtain ⟨z1, hz1⟩ : ∃ W, wD.alloc (.cells #[.slice qa ln qc, .slice ma SL mc] 29) = W := ⟨_, rfl⟩
                  have KZ : Hid (Kept wN z1) := hid (by rw [← hz1]; exact KN.out.alloc _)
                  have HX2 : Hid (Blk z1 nb2 [.slice qa ln qc, .slice ma SL mc] 29) := hid (by rw [← hz1, ← hnb2]; exact Blk.new wD [.slice qa ln qc, .slice ma SL mc] 29)
                  have K9N := hid (HNS.out.kept.trans KZ.out (fun _ _ f => f))
                  have KWZ := hid (K9.out.trans K9N.out (fun _ _ f => f))
                  have K8Z := hid (HKD.out.trans K9N.out (fun _ _ f => f))
                  obtain ⟨c6, z2, R6, k6, v8, z3, R8, k8, hrow⟩ := put_rows (labs := x.2.labs) (m := m) (by rw [HUL.out]; exact HTL.out) (by rw [HUL.out]; exact hu9) HPL.out (HCT.out.stay KWZ.out) ((own_cells HO13.out).stay K8Z.out) HX2.out
                  have HRES : Hid (RmI w ((ls.take i).flatten ++ l.take (k + 1)) v8 (qs.take t ++ [(⟨.slice qa ln qc, .slice ma SL mc, x.2.labs, m⟩ : SV)] ++ qs.drop t) z3) := hid (by
                    rw [HTK.out, ← List.append_assoc]
                    have kk := KZ.out.trans k8 (fun _ _ f => f)
                    exact (HI7.out.stay K9.out).put (HNS.out.kept.trans kk (fun _ _ f => f)) (by rw [HUL.out]; exact HTL.out) HBT.out HPOS.out HQX.out HXL.out HMM.out (Go.Proofs.Ytcacoanhiphbiaa.N.ownN_stay HNS.out.lab kk) (ownN_stay HNS.out.smp kk) (ownN_base hrow (HI7.out.kept.trans KWZ.out (fun _ _ f => f)).size))
                  have K6 := hid (show Kept wN z2 from KZ.out.trans k6 (fun _ _ f => f))
                  have K8 := hid (show Kept wN z3 from KZ.out.trans k8 (fun _ _ f => f))
                  have HZ1 := hid hz1
                  have HZ2 := hid hnb2
                  clear hz1 hnb2 k6 k8 hrow hto hfrom
                  refine wpAnyL_one (i := 5) (by kernel_rfl) rfl rfl ?_
                  go_simp
                  rw [HZ1.out, HZ2.out]
                  refine ⟨KZ.out, ?_⟩
                  (try simp only [List.getElem_toArray, List.getElem_cons_succ, List.getElem_cons_zero])
                  (try go_frame)
                  refine wpAnyL_one (i := 6) (by kernel_rfl) rfl rfl ?_
                  refine oper_appendH _ _ _ rfl rfl rfl R6 ?_
                  refine ⟨K6.out, ?_⟩
                  (try simp only [List.getElem_toArray, List.getElem_cons_succ, List.getElem_cons_zero])
                  (try go_frame)
                  refine wpAnyL_one (i := 8) (by kernel_rfl) rfl rfl ?_
                  refine oper_appendH _ _ _ rfl rfl rfl R8 ?_
                  refine ⟨K8.out, ?_⟩
                  (try simp only [List.getElem_toArray, List.getElem_cons_succ, List.getElem_cons_zero])
                  (try go_frame)
                  refine wpAnyL_last (by kernel_rfl) (by kernel_rfl) rfl rfl ?_
                  go_simp
                  refine NoPanic.normal ?_
                  go_wp2_with fail
                  go_roundw
                  case rel => exact ⟨k + 1, _, _, by omega, by go_num, rfl, HRES⟩
                  case measure => simp [intOf]; omega
        · have hkn : N = k := by omega
          subst hkn
          have HI2 : Hid (RmI w (ls.take (i + 1)).flatten u qs wr) := hid (by
            have h := HI.out
            have ht : l.take N = l := List.take_of_length_le (by have := HN.out; omega)
            rw [ht] at h
            rw [HFL.out]
            exact h)
          clear HI
          go_wp2_with fail
          go_roundw
          case rel => exact ⟨i + 1, u, qs, by omega, by go_num, rfl, HI2⟩
          case measure => simp [intOf]; omega
    · have hin : M = i := by omega
      subst hin
      have HF : Hid (R (.returned u) wr) := hid (by
        rw [← HRR.out]
        have h := HI.out
        rw [List.take_of_length_le (by have := HM.out; omega)] at h
        exact ⟨u, qs, rfl, h.row, h.is, h.kept⟩)
      obtain ⟨ua, uc, hue⟩ := ownN_slice HI.out.row.row
      obtain ⟨UL, hUL⟩ : ∃ n, qs.length = n := ⟨_, rfl⟩
      rw [hUL] at hue
      subst hue
      clear HI hUL
      go_wp2_with fail
      exact HF.out
end Go.Proofs.Ytcacoanhiphbiaa.Ms
