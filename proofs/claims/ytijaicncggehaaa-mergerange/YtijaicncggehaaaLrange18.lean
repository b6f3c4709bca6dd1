/-
  The law MergeRange.
-/
import Derived.Test.YtijaicncggehaaaZput
import Derived.Test.YtijaicncggehaaaZopen
namespace Go.Proofs.Ytijaicncggehaaa.Mg
open Go Go.RowKit Go.Proofs.Lys
set_option linter.unusedVariables false
set_option linter.unusedSimpArgs false

theorem own_ssrc {w : World} {B n : Nat} {v : Value} {l : Smps} (h : w.ownsRow B 30 2 v n (smpL l)) (hn : l.length = n) : SSrc w v l := by
  subst hn
  exact smpAt_ssrc h
set_option maxRecDepth 100000 in
set_option maxHeartbeats 6400000 in
theorem range_walk (w : World) (va : Value) (l : Smps) (lo hi X Y : Int) (ha : SIn w va l) :
    Calls Try.prog 5 #[va, .int .i64 lo, .int .i64 hi, .agg #[.int .i64 X, .int .i64 Y]] w fun e w' => e = .returned (.bool true) ∧ Kept w w' := by
  have ha2 := ha.2
  obtain ⟨w1, hw1⟩ : ∃ w1, w.alloc (.cells #[.int .i64 X, .int .i64 Y] 30) = w1 := ⟨_, rfl⟩
  have k1 : Kept w w1 := by rw [← hw1]; exact (Only.refl _ w).alloc _
  have hbx : Blk w1 w.heap.size [.int .i64 X, .int .i64 Y] 30 := by rw [← hw1]; exact Blk.new w [.int .i64 X, .int .i64 Y] 30
  have S0 : Hid (∀ W, Kept w1 W → W.cell? ⟨w.heap.size, 0, none⟩ = some (.int .i64 X) ∧ W.cell? ⟨w.heap.size, 1, none⟩ = some (.int .i64 Y)) := fun W kW => ⟨only_cell kW (fun f => f) (hbx.cell 0 rfl), only_cell kW (fun f => f) (hbx.cell 1 rfl)⟩
  have HA := hid (ha.1.stay k1)
  obtain ⟨ra, rc, rfl⟩ := ha.1.1.len
  obtain ⟨L, hL⟩ : ∃ L, l.length = L := ⟨_, rfl⟩
  have HL := hid hL
  rw [hL] at ha2 HA ⊢
  have HAL := hid (alive18_any w1)
  have HK1 := hid k1
  clear ha hL k1 hbx
  by_cases hbig : 1000 < L
  · have hx : decide (1000 < (L : Int)) = true := by simp; omega
    go_enter Try.func5, Try.ntmps5
    go_wp2_with fail
    refine HAL.out.mono ?_
    rintro e w2 ⟨rfl, k2⟩
    have K2 := hid (HK1.out.trans k2 (fun _ _ f => f))
    clear HAL k2
    go_wp2
    go_ret
    exact ⟨rfl, K2.out⟩
  · have hx : decide (1000 < (L : Int)) = false := by simp; omega
    have HBG := hid (show L ≤ 1000 by omega)
    go_enter Try.func5, Try.ntmps5
    go_wp2_with fail
    refine HAL.out.mono ?_
    rintro e w2 ⟨rfl, k2⟩
    have K2 := hid k2
    obtain ⟨v3, w3, R3, h3, k3⟩ := put_copy (l1 := l) HA.out.1 (by have := HL.out; have := HBG.out; omega) w2 k2
    have K3 := hid (show Kept w1 w3 from k2.trans k3 (fun _ _ f => f))
    obtain ⟨g, cap, w4, R4, h4, o4⟩ := smp_one h3 K3.out.size (-71, 0) (by have := HL.out; have := HBG.out; omega)
    rw [HL.out] at R4 h4
    have K4 : Hid (Kept w1 w4) := hid (K3.out.trans o4 (fun j hlt hj => by have := (ownN_lt h3 hj).1; omega))
    have H4 := hid h4
    have HS4 := hid (smpAt_ssrc h4)
    obtain ⟨a3, c3, rfl⟩ := ownN_slice h3
    rw [HL.out] at R3 R4
    obtain ⟨a5, c5, s5, hs5⟩ := ssrc_to HS4.out (by rw [List.length_append, HL.out]; rfl) (hi := L) (by omega)
    have htk : (l ++ [((-71, 0) : Smp)]).take L = l := by rw [← HL.out, List.take_left]
    rw [htk] at hs5
    have HS5 := hid hs5
    have HR5 := hid (range_any w4 _ l lo hi hs5 (by have := HL.out; have := HBG.out; omega))
    clear HAL k2 h3 k3 h4 o4 hs5 htk
    go_wp2_with (at_builtin; first | refine Lys.wpList_append_run rfl _ _ _ rfl rfl rfl R3 ?_ | refine Lys.wpList_append_run rfl _ _ _ rfl rfl rfl R4 ?_)
    refine HR5.out.mono ?_
    rintro e w5 ⟨v5, rfl, h5, k5⟩
    have K5 := hid (show Kept w1 w5 from K4.out.trans k5 (fun _ _ f => f))
    have H5 := hid h5
    have HS5 := hid (HS5.out.stay k5)
    have H4 := hid (ownN_stay H4.out k5)
    obtain ⟨a6, c6, rfl⟩ := ownN_slice h5
    have HPU : Hid (∀ W, Kept w5 W → Calls Try.prog 19 #[.slice a5 L c5, .agg #[.int .i64 X, .int .i64 Y]] W (RngP W (mrg (l ++ [(X, Y)])))) := hid fun W kW => put_any W _ l X Y (HS5.out.stay kW) (by have := HL.out; have := HBG.out; omega)
    clear HR5 h5 k5 R3 R4 HS4
    go_wp2_with fail
    have K5d := hid K5.out.drew
    have k5d : Kept w5 w5.drew := (Only.refl _ _).drew
    have HPU5 := hid (HPU.out _ k5d)
    have HK55 := hid k5d
    clear HPU k5d
    refine wp_region_noPanic ?_
    refine wp_region_last (L := 1000) (S := fun w' => Kept w1 w') (by kernel_rfl) ?_
    have hS : (fun w' : World => Kept w1 w') w5.drew := K5d.out
    refine wpAnyN_take (i := 0) (v := .slice (some ⟨g, 0, none⟩) (L + 1) cap) rfl (by kernel_rfl) (by kernel_rfl) (by kernel_rfl) (by decide) (by kernel_rfl) (fun _ _ _ h => h) (Or.inl ⟨by kernel_rfl, ?_⟩) hS ?_
    · (intro w' hSw; obtain ⟨s0, s1'⟩ := S0.out w' hSw; clear hSw; go_simp)
    (try simp only [List.getElem_toArray, List.getElem_cons_succ, List.getElem_cons_zero])
    go_frame
    refine wpAnyN_take (i := 1) (v := .slice ra L rc) rfl (by kernel_rfl) (by kernel_rfl) (by kernel_rfl) (by decide) (by kernel_rfl) (fun _ _ _ h => h) (Or.inl ⟨by kernel_rfl, ?_⟩) hS ?_
    · (intro w' hSw; obtain ⟨s0, s1'⟩ := S0.out w' hSw; clear hSw; go_simp)
    (try simp only [List.getElem_toArray, List.getElem_cons_succ, List.getElem_cons_zero])
    go_frame
    refine wpAnyN_take (i := 2) (v := .int .i64 (L : Int)) rfl (by kernel_rfl) (by kernel_rfl) (by kernel_rfl) (by decide) (by kernel_rfl) (fun _ _ _ h => h) (Or.inl ⟨by kernel_rfl, ?_⟩) hS ?_
    · (intro w' hSw; obtain ⟨s0, s1'⟩ := S0.out w' hSw; clear hSw; go_simp)
    (try simp only [List.getElem_toArray, List.getElem_cons_succ, List.getElem_cons_zero])
    go_frame
    refine wpAnyN_take (i := 3) (v := .slice a5 L c5) rfl (by kernel_rfl) (by kernel_rfl) (by kernel_rfl) (by decide) (by kernel_rfl) (fun _ _ _ h => h) (Or.inl ⟨by kernel_rfl, ?_⟩) hS ?_
    · (intro w' hSw; obtain ⟨s0, s1'⟩ := S0.out w' hSw; clear hSw; go_simp)
    (try simp only [List.getElem_toArray, List.getElem_cons_succ, List.getElem_cons_zero])
    go_frame
    refine wpAnyN_take (i := 4) (v := .agg #[.int .i64 X, .int .i64 Y]) rfl (by kernel_rfl) (by kernel_rfl) (by kernel_rfl) (by decide) (by kernel_rfl) (fun _ _ _ h => h) (Or.inl ⟨by kernel_rfl, ?_⟩) hS ?_
    · (intro w' hSw; obtain ⟨s0, s1'⟩ := S0.out w' hSw; clear hSw; go_simp)
    (try simp only [List.getElem_toArray, List.getElem_cons_succ, List.getElem_cons_zero])
    go_frame
    clear hS
    refine wpAnyL_one (i := 5) (by kernel_rfl) rfl (by kernel_rfl) ?_
    go_simp
    refine HPU5.out.mono ?_
    rintro e w6 ⟨v6, rfl, h6, k6⟩
    have K6 := hid (K5d.out.trans k6 (fun _ _ f => f))
    have K56 := hid (HK55.out.trans k6 (fun _ _ f => f))
    have H6 := hid h6
    clear HPU5 h6 k6
    refine ⟨K6.out, ?_⟩
    (try simp only [List.getElem_toArray, List.getElem_cons_succ, List.getElem_cons_zero])
    (try go_frame)
    refine wpAnyL_one (i := 6) (by kernel_rfl) rfl (by kernel_rfl) ?_
    go_simp
    refine ⟨K6.out, ?_⟩
    refine wpAnyN_done (by kernel_rfl) ?_
    refine NoPanic.normal ?_
    have H5 := hid (ownN_stay H5.out K56.out)
    have H4 := hid (ownN_stay H4.out K56.out)
    have HS5 := hid (HS5.out.stay K56.out)
    obtain ⟨a7, c7, rfl⟩ := ownN_slice H6.out
    clear K5 K5d HK55 K56 hw1
    have HRR := hid (rrange_any w6 _ l lo hi (HA.out.stay K6.out) (by have := HL.out; have := HBG.out; omega))
    obtain ⟨N5, hN5⟩ : ∃ N, (rngL lo hi l).length = N := ⟨_, rfl⟩
    have HN5 := hid hN5
    have hN5b : N5 ≤ 1000 := by have := rng_len lo hi l; have := HL.out; have := HBG.out; omega
    obtain ⟨N7, hN7⟩ : ∃ N, (mrg (l ++ [(X, Y)])).length = N := ⟨_, rfl⟩
    have HN7 := hid hN7
    have hN7b : N7 ≤ 2000 := by have := mrg_len (l ++ [(X, Y)]); rw [List.length_append] at this; have := HL.out; have := HBG.out; simp at *; omega
    rw [hN5] at H5 ⊢
    rw [hN7] at H6 ⊢
    clear hN5 hN7
    obtain ⟨s0, s1'⟩ := S0.out _ K6.out
    go_wp2_with fail
    refine HRR.out.mono ?_
    rintro e w7 ⟨v7, rfl, h7, k7⟩
    have K7 := hid (show Kept w1 w7 from K6.out.trans k7 (fun _ _ f => f))
    have HSM1 := hid (ssame_any w7 _ v7 (rngL lo hi l) (own_ssrc (ownN_stay H5.out k7) HN5.out).1 (smpAt_ssrc h7).1 (by have := HN5.out; omega))
    have H6 := hid (ownN_stay H6.out k7)
    have H4 := hid (ownN_stay H4.out k7)
    have HS5 := hid (HS5.out.stay k7)
    clear s0 s1' HRR k7 h7
    go_wp2_with fail
    refine HSM1.out.mono ?_
    rintro e w8 ⟨rfl, k8⟩
    have K8 := hid (show Kept w1 w8 from K7.out.trans k8 (fun _ _ f => f))
    have H6 := hid (ownN_stay H6.out k8)
    have H4 := hid (ownN_stay H4.out k8)
    have HS5 := hid (HS5.out.stay k8)
    obtain ⟨s0, s1'⟩ := S0.out _ K8.out
    obtain ⟨w9, hw9⟩ : ∃ W, w8.alloc (.cells #[.int .i64 X, .int .i64 Y] 30) = W := ⟨_, rfl⟩
    have k9 : Kept w8 w9 := by rw [← hw9]; exact (Only.refl _ _).alloc _
    have hb9 : Blk w9 w8.heap.size [.int .i64 X, .int .i64 Y] 30 := by rw [← hw9]; exact Blk.new w8 [.int .i64 X, .int .i64 Y] 30
    have hsz9 : w9.heap.size = w8.heap.size + 1 := by rw [← hw9]; simp
    have HRM := hid (rmerge2 w9 _ _ l [(X, Y)] (HA.out.stay (K8.out.trans k9 (fun _ _ f => f))) (row_ssrc (x := (X, Y)) hb9) (by have := HL.out; have := HBG.out; simp; omega))
    rw [hsz9] at HRM
    have K9 := hid (show Kept w1 w9 from K8.out.trans k9 (fun _ _ f => f))
    have H6 := hid (ownN_stay H6.out k9)
    have H4 := hid (ownN_stay H4.out k9)
    have HS5 := hid (HS5.out.stay k9)
    clear HSM1 k8 k9 hb9
    go_wp2_with fail
    refine HRM.out.mono ?_
    rintro e w10 ⟨v10, rfl, h10, k10⟩
    have K10 := hid (show Kept w1 w10 from K9.out.trans k10 (fun _ _ f => f))
    have H6 := hid (ownN_stay H6.out k10)
    have H4 := hid (ownN_stay H4.out k10)
    have HS5 := hid (HS5.out.stay k10)
    have HSM2 := hid (ssame_any w10 _ v10 (mrg (l ++ [(X, Y)])) (smpAt_ssrc (l := mrg (l ++ [(X, Y)])) H6.out).1 (smpAt_ssrc h10).1 (by have := HN7.out; omega))
    clear s0 s1' HRM h10 k10 hw9
    go_wp2_with fail
    refine HSM2.out.mono ?_
    rintro e w11 ⟨rfl, k11⟩
    have K11 := hid (show Kept w1 w11 from K10.out.trans k11 (fun _ _ f => f))
    have H4 := hid (ownN_stay H4.out k11)
    have HS5 := hid (HS5.out.stay k11)
    have HSM3 := hid (ssame_any w11 _ _ l HS5.out.1 (HA.out.stay K11.out).1 (by have := HL.out; have := HBG.out; omega))
    clear HSM2 k11
    go_wp2_with fail
    refine HSM3.out.mono ?_
    rintro e w12 ⟨rfl, k12⟩
    have K12 := hid (HK1.out.trans (show Kept w1 w12 from K11.out.trans k12 (fun _ _ f => f)) (fun _ _ f => f))
    have h4 := ownN_stay H4.out k12
    rw [show (l ++ [((-71, 0) : Smp)]).length = L + 1 from by rw [List.length_append, HL.out]; rfl] at h4
    have hq := smpL_at (l ++ [((-71, 0) : Smp)]) L (by rw [List.length_append, HL.out]; simp)
    have c0 := h4.cellAt (L * 2) (by have h0 := HL.out; first | omega | (rw [List.length_append, HL.out]; simp <;> omega) | (simp <;> omega))
    have c1 := h4.cellAt (L * 2 + 1) (by have h0 := HL.out; first | omega | (rw [List.length_append, HL.out]; simp <;> omega) | (simp <;> omega))
    have hlg := (ownN_lt h4 rfl).2
    rw [hq.1] at c0
    rw [hq.2] at c1
    have hge : (l ++ [((-71, 0) : Smp)])[L]'(by rw [List.length_append, HL.out]; simp) = (-71, 0) := by
      rw [List.getElem_append_right (by rw [HL.out]; exact Nat.le_refl _)]
      simp [HL.out]
    rw [hge] at c0 c1
    simp only at c0 c1
    clear HSM3 k12 h4 hq hge
    go_wp2
    go_ret
    exact ⟨rfl, K12.out⟩
end Go.Proofs.Ytijaicncggehaaa.Mg
