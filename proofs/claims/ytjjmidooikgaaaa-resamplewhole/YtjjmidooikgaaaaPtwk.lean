/-
  Package resample: walk.
-/
import Derived.Test.YtjjmidooikgaaaaPtwalk
namespace Go.Proofs.Ytjjmidooikgaaaa.Rs
open Go Go.RowKit Go.Proofs.Lys
open Ru (In64 infoI6)
set_option linter.unusedVariables false
set_option linter.unusedSimpArgs false

/-- What the first i points are, and nought behind them. -/
def upC (c : Nat → Option Int) (i : Nat) (j : Nat) : Int := if j < i then nowC c (j + 1) else 0
def fillC (c : Nat → Option Int) (F k : Nat) (j : Nat) : Int := if j < k then nowC c (F + 1) else nowC c (j + 1)
theorem up_step (c : Nat → Option Int) (n i : Nat) (v : Int) (h : nowC c (i + 1) = v) : (rowF (upC c i) n).set i v = rowF (upC c (i + 1)) n := by
  rw [rowF_set]
  apply rowF_ext
  intro j hj
  show (if j = i then v else upC c i j) = upC c (i + 1) j
  unfold upC
  by_cases h1 : j = i
  · subst h1
    rw [if_pos rfl, if_pos (by omega), h]
  · rw [if_neg h1]
    by_cases h2 : j < i
    · rw [if_pos h2, if_pos (by omega)]
    · rw [if_neg h2, if_neg (by omega)]
theorem fill_step (c : Nat → Option Int) (n F k : Nat) : (rowF (fillC c F k) n).set k (nowC c (F + 1)) = rowF (fillC c F (k + 1)) n := by
  rw [rowF_set]
  apply rowF_ext
  intro j hj
  show (if j = k then nowC c (F + 1) else fillC c F k j) = fillC c F (k + 1) j
  unfold fillC
  by_cases h1 : j = k
  · subst h1
    rw [if_pos rfl, if_pos (by omega)]
  · rw [if_neg h1]
    by_cases h2 : j < k
    · rw [if_pos h2, if_pos (by omega)]
    · rw [if_neg h2, if_neg (by omega)]
theorem up_all (c : Nat → Option Int) (n F : Nat) : rowF (upC c n) n = rowF (fillC c F 0) n := by
  apply rowF_ext
  intro j hj
  unfold upC fillC
  rw [if_pos hj, if_neg (by omega)]
theorem stepX (f s : Int) (i : Nat) : f + ((i + 1 : Nat) : Int) * s = f + (i : Int) * s + s := by
  have : ((i + 1 : Nat) : Int) * s = (i : Int) * s + s := by rw [Int.natCast_add, Int.add_mul]; simp
  omega
theorem low_X {f s : Int} (i : Nat) (hf : -9007199254740992 ≤ f) (hs : 1 ≤ s) : -9007199254740992 ≤ f + (i : Int) * s := by
  have : 0 ≤ (i : Int) * s := Int.mul_nonneg (by omega) (by omega)
  omega

set_option maxRecDepth 100000 in
set_option maxHeartbeats 6400000 in
theorem walk_any (w : World) (a : Option Addr) (L c n : Nat) (l : Smps) (f s : Int) (hs : SSrc w (.slice a L c) l) (hL : l.length = L) (hl : L ≤ 90000) (hr : Mono l) (ht : ∀ p ∈ l, p.1 ≤ 9007199254740992)
    (hn : n ≤ 10000) (hf : -9007199254740992 ≤ f) (hf2 : f ≤ 9007199254740992) (hs1 : 1 ≤ s) (hs2 : s ≤ 9007199254740992) :
    Calls Try.prog 13 #[.slice a L c, .int .i64 f, .int .i64 s, .int .i64 (n : Int)] w (WalkP w (cell f s l) n) := by
  obtain ⟨R, hR⟩ : ∃ R, WalkP w (cell f s l) n = R := ⟨_, rfl⟩
  rw [hR]
  have HRR := hid hR
  have HS := hid hs
  have HL := hid hL
  have HT := hid ht
  have HM : Hid (Mono l) := hid hr
  obtain ⟨C, hC⟩ : ∃ C, cell f s l = C := ⟨_, rfl⟩
  have HC := hid hC
  rw [hC] at HRR
  obtain ⟨i0, hi0, hz0, hz1, hz2⟩ := info_parts infoI6
  have hmk : ∀ w, (Instr.makeSlice 24 (.int .i64 (n : Int)) (.int .i64 (n : Int))).run Try.prog w = .ok (.slice (some ⟨w.heap.size, 0, none⟩) n n) (w.alloc (.cells (madeCells #[Value.int .i64 0] n) 3)) := fun w => by
    have := run_make (P := Try.prog) w 24 3 i0 (.int .i64 0) Try.underlying24 hi0 hz0 .i64 .i64 (n : Int) (n : Int) (by omega) (by omega) (by rw [hz2]; omega) (by omega)
    rw [hz1] at this
    simp only [Int.toNat_natCast, Nat.mul_one] at this
    exact this
  obtain ⟨w1, hw1⟩ : ∃ w1, w.alloc (.cells (madeCells #[Value.int .i64 0] n) 3) = w1 := ⟨_, rfl⟩
  have hmk1 := hmk w
  rw [hw1] at hmk1
  have hk1 : Kept w w1 := by rw [← hw1]; exact (Only.refl _ w).alloc _
  have HROW : Hid (w1.ownsRow w.heap.size 3 1 (.slice (some ⟨w.heap.size, 0, none⟩) n n) n ((rowF (upC C 0) n).map (Value.int .i64))) := by
    have h0 : rowF (upC C 0) n = rowF (fun _ => 0) n := rowF_ext (fun j hj => by unfold upC; rw [if_neg (by omega)])
    show World.ownsRow _ _ _ _ _ _ _
    rw [h0, ← made_zeros, ← hw1]
    exact World.ownsRow_lit w _ n (Nat.le_refl _) (by unfold maxLen; omega) (by rw [size_madeCells]; omega)
  have K1 := hid hk1
  have HB1 := hid (below_any w1 a L c l f ((hs.stay hk1).1) hL (by omega) hr)
  have HSL := hid (fun (q : Nat) (hq : q ≤ L) => ssrc_from hs hL hq)
  clear hs hL hr ht hR hC hi0 hz0 hz1 hz2 i0 hmk hk1 hw1
  go_enter Try.func13, Try.ntmps13
  go_wp2_with fail
  refine HB1.out.mono ?_
  rintro e w2 ⟨q0, hq0, rfl, k2⟩
  have HQ0 := hid hq0
  have hq0L : q0 ≤ L := by have := hq0.1; have := HL.out; omega
  obtain ⟨ra0, rc0, hsl, hsr⟩ := HSL.out q0 hq0L
  have hsl2 := hsl w2
  have HSR := hid hsr
  have K2 := hid (K1.out.trans k2 (fun _ _ f => f))
  have HROW2 := hid (ownN_stay HROW.out k2)
  clear hsl hsr hq0 k2 HB1 HROW
  go_wp2_with fail
  go_loopw [29, 15, 14, 12, 11, 13] (fun s29 s15 s14 s12 s11 s13 W => ∃ (i q F G : Nat) (T N : Int) (ra : Option Addr) (rc : Nat), i ≤ n ∧ q ≤ L ∧ F ≤ n ∧ G ≤ i ∧ s29 = .int .i64 (i : Int) ∧ s15 = .int .i64 T ∧ s14 = .slice ra (L - q) rc ∧ s12 = .int .i64 (G : Int) ∧ s11 = .int .i64 (F : Int) ∧ s13 = .int .i64 N ∧ Hid (T = capT (f + (i : Int) * s) ∧ N = nowC C i ∧ G = gapC C i) ∧ Hid (SSrc w (.slice ra (L - q) rc) (l.drop q)) ∧ Hid (Cut l (f + (i : Int) * s) q) ∧ Hid (Fst C n i F) ∧ Hid (W.ownsRow w.heap.size 3 1 (.slice (some ⟨w.heap.size, 0, none⟩) n n) n ((rowF (upC C i) n).map (Value.int .i64))) ∧ Kept w W) (fun s29 _ _ _ _ _ _ => n - (intOf s29).toNat)
  case atStart =>
    refine ⟨0, q0, n, 0, f, 0, ra0, rc0, by omega, hq0L, by omega, by omega, rfl, rfl, rfl, rfl, rfl, rfl, hid ⟨?_, rfl, rfl⟩, HSR, hid ?_, hid (.inl ⟨rfl, fun j hj => absurd hj (Nat.not_lt_zero j)⟩), HROW2, K2.out⟩
    · unfold capT; simp; omega
    · have := HQ0.out; simpa using this
  case round =>
    obtain ⟨i, q, F, G, T, N, ra, rc, hi, hq, hF, hG, rfl, rfl, rfl, rfl, rfl, rfl, HE, HSR3, HCUT, HFST, HROW3, kr⟩ := hrel
    have KR := hid kr
    by_cases hlt : i < n
    · have HAD := hid (fun W => Ru.add_any T s W (by rw [HE.out.1]; exact cap_in _ (low_X i hf hs1)) (by unfold In64; omega))
      have hcp : Ru.addC T s = capT (f + ((i + 1 : Nat) : Int) * s) := by
        rw [HE.out.1, cap_add _ s (low_X i hf hs1) hs1 hs2, stepX]
      rw [hcp] at HAD
      obtain ⟨T2, hT2⟩ : ∃ T2, capT (f + ((i + 1 : Nat) : Int) * s) = T2 := ⟨_, rfl⟩
      have HT2 := hid hT2
      rw [hT2] at HAD
      have HLD : Hid ((l.drop q).length = L - q) := hid (by rw [List.length_drop, HL.out])
      have HBL := hid (below_any wr ra (L - q) rc (l.drop q) T2 ((HSR3.out.stay kr).1) HLD.out (by omega) (mono_drop HM.out q))
      clear hcp hT2 kr
      go_wp2_with fail
      refine (HAD.out _).mono ?_
      rintro e w3 ⟨rfl, hw3⟩
      replace hw3 := hw3.symm
      subst hw3
      go_wp2_with fail
      refine HBL.out.mono ?_
      rintro e w4 ⟨m, hm, rfl, k4⟩
      have hmL : m ≤ L - q := by have := hm.1; rw [HLD.out] at this; exact this
      have HC2 : Hid (Cut l (f + ((i + 1 : Nat) : Int) * s) (q + m)) := hid (by
        rw [← HT2.out] at hm
        exact cut_drop HCUT.out hm (by rw [stepX]; omega) HT.out)
      have HCA : Hid ((m = 0 → C i = none) ∧ (∀ h1 : 0 < m, C i = some (l[q + m - 1]'(by have := HL.out; omega)).2)) := hid (by
        have h2 := HC2.out
        rw [stepX] at h2
        have h3 := cell_at HCUT.out h2 (by omega)
        rw [HC.out] at h3
        exact ⟨fun e => h3.1 (by omega), fun e => h3.2 (by omega)⟩)
      obtain ⟨ra2, rc2, hsl3, hsr3⟩ := ssrc_from HSR3.out HLD.out hmL
      have hsl4 := hsl3 w4
      have HSR4 : Hid (SSrc w (.slice ra2 (L - (q + m)) rc2) (l.drop (q + m))) := hid (by
        rw [List.drop_drop, show L - q - m = L - (q + m) by omega] at hsr3
        exact hsr3)
      have hLm : L - q - m = L - (q + m) := by omega
      have HLM := hid hLm
      have K4 := hid (KR.out.trans k4 (fun _ _ f => f))
      have HROW4 := hid (ownN_stay HROW3.out k4)
      have g0 : w4.frozen? ⟨w.heap.size, i, none⟩ = false := HROW4.out.frozenAt i
      have hb4 : w.heap.size < w4.heap.size := (HROW4.out.lt w.heap.size rfl).2
      have y0 : w4.cell? ⟨w.heap.size, i, none⟩ = some (.int .i64 (upC C i i)) := by
        rw [HROW4.out.cellAt i (by omega), List.getElem?_map, List.getElem?_eq_getElem (by rw [rowF_len]; exact hlt), rowF_get]
        rfl
      have hT16 := HE.out.2.1
      have hG16 := HE.out.2.2
      by_cases hm0 : m = 0
      · have hci := HCA.out.1 hm0
        subst hm0
        have hsl5 := hsl3 (w4.setCell ⟨w.heap.size, i, none⟩ (.int .i64 N))
        have HROW5 : Hid ((w4.setCell ⟨w.heap.size, i, none⟩ (.int .i64 N)).ownsRow w.heap.size 3 1 (.slice (some ⟨w.heap.size, 0, none⟩) n n) n ((rowF (upC C (i + 1)) n).map (Value.int .i64))) := by
          have h1 := (HROW4.out.stored i (.int .i64 N)).1
          rw [← List.map_set, up_step C n i N (by rw [now_none hci, hT16])] at h1
          exact h1
        have K5 : Hid (Kept w (w4.setCell ⟨w.heap.size, i, none⟩ (.int .i64 N))) := hid (K4.out.setCell (fun h => by simp at h) _)
        have HE5 : Hid (T2 = capT (f + ((i + 1 : Nat) : Int) * s) ∧ N = nowC C (i + 1) ∧ G + 1 = gapC C (i + 1)) := hid ⟨HT2.out.symm, by rw [now_none hci, hT16], by rw [gap_none hci, hG16]⟩
        have HF5 := hid (HFST.out.none hci)
        have hGi : G + 1 ≤ 10000 := by omega
        clear hsl3 hsr3 hm k4 HAD HBL hLm hsl4 hT16 hG16 hci HCA HE
        go_wp2_with fail
        go_roundw
        case rel => exact ⟨i + 1, q, F, G + 1, T2, N, ra, rc, by omega, by omega, by omega, by omega, by go_num, rfl, rfl, by go_num, rfl, rfl, HE5, HSR3, HC2, HF5, HROW5, K5.out⟩
        case measure => simp [intOf]; omega
      · obtain ⟨m1, hm1⟩ : ∃ m1, m - 1 = m1 := ⟨_, rfl⟩
        have hmm : (m : Int) - 1 = (m1 : Int) := by omega
        have hmb : ((m : Int) == 0) = false := by simpa using hm0
        have hm1L : m1 < L - q := by omega
        have hci := HCA.out.2 (by omega)
        obtain ⟨b, o, e0, c0, c1⟩ := ((HSR3.out.stay K4.out).1).cell HLD.out m1 hm1L
        obtain ⟨V, hV⟩ : ∃ V, ((l.drop q)[m1]'(by rw [HLD.out]; exact hm1L)).2 = V := ⟨_, rfl⟩
        rw [hV] at c1
        have hciV : C i = some V := by
          rw [hci, ← hV, List.getElem_drop]
          simp only [show q + m - 1 = q + m1 by omega]
        subst e0
        have hb1 : b < w4.heap.size := World.block_lt_of_cell? w4 _ c1
        have hsl5 := hsl3 (w4.setCell ⟨w.heap.size, i, none⟩ (.int .i64 V))
        have HROW5 : Hid ((w4.setCell ⟨w.heap.size, i, none⟩ (.int .i64 V)).ownsRow w.heap.size 3 1 (.slice (some ⟨w.heap.size, 0, none⟩) n n) n ((rowF (upC C (i + 1)) n).map (Value.int .i64))) := by
          have h1 := (HROW4.out.stored i (.int .i64 V)).1
          rw [← List.map_set, up_step C n i V (now_some hciV)] at h1
          exact h1
        have K5 : Hid (Kept w (w4.setCell ⟨w.heap.size, i, none⟩ (.int .i64 V))) := hid (K4.out.setCell (fun h => by simp at h) _)
        have HE5 : Hid (T2 = capT (f + ((i + 1 : Nat) : Int) * s) ∧ V = nowC C (i + 1) ∧ G = gapC C (i + 1)) := hid ⟨HT2.out.symm, (now_some hciV).symm, by rw [gap_some hciV, hG16]⟩
        have HF5 := hid (HFST.out.some hlt hciV)
        clear hsl3 hsr3 hm k4 HAD HBL hLm hsl4 hT16 hG16 hci HCA HE hm1 hV hciV c0 hm0
        by_cases hiF : i < F
        · rw [if_pos hiF] at HF5
          have hif : (i : Int) < (F : Int) := by omega
          go_wp2_with fail
          go_roundw
          case rel => exact ⟨i + 1, q + m, i, G, T2, V, ra2, rc2, by omega, by omega, by omega, by omega, by go_num, rfl, by rw [HLM.out], rfl, by simp [hif], rfl, HE5, HSR4, HC2, HF5, HROW5, K5.out⟩
          case measure => simp [intOf]; omega
        · rw [if_neg hiF] at HF5
          have hif : ¬ (i : Int) < (F : Int) := by omega
          go_wp2_with fail
          go_roundw
          case rel => exact ⟨i + 1, q + m, F, G, T2, V, ra2, rc2, by omega, by omega, by omega, by omega, by go_num, rfl, by rw [HLM.out], rfl, by simp [hif], rfl, HE5, HSR4, HC2, HF5, HROW5, K5.out⟩
          case measure => simp [intOf]; omega
    · have hin : i = n := by omega
      subst hin
      have hG16 := HE.out.2.2
      clear HSL HE
      by_cases hFn : F = i
      · have HF : Hid (R (.returned (.tuple #[.slice none 0 0, .int .i64 (G : Int)])) wr) := hid (by
          rw [← HRR.out, hG16]
          exact ⟨kr, F, HFST.out, .inl ⟨hFn, rfl⟩⟩)
        subst hFn
        clear hG16 kr
        go_wp2_with fail
        exact HF.out
      · have hFb : ((F : Int) == (i : Int)) = false := by simp; omega
        have hFi : F < i := by omega
        have HW0 : Hid (wr.ownsRow w.heap.size 3 1 (.slice (some ⟨w.heap.size, 0, none⟩) i i) i ((rowF (fillC C F 0) i).map (Value.int .i64))) := by
          have h := HROW3.out
          rw [up_all C i F] at h
          exact h
        have HG := hid hG16
        clear HROW3 hG16 kr
        go_wp2_with fail
        go_loopw [64] (fun s64 W => ∃ k : Nat, k ≤ F ∧ s64 = .int .i64 (k : Int) ∧ Hid (W.ownsRow w.heap.size 3 1 (.slice (some ⟨w.heap.size, 0, none⟩) i i) i ((rowF (fillC C F k) i).map (Value.int .i64))) ∧ Kept w W) (fun s64 _ => F - (intOf s64).toNat)
        case atStart => exact ⟨0, by omega, rfl, HW0, KR.out⟩
        case round =>
          obtain ⟨k, hk, rfl, HW, kr2⟩ := hrel
          have KR2 := hid kr2
          by_cases hkF : k < F
          · have hbx : w.heap.size < wr.heap.size := (HW.out.lt w.heap.size rfl).2
            obtain ⟨P, hP⟩ : ∃ P, nowC C (F + 1) = P := ⟨_, rfl⟩
            have HP := hid hP
            have y0 : wr.cell? ⟨w.heap.size, F, none⟩ = some (.int .i64 P) := by
              rw [HW.out.cellAt F (by omega), List.getElem?_map, List.getElem?_eq_getElem (by rw [rowF_len]; exact hFi), rowF_get]
              show some (Value.int .i64 (fillC C F k F)) = _
              unfold fillC
              rw [if_neg (by omega), hP]
            have y1 : wr.cell? ⟨w.heap.size, k, none⟩ = some (.int .i64 (fillC C F k k)) := by
              rw [HW.out.cellAt k (by omega), List.getElem?_map, List.getElem?_eq_getElem (by rw [rowF_len]; omega), rowF_get]
              rfl
            have g0 : wr.frozen? ⟨w.heap.size, k, none⟩ = false := HW.out.frozenAt k
            have HW2 : Hid ((wr.setCell ⟨w.heap.size, k, none⟩ (.int .i64 P)).ownsRow w.heap.size 3 1 (.slice (some ⟨w.heap.size, 0, none⟩) i i) i ((rowF (fillC C F (k + 1)) i).map (Value.int .i64))) := by
              have h1 := (HW.out.stored k (.int .i64 P)).1
              rw [← List.map_set, ← hP, fill_step C i F k, hP] at h1
              exact h1
            have K6 : Hid (Kept w (wr.setCell ⟨w.heap.size, k, none⟩ (.int .i64 P))) := hid (KR2.out.setCell (fun h => by simp at h) _)
            clear hP kr2
            go_wp2_with fail
            go_roundw
            case rel => exact ⟨k + 1, by omega, by go_num, HW2, K6.out⟩
            case measure => simp [intOf]; omega
          · have hkF2 : k = F := by omega
            subst hkF2
            have HF : Hid (R (.returned (.tuple #[.slice (some ⟨w.heap.size, 0, none⟩) i i, .int .i64 (G : Int)])) wr) := hid (by
              rw [← HRR.out, HG.out]
              exact ⟨kr2, k, HFST.out, .inr ⟨hFi, _, rfl, own_src HW.out⟩⟩)
            clear kr2
            go_wp2_with fail
            exact HF.out
end Go.Proofs.Ytjjmidooikgaaaa.Rs
