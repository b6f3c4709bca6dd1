/-
  The law MergeSamples.
-/
import Derived.Test.YtjahpckifijemaaZcopied
import Derived.Test.YtjahpckifijemaaZrmrg
import Derived.Test.YtjahpckifijemaaZopen3
namespace Go.Proofs.Ytjahpckifijemaa.Mg
open Go Go.RowKit Go.Proofs.Lys
set_option linter.unusedVariables false
set_option linter.unusedSimpArgs false

set_option maxRecDepth 100000 in
set_option maxHeartbeats 1600000 in
theorem big_any (w : World) (a : Option Addr) (c M : Nat) (vs : List Value) (ls : List Smps) (hs : LLSrc w (.slice a M c) vs ls) (hM : ls.length = M) (hlen : ∀ l ∈ ls, l.length ≤ 140737488351232) (hm : M ≤ 140737488351232) :
    Calls Try.prog 6 #[.slice a M c] w fun e w' => ∃ b, e = .returned (.bool b) ∧ w' = w ∧ (b = false → M ≤ 50 ∧ ls.flatten.length ≤ 1500) := by
  obtain ⟨R, hR⟩ : ∃ R : Ending → World → Prop, (fun e w' => ∃ b, e = .returned (.bool b) ∧ w' = w ∧ (b = false → M ≤ 50 ∧ ls.flatten.length ≤ 1500)) = R := ⟨_, rfl⟩
  rw [hR]
  have HT : Hid (R (.returned (.bool true)) w) := hid (by rw [← hR]; exact ⟨true, rfl, rfl, fun h => by cases h⟩)
  have HR := hid hR
  have HS := hid hs
  have HM := hid hM
  have HLE := hid hlen
  clear hR hs hM hlen
  by_cases h1 : 50 < M
  · have d1 : decide (50 < (M : Int)) = true := by simp; omega
    go_enter Try.func6, Try.ntmps6
    go_wp2
    exact HT.out
  · have d1 : decide (50 < (M : Int)) = false := by simp; omega
    have hM50 : M ≤ 50 := by omega
    clear h1 hm
    go_enter Try.func6, Try.ntmps6
    go_wp2
    go_loop [3, 4] (fun n s => ∃ (i q : Nat), i ≤ M ∧ q ≤ 1500 ∧ n = .int .i64 (q : Int) ∧ s = .int .i64 (i : Int) ∧ Hid ((ls.take i).flatten.length = q)) (fun _ s => M - (intOf s).toNat)
    case atStart => exact ⟨0, 0, by omega, by omega, rfl, rfl, hid rfl⟩
    case round =>
      obtain ⟨i, q, hi, hq, rfl, rfl, hf⟩ := hrel
      by_cases hlt : i < M
      · obtain ⟨b, o, a1, c1, rfl, hc, _⟩ := ll_cell HS.out HM.out i hlt
        have hil : i < ls.length := by have := HM.out; omega
        have hft := flat_take hil
        have hll := HLE.out ls[i] (List.getElem_mem hil)
        obtain ⟨N, hN⟩ : ∃ N, ls[i].length = N := ⟨_, rfl⟩
        have hft2 := congrArg List.length hft
        rw [List.length_append, hf.out, hN] at hft2
        rw [hN] at hc hll
        obtain ⟨Q, hQ⟩ : ∃ Q, q + N = Q := ⟨_, rfl⟩
        have hQi : (q : Int) + (N : Int) = (Q : Int) := by omega
        have HQ := hid hQ
        have HF2 := hid hft2
        have hQb : Q ≤ 140737488352732 := by omega
        by_cases h2 : 1500 < Q
        · have d2 : decide (1500 < (Q : Int)) = true := by simp; omega
          clear hft hft2 hN hQ
          go_wp2
          exact HT.out
        · have d2 : decide (1500 < (Q : Int)) = false := by simp; omega
          have hQ1 : Q ≤ 1500 := by omega
          clear hft hft2 hN hQ h2
          go_wp2
          go_round
          case rel => exact ⟨i + 1, Q, by omega, hQ1, rfl, by go_num, hid (by rw [HF2.out]; exact HQ.out)⟩
          case measure => simp [intOf]; omega
      · have HF : Hid (R (.returned (.bool false)) w) := hid (by
          rw [← HR.out]
          refine ⟨false, rfl, rfl, fun _ => ⟨hM50, ?_⟩⟩
          have h := hf.out
          rw [List.take_of_length_le (by have := HM.out; omega)] at h
          omega)
        have e : i = M := by omega
        subst e
        clear hf
        go_wp2
        exact HF.out

set_option maxRecDepth 100000 in
set_option maxHeartbeats 1600000 in
theorem copied_any (w : World) (a : Option Addr) (c M : Nat) (vs : List Value) (ls : List Smps) (hs : LLSrc w (.slice a M c) vs ls) (hM : ls.length = M) (hm : M ≤ 50) (hl : ls.flatten.length ≤ 1500) :
    Calls Try.prog 7 #[.slice a M c] w fun e w' => ∃ u us, e = .returned u ∧ Cps w w' u M us ls ∧ Kept w w' := by
  have HS := hid hs
  have HM := hid hM
  have HL := hid hl
  clear hs hM hl
  go_enter Try.func7, Try.ntmps7
  go_wp2
  go_loopw [3, 4] (fun u s wr => ∃ (i : Nat) (g : Option Addr) (cc : Nat) (us : List Value), i ≤ M ∧ s = .int .i64 (i : Int) ∧ .slice g i cc = u ∧ Hid (Cps w wr (.slice g i cc) i us ls) ∧ Hid (Kept w wr)) (fun _ s _ => M - (intOf s).toNat)
  case atStart => exact ⟨0, none, 0, [], by omega, rfl, rfl, hid ⟨World.ownsRow_nil _ _ _ _, rfl, fun j h => absurd h (Nat.not_lt_zero j)⟩, hid (Only.refl _ _)⟩
  case round =>
    obtain ⟨i, g0, cc, us, hi, rfl, rfl, hc, hk⟩ := hrel
    by_cases hlt : i < M
    · obtain ⟨b, o, a1, c1, rfl, hcell, hsrc⟩ := ll_cell (HS.out.stay hk.out) HM.out i hlt
      have hil : i < ls.length := by have := HM.out; omega
      have hlen : ls[i].length ≤ 100000 := by
        have h1 := flat_part ls (i + 1)
        rw [flat_take hil, List.length_append] at h1
        have := HL.out
        omega
      obtain ⟨a2, cap2, w2, HR2, h2, k2⟩ := smp_copy hsrc.1 hlen
      obtain ⟨a3, m3, c3, g3, cap3, w3, hx, hm3, HR3, hC3, k3⟩ := hc.out.step hk.out hil k2 h2 (by omega)
      cases hx
      have HC3 := hid hC3
      have HK3 := hid k3
      have hbl := World.block_lt_of_cell? wr _ hcell
      obtain ⟨LN, hLN⟩ : ∃ LN, ls[i].length = LN := ⟨_, rfl⟩
      rw [hLN] at hcell HR2 HR3 HC3
      clear hC3 k3 hsrc h2 k2 hlen hLN hm3
      go_wp2_with (at_builtin; first | refine Lys.wpList_append_run rfl _ _ _ rfl rfl rfl HR2 ?_ | refine Lys.wpList_append_run rfl _ _ _ rfl rfl rfl HR3 ?_)
      go_roundw
      case rel => exact ⟨i + 1, _, _, _, by omega, by go_num, rfl, HC3, HK3⟩
      case measure => simp [intOf]; omega
    · have e : i = M := by omega
      subst e
      go_wp2
      go_ret
      exact ⟨_, _, rfl, hc.out, hk.out⟩

theorem smpL_setZ (l : Smps) (k : Nat) (p : Smp) (hk : k < l.length) : smpL (l.set k p) = ((smpL l).set (k * 2) (.int .i64 p.1)).set (k * 2 + 1) (.int .i64 p.2) := by
  induction l generalizing k with
  | nil => simp at hk
  | cons q r ih =>
    cases k with
    | zero => rfl
    | succ k =>
      rw [List.set_cons_succ, smpL, ih k (by simpa using hk), smpL]
      rw [show (k + 1) * 2 = k * 2 + 2 by omega]
      rfl
theorem smp_setZ {w : World} {base g cap k n : Nat} {q : Smps} (h : w.ownsRow base 30 2 (.slice (some ⟨g, 0, none⟩) n cap) n (smpL q)) (hn : q.length = n) (hk : k < n) (x y : Int) :
    w.frozen? ⟨g, k * 2, none⟩ = false ∧ (w.setCell ⟨g, k * 2, none⟩ (.int .i64 x)).frozen? ⟨g, k * 2 + 1, none⟩ = false ∧
    ((w.setCell ⟨g, k * 2, none⟩ (.int .i64 x)).setCell ⟨g, k * 2 + 1, none⟩ (.int .i64 y)).ownsRow base 30 2 (.slice (some ⟨g, 0, none⟩) n cap) n (smpL (q.set k (x, y))) := by
  refine ⟨h.frozenAt _, ((h.stored (k * 2) (.int .i64 x)).1).frozenAt _, ?_⟩
  have h1 := (((h.stored (k * 2) (.int .i64 x)).1).stored (k * 2 + 1) (.int .i64 y)).1
  rw [smpL_setZ q k (x, y) (by omega)]
  exact h1
set_option maxRecDepth 100000 in
set_option maxHeartbeats 6400000 in
theorem samples_walk (w : World) (va : Value) (ls : List Smps) (ha : LLIn w va ls) :
    Calls Try.prog 3 #[va] w fun e w' => e = .returned (.bool true) ∧ Kept w w' := by
  obtain ⟨⟨vs, hs⟩, hlen, hall⟩ := ha
  obtain ⟨a0, c0, rfl⟩ := hs.src.len
  obtain ⟨M, hM⟩ : ∃ M, ls.length = M := ⟨_, rfl⟩
  have hvM : vs.length = M := hs.len.trans hM
  rw [hvM] at hs ⊢
  rw [hM] at hlen
  have HS := hid hs
  have HM := hid hM
  have HLN := hid hall
  have HAL := hid (alive18_any w)
  have HML := hid hlen
  clear hs hM hvM hall hlen
  go_enter Try.func3, Try.ntmps3
  go_wp2_with fail
  refine HAL.out.mono ?_
  rintro e w2 ⟨rfl, k2⟩
  have K2 := hid k2
  have HS2 := hid (HS.out.stay k2)
  have HBG := hid (big_any w2 a0 c0 M vs ls HS2.out HM.out HLN.out HML.out)
  clear k2 HAL
  go_wp2_with fail
  refine HBG.out.mono ?_
  rintro e w2' ⟨b, rfl, hww, hb⟩
  replace hww := hww.symm
  subst hww
  cases b with
  | true =>
    clear hb HBG
    go_wp2
    go_ret
    exact ⟨rfl, K2.out⟩
  | false =>
    obtain ⟨hM50, hfl⟩ := hb rfl
    have HFL := hid hfl
    have HCO := hid (copied_any w2 a0 c0 M vs ls HS2.out HM.out hM50 hfl)
    clear hfl HBG hb
    go_wp2_with fail
    refine HCO.out.mono ?_
    rintro e w3 ⟨u, us, rfl, hc, k3⟩
    have K3 := hid (K2.out.trans k3 (fun _ _ f => f))
    have HLL3 : Hid (LLSrc w3 u us ls) := hid (by
      have h := hc
      rw [← HM.out] at h
      exact h.src)
    obtain ⟨g3, c3, hue⟩ := own_slice hc.row
    subst hue
    have HSA := hid (samples_any w3 _ us ls HLL3.out (by have := HFL.out; omega) (by have := HM.out; omega))
    have HS3 := hid (HS2.out.stay k3)
    clear hc k3 HCO
    go_wp2_with fail
    refine HSA.out.mono ?_
    rintro e w4 ⟨v4, rfl, h4, k4⟩
    have K34 := hid k4
    have H4 := hid h4
    have HRM := hid (rmerge_any w4 _ vs ls (HS3.out.stay k4) (by have := HFL.out; omega) (by have := HM.out; omega))
    obtain ⟨a4, c4, hv4⟩ := ownN_slice h4
    subst hv4
    clear h4 k4 HSA
    obtain ⟨T, hT⟩ : ∃ T, mrg ls.flatten = T := ⟨_, rfl⟩
    have HTL : Hid (T.length ≤ 1500) := hid (by rw [← hT]; have := mrg_len ls.flatten; have := HFL.out; omega)
    rw [hT] at H4 HRM ⊢
    obtain ⟨N, hN⟩ : ∃ N, T.length = N := ⟨_, rfl⟩
    have HN := hid hN
    rw [hN] at HTL ⊢
    have H4N : Hid (w4.ownsRow w3.heap.size 30 2 (.slice a4 N c4) N (smpL T)) := hid (by
      have h := H4.out
      unfold SmpAt at h
      rw [hN] at h
      exact h)
    have HS4 : Hid (SmpSrc w4 (.slice a4 N c4) T) := hid (by
      have h := H4.out.src
      rw [hN] at h
      exact h)
    clear hT hN H4
    go_wp2_with fail
    refine HRM.out.mono ?_
    rintro e w5 ⟨v5, rfl, h5, k5⟩
    have K35 := hid (K34.out.trans k5 (fun _ _ f => f))
    have HSS := hid (ssame_any w5 _ v5 T (HS4.out.stay k5) h5.src (by have := HN.out; have := HTL.out; omega))
    have H5N := hid (ownN_stay H4N.out k5)
    obtain ⟨a5, c5, hv5⟩ := ownN_slice h5
    subst hv5
    rw [HN.out] at HSS ⊢
    clear h5 k5 HRM H4N HS4
    go_wp2_with fail
    refine HSS.out.mono ?_
    rintro e w6 ⟨rfl, k6⟩
    have K36 := hid (K35.out.trans k6 (fun _ _ f => f))
    have H6N := hid (ownN_stay H5N.out k6)
    have hN15 : N ≤ 1500 := HTL.out
    clear k6 HSS H5N
    go_wp2
    go_loopw [7] (fun s wr => ∃ (k : Nat) (q : Smps), k ≤ N ∧ s = .int .i64 (k : Int) ∧ Hid (q.length = N) ∧ Hid (wr.ownsRow w3.heap.size 30 2 (.slice a4 N c4) N (smpL q)) ∧ Hid (Kept w3 wr)) (fun s _ => N - (intOf s).toNat)
    case atStart => exact ⟨0, T, by omega, rfl, HN, H6N, K36⟩
    case round =>
      obtain ⟨k, q, hk, rfl, hq, ho, hkk⟩ := hrel
      by_cases hlt : k < N
      · obtain ⟨g, cap, hge⟩ := ownN_some ho.out (by omega)
        cases hge
        have hst := smp_setZ ho.out hq.out hlt (-1) 0
        have hg0 := (ownN_lt ho.out (k := g) rfl).1
        have HST := hid hst.2.2
        have f0 := hst.1
        have f1 := hst.2.1
        have HKK : Hid (Kept w3 ((wr.setCell ⟨g, k * 2, none⟩ (.int .i64 (-1))).setCell ⟨g, k * 2 + 1, none⟩ (.int .i64 0))) := hid ((hkk.out.setCell (fun h => by have h2 : g < w3.heap.size := h; omega) _).setCell (fun h => by have h2 : g < w3.heap.size := h; omega) _)
        have hQ : Hid ((q.set k ((-1 : Int), (0 : Int))).length = N) := hid (by rw [List.length_set]; exact hq.out)
        have x0 := ho.out.cellAt (k * 2) (by omega)
        have x1 := ho.out.cellAt (k * 2 + 1) (by omega)
        rw [(smpL_at q k (by have := hq.out; omega)).1] at x0
        rw [(smpL_at q k (by have := hq.out; omega)).2] at x1
        clear hst
        go_wp2
        go_roundw
        case rel => exact ⟨k + 1, _, by omega, by go_num, hQ, HST, HKK⟩
        case measure => simp [intOf]; omega
      · clear ho hq
        go_wp2
        go_loopw [8] (fun s wq => ∃ (i : Nat), i ≤ M ∧ s = .int .i64 (i : Int) ∧ Hid (Kept w3 wq)) (fun s _ => M - (intOf s).toNat)
        case atStart => exact ⟨0, by omega, rfl, hkk⟩
        case round =>
          clear hkk
          obtain ⟨i, hi, rfl, hkk⟩ := hrel
          by_cases hlt2 : i < M
          · obtain ⟨b1, o1, x1, y1, rfl, hc1, hsr1⟩ := ll_cell (HLL3.out.stay hkk.out) HM.out i hlt2
            obtain ⟨b2, o2, x2, y2, rfl, hc2, hsr2⟩ := ll_cell (HS3.out.stay hkk.out) HM.out i hlt2
            have hil : i < ls.length := by have := HM.out; omega
            have hl1 : ls[i].length ≤ 1000000 := by
              have h1 := flat_part ls (i + 1)
              rw [flat_take hil, List.length_append] at h1
              have := HFL.out
              omega
            have HSM : Hid (∀ X, Kept wr X → Calls Try.prog 9 #[.slice x1 ls[i].length y1, .slice x2 ls[i].length y2] X fun e w' => e = .returned (.bool true) ∧ Kept X w') := hid (fun X kX => ssame_any X _ _ ls[i] (hsr1.1.stay kX) (hsr2.1.stay kX) hl1)
            obtain ⟨LN, hLN⟩ : ∃ LN, ls[i].length = LN := ⟨_, rfl⟩
            rw [hLN] at hc1 hc2 HSM
            have HCC : Hid (∀ X, Kept wr X → X.cell? ⟨b1, o1 + i, none⟩ = some (.slice x1 LN y1) ∧ X.cell? ⟨b2, o2 + i, none⟩ = some (.slice x2 LN y2)) := hid (fun X kX => ⟨only_cell kX (fun f => f) hc1, only_cell kX (fun f => f) hc2⟩)
            clear hsr1 hsr2 hl1 hLN hil
            go_wp2_with fail
            have hS : (fun w' : World => Kept wr w') wr.drew := (Only.refl _ wr).drew
            refine wp_region_noPanic ?_
            refine wp_region_last (L := 1000) (S := fun w' => Kept wr w') (by kernel_rfl) ?_
            refine wpAnyN_take (i := 0) (v := .slice (some ⟨b1, o1, none⟩) M c3) rfl (by kernel_rfl) (by kernel_rfl) (by kernel_rfl) (by decide) (by kernel_rfl) (fun _ _ _ h => h) (Or.inl ⟨by kernel_rfl, ?_⟩) hS ?_
            · (intro w' hSw; obtain ⟨z1, z2⟩ := HCC.out w' hSw; clear hSw; go_simp)
            (try simp only [List.getElem_toArray, List.getElem_cons_succ, List.getElem_cons_zero])
            go_frame
            refine wpAnyN_take (i := 1) (v := .int .i64 (i : Int)) rfl (by kernel_rfl) (by kernel_rfl) (by kernel_rfl) (by decide) (by kernel_rfl) (fun _ _ _ h => h) (Or.inl ⟨by kernel_rfl, ?_⟩) hS ?_
            · (intro w' hSw; obtain ⟨z1, z2⟩ := HCC.out w' hSw; clear hSw; go_simp)
            (try simp only [List.getElem_toArray, List.getElem_cons_succ, List.getElem_cons_zero])
            go_frame
            refine wpAnyN_take (i := 2) (v := .pointer (some ⟨b1, o1 + i, none⟩)) rfl (by kernel_rfl) (by kernel_rfl) (by kernel_rfl) (by decide) (by kernel_rfl) (fun _ _ _ h => h) (Or.inl ⟨by kernel_rfl, ?_⟩) hS ?_
            · (intro w' hSw; obtain ⟨z1, z2⟩ := HCC.out w' hSw; clear hSw; go_simp)
            (try simp only [List.getElem_toArray, List.getElem_cons_succ, List.getElem_cons_zero])
            go_frame
            refine wpAnyN_take (i := 3) (v := .slice x1 LN y1) rfl (by kernel_rfl) (by kernel_rfl) (by kernel_rfl) (by decide) (by kernel_rfl) (fun _ _ _ h => h) (Or.inl ⟨by kernel_rfl, ?_⟩) hS ?_
            · (intro w' hSw; obtain ⟨z1, z2⟩ := HCC.out w' hSw; clear hSw; go_simp)
            (try simp only [List.getElem_toArray, List.getElem_cons_succ, List.getElem_cons_zero])
            go_frame
            refine wpAnyN_take (i := 4) (v := .slice (some ⟨b2, o2, none⟩) M c0) rfl (by kernel_rfl) (by kernel_rfl) (by kernel_rfl) (by decide) (by kernel_rfl) (fun _ _ _ h => h) (Or.inl ⟨by kernel_rfl, ?_⟩) hS ?_
            · (intro w' hSw; obtain ⟨z1, z2⟩ := HCC.out w' hSw; clear hSw; go_simp)
            (try simp only [List.getElem_toArray, List.getElem_cons_succ, List.getElem_cons_zero])
            go_frame
            refine wpAnyN_take (i := 5) (v := .int .i64 (i : Int)) rfl (by kernel_rfl) (by kernel_rfl) (by kernel_rfl) (by decide) (by kernel_rfl) (fun _ _ _ h => h) (Or.inl ⟨by kernel_rfl, ?_⟩) hS ?_
            · (intro w' hSw; obtain ⟨z1, z2⟩ := HCC.out w' hSw; clear hSw; go_simp)
            (try simp only [List.getElem_toArray, List.getElem_cons_succ, List.getElem_cons_zero])
            go_frame
            refine wpAnyN_take (i := 6) (v := .pointer (some ⟨b2, o2 + i, none⟩)) rfl (by kernel_rfl) (by kernel_rfl) (by kernel_rfl) (by decide) (by kernel_rfl) (fun _ _ _ h => h) (Or.inl ⟨by kernel_rfl, ?_⟩) hS ?_
            · (intro w' hSw; obtain ⟨z1, z2⟩ := HCC.out w' hSw; clear hSw; go_simp)
            (try simp only [List.getElem_toArray, List.getElem_cons_succ, List.getElem_cons_zero])
            go_frame
            refine wpAnyN_take (i := 7) (v := .slice x2 LN y2) rfl (by kernel_rfl) (by kernel_rfl) (by kernel_rfl) (by decide) (by kernel_rfl) (fun _ _ _ h => h) (Or.inl ⟨by kernel_rfl, ?_⟩) hS ?_
            · (intro w' hSw; obtain ⟨z1, z2⟩ := HCC.out w' hSw; clear hSw; go_simp)
            (try simp only [List.getElem_toArray, List.getElem_cons_succ, List.getElem_cons_zero])
            go_frame
            refine wpAnyL_one (i := 8) (by kernel_rfl) rfl (by kernel_rfl) ?_
            go_simp
            refine (HSM.out _ hS).mono ?_
            rintro e w9 ⟨rfl, k9⟩
            have hS9 : Kept wr w9 := Only.trans hS k9 (fun _ _ f => f)
            have HK9 := hid (hkk.out.trans hS9 (fun _ _ f => f))
            refine ⟨hS9, ?_⟩
            (try simp only [List.getElem_toArray, List.getElem_cons_succ, List.getElem_cons_zero])
            (try go_frame)
            refine wpAnyL_one (i := 9) (by kernel_rfl) rfl (by kernel_rfl) ?_
            go_simp
            (first | refine ⟨hS9, ?_⟩ | skip)
            refine wpAnyN_done (by kernel_rfl) ?_
            refine NoPanic.normal ?_
            clear hS k9 hS9 HSM HCC
            go_wp2
            go_roundw
            case rel => exact ⟨i + 1, by omega, by go_num, HK9⟩
            case measure => simp [intOf]; omega
          · have HF := hid (K3.out.trans hkk.out (fun _ _ f => f))
            have e : i = M := by omega
            subst e
            clear hkk
            go_wp2
            go_ret
            exact ⟨rfl, HF.out⟩
end Go.Proofs.Ytjahpckifijemaa.Mg
