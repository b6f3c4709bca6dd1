/-
  The law MergeSeries.
-/
import Derived.Test.YtcacoanhiphbiaaZmer
import Derived.Test.YtcacoanhiphbiaaZsg
import Derived.Test.YtcacoanhiphbiaaZrm
import Derived.Test.YtcacoanhiphbiaaZssame
import Derived.Test.YtcacoanhiphbiaaZwipe
namespace Go.Proofs.Ytcacoanhiphbiaa.Ms
open Go Go.RowKit Go.Proofs.Lys Go.Maps
open Go.Proofs.Ytcacoanhiphbiaa.N (Labs LabAt LabSrc)
set_option linter.unusedVariables false
set_option linter.unusedSimpArgs false

def SerQ (w : World) (D : List Ser) (e : Ending) (w' : World) : Prop := ∃ a c qs, e = .returned (.slice a D.length c) ∧ SerAt w' w.heap.size (.slice a D.length c) qs ∧ qs.map SV.ser = D ∧ Kept w w'
theorem SerQ.of {w w' : World} {D : List Ser} {e : Ending} {u : Value} {qs : List SV} (he : e = .returned u) (h : SerAt w' w.heap.size u qs) (hD : qs.map SV.ser = D) (k : Kept w w') : SerQ w D e w' := by
  obtain ⟨a, c, rfl⟩ := ownN_slice h.row
  have hl : qs.length = D.length := by rw [← hD, List.length_map]
  rw [hl] at he h
  exact ⟨a, c, qs, he, h, hD, k⟩
def rkOf (ls : List (List SVc)) (hS : Small ls) : Rank := mkRank (labsOf ls) (fun a ha => by have := hS.lab a ha; omega)
theorem prog_series {w : World} {v : Value} {vs : List Value} {ls : List (List SVc)} (h : LRIn w v vs ls) (hS : Small ls) : Calls Try.prog 6 #[v] w (SerQ w (told ls)) := by
  have hi := hS.items
  have hs := hS.smps
  have hl := hS.lists
  have hF := toI_flat (rkOf ls hS).rk ls
  refine (series_any w v vs (ls.map (toI (rkOf ls hS).rk)) (items h (rkOf ls hS) rfl) (by rw [hF]; unfold toI; rw [List.length_map]; omega) (by rw [List.length_map]; omega) (by rw [hF, toI_wsum]; omega) (fun a ha => by have := hS.lab a ha; omega)).mono ?_
  rintro e w' ⟨u, Gs, qs, he, hg, hfl, hat, hq, k⟩
  rw [hF] at hfl
  have h1 := groups_eq (RK := rkOf ls hS) (toI (rkOf ls hS).rk ls.flatten) (toI_ok _ ls rfl) hg hfl
  exact .of he hat (by rw [hq, h1, toI_told]) k
theorem ref_series {w : World} {v : Value} {vs : List Value} {ls : List (List SVc)} (h : LRIn w v vs ls) (hS : Small ls) : Calls Try.prog 8 #[v] w (SerQ w (told ls)) := by
  have hi := hS.items
  have hs := hS.smps
  have hl := hS.lists
  have hF := toI_flat (rkOf ls hS).rk ls
  refine (rmseries_any w v vs (ls.map (toI (rkOf ls hS).rk)) (items h (rkOf ls hS) rfl) (by rw [hF]; unfold toI; rw [List.length_map]; omega) (by rw [List.length_map]; omega) (by rw [hF, toI_wsum]; omega) (fun a ha => by have := hS.lab a ha; omega)).mono ?_
  rintro e w' ⟨u, qs, he, hat, hq, k⟩
  rw [hF] at hq
  exact .of he hat (by rw [hq, toI_told]) k
theorem same_told {w : World} {va vb : Value} {B1 B2 : Nat} {q1 q2 : List SV} {ls : List (List SVc)} (hS : Small ls) (h1 : SerAt w B1 va q1) (h2 : SerAt w B2 vb q2) (e1 : q1.map SV.ser = told ls) (e2 : q2.map SV.ser = told ls) :
    Calls Try.prog 7 #[va, vb] w fun e w' => e = .returned (.bool true) ∧ Kept w w' := by
  obtain ⟨t1, t2⟩ := hS.told
  exact msame_any w va vb (told ls) (by rw [← e1]; exact h1.serIn) (by rw [← e2]; exact h2.serIn) (by omega) (fun x hx => by have := t2 x hx; omega)
theorem wipe_told {w : World} {v : Value} {B : Nat} {qs : List SV} {ls : List (List SVc)} (hS : Small ls) (h : SerAt w B v qs) (e : qs.map SV.ser = told ls) :
    Calls Try.prog 9 #[v] w fun e w' => e = .returned (.tuple #[]) ∧ Only (fun j => B ≤ j) w w' := by
  obtain ⟨t1, t2⟩ := hS.told
  have hl : qs.length = (told ls).length := by rw [← e, List.length_map]
  refine (wipe_any h (by omega) (fun q hq => ?_)).mono ?_
  · have := t2 q.ser (by rw [← e]; exact List.mem_map.2 ⟨q, hq, rfl⟩)
    show q.ser.1.length ≤ _ ∧ q.ser.2.length ≤ _
    omega
  · rintro e w' ⟨rfl, k⟩
    refine ⟨rfl, k.mono (fun j _ hj => ?_)⟩
    rcases hj with hj | ⟨q, hq, hj | hj⟩
    · exact (ownN_lt h.row hj).1
    · exact (N.ownN_lt (h.lab q hq) hj).1
    · exact (ownN_lt (h.smp q hq) hj).1
theorem lr_cell {w : World} {a : Option Addr} {M c : Nat} {vs : List Value} {ls : List (List SVc)} (h : LRIn w (.slice a M c) vs ls) (hM : ls.length = M) (k : Nat) (hk : k < M) : ∃ b o a1 c1, a = some ⟨b, o, none⟩ ∧ w.cell? ⟨b, o + k, none⟩ = some (.slice a1 (ls[k]'(by omega)).length c1) ∧ RIn w (.slice a1 (ls[k]'(by omega)).length c1) (ls[k]'(by omega)) := by
  have hv : vs.length = M := h.len.trans hM
  have he := h.each k (by omega) (by omega)
  obtain ⟨a1, c1, e1, hc1⟩ := he.shape
  rcases h.src.shape with ⟨hnil, _⟩ | ⟨hpos, b, o, c', e, hcc⟩
  · rw [hnil] at hv; simp at hv; omega
  · simp only [Value.slice.injEq] at e
    refine ⟨b, o, a1, c1, e.1, ?_, by rw [← e1]; exact he⟩
    rw [← e1]
    exact hcc k _ (List.getElem?_eq_getElem (by omega))
/-- How many series and samples. -/
def cntR (l : List SVc) : Nat := l.length + sumR l
theorem cntR_app (a b : List SVc) : cntR (a ++ b) = cntR a + cntR b := by unfold cntR; rw [List.length_append, sumR_app]; omega
theorem cntR_snoc (a : List SVc) (x : SVc) : cntR (a ++ [x]) = cntR a + (1 + x.smps.length) := by
  rw [cntR_app]
  unfold cntR sumR
  simp
theorem rflat_take {ls : List (List SVc)} {k : Nat} (h : k < ls.length) : (ls.take (k + 1)).flatten = (ls.take k).flatten ++ ls[k] := by
  rw [List.take_add_one, List.getElem?_eq_getElem h, Option.toList_some, List.flatten_append]
  simp
theorem sumR_tot : ∀ l : List SVc, sumR l ≤ totR l
  | [] => Nat.le_refl _
  | x :: r => by
    have := sumR_tot r
    unfold sumR totR at *
    simp only [List.map_cons, List.sum_cons]
    omega
theorem cntR_take (l : List SVc) (k : Nat) : cntR (l.take k) ≤ cntR l := by
  have := congrArg cntR (List.take_append_drop k l)
  rw [cntR_app] at this
  omega
theorem cntR_few {l : List SVc} (h : FewR l) : cntR l ≤ 4200 := by
  have h1 := h.1
  have h2 := h.2.1
  have h3 := sumR_tot l
  unfold cntR
  omega

set_option maxRecDepth 100000 in
set_option maxHeartbeats 12800000 in
theorem mseries_walk (w : World) (va : Value) (ls : List (List SVc)) (ha : LLR w va ls) :
    Calls Try.prog 3 #[va] w fun e w' => e = .returned (.bool true) ∧ Kept w w' := by
  obtain ⟨vs, hs⟩ := ha
  obtain ⟨a0, c0, rfl⟩ := hs.src.len
  obtain ⟨M, hM⟩ : ∃ M, ls.length = M := ⟨_, rfl⟩
  have hvM : vs.length = M := hs.len.trans hM
  rw [hvM] at hs ⊢
  have hsize := hs.size
  rw [hM] at hsize
  obtain ⟨R, hR⟩ : ∃ R : Ending → World → Prop, (fun e w' => e = .returned (.bool true) ∧ Kept w w') = R := ⟨_, rfl⟩
  rw [hR]
  have HT : Hid (∀ w', Kept w w' → R (.returned (.bool true)) w') := hid (fun w' k => by rw [← hR]; exact ⟨rfl, k⟩)
  have HS := hid hs
  have HM := hid hM
  have HAL := hid (Mg.alive18_any w)
  clear hs hM hvM hR
  by_cases h1 : 20 < M
  · have d1 : decide ((20 : Int) < (M : Int)) = true := decide_eq_true (by omega)
    go_enter Try.func3, Try.ntmps3
    go_wp2_with fail
    refine HAL.out.mono ?_
    rintro e w1 ⟨rfl, k1⟩
    have HTF := hid (HT.out w1 k1)
    clear k1
    go_wp2_with fail
    exact HTF.out
  · have d1 : decide ((20 : Int) < (M : Int)) = false := decide_eq_false (by omega)
    have hM20 : M ≤ 20 := by omega
    clear h1
    go_enter Try.func3, Try.ntmps3
    go_wp2_with fail
    refine HAL.out.mono ?_
    rintro e w1 ⟨rfl, k1⟩
    have HK1 := hid k1
    clear k1
    go_wp2_with fail
    go_loopw [5, 4] (fun s5 s4 W => ∃ (i n : Nat), i ≤ M ∧ n ≤ 2000 ∧ s5 = .int .i64 (i : Int) ∧ s4 = .int .i64 (n : Int) ∧ Hid (n = cntR (ls.take i).flatten) ∧ Hid (∀ l ∈ ls.take i, FewR l) ∧ Hid (Kept w W)) (fun s5 _ _ => M - (intOf s5).toNat)
    case atStart => exact ⟨0, 0, by omega, by omega, rfl, rfl, hid rfl, hid (fun l hl => by simp at hl), HK1⟩
    case round =>
      clear HK1
      obtain ⟨i, n, hi, hn, rfl, rfl, HCN, HFW, HK⟩ := hrel
      by_cases hlt : i < M
      · have hil : i < ls.length := by have := HM.out; omega
        obtain ⟨bL, oL, a1, c1, rfl, q0, hrin⟩ := lr_cell (HS.out.stay HK.out) HM.out i hlt
        have hft := rflat_take hil
        have HTI : Hid (∀ l, l ∈ ls.take (i + 1) → l ∈ ls.take i ∨ l = ls[i]) := hid (fun l hl => by
          rw [List.take_succ_eq_append_getElem hil] at hl
          rcases List.mem_append.1 hl with hl | hl
          · exact .inl hl
          · exact .inr (List.mem_singleton.1 hl))
        obtain ⟨l, hle⟩ : ∃ l, ls[i] = l := ⟨_, rfl⟩
        rw [hle] at q0 hrin hft HTI
        obtain ⟨N, hN⟩ : ∃ N, l.length = N := ⟨_, rfl⟩
        rw [hN] at q0 hrin
        have HN := hid hN
        have HRI := hid hrin
        have HFT := hid hft
        have hN9 : N ≤ 1000000000000000 := by have := hrin.len; omega
        have HBG := hid (mbig_any wr _ l hrin)
        have HQ := hid q0
        clear hle hN hrin hft
        go_wp2_with fail
        refine HBG.out.mono ?_
        rintro e w2 ⟨⟨B, rfl, hB⟩, k2⟩
        have HB := hid hB
        have HK2 := hid (HK.out.trans k2 (fun _ _ f => f))
        have q1 := each_cell k2 _ _ HQ.out
        have HRI2 := hid (HRI.out.stay k2)
        clear q0 hB k2 HBG
        cases B with
        | true =>
          go_wp2_with fail
          go_loop [7, 4] (fun s7 s4 => ∃ (k : Nat) (z : Int), k ≤ N ∧ s7 = .int .i64 (k : Int) ∧ s4 = .int .i64 z) (fun s7 _ => N - (intOf s7).toNat)
          case atStart => exact ⟨0, _, by omega, rfl, rfl⟩
          case round =>
            obtain ⟨k, z, hk, rfl, rfl⟩ := hrel
            by_cases hkl : k < N
            · obtain ⟨b, o, rfl, p0, p1, hrw⟩ := HRI2.out.cell HN.out k hkl
              generalize l[k]'(by have := HN.out; omega) = x at p0 p1 hrw
              unfold SVc.sv at p1
              have hsl := hrw.sl
              rw [hrw.sn] at hsl
              clear p0 hrw
              go_wp2_with fail
              go_round
              case rel => exact ⟨k + 1, _, by omega, by go_num, rfl⟩
              case measure => simp [intOf]; omega
            · have HTF := hid (HT.out w2 HK2.out)
              go_wp2_with fail
              exact HTF.out
        | false =>
          have HFL := hid (HB.out rfl)
          have hc0 := cntR_few HFL.out
          obtain ⟨C, hC⟩ : ∃ C, cntR l = C := ⟨_, rfl⟩
          rw [hC] at hc0
          have HC := hid hC
          clear hC
          go_wp2_with fail
          go_loop [7, 4] (fun s7 s4 => ∃ (k z : Nat), k ≤ N ∧ z ≤ 4200 ∧ s7 = .int .i64 (k : Int) ∧ s4 = .int .i64 ((n + z : Nat) : Int) ∧ Hid (z = cntR (l.take k))) (fun s7 _ => N - (intOf s7).toNat)
          case atStart => exact ⟨0, 0, by omega, by omega, rfl, rfl, hid rfl⟩
          case round =>
            obtain ⟨k, z, hk, hz, rfl, rfl, HZ⟩ := hrel
            by_cases hkl : k < N
            · obtain ⟨b, o, rfl, p0, p1, hrw⟩ := HRI2.out.cell HN.out k hkl
              have htk : l.take (k + 1) = l.take k ++ [l[k]'(by have := HN.out; omega)] := List.take_succ_eq_append_getElem (by have := HN.out; omega)
              generalize l[k]'(by have := HN.out; omega) = x at p0 p1 hrw htk
              unfold SVc.sv at p1
              have hsn := hrw.sn
              have hz2 : z + (1 + x.sn) = cntR (l.take (k + 1)) := by rw [htk, cntR_snoc, ← HZ.out, hsn]
              have hz3 : z + (1 + x.sn) ≤ 4200 := by
                have h1 := cntR_take l (k + 1)
                have h2 := HC.out
                omega
              have HZ2 := hid hz2
              clear p0 hrw htk hz2 hsn
              go_wp2_with fail
              go_round
              case rel => exact ⟨k + 1, z + (1 + x.sn), by omega, hz3, by go_num, by go_num, HZ2⟩
              case measure => simp [intOf]; omega
            · have hzC : z = C := by
                have h1 := HZ.out
                rw [List.take_of_length_le (by have := HN.out; omega), HC.out] at h1
                exact h1
              subst hzC
              by_cases h2 : 2000 < n + z
              · have d2 : decide ((2000 : Int) < ((n + z : Nat) : Int)) = true := decide_eq_true (by omega)
                have HTF := hid (HT.out w2 HK2.out)
                go_wp2_with fail
                exact HTF.out
              · have d2 : decide ((2000 : Int) < ((n + z : Nat) : Int)) = false := decide_eq_false (by omega)
                have HCN2 : Hid (n + z = cntR (ls.take (i + 1)).flatten) := hid (by rw [HFT.out, cntR_app, ← HCN.out, HC.out])
                have HFW2 : Hid (∀ l ∈ ls.take (i + 1), FewR l) := hid (fun m hm => by
                  rcases HTI.out m hm with h | rfl
                  · exact HFW.out m h
                  · exact HFL.out)
                go_wp2_with fail
                go_roundw
                case rel => exact ⟨i + 1, n + z, by omega, by omega, by go_num, rfl, HCN2, HFW2, HK2⟩
                case measure => simp [intOf]; omega
      · have hsm : Small ls := by
          have e : ls.take i = ls := List.take_of_length_le (by have := HM.out; omega)
          have h1 := HCN.out
          have h2 := HFW.out
          rw [e] at h1 h2
          unfold cntR at h1
          exact ⟨by have := HM.out; omega, h2, by omega, by omega⟩
        have HSM := hid hsm
        have HP := hid (prog_series (HS.out.stay HK.out) hsm)
        obtain ⟨L, hL⟩ : ∃ L, (told ls).length = L := ⟨_, rfl⟩
        have HL := hid hL
        clear hsm hL HCN HFW
        go_wp2_with fail
        refine HP.out.mono ?_
        rintro e w2 ⟨a1, c1, q1, rfl, hat1, hq1, k2⟩
        have HK2 := hid (HK.out.trans k2 (fun _ _ f => f))
        rw [HL.out] at hat1 ⊢
        have HA1 := hid hat1
        have HQ1 := hid hq1
        have HP2 := hid (ref_series (HS.out.stay HK2.out) HSM.out)
        clear hat1 hq1 k2 HP
        go_wp2_with fail
        refine HP2.out.mono ?_
        rintro e w3 ⟨a2, c2, q2, rfl, hat2, hq2, k3⟩
        rw [HL.out] at hat2 ⊢
        have HK3 := hid (HK2.out.trans k3 (fun _ _ f => f))
        have HA1b := hid (HA1.out.stay k3)
        have HSA := hid (same_told HSM.out HA1b.out hat2 HQ1.out hq2)
        clear hat2 hq2 k3 HP2 HA1
        go_wp2_with fail
        refine HSA.out.mono ?_
        rintro e w4 ⟨rfl, k4⟩
        have HK4 := hid (HK3.out.trans k4 (fun _ _ f => f))
        have HWP := hid (wipe_told HSM.out (HA1b.out.stay k4) HQ1.out)
        clear k4 HSA HA1b
        go_wp2_with fail
        refine HWP.out.mono ?_
        rintro e w5 ⟨rfl, k5⟩
        have HK5 : Hid (Kept w w5) := hid (HK4.out.trans k5 (fun j hj e => by have := HK.out.size; omega))
        have HP3 := hid (prog_series (HS.out.stay HK5.out) HSM.out)
        clear k5 HWP HK4 HK3
        go_wp2_with fail
        refine HP3.out.mono ?_
        rintro e w6 ⟨a3, c3, q3, rfl, hat3, hq3, k6⟩
        rw [HL.out] at hat3 ⊢
        have HK6 := hid (HK5.out.trans k6 (fun _ _ f => f))
        have HA3 := hid hat3
        have HQ3 := hid hq3
        have HP4 := hid (ref_series (HS.out.stay HK6.out) HSM.out)
        clear hat3 hq3 k6 HP3 HK5
        go_wp2_with fail
        refine HP4.out.mono ?_
        rintro e w7 ⟨a4, c4, q4, rfl, hat4, hq4, k7⟩
        rw [HL.out] at hat4 ⊢
        have HK7 := hid (HK6.out.trans k7 (fun _ _ f => f))
        have HSA2 := hid (same_told HSM.out (HA3.out.stay k7) hat4 HQ3.out hq4)
        clear hat4 hq4 k7 HP4 HK6
        go_wp2_with fail
        refine HSA2.out.mono ?_
        rintro e w8 ⟨rfl, k8⟩
        have HTF := hid (HT.out w8 (HK7.out.trans k8 (fun _ _ f => f)))
        clear k8
        go_wp2_with fail
        exact HTF.out
end Go.Proofs.Ytcacoanhiphbiaa.Ms
