/-
  Kchk.
-/
import Derived.Test.YtllfanlhgnkcfaaGreatDoorQ41
import Derived.Test.YtllfanlhgnkcfaaGreatDoorQ43
import Derived.Test.YtllfanlhgnkcfaaGreatDoorQ11
import Derived.Test.YtllfanlhgnkcfaaGreatDoorQ34
import Derived.Test.YtllfanlhgnkcfaaGreatDoorQ12
namespace Go.Proofs.YtllfanlhgnkcfaaGreatDoor.K
open Go.RowKit Go.Proofs.Lys Go.Maps Go.Shelf
set_option linter.unusedVariables false
set_option linter.unusedSimpArgs false
attribute [local go_sem] Oper.semAt_some
set_option maxRecDepth 100000 in
set_option maxHeartbeats 1600000 in
theorem rtimes_any (w : World) (v : Value) (l : C.Smps) (hs : SmpSrc w v l) (hl : l.length ≤ 100000) :
  Calls Tryz.prog 36 #[v] w fun e w' => ∃ u, e = .returned u ∧ w'.ownsRow w.heap.size 3 1 u (l.map (·.1)).length ((l.map (·.1)).map (Value.int .i64)) ∧ Kept w w' := by
 obtain ⟨a0, c0, e0⟩ := hs.len
 obtain ⟨L, hL⟩ : ∃ L, l.length = L := ⟨_, rfl⟩
 rw [hL] at e0 hl
 subst e0
 have HS := hid hs
 have HL := hid hL
 clear hs hL
 obtain ⟨R, hR⟩ : ∃ R, (fun (e : Ending) (w' : World) => ∃ u, e = .returned u ∧ w'.ownsRow w.heap.size 3 1 u (l.map (·.1)).length ((l.map (·.1)).map (Value.int .i64)) ∧ Kept w w') = R := ⟨_, rfl⟩
 rw [hR]
 have HRR := hid hR
 clear hR
 go_enter Tryz.func36, Tryz.ntmps36
 go_wp2_with fail
 go_loopw [3, 4] (fun s i wr => ∃ (k : Nat), k ≤ L ∧ i = .int .i64 (k : Int) ∧ wr.ownsRow w.heap.size 3 1 s ((l.take k).map (·.1)).length (((l.take k).map (·.1)).map (Value.int .i64)) ∧ Kept w wr) (fun _ i _ => L - (intOf i).toNat)
 case atStart => exact ⟨0, by omega, rfl, World.ownsRow_nil _ _ _ _, Only.refl _ _⟩
 case round =>
  obtain ⟨k, hk, rfl, ho, kr⟩ := hrel
  by_cases hlt : k < L
  ·have hkl : k < l.length := by have := HL.out; omega
   have hlen : (l.take k).length = k := by rw [List.length_take]; omega
   obtain ⟨b, o, rfl, x0, x1⟩ := (HS.out.stay kr).cell HL.out k hlt
   have eX : (l.take (k + 1)).map (·.1) = (l.take k).map (·.1) ++ [l[k].1] := by rw [List.take_succ_eq_append_getElem hkl, List.map_append]; rfl
   obtain ⟨X, hX⟩ : ∃ X, l[k].1 = X := ⟨_, rfl⟩
   rw [hX] at x0 eX
   obtain ⟨g, cap, w2, Hr, o2, k2⟩ := S.own_num ho kr.size (by rw [List.length_map, hlen]; omega) X
   have HK2 := hid (show Kept w w2 from kr.trans k2 (fun j hj e => by have := (ho.lt j e).1; omega))
   rw [← eX] at o2
   simp only [List.length_map, hlen] at Hr
   have HO2 : Hid (w2.ownsRow w.heap.size 3 1 (.slice (some ⟨g, 0, none⟩) (k + 1) cap) ((l.take (k + 1)).map (·.1)).length (((l.take (k + 1)).map (·.1)).map (Value.int .i64))) := by
    have h9 := o2
    rw [List.length_map, hlen] at h9
    exact h9
   clear o2 ho k2 hX eX x1 kr hlen hkl
   go_wp2_with (at_builtin; refine wpList_append_run rfl _ _ _ rfl rfl rfl Hr ?_)
   go_roundw
   case rel => exact ⟨k + 1, by omega, by go_num, HO2.out, HK2.out⟩
   case measure => simp [intOf]; omega
  ·have e : k = L := by omega
   have HE : Hid (R (.returned u3) wr) := by
    have h2 := ho
    rw [List.take_of_length_le (by have := HL.out; omega)] at h2
    show R _ _
    rw [← HRR.out]
    exact ⟨u3, rfl, h2, kr⟩
   clear ho kr
   go_wp2_with fail
   exact HE.out
theorem cmp_nil {m : N.Labs} (h : m ≠ []) : N.cmpL [] m = -1 := by
 cases m with
 | nil => exact absurd rfl h
 | cons x r => rfl
def ChkP (w : World) (l : List Ser) (e : Ending) (w' : World) : Prop := e = .returned (.int .i64 (checkB l)) ∧ Kept w w'
set_option maxRecDepth 100000 in
set_option maxHeartbeats 6400000 in
theorem rcheck_any (w : World) (v : Value) (l : List Ser) (hs : SerIn w v l) (hl : l.length ≤ 100000) (hB : ∀ s ∈ l, s.1.length ≤ 100000 ∧ N.Small s.1 ∧ s.2.length ≤ 100000) :
  Calls Tryz.prog 13 #[v] w (ChkP w l) := by
 obtain ⟨a, c, rfl⟩ := hs.len
 obtain ⟨N, hN⟩ : ∃ N, l.length = N := ⟨_, rfl⟩
 rw [hN] at hs hl ⊢
 obtain ⟨R, hR⟩ : ∃ R, ChkP w l = R := ⟨_, rfl⟩
 rw [hR]
 have HF : Hid (∀ n w', checkB l = n → Kept w w' → R (.returned (.int .i64 n)) w') := fun n w' h k => by rw [← hR]; exact ⟨by rw [h], k⟩
 clear hR
 by_cases h1 : 1000 < N
 ·have d1 : decide ((1000 : Int) < (N : Int)) = true := decide_eq_true (by omega)
  have HFN := hid (HF.out 2 w (by unfold checkB; rw [if_pos (by omega)]) (Only.refl _ _))
  clear hs hB hN
  go_enter Tryz.func13, Tryz.ntmps13
  go_wp2_with fail
  exact HFN.out
 ·have d1 : decide ((1000 : Int) < (N : Int)) = false := decide_eq_false (by omega)
  have d2 : ¬ 1000 < N := h1
  have hcB : checkB l = checkF [] l := by unfold checkB; rw [if_neg (by omega)]
  rw [hcB] at HF
  clear hcB
  have HS := hid hs
  have HN := hid hN
  have HBB := hid hB
  clear hs hN hB
  go_enter Tryz.func13, Tryz.ntmps13
  go_wp2_with fail
  go_loopw [3] (fun s3 wr => ∃ i : Nat, i ≤ N ∧ s3 = .int .i64 (i : Int) ∧ Hid (checkF [] l = checkF (prevL l i) (l.drop i)) ∧ Kept w wr) (fun s3 _ => N - (intOf s3).toNat)
  case atStart => exact ⟨0, by omega, rfl, hid (by simp [prevL]), Only.refl _ _⟩
  case round =>
   obtain ⟨i, hi, rfl, hck, kr⟩ := hrel
   by_cases hlt : i < N
   ·have hil : i < l.length := by have := HN.out; omega
    obtain ⟨b, o, la, lc, sa, sc, rfl, x0, x1, hl0, hs0⟩ := HS.out.cell HN.out i hlt
    obtain ⟨hB1, hB2, hB3⟩ := HBB.out l[i] (List.getElem_mem hil)
    have HST : Hid (checkF [] l = checkF (prevL l i) (l[i] :: l.drop (i + 1))) := by
     show _ = _
     rw [hck.out, List.drop_eq_getElem_cons hil]
    have HNX : Hid (prevL l (i + 1) = l[i].1) := by
     show _ = _
     unfold prevL
     rw [if_neg (by omega), show i + 1 - 1 = i by omega, List.getD_eq_getElem?_getD, List.getElem?_eq_getElem hil]
     rfl
    have HL0 := hid hl0
    have HS0 := hid hs0
    have HX0 := hid x0
    have HX1 := hid x1
    have y0 := cell_kept kr x0
    have HMK := hid (Go.Proofs.YtllfanlhgnkcfaaGreatDoor.N.rmake_any wr _ l[i].1 (hl0.stay kr) hB1 hB2)
    have HRM := hid (rtimes_any)
    generalize hLN : l[i].1.length = LN at y0 HL0 HX0 hB1 HMK
    generalize hSN : l[i].2.length = SN at HS0 HX1 hB3
    have HLN := hid hLN
    have HSN := hid hSN
    have HB1 := hid hB1
    have HB3 := hid hB3
    have KR := hid kr
    clear hl0 hs0 x0 x1 kr hck hLN hSN hB1 hB2 hB3
    go_wp2_with fail
    refine HMK.out.mono ?_
    rintro e w1 ⟨⟨u, n, rfl, hMA⟩, k1⟩
    have K1 := hid (show Kept w w1 from KR.out.trans k1 (fun _ _ f => f))
    have y1 := cell_kept K1.out HX0.out
    have hsm : ∃ (mm : Go.Proofs.YtllfanlhgnkcfaaGreatDoor.N.Labs) (ML : Nat) (ua : Option Addr) (uc : Nat), u = .slice ua ML uc ∧ Go.Proofs.YtllfanlhgnkcfaaGreatDoor.N.LabSrc w1 u mm ∧ mm.length ≤ 1000 ∧ ((n = 20 ∧ Go.Proofs.YtllfanlhgnkcfaaGreatDoor.N.makeL l[i].1 = none) ∨ (n = 0 ∧ Go.Proofs.YtllfanlhgnkcfaaGreatDoor.N.makeL l[i].1 = some mm)) := by
     cases hm : Go.Proofs.YtllfanlhgnkcfaaGreatDoor.N.makeL l[i].1 with
     | none =>
      rw [hm] at hMA
      obtain ⟨rfl, rfl⟩ := hMA
      exact ⟨[], 0, none, 0, rfl, lab_nil _, by simp, .inl ⟨rfl, rfl⟩⟩
     | some mm =>
      rw [hm] at hMA
      obtain ⟨rfl, hat⟩ := hMA
      obtain ⟨ua, uc, hu⟩ := hat.src.len
      exact ⟨mm, _, ua, uc, hu, hat.src, by have := (Go.Proofs.YtllfanlhgnkcfaaGreatDoor.N.makeL_made hm).len16; omega, .inr ⟨rfl, rfl⟩⟩
    obtain ⟨mm, ML, ua, uc, rfl, hms, hml, hn⟩ := hsm
    have HSA := hid (Go.Proofs.YtllfanlhgnkcfaaGreatDoor.X.rsame_any w1 _ (.slice la LN lc) mm l[i].1 hms (HL0.out.stay K1.out) (by omega) (by rw [HLN.out]; have := HB1.out; omega))
    clear hMA k1 hms hml y0 HMK
    go_wp2_with fail
    refine HSA.out.mono ?_
    rintro e w2 ⟨rfl, hdr⟩
    have K2 := hid (show Kept w w2 from K1.out.trans hdr.kept (fun _ _ f => f))
    clear hdr y1 HSA
    rcases hn with ⟨rfl, hm⟩ | ⟨rfl, hm⟩
    ·have HFN := hid (HF.out 20 w2 (by rw [HST.out]; simp only [checkF]; rw [if_neg (by rw [hm]; simp)]) K2.out)
     clear hm
     go_wp2_with fail
     exact HFN.out
    ·by_cases hme : mm = l[i].1
     ·have hdm : decide (mm = l[i].1) = true := decide_eq_true hme
      rw [hdm]
      have HMM : Hid (Go.Proofs.YtllfanlhgnkcfaaGreatDoor.N.makeL l[i].1 = some l[i].1) := by
       show _ = _
       rw [hm, hme]
      have HNE : Hid (l[i].1 ≠ []) := fun e => by
       have h9 := HMM.out
       rw [e] at h9
       simp [Go.Proofs.YtllfanlhgnkcfaaGreatDoor.N.makeL] at h9
      have HCF : Hid (checkF [] l = if Go.Proofs.YtllfanlhgnkcfaaGreatDoor.N.cmpL (prevL l i) l[i].1 = -1 ∧ l[i].2 ≠ [] then (if timesB (l[i].2.map (·.1)) = true then checkF l[i].1 (l.drop (i + 1)) else 21) else 1) := by
       show _ = _
       rw [HST.out]
       simp only [checkF]
       rw [if_pos HMM.out]
      have K0 := hid (show Kept w w2.drew from K2.out.trans (Only.refl _ _).drew (fun _ _ f => f))
      have HC0 := hid (fun W' (k : Kept w W') => cell_kept k HX0.out)
      have HC1 := hid (fun W' (k : Kept w W') => cell_kept k HX1.out)
      have HTM := hid (fun W (k : Kept w W) => rtimes_any W (.slice sa SN sc) l[i].2 (HS0.out.1.stay k) (by rw [HSN.out]; have := HB3.out; omega))
      clear hm hme hdm
      go_wp2_with fail
      by_cases hz : i = 0
      ·have HCG : Hid (checkF [] l = if l[i].2 ≠ [] then (if timesB (l[i].2.map (·.1)) = true then checkF l[i].1 (l.drop (i + 1)) else 21) else 1) := by
        show _ = _
        have hp : prevL l i = [] := by unfold prevL; rw [if_pos hz]
        rw [HCF.out, hp, cmp_nil HNE.out]
        simp
       have HZ := hid hz
       clear hz
       by_cases hsn : SN = 0
       ·have HFN := hid (fun W (k : Kept w W) => HF.out 1 W (by rw [HCG.out, if_neg (fun h => h (List.length_eq_zero_iff.1 (by rw [HSN.out]; exact hsn)))]) k)
        subst hsn
        refine wp_region_noPanic ?_
        refine wp_region_last (L := 1000) (S := fun w' => Kept w w') (by kernel_rfl) ?_
        refine wpAnyN_take (i := 0) (v := .int .i64 (i : Int)) rfl (by kernel_rfl) (by kernel_rfl) (by kernel_rfl) (by decide) (by kernel_rfl) (fun _ _ _ h => h) (Or.inl ⟨by kernel_rfl, ?_⟩) K0.out ?_
        ·(intro w' hSw; go_simp)
        (try simp only [List.getElem_toArray, List.getElem_cons_succ, List.getElem_cons_zero])
        go_frame
        refine wpAnyN_take (i := 1) (v := .bool false) rfl (by kernel_rfl) (by kernel_rfl) (by kernel_rfl) (by decide) (by kernel_rfl) (fun _ _ _ h => h) (Or.inl ⟨by kernel_rfl, ?_⟩) K0.out ?_
        ·(intro w' hSw; go_simp; (have hz9 := HZ.out; first | omega | (simp; omega)))
        (try simp only [List.getElem_toArray, List.getElem_cons_succ, List.getElem_cons_zero])
        go_frame
        refine wpAnyN_take (i := 2) (v := .bool false) rfl (by kernel_rfl) (by kernel_rfl) (by kernel_rfl) (by decide) (by kernel_rfl) (fun _ _ _ h => h) (Or.inl ⟨by kernel_rfl, ?_⟩) K0.out ?_
        ·(intro w' hSw; go_simp)
        (try simp only [List.getElem_toArray, List.getElem_cons_succ, List.getElem_cons_zero])
        go_frame
        refine wpAnyN_take (i := 3) (v := undef) rfl (by kernel_rfl) (by kernel_rfl) (by kernel_rfl) (by decide) (by kernel_rfl) (fun _ _ _ h => h) (Or.inr ⟨by kernel_rfl, rfl⟩) K0.out ?_
        (try simp only [List.getElem_toArray, List.getElem_cons_succ, List.getElem_cons_zero])
        go_frame
        refine wpAnyN_take (i := 4) (v := undef) rfl (by kernel_rfl) (by kernel_rfl) (by kernel_rfl) (by decide) (by kernel_rfl) (fun _ _ _ h => h) (Or.inr ⟨by kernel_rfl, rfl⟩) K0.out ?_
        (try simp only [List.getElem_toArray, List.getElem_cons_succ, List.getElem_cons_zero])
        go_frame
        refine wpAnyN_take (i := 5) (v := undef) rfl (by kernel_rfl) (by kernel_rfl) (by kernel_rfl) (by decide) (by kernel_rfl) (fun _ _ _ h => h) (Or.inr ⟨by kernel_rfl, rfl⟩) K0.out ?_
        (try simp only [List.getElem_toArray, List.getElem_cons_succ, List.getElem_cons_zero])
        go_frame
        refine wpAnyN_take (i := 6) (v := undef) rfl (by kernel_rfl) (by kernel_rfl) (by kernel_rfl) (by decide) (by kernel_rfl) (fun _ _ _ h => h) (Or.inr ⟨by kernel_rfl, rfl⟩) K0.out ?_
        (try simp only [List.getElem_toArray, List.getElem_cons_succ, List.getElem_cons_zero])
        go_frame
        refine wpAnyN_take (i := 7) (v := undef) rfl (by kernel_rfl) (by kernel_rfl) (by kernel_rfl) (by decide) (by kernel_rfl) (fun _ _ _ h => h) (Or.inr ⟨by kernel_rfl, rfl⟩) K0.out ?_
        (try simp only [List.getElem_toArray, List.getElem_cons_succ, List.getElem_cons_zero])
        go_frame
        refine wpAnyN_take (i := 8) (v := undef) rfl (by kernel_rfl) (by kernel_rfl) (by kernel_rfl) (by decide) (by kernel_rfl) (fun _ _ _ h => h) (Or.inr ⟨by kernel_rfl, rfl⟩) K0.out ?_
        (try simp only [List.getElem_toArray, List.getElem_cons_succ, List.getElem_cons_zero])
        go_frame
        refine wpAnyN_take (i := 9) (v := undef) rfl (by kernel_rfl) (by kernel_rfl) (by kernel_rfl) (by decide) (by kernel_rfl) (fun _ _ _ h => h) (Or.inr ⟨by kernel_rfl, rfl⟩) K0.out ?_
        (try simp only [List.getElem_toArray, List.getElem_cons_succ, List.getElem_cons_zero])
        go_frame
        refine wpAnyN_take (i := 10) (v := undef) rfl (by kernel_rfl) (by kernel_rfl) (by kernel_rfl) (by decide) (by kernel_rfl) (fun _ _ _ h => h) (Or.inr ⟨by kernel_rfl, rfl⟩) K0.out ?_
        (try simp only [List.getElem_toArray, List.getElem_cons_succ, List.getElem_cons_zero])
        go_frame
        refine wpAnyN_take (i := 11) (v := undef) rfl (by kernel_rfl) (by kernel_rfl) (by kernel_rfl) (by decide) (by kernel_rfl) (fun _ _ _ h => h) (Or.inr ⟨by kernel_rfl, rfl⟩) K0.out ?_
        (try simp only [List.getElem_toArray, List.getElem_cons_succ, List.getElem_cons_zero])
        go_frame
        refine wpAnyN_take (i := 12) (v := undef) rfl (by kernel_rfl) (by kernel_rfl) (by kernel_rfl) (by decide) (by kernel_rfl) (fun _ _ _ h => h) (Or.inr ⟨by kernel_rfl, rfl⟩) K0.out ?_
        (try simp only [List.getElem_toArray, List.getElem_cons_succ, List.getElem_cons_zero])
        go_frame
        refine wpAnyN_take (i := 13) (v := undef) rfl (by kernel_rfl) (by kernel_rfl) (by kernel_rfl) (by decide) (by kernel_rfl) (fun _ _ _ h => h) (Or.inr ⟨by kernel_rfl, rfl⟩) K0.out ?_
        (try simp only [List.getElem_toArray, List.getElem_cons_succ, List.getElem_cons_zero])
        go_frame
        refine wpAnyN_take (i := 14) (v := undef) rfl (by kernel_rfl) (by kernel_rfl) (by kernel_rfl) (by decide) (by kernel_rfl) (fun _ _ _ h => h) (Or.inr ⟨by kernel_rfl, rfl⟩) K0.out ?_
        (try simp only [List.getElem_toArray, List.getElem_cons_succ, List.getElem_cons_zero])
        go_frame
        refine wpAnyN_take (i := 15) (v := undef) rfl (by kernel_rfl) (by kernel_rfl) (by kernel_rfl) (by decide) (by kernel_rfl) (fun _ _ _ h => h) (Or.inr ⟨by kernel_rfl, rfl⟩) K0.out ?_
        (try simp only [List.getElem_toArray, List.getElem_cons_succ, List.getElem_cons_zero])
        go_frame
        refine wpAnyN_take (i := 16) (v := .bool false) rfl (by kernel_rfl) (by kernel_rfl) (by kernel_rfl) (by decide) (by kernel_rfl) (fun _ _ _ h => h) (Or.inl ⟨by kernel_rfl, ?_⟩) K0.out ?_
        ·(intro w' hSw; go_simp)
        (try simp only [List.getElem_toArray, List.getElem_cons_succ, List.getElem_cons_zero])
        go_frame
        refine wpAnyN_take (i := 17) (v := .bool false) rfl (by kernel_rfl) (by kernel_rfl) (by kernel_rfl) (by decide) (by kernel_rfl) (fun _ _ _ h => h) (Or.inl ⟨by kernel_rfl, ?_⟩) K0.out ?_
        ·(intro w' hSw; go_simp)
        (try simp only [List.getElem_toArray, List.getElem_cons_succ, List.getElem_cons_zero])
        go_frame
        refine wpAnyN_take (i := 18) (v := .slice (some ⟨b, o, none⟩) N c) rfl (by kernel_rfl) (by kernel_rfl) (by kernel_rfl) (by decide) (by kernel_rfl) (fun _ _ _ h => h) (Or.inl ⟨by kernel_rfl, ?_⟩) K0.out ?_
        ·(intro w' hSw; go_simp)
        (try simp only [List.getElem_toArray, List.getElem_cons_succ, List.getElem_cons_zero])
        go_frame
        refine wpAnyN_take (i := 19) (v := .int .i64 (i : Int)) rfl (by kernel_rfl) (by kernel_rfl) (by kernel_rfl) (by decide) (by kernel_rfl) (fun _ _ _ h => h) (Or.inl ⟨by kernel_rfl, ?_⟩) K0.out ?_
        ·(intro w' hSw; go_simp)
        (try simp only [List.getElem_toArray, List.getElem_cons_succ, List.getElem_cons_zero])
        go_frame
        refine wpAnyN_take (i := 20) (v := .pointer (some ⟨b, o + i * 2, none⟩)) rfl (by kernel_rfl) (by kernel_rfl) (by kernel_rfl) (by decide) (by kernel_rfl) (fun _ _ _ h => h) (Or.inl ⟨by kernel_rfl, ?_⟩) K0.out ?_
        ·(intro w' hSw; go_simp)
        (try simp only [List.getElem_toArray, List.getElem_cons_succ, List.getElem_cons_zero])
        go_frame
        refine wpAnyN_take (i := 21) (v := .pointer (some ⟨b, o + i * 2 + 1, none⟩)) rfl (by kernel_rfl) (by kernel_rfl) (by kernel_rfl) (by decide) (by kernel_rfl) (fun _ _ _ h => h) (Or.inl ⟨by kernel_rfl, ?_⟩) K0.out ?_
        ·(intro w' hSw; go_simp)
        (try simp only [List.getElem_toArray, List.getElem_cons_succ, List.getElem_cons_zero])
        go_frame
        refine wpAnyN_take (i := 22) (v := .slice sa 0 sc) rfl (by kernel_rfl) (by kernel_rfl) (by kernel_rfl) (by decide) (by kernel_rfl) (fun _ _ _ h => h) (Or.inl ⟨by kernel_rfl, ?_⟩) K0.out ?_
        ·(intro w' hSw; have s0 := HC1.out w' hSw; clear hSw; go_simp)
        (try simp only [List.getElem_toArray, List.getElem_cons_succ, List.getElem_cons_zero])
        go_frame
        refine wpAnyN_take (i := 23) (v := .int .i64 (0 : Int)) rfl (by kernel_rfl) (by kernel_rfl) (by kernel_rfl) (by decide) (by kernel_rfl) (fun _ _ _ h => h) (Or.inl ⟨by kernel_rfl, ?_⟩) K0.out ?_
        ·(intro w' hSw; go_simp)
        (try simp only [List.getElem_toArray, List.getElem_cons_succ, List.getElem_cons_zero])
        go_frame
        refine wpAnyN_take (i := 24) (v := .bool true) rfl (by kernel_rfl) (by kernel_rfl) (by kernel_rfl) (by decide) (by kernel_rfl) (fun _ _ _ h => h) (Or.inl ⟨by kernel_rfl, ?_⟩) K0.out ?_
        ·(intro w' hSw; go_simp)
        (try simp only [List.getElem_toArray, List.getElem_cons_succ, List.getElem_cons_zero])
        go_frame
        refine wpAnyN_take (i := 25) (v := .bool true) rfl (by kernel_rfl) (by kernel_rfl) (by kernel_rfl) (by decide) (by kernel_rfl) (fun _ _ _ h => h) (Or.inl ⟨by kernel_rfl, ?_⟩) K0.out ?_
        ·(intro w' hSw; go_simp)
        (try simp only [List.getElem_toArray, List.getElem_cons_succ, List.getElem_cons_zero])
        go_frame
        refine wpAnyN_done (by kernel_rfl) ?_
        refine NoPanic.normal ?_
        go_wp2_with fail
        exact HFN.out _ K0.out
       ·have HCH : Hid (checkF [] l = if timesB (l[i].2.map (·.1)) = true then checkF l[i].1 (l.drop (i + 1)) else 21) := by
         show _ = _
         rw [HCG.out, if_pos (fun e => hsn (by rw [← HSN.out, e]; rfl))]
        have s1 : ((SN : Int) == 0) = false := by simp; omega
        have s2 : ¬ (SN : Int) = 0 := by omega
        refine wp_region_noPanic ?_
        refine wp_region_last (L := 1000) (S := fun w' => Kept w w') (by kernel_rfl) ?_
        refine wpAnyN_take (i := 0) (v := .int .i64 (i : Int)) rfl (by kernel_rfl) (by kernel_rfl) (by kernel_rfl) (by decide) (by kernel_rfl) (fun _ _ _ h => h) (Or.inl ⟨by kernel_rfl, ?_⟩) K0.out ?_
        ·(intro w' hSw; go_simp)
        (try simp only [List.getElem_toArray, List.getElem_cons_succ, List.getElem_cons_zero])
        go_frame
        refine wpAnyN_take (i := 1) (v := .bool false) rfl (by kernel_rfl) (by kernel_rfl) (by kernel_rfl) (by decide) (by kernel_rfl) (fun _ _ _ h => h) (Or.inl ⟨by kernel_rfl, ?_⟩) K0.out ?_
        ·(intro w' hSw; go_simp; (have hz9 := HZ.out; first | omega | (simp; omega)))
        (try simp only [List.getElem_toArray, List.getElem_cons_succ, List.getElem_cons_zero])
        go_frame
        refine wpAnyN_take (i := 2) (v := .bool false) rfl (by kernel_rfl) (by kernel_rfl) (by kernel_rfl) (by decide) (by kernel_rfl) (fun _ _ _ h => h) (Or.inl ⟨by kernel_rfl, ?_⟩) K0.out ?_
        ·(intro w' hSw; go_simp)
        (try simp only [List.getElem_toArray, List.getElem_cons_succ, List.getElem_cons_zero])
        go_frame
        refine wpAnyN_take (i := 3) (v := undef) rfl (by kernel_rfl) (by kernel_rfl) (by kernel_rfl) (by decide) (by kernel_rfl) (fun _ _ _ h => h) (Or.inr ⟨by kernel_rfl, rfl⟩) K0.out ?_
        (try simp only [List.getElem_toArray, List.getElem_cons_succ, List.getElem_cons_zero])
        go_frame
        refine wpAnyN_take (i := 4) (v := undef) rfl (by kernel_rfl) (by kernel_rfl) (by kernel_rfl) (by decide) (by kernel_rfl) (fun _ _ _ h => h) (Or.inr ⟨by kernel_rfl, rfl⟩) K0.out ?_
        (try simp only [List.getElem_toArray, List.getElem_cons_succ, List.getElem_cons_zero])
        go_frame
        refine wpAnyN_take (i := 5) (v := undef) rfl (by kernel_rfl) (by kernel_rfl) (by kernel_rfl) (by decide) (by kernel_rfl) (fun _ _ _ h => h) (Or.inr ⟨by kernel_rfl, rfl⟩) K0.out ?_
        (try simp only [List.getElem_toArray, List.getElem_cons_succ, List.getElem_cons_zero])
        go_frame
        refine wpAnyN_take (i := 6) (v := undef) rfl (by kernel_rfl) (by kernel_rfl) (by kernel_rfl) (by decide) (by kernel_rfl) (fun _ _ _ h => h) (Or.inr ⟨by kernel_rfl, rfl⟩) K0.out ?_
        (try simp only [List.getElem_toArray, List.getElem_cons_succ, List.getElem_cons_zero])
        go_frame
        refine wpAnyN_take (i := 7) (v := undef) rfl (by kernel_rfl) (by kernel_rfl) (by kernel_rfl) (by decide) (by kernel_rfl) (fun _ _ _ h => h) (Or.inr ⟨by kernel_rfl, rfl⟩) K0.out ?_
        (try simp only [List.getElem_toArray, List.getElem_cons_succ, List.getElem_cons_zero])
        go_frame
        refine wpAnyN_take (i := 8) (v := undef) rfl (by kernel_rfl) (by kernel_rfl) (by kernel_rfl) (by decide) (by kernel_rfl) (fun _ _ _ h => h) (Or.inr ⟨by kernel_rfl, rfl⟩) K0.out ?_
        (try simp only [List.getElem_toArray, List.getElem_cons_succ, List.getElem_cons_zero])
        go_frame
        refine wpAnyN_take (i := 9) (v := undef) rfl (by kernel_rfl) (by kernel_rfl) (by kernel_rfl) (by decide) (by kernel_rfl) (fun _ _ _ h => h) (Or.inr ⟨by kernel_rfl, rfl⟩) K0.out ?_
        (try simp only [List.getElem_toArray, List.getElem_cons_succ, List.getElem_cons_zero])
        go_frame
        refine wpAnyN_take (i := 10) (v := undef) rfl (by kernel_rfl) (by kernel_rfl) (by kernel_rfl) (by decide) (by kernel_rfl) (fun _ _ _ h => h) (Or.inr ⟨by kernel_rfl, rfl⟩) K0.out ?_
        (try simp only [List.getElem_toArray, List.getElem_cons_succ, List.getElem_cons_zero])
        go_frame
        refine wpAnyN_take (i := 11) (v := undef) rfl (by kernel_rfl) (by kernel_rfl) (by kernel_rfl) (by decide) (by kernel_rfl) (fun _ _ _ h => h) (Or.inr ⟨by kernel_rfl, rfl⟩) K0.out ?_
        (try simp only [List.getElem_toArray, List.getElem_cons_succ, List.getElem_cons_zero])
        go_frame
        refine wpAnyN_take (i := 12) (v := undef) rfl (by kernel_rfl) (by kernel_rfl) (by kernel_rfl) (by decide) (by kernel_rfl) (fun _ _ _ h => h) (Or.inr ⟨by kernel_rfl, rfl⟩) K0.out ?_
        (try simp only [List.getElem_toArray, List.getElem_cons_succ, List.getElem_cons_zero])
        go_frame
        refine wpAnyN_take (i := 13) (v := undef) rfl (by kernel_rfl) (by kernel_rfl) (by kernel_rfl) (by decide) (by kernel_rfl) (fun _ _ _ h => h) (Or.inr ⟨by kernel_rfl, rfl⟩) K0.out ?_
        (try simp only [List.getElem_toArray, List.getElem_cons_succ, List.getElem_cons_zero])
        go_frame
        refine wpAnyN_take (i := 14) (v := undef) rfl (by kernel_rfl) (by kernel_rfl) (by kernel_rfl) (by decide) (by kernel_rfl) (fun _ _ _ h => h) (Or.inr ⟨by kernel_rfl, rfl⟩) K0.out ?_
        (try simp only [List.getElem_toArray, List.getElem_cons_succ, List.getElem_cons_zero])
        go_frame
        refine wpAnyN_take (i := 15) (v := undef) rfl (by kernel_rfl) (by kernel_rfl) (by kernel_rfl) (by decide) (by kernel_rfl) (fun _ _ _ h => h) (Or.inr ⟨by kernel_rfl, rfl⟩) K0.out ?_
        (try simp only [List.getElem_toArray, List.getElem_cons_succ, List.getElem_cons_zero])
        go_frame
        refine wpAnyN_take (i := 16) (v := .bool false) rfl (by kernel_rfl) (by kernel_rfl) (by kernel_rfl) (by decide) (by kernel_rfl) (fun _ _ _ h => h) (Or.inl ⟨by kernel_rfl, ?_⟩) K0.out ?_
        ·(intro w' hSw; go_simp)
        (try simp only [List.getElem_toArray, List.getElem_cons_succ, List.getElem_cons_zero])
        go_frame
        refine wpAnyN_take (i := 17) (v := .bool false) rfl (by kernel_rfl) (by kernel_rfl) (by kernel_rfl) (by decide) (by kernel_rfl) (fun _ _ _ h => h) (Or.inl ⟨by kernel_rfl, ?_⟩) K0.out ?_
        ·(intro w' hSw; go_simp)
        (try simp only [List.getElem_toArray, List.getElem_cons_succ, List.getElem_cons_zero])
        go_frame
        refine wpAnyN_take (i := 18) (v := .slice (some ⟨b, o, none⟩) N c) rfl (by kernel_rfl) (by kernel_rfl) (by kernel_rfl) (by decide) (by kernel_rfl) (fun _ _ _ h => h) (Or.inl ⟨by kernel_rfl, ?_⟩) K0.out ?_
        ·(intro w' hSw; go_simp)
        (try simp only [List.getElem_toArray, List.getElem_cons_succ, List.getElem_cons_zero])
        go_frame
        refine wpAnyN_take (i := 19) (v := .int .i64 (i : Int)) rfl (by kernel_rfl) (by kernel_rfl) (by kernel_rfl) (by decide) (by kernel_rfl) (fun _ _ _ h => h) (Or.inl ⟨by kernel_rfl, ?_⟩) K0.out ?_
        ·(intro w' hSw; go_simp)
        (try simp only [List.getElem_toArray, List.getElem_cons_succ, List.getElem_cons_zero])
        go_frame
        refine wpAnyN_take (i := 20) (v := .pointer (some ⟨b, o + i * 2, none⟩)) rfl (by kernel_rfl) (by kernel_rfl) (by kernel_rfl) (by decide) (by kernel_rfl) (fun _ _ _ h => h) (Or.inl ⟨by kernel_rfl, ?_⟩) K0.out ?_
        ·(intro w' hSw; go_simp)
        (try simp only [List.getElem_toArray, List.getElem_cons_succ, List.getElem_cons_zero])
        go_frame
        refine wpAnyN_take (i := 21) (v := .pointer (some ⟨b, o + i * 2 + 1, none⟩)) rfl (by kernel_rfl) (by kernel_rfl) (by kernel_rfl) (by decide) (by kernel_rfl) (fun _ _ _ h => h) (Or.inl ⟨by kernel_rfl, ?_⟩) K0.out ?_
        ·(intro w' hSw; go_simp)
        (try simp only [List.getElem_toArray, List.getElem_cons_succ, List.getElem_cons_zero])
        go_frame
        refine wpAnyN_take (i := 22) (v := .slice sa SN sc) rfl (by kernel_rfl) (by kernel_rfl) (by kernel_rfl) (by decide) (by kernel_rfl) (fun _ _ _ h => h) (Or.inl ⟨by kernel_rfl, ?_⟩) K0.out ?_
        ·(intro w' hSw; have s0 := HC1.out w' hSw; clear hSw; go_simp)
        (try simp only [List.getElem_toArray, List.getElem_cons_succ, List.getElem_cons_zero])
        go_frame
        refine wpAnyN_take (i := 23) (v := .int .i64 (SN : Int)) rfl (by kernel_rfl) (by kernel_rfl) (by kernel_rfl) (by decide) (by kernel_rfl) (fun _ _ _ h => h) (Or.inl ⟨by kernel_rfl, ?_⟩) K0.out ?_
        ·(intro w' hSw; go_simp)
        (try simp only [List.getElem_toArray, List.getElem_cons_succ, List.getElem_cons_zero])
        go_frame
        refine wpAnyN_take (i := 24) (v := .bool false) rfl (by kernel_rfl) (by kernel_rfl) (by kernel_rfl) (by decide) (by kernel_rfl) (fun _ _ _ h => h) (Or.inl ⟨by kernel_rfl, ?_⟩) K0.out ?_
        ·(intro w' hSw; go_simp)
        (try simp only [List.getElem_toArray, List.getElem_cons_succ, List.getElem_cons_zero])
        go_frame
        refine wpAnyN_take (i := 25) (v := .bool false) rfl (by kernel_rfl) (by kernel_rfl) (by kernel_rfl) (by decide) (by kernel_rfl) (fun _ _ _ h => h) (Or.inl ⟨by kernel_rfl, ?_⟩) K0.out ?_
        ·(intro w' hSw; go_simp)
        (try simp only [List.getElem_toArray, List.getElem_cons_succ, List.getElem_cons_zero])
        go_frame
        refine wpAnyN_done (by kernel_rfl) ?_
        refine NoPanic.normal ?_
        have K9 := hid K0.out
        have t0 := HC1.out _ K9.out
        go_wp2_with fail
        refine (HTM.out _ K9.out).mono ?_
        rintro e w4 ⟨u, rfl, hu, k4⟩
        have K4 := hid (show Kept w w4 from K9.out.trans k4 (fun _ _ f => f))
        have HRI := hid (S.rrising_any w4 u (l[i].2.map (·.1)) (own_src hu) (by rw [List.length_map, HSN.out]; have := HB3.out; omega))
        obtain ⟨ua, uc, hue⟩ := ownN_slice hu
        generalize (l[i].2.map (·.1)).length = UL at hue
        subst hue
        clear hu k4 t0
        go_wp2_with fail
        refine HRI.out.mono ?_
        rintro e w5 ⟨k5, ⟨rfl, hr⟩ | ⟨rfl, hr⟩⟩
        ·have HFN : Hid (checkF [] l = checkF (prevL l (i + 1)) (l.drop (i + 1))) := by
          show _ = _
          rw [HCH.out, if_pos ((times_iff _).2 hr), HNX.out]
         have K5 := hid (show Kept w w5 from K4.out.trans k5 (fun _ _ f => f))
         clear hr k5
         go_wp2_with fail
         go_roundw
         case rel => exact ⟨i + 1, by omega, by go_num, HFN, K5.out⟩
         case measure => simp [intOf]; omega
        ·have HFN := hid (HF.out 21 w5 (by rw [HCH.out, if_neg (fun h => hr ((times_iff _).1 h))]) (K4.out.trans k5 (fun _ _ f => f)))
         clear hr k5
         go_wp2_with fail
         exact HFN.out
      ·obtain ⟨j, hj⟩ : ∃ j, i = j + 1 := ⟨i - 1, by omega⟩
       have hjl : j < l.length := by omega
       obtain ⟨_, _, lja, ljc, _, _, e2, z0, z1, hlj, z2⟩ := HS.out.cell HN.out j (by omega)
       simp only [Option.some.injEq, Addr.mk.injEq] at e2
       obtain ⟨rfl, rfl, _⟩ := e2
       have hp : prevL l i = l[j].1 := by
        subst hj
        unfold prevL
        rw [if_neg (by omega), show j + 1 - 1 = j by omega, List.getD_eq_getElem?_getD, List.getElem?_eq_getElem hjl]
        rfl
       rw [hp] at HCF
       have hB4 := (HBB.out l[j] (List.getElem_mem hjl)).1
       have HCM := hid (Go.Proofs.YtllfanlhgnkcfaaGreatDoor.N.rcmp_any w2.drew _ (.slice la LN lc) l[j].1 l[i].1 (hlj.stay K0.out) (HL0.out.stay K0.out) (by omega) (by rw [HLN.out]; have := HB1.out; omega))
       have hrg := Go.Proofs.YtllfanlhgnkcfaaGreatDoor.N.cmpL_good.rng l[j].1 l[i].1
       generalize Go.Proofs.YtllfanlhgnkcfaaGreatDoor.N.cmpL l[j].1 l[i].1 = CM at HCM hrg HCF
       generalize l[j].1.length = LJ at z0 hlj HCM hB4
       have HCJ := hid (fun W' (k : Kept w W') => cell_kept k z0)
       have i1 : (i : Int) - 1 = (j : Int) := by omega
       have i3 : decide ((0 : Int) < (i : Int)) = true := decide_eq_true (by omega)
       have i4 : 0 < i := by omega
       have i5 : j < N := by omega
       have HJ := hid hj
       clear z0 z1 z2 hlj hp hB4 hjl hj hz
       by_cases hcm : CM = -1
       ·subst hcm
        clear hrg
        by_cases hsn : SN = 0
        ·have HFN := hid (fun W (k : Kept w W) => HF.out 1 W (by rw [HCF.out, if_neg (fun h => h.2 (List.length_eq_zero_iff.1 (by rw [HSN.out]; exact hsn)))]) k)
         subst hsn
         refine wp_region_noPanic ?_
         refine wp_region_last (L := 1000) (S := fun w' => Kept w w') (by kernel_rfl) ?_
         refine wpAnyN_take (i := 0) (v := .int .i64 (i : Int)) rfl (by kernel_rfl) (by kernel_rfl) (by kernel_rfl) (by decide) (by kernel_rfl) (fun _ _ _ h => h) (Or.inl ⟨by kernel_rfl, ?_⟩) K0.out ?_
         ·(intro w' hSw; go_simp)
         (try simp only [List.getElem_toArray, List.getElem_cons_succ, List.getElem_cons_zero])
         go_frame
         refine wpAnyN_take (i := 1) (v := .bool true) rfl (by kernel_rfl) (by kernel_rfl) (by kernel_rfl) (by decide) (by kernel_rfl) (fun _ _ _ h => h) (Or.inl ⟨by kernel_rfl, ?_⟩) K0.out ?_
         ·(intro w' hSw; go_simp)
         (try simp only [List.getElem_toArray, List.getElem_cons_succ, List.getElem_cons_zero])
         go_frame
         refine wpAnyN_take (i := 2) (v := .bool true) rfl (by kernel_rfl) (by kernel_rfl) (by kernel_rfl) (by decide) (by kernel_rfl) (fun _ _ _ h => h) (Or.inl ⟨by kernel_rfl, ?_⟩) K0.out ?_
         ·(intro w' hSw; go_simp)
         (try simp only [List.getElem_toArray, List.getElem_cons_succ, List.getElem_cons_zero])
         go_frame
         refine wpAnyN_take (i := 3) (v := .slice (some ⟨b, o, none⟩) N c) rfl (by kernel_rfl) (by kernel_rfl) (by kernel_rfl) (by decide) (by kernel_rfl) (fun _ _ _ h => h) (Or.inl ⟨by kernel_rfl, ?_⟩) K0.out ?_
         ·(intro w' hSw; go_simp)
         (try simp only [List.getElem_toArray, List.getElem_cons_succ, List.getElem_cons_zero])
         go_frame
         refine wpAnyN_take (i := 4) (v := .int .i64 (i : Int)) rfl (by kernel_rfl) (by kernel_rfl) (by kernel_rfl) (by decide) (by kernel_rfl) (fun _ _ _ h => h) (Or.inl ⟨by kernel_rfl, ?_⟩) K0.out ?_
         ·(intro w' hSw; go_simp)
         (try simp only [List.getElem_toArray, List.getElem_cons_succ, List.getElem_cons_zero])
         go_frame
         refine wpAnyN_take (i := 5) (v := .int .i64 (j : Int)) rfl (by kernel_rfl) (by kernel_rfl) (by kernel_rfl) (by decide) (by kernel_rfl) (fun _ _ _ h => h) (Or.inl ⟨by kernel_rfl, ?_⟩) K0.out ?_
         ·(intro w' hSw; go_simp; (rw [IntKind.wrap_i64]; omega))
         (try simp only [List.getElem_toArray, List.getElem_cons_succ, List.getElem_cons_zero])
         go_frame
         refine wpAnyN_take (i := 6) (v := .pointer (some ⟨b, o + j * 2, none⟩)) rfl (by kernel_rfl) (by kernel_rfl) (by kernel_rfl) (by decide) (by kernel_rfl) (fun _ _ _ h => h) (Or.inl ⟨by kernel_rfl, ?_⟩) K0.out ?_
         ·(intro w' hSw; go_simp)
         (try simp only [List.getElem_toArray, List.getElem_cons_succ, List.getElem_cons_zero])
         go_frame
         refine wpAnyN_take (i := 7) (v := .pointer (some ⟨b, o + j * 2, none⟩)) rfl (by kernel_rfl) (by kernel_rfl) (by kernel_rfl) (by decide) (by kernel_rfl) (fun _ _ _ h => h) (Or.inl ⟨by kernel_rfl, ?_⟩) K0.out ?_
         ·(intro w' hSw; go_simp)
         (try simp only [List.getElem_toArray, List.getElem_cons_succ, List.getElem_cons_zero])
         go_frame
         refine wpAnyN_take (i := 8) (v := .slice lja LJ ljc) rfl (by kernel_rfl) (by kernel_rfl) (by kernel_rfl) (by decide) (by kernel_rfl) (fun _ _ _ h => h) (Or.inl ⟨by kernel_rfl, ?_⟩) K0.out ?_
         ·(intro w' hSw; have s0 := HCJ.out w' hSw; clear hSw; go_simp)
         (try simp only [List.getElem_toArray, List.getElem_cons_succ, List.getElem_cons_zero])
         go_frame
         refine wpAnyN_take (i := 9) (v := .slice (some ⟨b, o, none⟩) N c) rfl (by kernel_rfl) (by kernel_rfl) (by kernel_rfl) (by decide) (by kernel_rfl) (fun _ _ _ h => h) (Or.inl ⟨by kernel_rfl, ?_⟩) K0.out ?_
         ·(intro w' hSw; go_simp)
         (try simp only [List.getElem_toArray, List.getElem_cons_succ, List.getElem_cons_zero])
         go_frame
         refine wpAnyN_take (i := 10) (v := .int .i64 (i : Int)) rfl (by kernel_rfl) (by kernel_rfl) (by kernel_rfl) (by decide) (by kernel_rfl) (fun _ _ _ h => h) (Or.inl ⟨by kernel_rfl, ?_⟩) K0.out ?_
         ·(intro w' hSw; go_simp)
         (try simp only [List.getElem_toArray, List.getElem_cons_succ, List.getElem_cons_zero])
         go_frame
         refine wpAnyN_take (i := 11) (v := .pointer (some ⟨b, o + i * 2, none⟩)) rfl (by kernel_rfl) (by kernel_rfl) (by kernel_rfl) (by decide) (by kernel_rfl) (fun _ _ _ h => h) (Or.inl ⟨by kernel_rfl, ?_⟩) K0.out ?_
         ·(intro w' hSw; go_simp)
         (try simp only [List.getElem_toArray, List.getElem_cons_succ, List.getElem_cons_zero])
         go_frame
         refine wpAnyN_take (i := 12) (v := .pointer (some ⟨b, o + i * 2, none⟩)) rfl (by kernel_rfl) (by kernel_rfl) (by kernel_rfl) (by decide) (by kernel_rfl) (fun _ _ _ h => h) (Or.inl ⟨by kernel_rfl, ?_⟩) K0.out ?_
         ·(intro w' hSw; go_simp)
         (try simp only [List.getElem_toArray, List.getElem_cons_succ, List.getElem_cons_zero])
         go_frame
         refine wpAnyN_take (i := 13) (v := .slice la LN lc) rfl (by kernel_rfl) (by kernel_rfl) (by kernel_rfl) (by decide) (by kernel_rfl) (fun _ _ _ h => h) (Or.inl ⟨by kernel_rfl, ?_⟩) K0.out ?_
         ·(intro w' hSw; have s0 := HC0.out w' hSw; clear hSw; go_simp)
         (try simp only [List.getElem_toArray, List.getElem_cons_succ, List.getElem_cons_zero])
         go_frame
         refine wpAnyL_one (i := 14) (by kernel_rfl) rfl (by kernel_rfl) ?_
         go_simp
         refine HCM.out.mono ?_
         rintro e w3 ⟨rfl, k3⟩
         have K9 := hid (show Kept w w3 from K0.out.trans k3 (fun _ _ f => f))
         clear k3
         refine ⟨K9.out, ?_⟩
         (try go_frame)
         refine wpAnyN_take (i := 15) (v := .bool false) rfl (by kernel_rfl) (by kernel_rfl) (by kernel_rfl) (by decide) (by kernel_rfl) (fun _ _ _ h => h) (Or.inl ⟨by kernel_rfl, ?_⟩) K9.out ?_
         ·(intro w' hSw; go_simp)
         (try simp only [List.getElem_toArray, List.getElem_cons_succ, List.getElem_cons_zero])
         go_frame
         refine wpAnyN_take (i := 16) (v := .bool false) rfl (by kernel_rfl) (by kernel_rfl) (by kernel_rfl) (by decide) (by kernel_rfl) (fun _ _ _ h => h) (Or.inl ⟨by kernel_rfl, ?_⟩) K9.out ?_
         ·(intro w' hSw; go_simp)
         (try simp only [List.getElem_toArray, List.getElem_cons_succ, List.getElem_cons_zero])
         go_frame
         refine wpAnyN_take (i := 17) (v := .bool false) rfl (by kernel_rfl) (by kernel_rfl) (by kernel_rfl) (by decide) (by kernel_rfl) (fun _ _ _ h => h) (Or.inl ⟨by kernel_rfl, ?_⟩) K9.out ?_
         ·(intro w' hSw; go_simp)
         (try simp only [List.getElem_toArray, List.getElem_cons_succ, List.getElem_cons_zero])
         go_frame
         refine wpAnyN_take (i := 18) (v := .slice (some ⟨b, o, none⟩) N c) rfl (by kernel_rfl) (by kernel_rfl) (by kernel_rfl) (by decide) (by kernel_rfl) (fun _ _ _ h => h) (Or.inl ⟨by kernel_rfl, ?_⟩) K9.out ?_
         ·(intro w' hSw; go_simp)
         (try simp only [List.getElem_toArray, List.getElem_cons_succ, List.getElem_cons_zero])
         go_frame
         refine wpAnyN_take (i := 19) (v := .int .i64 (i : Int)) rfl (by kernel_rfl) (by kernel_rfl) (by kernel_rfl) (by decide) (by kernel_rfl) (fun _ _ _ h => h) (Or.inl ⟨by kernel_rfl, ?_⟩) K9.out ?_
         ·(intro w' hSw; go_simp)
         (try simp only [List.getElem_toArray, List.getElem_cons_succ, List.getElem_cons_zero])
         go_frame
         refine wpAnyN_take (i := 20) (v := .pointer (some ⟨b, o + i * 2, none⟩)) rfl (by kernel_rfl) (by kernel_rfl) (by kernel_rfl) (by decide) (by kernel_rfl) (fun _ _ _ h => h) (Or.inl ⟨by kernel_rfl, ?_⟩) K9.out ?_
         ·(intro w' hSw; go_simp)
         (try simp only [List.getElem_toArray, List.getElem_cons_succ, List.getElem_cons_zero])
         go_frame
         refine wpAnyN_take (i := 21) (v := .pointer (some ⟨b, o + i * 2 + 1, none⟩)) rfl (by kernel_rfl) (by kernel_rfl) (by kernel_rfl) (by decide) (by kernel_rfl) (fun _ _ _ h => h) (Or.inl ⟨by kernel_rfl, ?_⟩) K9.out ?_
         ·(intro w' hSw; go_simp)
         (try simp only [List.getElem_toArray, List.getElem_cons_succ, List.getElem_cons_zero])
         go_frame
         refine wpAnyN_take (i := 22) (v := .slice sa 0 sc) rfl (by kernel_rfl) (by kernel_rfl) (by kernel_rfl) (by decide) (by kernel_rfl) (fun _ _ _ h => h) (Or.inl ⟨by kernel_rfl, ?_⟩) K9.out ?_
         ·(intro w' hSw; have s0 := HC1.out w' hSw; clear hSw; go_simp)
         (try simp only [List.getElem_toArray, List.getElem_cons_succ, List.getElem_cons_zero])
         go_frame
         refine wpAnyN_take (i := 23) (v := .int .i64 (0 : Int)) rfl (by kernel_rfl) (by kernel_rfl) (by kernel_rfl) (by decide) (by kernel_rfl) (fun _ _ _ h => h) (Or.inl ⟨by kernel_rfl, ?_⟩) K9.out ?_
         ·(intro w' hSw; go_simp)
         (try simp only [List.getElem_toArray, List.getElem_cons_succ, List.getElem_cons_zero])
         go_frame
         refine wpAnyN_take (i := 24) (v := .bool true) rfl (by kernel_rfl) (by kernel_rfl) (by kernel_rfl) (by decide) (by kernel_rfl) (fun _ _ _ h => h) (Or.inl ⟨by kernel_rfl, ?_⟩) K9.out ?_
         ·(intro w' hSw; go_simp)
         (try simp only [List.getElem_toArray, List.getElem_cons_succ, List.getElem_cons_zero])
         go_frame
         refine wpAnyN_take (i := 25) (v := .bool true) rfl (by kernel_rfl) (by kernel_rfl) (by kernel_rfl) (by decide) (by kernel_rfl) (fun _ _ _ h => h) (Or.inl ⟨by kernel_rfl, ?_⟩) K9.out ?_
         ·(intro w' hSw; go_simp)
         (try simp only [List.getElem_toArray, List.getElem_cons_succ, List.getElem_cons_zero])
         go_frame
         refine wpAnyN_done (by kernel_rfl) ?_
         refine NoPanic.normal ?_
         go_wp2_with fail
         exact HFN.out _ K9.out
        ·have HCH : Hid (checkF [] l = if timesB (l[i].2.map (·.1)) = true then checkF l[i].1 (l.drop (i + 1)) else 21) := by
          show _ = _
          rw [HCF.out, if_pos ⟨rfl, fun e => hsn (by rw [← HSN.out, e]; rfl)⟩]
         have s1 : ((SN : Int) == 0) = false := by simp; omega
         have s2 : ¬ (SN : Int) = 0 := by omega
         refine wp_region_noPanic ?_
         refine wp_region_last (L := 1000) (S := fun w' => Kept w w') (by kernel_rfl) ?_
         refine wpAnyN_take (i := 0) (v := .int .i64 (i : Int)) rfl (by kernel_rfl) (by kernel_rfl) (by kernel_rfl) (by decide) (by kernel_rfl) (fun _ _ _ h => h) (Or.inl ⟨by kernel_rfl, ?_⟩) K0.out ?_
         ·(intro w' hSw; go_simp)
         (try simp only [List.getElem_toArray, List.getElem_cons_succ, List.getElem_cons_zero])
         go_frame
         refine wpAnyN_take (i := 1) (v := .bool true) rfl (by kernel_rfl) (by kernel_rfl) (by kernel_rfl) (by decide) (by kernel_rfl) (fun _ _ _ h => h) (Or.inl ⟨by kernel_rfl, ?_⟩) K0.out ?_
         ·(intro w' hSw; go_simp)
         (try simp only [List.getElem_toArray, List.getElem_cons_succ, List.getElem_cons_zero])
         go_frame
         refine wpAnyN_take (i := 2) (v := .bool true) rfl (by kernel_rfl) (by kernel_rfl) (by kernel_rfl) (by decide) (by kernel_rfl) (fun _ _ _ h => h) (Or.inl ⟨by kernel_rfl, ?_⟩) K0.out ?_
         ·(intro w' hSw; go_simp)
         (try simp only [List.getElem_toArray, List.getElem_cons_succ, List.getElem_cons_zero])
         go_frame
         refine wpAnyN_take (i := 3) (v := .slice (some ⟨b, o, none⟩) N c) rfl (by kernel_rfl) (by kernel_rfl) (by kernel_rfl) (by decide) (by kernel_rfl) (fun _ _ _ h => h) (Or.inl ⟨by kernel_rfl, ?_⟩) K0.out ?_
         ·(intro w' hSw; go_simp)
         (try simp only [List.getElem_toArray, List.getElem_cons_succ, List.getElem_cons_zero])
         go_frame
         refine wpAnyN_take (i := 4) (v := .int .i64 (i : Int)) rfl (by kernel_rfl) (by kernel_rfl) (by kernel_rfl) (by decide) (by kernel_rfl) (fun _ _ _ h => h) (Or.inl ⟨by kernel_rfl, ?_⟩) K0.out ?_
         ·(intro w' hSw; go_simp)
         (try simp only [List.getElem_toArray, List.getElem_cons_succ, List.getElem_cons_zero])
         go_frame
         refine wpAnyN_take (i := 5) (v := .int .i64 (j : Int)) rfl (by kernel_rfl) (by kernel_rfl) (by kernel_rfl) (by decide) (by kernel_rfl) (fun _ _ _ h => h) (Or.inl ⟨by kernel_rfl, ?_⟩) K0.out ?_
         ·(intro w' hSw; go_simp; (rw [IntKind.wrap_i64]; omega))
         (try simp only [List.getElem_toArray, List.getElem_cons_succ, List.getElem_cons_zero])
         go_frame
         refine wpAnyN_take (i := 6) (v := .pointer (some ⟨b, o + j * 2, none⟩)) rfl (by kernel_rfl) (by kernel_rfl) (by kernel_rfl) (by decide) (by kernel_rfl) (fun _ _ _ h => h) (Or.inl ⟨by kernel_rfl, ?_⟩) K0.out ?_
         ·(intro w' hSw; go_simp)
         (try simp only [List.getElem_toArray, List.getElem_cons_succ, List.getElem_cons_zero])
         go_frame
         refine wpAnyN_take (i := 7) (v := .pointer (some ⟨b, o + j * 2, none⟩)) rfl (by kernel_rfl) (by kernel_rfl) (by kernel_rfl) (by decide) (by kernel_rfl) (fun _ _ _ h => h) (Or.inl ⟨by kernel_rfl, ?_⟩) K0.out ?_
         ·(intro w' hSw; go_simp)
         (try simp only [List.getElem_toArray, List.getElem_cons_succ, List.getElem_cons_zero])
         go_frame
         refine wpAnyN_take (i := 8) (v := .slice lja LJ ljc) rfl (by kernel_rfl) (by kernel_rfl) (by kernel_rfl) (by decide) (by kernel_rfl) (fun _ _ _ h => h) (Or.inl ⟨by kernel_rfl, ?_⟩) K0.out ?_
         ·(intro w' hSw; have s0 := HCJ.out w' hSw; clear hSw; go_simp)
         (try simp only [List.getElem_toArray, List.getElem_cons_succ, List.getElem_cons_zero])
         go_frame
         refine wpAnyN_take (i := 9) (v := .slice (some ⟨b, o, none⟩) N c) rfl (by kernel_rfl) (by kernel_rfl) (by kernel_rfl) (by decide) (by kernel_rfl) (fun _ _ _ h => h) (Or.inl ⟨by kernel_rfl, ?_⟩) K0.out ?_
         ·(intro w' hSw; go_simp)
         (try simp only [List.getElem_toArray, List.getElem_cons_succ, List.getElem_cons_zero])
         go_frame
         refine wpAnyN_take (i := 10) (v := .int .i64 (i : Int)) rfl (by kernel_rfl) (by kernel_rfl) (by kernel_rfl) (by decide) (by kernel_rfl) (fun _ _ _ h => h) (Or.inl ⟨by kernel_rfl, ?_⟩) K0.out ?_
         ·(intro w' hSw; go_simp)
         (try simp only [List.getElem_toArray, List.getElem_cons_succ, List.getElem_cons_zero])
         go_frame
         refine wpAnyN_take (i := 11) (v := .pointer (some ⟨b, o + i * 2, none⟩)) rfl (by kernel_rfl) (by kernel_rfl) (by kernel_rfl) (by decide) (by kernel_rfl) (fun _ _ _ h => h) (Or.inl ⟨by kernel_rfl, ?_⟩) K0.out ?_
         ·(intro w' hSw; go_simp)
         (try simp only [List.getElem_toArray, List.getElem_cons_succ, List.getElem_cons_zero])
         go_frame
         refine wpAnyN_take (i := 12) (v := .pointer (some ⟨b, o + i * 2, none⟩)) rfl (by kernel_rfl) (by kernel_rfl) (by kernel_rfl) (by decide) (by kernel_rfl) (fun _ _ _ h => h) (Or.inl ⟨by kernel_rfl, ?_⟩) K0.out ?_
         ·(intro w' hSw; go_simp)
         (try simp only [List.getElem_toArray, List.getElem_cons_succ, List.getElem_cons_zero])
         go_frame
         refine wpAnyN_take (i := 13) (v := .slice la LN lc) rfl (by kernel_rfl) (by kernel_rfl) (by kernel_rfl) (by decide) (by kernel_rfl) (fun _ _ _ h => h) (Or.inl ⟨by kernel_rfl, ?_⟩) K0.out ?_
         ·(intro w' hSw; have s0 := HC0.out w' hSw; clear hSw; go_simp)
         (try simp only [List.getElem_toArray, List.getElem_cons_succ, List.getElem_cons_zero])
         go_frame
         refine wpAnyL_one (i := 14) (by kernel_rfl) rfl (by kernel_rfl) ?_
         go_simp
         refine HCM.out.mono ?_
         rintro e w3 ⟨rfl, k3⟩
         have K9 := hid (show Kept w w3 from K0.out.trans k3 (fun _ _ f => f))
         clear k3
         refine ⟨K9.out, ?_⟩
         (try go_frame)
         refine wpAnyN_take (i := 15) (v := .bool false) rfl (by kernel_rfl) (by kernel_rfl) (by kernel_rfl) (by decide) (by kernel_rfl) (fun _ _ _ h => h) (Or.inl ⟨by kernel_rfl, ?_⟩) K9.out ?_
         ·(intro w' hSw; go_simp)
         (try simp only [List.getElem_toArray, List.getElem_cons_succ, List.getElem_cons_zero])
         go_frame
         refine wpAnyN_take (i := 16) (v := .bool false) rfl (by kernel_rfl) (by kernel_rfl) (by kernel_rfl) (by decide) (by kernel_rfl) (fun _ _ _ h => h) (Or.inl ⟨by kernel_rfl, ?_⟩) K9.out ?_
         ·(intro w' hSw; go_simp)
         (try simp only [List.getElem_toArray, List.getElem_cons_succ, List.getElem_cons_zero])
         go_frame
         refine wpAnyN_take (i := 17) (v := .bool false) rfl (by kernel_rfl) (by kernel_rfl) (by kernel_rfl) (by decide) (by kernel_rfl) (fun _ _ _ h => h) (Or.inl ⟨by kernel_rfl, ?_⟩) K9.out ?_
         ·(intro w' hSw; go_simp)
         (try simp only [List.getElem_toArray, List.getElem_cons_succ, List.getElem_cons_zero])
         go_frame
         refine wpAnyN_take (i := 18) (v := .slice (some ⟨b, o, none⟩) N c) rfl (by kernel_rfl) (by kernel_rfl) (by kernel_rfl) (by decide) (by kernel_rfl) (fun _ _ _ h => h) (Or.inl ⟨by kernel_rfl, ?_⟩) K9.out ?_
         ·(intro w' hSw; go_simp)
         (try simp only [List.getElem_toArray, List.getElem_cons_succ, List.getElem_cons_zero])
         go_frame
         refine wpAnyN_take (i := 19) (v := .int .i64 (i : Int)) rfl (by kernel_rfl) (by kernel_rfl) (by kernel_rfl) (by decide) (by kernel_rfl) (fun _ _ _ h => h) (Or.inl ⟨by kernel_rfl, ?_⟩) K9.out ?_
         ·(intro w' hSw; go_simp)
         (try simp only [List.getElem_toArray, List.getElem_cons_succ, List.getElem_cons_zero])
         go_frame
         refine wpAnyN_take (i := 20) (v := .pointer (some ⟨b, o + i * 2, none⟩)) rfl (by kernel_rfl) (by kernel_rfl) (by kernel_rfl) (by decide) (by kernel_rfl) (fun _ _ _ h => h) (Or.inl ⟨by kernel_rfl, ?_⟩) K9.out ?_
         ·(intro w' hSw; go_simp)
         (try simp only [List.getElem_toArray, List.getElem_cons_succ, List.getElem_cons_zero])
         go_frame
         refine wpAnyN_take (i := 21) (v := .pointer (some ⟨b, o + i * 2 + 1, none⟩)) rfl (by kernel_rfl) (by kernel_rfl) (by kernel_rfl) (by decide) (by kernel_rfl) (fun _ _ _ h => h) (Or.inl ⟨by kernel_rfl, ?_⟩) K9.out ?_
         ·(intro w' hSw; go_simp)
         (try simp only [List.getElem_toArray, List.getElem_cons_succ, List.getElem_cons_zero])
         go_frame
         refine wpAnyN_take (i := 22) (v := .slice sa SN sc) rfl (by kernel_rfl) (by kernel_rfl) (by kernel_rfl) (by decide) (by kernel_rfl) (fun _ _ _ h => h) (Or.inl ⟨by kernel_rfl, ?_⟩) K9.out ?_
         ·(intro w' hSw; have s0 := HC1.out w' hSw; clear hSw; go_simp)
         (try simp only [List.getElem_toArray, List.getElem_cons_succ, List.getElem_cons_zero])
         go_frame
         refine wpAnyN_take (i := 23) (v := .int .i64 (SN : Int)) rfl (by kernel_rfl) (by kernel_rfl) (by kernel_rfl) (by decide) (by kernel_rfl) (fun _ _ _ h => h) (Or.inl ⟨by kernel_rfl, ?_⟩) K9.out ?_
         ·(intro w' hSw; go_simp)
         (try simp only [List.getElem_toArray, List.getElem_cons_succ, List.getElem_cons_zero])
         go_frame
         refine wpAnyN_take (i := 24) (v := .bool false) rfl (by kernel_rfl) (by kernel_rfl) (by kernel_rfl) (by decide) (by kernel_rfl) (fun _ _ _ h => h) (Or.inl ⟨by kernel_rfl, ?_⟩) K9.out ?_
         ·(intro w' hSw; go_simp)
         (try simp only [List.getElem_toArray, List.getElem_cons_succ, List.getElem_cons_zero])
         go_frame
         refine wpAnyN_take (i := 25) (v := .bool false) rfl (by kernel_rfl) (by kernel_rfl) (by kernel_rfl) (by decide) (by kernel_rfl) (fun _ _ _ h => h) (Or.inl ⟨by kernel_rfl, ?_⟩) K9.out ?_
         ·(intro w' hSw; go_simp)
         (try simp only [List.getElem_toArray, List.getElem_cons_succ, List.getElem_cons_zero])
         go_frame
         refine wpAnyN_done (by kernel_rfl) ?_
         refine NoPanic.normal ?_
         have t0 := HC1.out _ K9.out
         go_wp2_with fail
         refine (HTM.out _ K9.out).mono ?_
         rintro e w4 ⟨u, rfl, hu, k4⟩
         have K4 := hid (show Kept w w4 from K9.out.trans k4 (fun _ _ f => f))
         have HRI := hid (S.rrising_any w4 u (l[i].2.map (·.1)) (own_src hu) (by rw [List.length_map, HSN.out]; have := HB3.out; omega))
         obtain ⟨ua, uc, hue⟩ := ownN_slice hu
         generalize (l[i].2.map (·.1)).length = UL at hue
         subst hue
         clear hu k4 t0
         go_wp2_with fail
         refine HRI.out.mono ?_
         rintro e w5 ⟨k5, ⟨rfl, hr⟩ | ⟨rfl, hr⟩⟩
         ·have HFN : Hid (checkF [] l = checkF (prevL l (i + 1)) (l.drop (i + 1))) := by
           show _ = _
           rw [HCH.out, if_pos ((times_iff _).2 hr), HNX.out]
          have K5 := hid (show Kept w w5 from K4.out.trans k5 (fun _ _ f => f))
          clear hr k5
          go_wp2_with fail
          go_roundw
          case rel => exact ⟨i + 1, by omega, by go_num, HFN, K5.out⟩
          case measure => simp [intOf]; omega
         ·have HFN := hid (HF.out 21 w5 (by rw [HCH.out, if_neg (fun h => hr ((times_iff _).1 h))]) (K4.out.trans k5 (fun _ _ f => f)))
          clear hr k5
          go_wp2_with fail
          exact HFN.out
       ·have HFN := hid (fun W (k : Kept w W) => HF.out 1 W (by rw [HCF.out, if_neg (fun h => hcm h.1)]) k)
        have hc0 : 0 ≤ CM := by omega
        have hc1 : decide (CM < 0) = false := decide_eq_false (by omega)
        have hc2 : decide (0 ≤ CM) = true := decide_eq_true (by omega)
        have hc3 : ¬ CM < 0 := by omega
        refine wp_region_noPanic ?_
        refine wp_region_last (L := 1000) (S := fun w' => Kept w w') (by kernel_rfl) ?_
        refine wpAnyN_take (i := 0) (v := .int .i64 (i : Int)) rfl (by kernel_rfl) (by kernel_rfl) (by kernel_rfl) (by decide) (by kernel_rfl) (fun _ _ _ h => h) (Or.inl ⟨by kernel_rfl, ?_⟩) K0.out ?_
        ·(intro w' hSw; go_simp)
        (try simp only [List.getElem_toArray, List.getElem_cons_succ, List.getElem_cons_zero])
        go_frame
        refine wpAnyN_take (i := 1) (v := .bool true) rfl (by kernel_rfl) (by kernel_rfl) (by kernel_rfl) (by decide) (by kernel_rfl) (fun _ _ _ h => h) (Or.inl ⟨by kernel_rfl, ?_⟩) K0.out ?_
        ·(intro w' hSw; go_simp)
        (try simp only [List.getElem_toArray, List.getElem_cons_succ, List.getElem_cons_zero])
        go_frame
        refine wpAnyN_take (i := 2) (v := .bool true) rfl (by kernel_rfl) (by kernel_rfl) (by kernel_rfl) (by decide) (by kernel_rfl) (fun _ _ _ h => h) (Or.inl ⟨by kernel_rfl, ?_⟩) K0.out ?_
        ·(intro w' hSw; go_simp)
        (try simp only [List.getElem_toArray, List.getElem_cons_succ, List.getElem_cons_zero])
        go_frame
        refine wpAnyN_take (i := 3) (v := .slice (some ⟨b, o, none⟩) N c) rfl (by kernel_rfl) (by kernel_rfl) (by kernel_rfl) (by decide) (by kernel_rfl) (fun _ _ _ h => h) (Or.inl ⟨by kernel_rfl, ?_⟩) K0.out ?_
        ·(intro w' hSw; go_simp)
        (try simp only [List.getElem_toArray, List.getElem_cons_succ, List.getElem_cons_zero])
        go_frame
        refine wpAnyN_take (i := 4) (v := .int .i64 (i : Int)) rfl (by kernel_rfl) (by kernel_rfl) (by kernel_rfl) (by decide) (by kernel_rfl) (fun _ _ _ h => h) (Or.inl ⟨by kernel_rfl, ?_⟩) K0.out ?_
        ·(intro w' hSw; go_simp)
        (try simp only [List.getElem_toArray, List.getElem_cons_succ, List.getElem_cons_zero])
        go_frame
        refine wpAnyN_take (i := 5) (v := .int .i64 (j : Int)) rfl (by kernel_rfl) (by kernel_rfl) (by kernel_rfl) (by decide) (by kernel_rfl) (fun _ _ _ h => h) (Or.inl ⟨by kernel_rfl, ?_⟩) K0.out ?_
        ·(intro w' hSw; go_simp; (rw [IntKind.wrap_i64]; omega))
        (try simp only [List.getElem_toArray, List.getElem_cons_succ, List.getElem_cons_zero])
        go_frame
        refine wpAnyN_take (i := 6) (v := .pointer (some ⟨b, o + j * 2, none⟩)) rfl (by kernel_rfl) (by kernel_rfl) (by kernel_rfl) (by decide) (by kernel_rfl) (fun _ _ _ h => h) (Or.inl ⟨by kernel_rfl, ?_⟩) K0.out ?_
        ·(intro w' hSw; go_simp)
        (try simp only [List.getElem_toArray, List.getElem_cons_succ, List.getElem_cons_zero])
        go_frame
        refine wpAnyN_take (i := 7) (v := .pointer (some ⟨b, o + j * 2, none⟩)) rfl (by kernel_rfl) (by kernel_rfl) (by kernel_rfl) (by decide) (by kernel_rfl) (fun _ _ _ h => h) (Or.inl ⟨by kernel_rfl, ?_⟩) K0.out ?_
        ·(intro w' hSw; go_simp)
        (try simp only [List.getElem_toArray, List.getElem_cons_succ, List.getElem_cons_zero])
        go_frame
        refine wpAnyN_take (i := 8) (v := .slice lja LJ ljc) rfl (by kernel_rfl) (by kernel_rfl) (by kernel_rfl) (by decide) (by kernel_rfl) (fun _ _ _ h => h) (Or.inl ⟨by kernel_rfl, ?_⟩) K0.out ?_
        ·(intro w' hSw; have s0 := HCJ.out w' hSw; clear hSw; go_simp)
        (try simp only [List.getElem_toArray, List.getElem_cons_succ, List.getElem_cons_zero])
        go_frame
        refine wpAnyN_take (i := 9) (v := .slice (some ⟨b, o, none⟩) N c) rfl (by kernel_rfl) (by kernel_rfl) (by kernel_rfl) (by decide) (by kernel_rfl) (fun _ _ _ h => h) (Or.inl ⟨by kernel_rfl, ?_⟩) K0.out ?_
        ·(intro w' hSw; go_simp)
        (try simp only [List.getElem_toArray, List.getElem_cons_succ, List.getElem_cons_zero])
        go_frame
        refine wpAnyN_take (i := 10) (v := .int .i64 (i : Int)) rfl (by kernel_rfl) (by kernel_rfl) (by kernel_rfl) (by decide) (by kernel_rfl) (fun _ _ _ h => h) (Or.inl ⟨by kernel_rfl, ?_⟩) K0.out ?_
        ·(intro w' hSw; go_simp)
        (try simp only [List.getElem_toArray, List.getElem_cons_succ, List.getElem_cons_zero])
        go_frame
        refine wpAnyN_take (i := 11) (v := .pointer (some ⟨b, o + i * 2, none⟩)) rfl (by kernel_rfl) (by kernel_rfl) (by kernel_rfl) (by decide) (by kernel_rfl) (fun _ _ _ h => h) (Or.inl ⟨by kernel_rfl, ?_⟩) K0.out ?_
        ·(intro w' hSw; go_simp)
        (try simp only [List.getElem_toArray, List.getElem_cons_succ, List.getElem_cons_zero])
        go_frame
        refine wpAnyN_take (i := 12) (v := .pointer (some ⟨b, o + i * 2, none⟩)) rfl (by kernel_rfl) (by kernel_rfl) (by kernel_rfl) (by decide) (by kernel_rfl) (fun _ _ _ h => h) (Or.inl ⟨by kernel_rfl, ?_⟩) K0.out ?_
        ·(intro w' hSw; go_simp)
        (try simp only [List.getElem_toArray, List.getElem_cons_succ, List.getElem_cons_zero])
        go_frame
        refine wpAnyN_take (i := 13) (v := .slice la LN lc) rfl (by kernel_rfl) (by kernel_rfl) (by kernel_rfl) (by decide) (by kernel_rfl) (fun _ _ _ h => h) (Or.inl ⟨by kernel_rfl, ?_⟩) K0.out ?_
        ·(intro w' hSw; have s0 := HC0.out w' hSw; clear hSw; go_simp)
        (try simp only [List.getElem_toArray, List.getElem_cons_succ, List.getElem_cons_zero])
        go_frame
        refine wpAnyL_one (i := 14) (by kernel_rfl) rfl (by kernel_rfl) ?_
        go_simp
        refine HCM.out.mono ?_
        rintro e w3 ⟨rfl, k3⟩
        have K9 := hid (show Kept w w3 from K0.out.trans k3 (fun _ _ f => f))
        clear k3
        refine ⟨K9.out, ?_⟩
        (try go_frame)
        refine wpAnyN_take (i := 15) (v := .bool true) rfl (by kernel_rfl) (by kernel_rfl) (by kernel_rfl) (by decide) (by kernel_rfl) (fun _ _ _ h => h) (Or.inl ⟨by kernel_rfl, ?_⟩) K9.out ?_
        ·(intro w' hSw; go_simp)
        (try simp only [List.getElem_toArray, List.getElem_cons_succ, List.getElem_cons_zero])
        go_frame
        refine wpAnyN_take (i := 16) (v := .bool true) rfl (by kernel_rfl) (by kernel_rfl) (by kernel_rfl) (by decide) (by kernel_rfl) (fun _ _ _ h => h) (Or.inl ⟨by kernel_rfl, ?_⟩) K9.out ?_
        ·(intro w' hSw; go_simp)
        (try simp only [List.getElem_toArray, List.getElem_cons_succ, List.getElem_cons_zero])
        go_frame
        refine wpAnyN_take (i := 17) (v := .bool true) rfl (by kernel_rfl) (by kernel_rfl) (by kernel_rfl) (by decide) (by kernel_rfl) (fun _ _ _ h => h) (Or.inl ⟨by kernel_rfl, ?_⟩) K9.out ?_
        ·(intro w' hSw; go_simp)
        (try simp only [List.getElem_toArray, List.getElem_cons_succ, List.getElem_cons_zero])
        go_frame
        refine wpAnyN_take (i := 18) (v := undef) rfl (by kernel_rfl) (by kernel_rfl) (by kernel_rfl) (by decide) (by kernel_rfl) (fun _ _ _ h => h) (Or.inr ⟨by kernel_rfl, rfl⟩) K9.out ?_
        (try simp only [List.getElem_toArray, List.getElem_cons_succ, List.getElem_cons_zero])
        go_frame
        refine wpAnyN_take (i := 19) (v := undef) rfl (by kernel_rfl) (by kernel_rfl) (by kernel_rfl) (by decide) (by kernel_rfl) (fun _ _ _ h => h) (Or.inr ⟨by kernel_rfl, rfl⟩) K9.out ?_
        (try simp only [List.getElem_toArray, List.getElem_cons_succ, List.getElem_cons_zero])
        go_frame
        refine wpAnyN_take (i := 20) (v := undef) rfl (by kernel_rfl) (by kernel_rfl) (by kernel_rfl) (by decide) (by kernel_rfl) (fun _ _ _ h => h) (Or.inr ⟨by kernel_rfl, rfl⟩) K9.out ?_
        (try simp only [List.getElem_toArray, List.getElem_cons_succ, List.getElem_cons_zero])
        go_frame
        refine wpAnyN_take (i := 21) (v := undef) rfl (by kernel_rfl) (by kernel_rfl) (by kernel_rfl) (by decide) (by kernel_rfl) (fun _ _ _ h => h) (Or.inr ⟨by kernel_rfl, rfl⟩) K9.out ?_
        (try simp only [List.getElem_toArray, List.getElem_cons_succ, List.getElem_cons_zero])
        go_frame
        refine wpAnyN_take (i := 22) (v := undef) rfl (by kernel_rfl) (by kernel_rfl) (by kernel_rfl) (by decide) (by kernel_rfl) (fun _ _ _ h => h) (Or.inr ⟨by kernel_rfl, rfl⟩) K9.out ?_
        (try simp only [List.getElem_toArray, List.getElem_cons_succ, List.getElem_cons_zero])
        go_frame
        refine wpAnyN_take (i := 23) (v := undef) rfl (by kernel_rfl) (by kernel_rfl) (by kernel_rfl) (by decide) (by kernel_rfl) (fun _ _ _ h => h) (Or.inr ⟨by kernel_rfl, rfl⟩) K9.out ?_
        (try simp only [List.getElem_toArray, List.getElem_cons_succ, List.getElem_cons_zero])
        go_frame
        refine wpAnyN_take (i := 24) (v := undef) rfl (by kernel_rfl) (by kernel_rfl) (by kernel_rfl) (by decide) (by kernel_rfl) (fun _ _ _ h => h) (Or.inr ⟨by kernel_rfl, rfl⟩) K9.out ?_
        (try simp only [List.getElem_toArray, List.getElem_cons_succ, List.getElem_cons_zero])
        go_frame
        refine wpAnyN_take (i := 25) (v := .bool true) rfl (by kernel_rfl) (by kernel_rfl) (by kernel_rfl) (by decide) (by kernel_rfl) (fun _ _ _ h => h) (Or.inl ⟨by kernel_rfl, ?_⟩) K9.out ?_
        ·(intro w' hSw; go_simp)
        (try simp only [List.getElem_toArray, List.getElem_cons_succ, List.getElem_cons_zero])
        go_frame
        refine wpAnyN_done (by kernel_rfl) ?_
        refine NoPanic.normal ?_
        go_wp2_with fail
        exact HFN.out _ K9.out
     ·have hdm : decide (mm = l[i].1) = false := decide_eq_false hme
      rw [hdm]
      have HFN := hid (HF.out 20 w2 (by rw [HST.out]; simp only [checkF]; rw [if_neg (by rw [hm]; simpa using hme)]) K2.out)
      clear hm hdm hme
      go_wp2_with fail
      exact HFN.out
   ·have HFN := hid (HF.out 0 wr (by rw [hck.out, List.drop_eq_nil_of_le (by have := HN.out; omega)]; rfl) kr)
    clear kr
    go_wp2_with fail
    exact HFN.out
end Go.Proofs.YtllfanlhgnkcfaaGreatDoor.K
