/-
  Kbig, Kal, Kturn, Kbackb, Kback2b, Kfine.
-/
import Derived.Test.YtllfanlhgnkcfaaGreatDoorQ48
import Derived.Test.YtllfanlhgnkcfaaGreatDoorQ45
import Derived.Test.YtllfanlhgnkcfaaGreatDoorQ42
import Derived.Test.YtllfanlhgnkcfaaGreatDoorQ44
import Derived.Test.YtllfanlhgnkcfaaGreatDoorQ47
import Derived.Test.YtllfanlhgnkcfaaGreatDoorQ49
namespace Go.Proofs.YtllfanlhgnkcfaaGreatDoor.K
open Go.RowKit Go.Proofs.Lys Go.Maps Go.Shelf
set_option linter.unusedVariables false
set_option linter.unusedSimpArgs false
def totN (l : List Ser) : Nat := (l.map (fun s => s.2.length + 2 * s.1.length)).sum
def Few (l : List Ser) : Prop := l.length ≤ 200 ∧ totN l ≤ 4000 ∧ ∀ s ∈ l, N.bigN s.1 ≤ 4000
def BigA (w : World) (l : List Ser) (e : Ending) (w' : World) : Prop := (∃ B, e = .returned (.bool B) ∧ (B = false → Few l)) ∧ Kept w w'
set_option maxRecDepth 100000 in
set_option maxHeartbeats 3200000 in
theorem kbig_any (w : World) (v : Value) (l : List Ser) (h : SIn w v l) : Calls Tryz.prog 5 #[v] w (BigA w l) := by
 obtain ⟨hs, hC, hl⟩ := h
 obtain ⟨a, c, rfl⟩ := hs.len
 obtain ⟨N, hN⟩ : ∃ N, l.length = N := ⟨_, rfl⟩
 rw [hN] at hs hl ⊢
 obtain ⟨R, hR⟩ : ∃ R, BigA w l = R := ⟨_, rfl⟩
 rw [hR]
 have HT : Hid (∀ w', Kept w w' → R (.returned (.bool true)) w') := fun w' k => by rw [← hR]; exact ⟨⟨true, rfl, fun h => by cases h⟩, k⟩
 have HF : Hid (∀ w', Few l → Kept w w' → R (.returned (.bool false)) w') := fun w' f k => by rw [← hR]; exact ⟨⟨false, rfl, fun _ => f⟩, k⟩
 clear hR
 by_cases h1 : 200 < N
 ·have d1 : decide ((200 : Int) < (N : Int)) = true := decide_eq_true (by omega)
  have HFN := hid (HT.out w (Only.refl _ _))
  clear hs hC hN
  go_enter Tryz.func5, Tryz.ntmps5
  go_wp2_with fail
  exact HFN.out
 ·have d1 : decide ((200 : Int) < (N : Int)) = false := decide_eq_false (by omega)
  have d2 : ¬ 200 < N := h1
  have HS := hid hs
  have HN := hid hN
  have HC := hid hC
  clear hs hN hC
  go_enter Tryz.func5, Tryz.ntmps5
  go_wp2_with fail
  go_loopw [3, 4] (fun s3 s4 wr => ∃ (i T : Nat), i ≤ N ∧ s4 = .int .i64 (i : Int) ∧ s3 = .int .i64 (T : Int) ∧ T ≤ 4000 ∧ Hid (T = totN (l.take i)) ∧ Hid (∀ s ∈ l.take i, Go.Proofs.YtllfanlhgnkcfaaGreatDoor.N.bigN s.1 ≤ 4000) ∧ Kept w wr) (fun _ s4 _ => N - (intOf s4).toNat)
  case atStart => exact ⟨0, 0, by omega, rfl, rfl, by omega, hid rfl, hid (fun s h => by simp at h), Only.refl _ _⟩
  case round =>
   obtain ⟨i, T, hi, rfl, rfl, hT4, hTt, hTb, kr⟩ := hrel
   by_cases hlt : i < N
   ·have hil : i < l.length := by have := HN.out; omega
    obtain ⟨b, o, la, lc, sa, sc, rfl, x0, x1, hl0, hs0⟩ := HS.out.cell HN.out i hlt
    obtain ⟨hC1, hC2, hC3⟩ := HC.out l[i] (List.getElem_mem hil)
    have y0 := cell_kept kr x0
    have HBG := hid (Go.Proofs.YtllfanlhgnkcfaaGreatDoor.N.big_any wr _ l[i].1 (hl0.stay kr) (by omega) hC1)
    have HNT : Hid (∀ LN SN, l[i].1.length = LN → l[i].2.length = SN → T + SN + 2 * LN = totN (l.take (i + 1))) := fun LN SN e1 e2 => by
     rw [List.take_succ_eq_append_getElem hil]
     have h9 := hTt.out
     unfold totN at h9 ⊢
     rw [List.map_append, List.sum_append, ← h9]
     simp
     omega
    have HNB : Hid (Go.Proofs.YtllfanlhgnkcfaaGreatDoor.N.bigN l[i].1 ≤ 4000 → ∀ s ∈ l.take (i + 1), Go.Proofs.YtllfanlhgnkcfaaGreatDoor.N.bigN s.1 ≤ 4000) := fun hb s hs => by
     rw [List.take_succ_eq_append_getElem hil, List.mem_append] at hs
     rcases hs with hs | hs
     ·exact hTb.out s hs
     ·rw [List.mem_singleton.1 hs]
      exact hb
    have HLEN := hid (Go.Proofs.YtllfanlhgnkcfaaGreatDoor.N.bigN_len l[i].1)
    generalize hLN : l[i].1.length = LN at x0 y0 hC2 HBG HNT HLEN
    generalize hSN : l[i].2.length = SN at x1 hC3 HNT
    generalize Go.Proofs.YtllfanlhgnkcfaaGreatDoor.N.bigN l[i].1 = BN at HBG HNB HLEN
    have HX0 := hid x0
    have HX1 := hid x1
    have KR := hid kr
    clear hl0 hs0 hC1 x0 x1 kr hTt hTb hLN hSN
    go_wp2_with fail
    refine HBG.out.mono ?_
    rintro e w1 ⟨rfl, k1⟩
    have K1 := hid (show Kept w w1 from KR.out.trans k1 (fun _ _ f => f))
    have z0 := cell_kept K1.out HX0.out
    have z1 := cell_kept K1.out HX1.out
    clear y0 HBG k1
    go_wp2_with fail
    go_quiet (fail)
    have K2 := hid (show Kept w (w1.drewN nq) from Go.Proofs.YtllfanlhgnkcfaaGreatDoor.N.kept_drewN K1.out nq)
    obtain ⟨w2, hw2⟩ : ∃ w2, w1.drewN nq = w2 := ⟨_, rfl⟩
    rw [hw2] at K2
    try rw [hw2]
    clear hw2 nq z0 z1
    by_cases hbn : 4000 < BN
    ·have e1 : decide (4000 < BN) = true := decide_eq_true hbn
     have HFN := hid (HT.out w2 K2.out)
     go_wp2_with fail
     exact HFN.out
    ·have e1 : decide (4000 < BN) = false := decide_eq_false hbn
     by_cases htt : 4000 < T + SN + 2 * LN
     ·have HFN := hid (HT.out w2 K2.out)
      have e2 : decide ((4000 : Int) < (T : Int) + (SN : Int) + 2 * (LN : Int)) = true := decide_eq_true (by omega)
      have e3 : (4000 : Int) < (T : Int) + (SN : Int) + 2 * (LN : Int) := by omega
      go_wp2_with fail
      exact HFN.out
     ·have e2 : decide ((4000 : Int) < (T : Int) + (SN : Int) + 2 * (LN : Int)) = false := decide_eq_false (by omega)
      have e3 : ¬ (4000 : Int) < (T : Int) + (SN : Int) + 2 * (LN : Int) := by omega
      go_wp2_with fail
      go_roundw
      case rel => exact ⟨i + 1, T + SN + 2 * LN, by omega, by go_num, by first | (congr 1; done) | (congr 1; omega), by omega, hid (HNT.out LN SN rfl rfl), hid (HNB.out (by omega)), K2.out⟩
      case measure => simp [intOf]; omega
   ·have HFN := hid (HF.out wr ⟨by have := HN.out; omega, by have h9 := hTt.out; rw [List.take_of_length_le (by have := HN.out; omega)] at h9; omega, fun s hs => by have h9 := hTb.out s; rw [List.take_of_length_le (by have := HN.out; omega)] at h9; exact h9 hs⟩ kr)
    clear kr
    go_wp2_with fail
    exact HFN.out
end Go.Proofs.YtllfanlhgnkcfaaGreatDoor.K
namespace Go.Proofs.YtllfanlhgnkcfaaGreatDoor.K
open Go.RowKit Go.Proofs.Lys Go.Maps Go.Shelf
open Go.Proofs.YtllfanlhgnkcfaaGreatDoor.N (ownN_slice ownN_lt ownN_only ownN_stay ownN_base ownN_typed ownN_some)
open Go.Proofs.YtllfanlhgnkcfaaGreatDoor.C (oper_append_run)
set_option linter.unusedVariables false
set_option linter.unusedSimpArgs false
attribute [local go_sem] Oper.semAt_some
theorem num16_any (n : Int) (w : World) : Calls Tryz.prog 12 #[.int .i64 n] w fun e w' => e = .returned (.int .i64 n) ∧ w' = w := by
 go_enter Tryz.func12, Tryz.ntmps12
 go_wp2
 go_ret
 exact ⟨rfl, rfl⟩
def headN : List UInt8 := [76, 89, 83, 49, 0, 0, 0]
theorem body_nil : bodyB [] = headN := by decide +kernel
theorem reach_nil : Reach [] := ⟨fun s h => (by cases h), by simp, fun _ => by rw [body_nil]; decide⟩
set_option maxRecDepth 100000 in
set_option maxHeartbeats 1600000 in
theorem alive16_any (w : World) (hT : G.Tab w) (hG : ErrT w) : Calls Tryz.prog 4 #[] w fun e w' => e = .returned (.bool true) ∧ Kept w w' := by
 have HPK := hid (pack_any w (.slice none 0 0) [] (.inl ⟨_, _, rfl, rfl⟩) reach_nil hT hG)
 have HNU := hid (fun W => num16_any 0 W)
 obtain ⟨R, hR⟩ : ∃ R, (fun (e : Ending) (w' : World) => e = .returned (.bool true) ∧ Kept w w') = R := ⟨_, rfl⟩
 rw [hR]
 have HF : Hid (∀ w', Kept w w' → R (.returned (.bool true)) w') := fun w' k => by rw [← hR]; exact ⟨rfl, k⟩
 clear hR hT hG
 go_enter Tryz.func4, Tryz.ntmps4
 go_wp2_with fail
 refine HPK.out.mono ?_
 rintro e w1 ⟨k1, ⟨_, u, rfl, hu⟩ | ⟨h, _⟩⟩
 ·obtain ⟨ua, uc, hue⟩ := ownN_slice hu
  generalize hUN : (blockB []).length = UN at hue
  subst hue
  have HU := hid hu
  have K1 := hid k1
  clear hu k1 hUN HPK
  go_wp2_with fail
  obtain ⟨W2, hW2⟩ : ∃ W2, (w1.alloc (.cells #[.int .u8 76, .int .u8 89, .int .u8 83, .int .u8 49, .int .u8 0, .int .u8 0, .int .u8 0] 5)).drew = W2 := ⟨_, rfl⟩
  have k2 : Kept w1 W2 := by rw [← hW2]; exact ((Only.refl _ w1).alloc _).drew
  have HS2 : Hid (SrcOf W2 (.slice ua UN uc) ((blockB []).map bV)) := own_src (ownN_stay HU.out k2)
  have HH2 : Hid (BytAt W2 w1.heap.size (.slice (some ⟨w1.heap.size, 0, none⟩) 7 7) headN) := by
   show BytAt _ _ _ _
   rw [← hW2]
   exact ownN_stay (World.ownsRow_lit w1 #[.int .u8 76, .int .u8 89, .int .u8 83, .int .u8 49, .int .u8 0, .int .u8 0, .int .u8 0] 7 (Nat.le_refl _) (by decide) rfl) (Only.refl _ _).drew
  have K2 := hid (show Kept w W2 from K1.out.trans k2 (fun _ _ f => f))
  have HSUM := hid (G.rsum_any W2 _ headN (own_src HH2.out) (by decide))
  have hlt := G.sumL_lt headN
  have HFO := hid (G.rfour_any W2 (G.sumL headN) hlt)
  have hsz : w1.heap.size < W2.heap.size := by rw [← hW2]; simp
  have HBB : Hid (blockB [] = headN ++ G.four (G.sumL headN)) := by
   show _ = _
   unfold blockB
   rw [body_nil]
  have hf4 : (G.four (G.sumL headN)).length = 4 := rfl
  generalize G.sumL headN = SM at HSUM HFO HBB hf4 hlt
  have HWS : Hid (w.heap.size ≤ w1.heap.size) := K1.out.size
  have HX : Hid (∀ (B D : World), Kept w1 B → Only (fun j => (Value.slice (some ⟨w1.heap.size, 0, none⟩) 7 7).ownBlock = some j) B D → SrcOf D (.slice ua UN uc) ((blockB []).map bV)) := fun B D kab hO =>
   own_src (ownN_only (ownN_stay HU.out kab) hO (fun j hj e1 => by
    have h5 : w1.heap.size = j := by simpa [Value.ownBlock] using e1
    have h6 := (ownN_lt HU.out hj).2
    omega))
  have K12 := hid k2
  have HW2 := hid hW2
  clear hW2 HU K1 k2
  refine wp_region_noPanic ?_
  refine wp_region_last (L := 1000) (S := fun w' => SrcOf w' (.slice ua UN uc) ((blockB []).map bV)) (by kernel_rfl) ?_
  rw [HW2.out]
  refine wpAnyN_take (i := 0) (v := .int .i64 0) rfl (by kernel_rfl) (by kernel_rfl) (by kernel_rfl) (by decide) (by kernel_rfl) (fun _ _ _ h => h) (Or.inl ⟨by kernel_rfl, ?_⟩) HS2.out ?_
  ·(intro w' hSw; go_simp)
  (try simp only [List.getElem_toArray, List.getElem_cons_succ, List.getElem_cons_zero])
  go_frame
  refine wpAnyL_one (i := 1) (by kernel_rfl) rfl (by kernel_rfl) ?_
  go_simp
  refine (HNU.out _).mono ?_
  rintro e w' ⟨rfl, hw⟩
  replace hw := hw.symm
  subst hw
  refine ⟨HS2.out, ?_⟩
  (try go_frame)
  refine wpAnyN_take (i := 2) (v := .bool true) rfl (by kernel_rfl) (by kernel_rfl) (by kernel_rfl) (by decide) (by kernel_rfl) (fun _ _ _ h => h) (Or.inl ⟨by kernel_rfl, ?_⟩) HS2.out ?_
  ·(intro w' hSw; go_simp)
  (try simp only [List.getElem_toArray, List.getElem_cons_succ, List.getElem_cons_zero])
  go_frame
  refine wpAnyN_take (i := 3) (v := .bool true) rfl (by kernel_rfl) (by kernel_rfl) (by kernel_rfl) (by decide) (by kernel_rfl) (fun _ _ _ h => h) (Or.inl ⟨by kernel_rfl, ?_⟩) HS2.out ?_
  ·(intro w' hSw; go_simp)
  (try simp only [List.getElem_toArray, List.getElem_cons_succ, List.getElem_cons_zero])
  go_frame
  refine wpAnyN_take (i := 4) (v := .slice ua UN uc) rfl (by kernel_rfl) (by kernel_rfl) (by kernel_rfl) (by decide) (by kernel_rfl) (fun _ _ _ h => h) (Or.inl ⟨by kernel_rfl, ?_⟩) HS2.out ?_
  ·(intro w' hSw; go_simp)
  (try simp only [List.getElem_toArray, List.getElem_cons_succ, List.getElem_cons_zero])
  go_frame
  refine wpAnyN_take (i := 5) (v := .string (⟨(blockB []).toArray⟩ : ByteArray)) rfl (by kernel_rfl) (by kernel_rfl) (by kernel_rfl) (by decide) (by kernel_rfl) (fun _ _ _ h => h) (Or.inl ⟨by kernel_rfl, ?_⟩) HS2.out ?_
  ·(intro w' hSw; have s0 := G.bytes_str hSw; clear hSw; go_simp)
  (try simp only [List.getElem_toArray, List.getElem_cons_succ, List.getElem_cons_zero])
  go_frame
  refine wpAnyN_take (i := 6) (v := .slice (some ⟨w1.heap.size, 0, none⟩) 7 7) rfl (by kernel_rfl) (by kernel_rfl) (by kernel_rfl) (by decide) (by kernel_rfl) (fun _ _ _ h => h) (Or.inl ⟨by kernel_rfl, ?_⟩) HS2.out ?_
  ·(intro w' hSw; go_simp)
  (try simp only [List.getElem_toArray, List.getElem_cons_succ, List.getElem_cons_zero])
  go_frame
  refine wpAnyN_take (i := 7) (v := .slice (some ⟨w1.heap.size, 0, none⟩) 7 7) rfl (by kernel_rfl) (by kernel_rfl) (by kernel_rfl) (by decide) (by kernel_rfl) (fun _ _ _ h => h) (Or.inl ⟨by kernel_rfl, ?_⟩) HS2.out ?_
  ·(intro w' hSw; go_simp)
  (try simp only [List.getElem_toArray, List.getElem_cons_succ, List.getElem_cons_zero])
  go_frame
  refine wpAnyL_one (i := 8) (by kernel_rfl) rfl (by kernel_rfl) ?_
  go_simp
  refine HSUM.out.mono ?_
  rintro e w' ⟨rfl, hw⟩
  replace hw := hw.symm
  subst hw
  refine ⟨HS2.out, ?_⟩
  (try go_frame)
  refine wpAnyL_one (i := 9) (by kernel_rfl) rfl (by kernel_rfl) ?_
  go_simp
  refine HFO.out.mono ?_
  rintro e w3 ⟨rfl, ho3, k3⟩
  obtain ⟨a9, n9, c9, w9, r9, hn9, hB9, ho9⟩ := byt_app (ownN_stay HH2.out k3) (own_src ho3) (by rw [hf4]; decide) (by have := k3.size; omega)
  have HS3 := hid (SrcOf.stay HS2.out k3)
  have HB9 : Hid (SrcOf w9 (.slice a9 n9 c9) ((blockB []).map bV)) := by
   show SrcOf _ _ _
   rw [HBB.out]
   exact own_src hB9.out
  have HS9 : Hid (SrcOf w9 (.slice ua UN uc) ((blockB []).map bV)) := HX.out w3 w9 (K12.out.trans k3 (fun _ _ f => f)) ho9.out
  have K9 := hid (show Kept w w9 from (K2.out.trans k3 (fun _ _ f => f)).trans ho9.out (fun j hj e => by
   have : w1.heap.size = j := by simpa [Value.ownBlock] using e
   have := HWS.out
   omega))
  clear hn9 hB9 ho9 ho3 k3
  refine ⟨HS3.out, ?_⟩
  (try go_frame)
  refine wpAnyL_one (i := 10) (by kernel_rfl) rfl (by kernel_rfl) (oper_append_run _ _ _ rfl rfl rfl r9 ?_)
  refine ⟨HS9.out, ?_⟩
  (try go_frame)
  have c9 := G.bytes_str HB9.out
  refine wpAnyL_one (i := 11) (by kernel_rfl) rfl (by kernel_rfl) ?_
  go_simp
  refine ⟨HS9.out, ?_⟩
  (try go_frame)
  refine wpAnyN_take (i := 12) (v := .bool true) rfl (by kernel_rfl) (by kernel_rfl) (by kernel_rfl) (by decide) (by kernel_rfl) (fun _ _ _ h => h) (Or.inl ⟨by kernel_rfl, ?_⟩) HS9.out ?_
  ·(intro w' hSw; go_simp)
  (try simp only [List.getElem_toArray, List.getElem_cons_succ, List.getElem_cons_zero])
  go_frame
  refine wpAnyN_take (i := 13) (v := .bool true) rfl (by kernel_rfl) (by kernel_rfl) (by kernel_rfl) (by decide) (by kernel_rfl) (fun _ _ _ h => h) (Or.inl ⟨by kernel_rfl, ?_⟩) HS9.out ?_
  ·(intro w' hSw; go_simp)
  (try simp only [List.getElem_toArray, List.getElem_cons_succ, List.getElem_cons_zero])
  go_frame
  refine wpAnyN_take (i := 14) (v := .bool true) rfl (by kernel_rfl) (by kernel_rfl) (by kernel_rfl) (by decide) (by kernel_rfl) (fun _ _ _ h => h) (Or.inl ⟨by kernel_rfl, ?_⟩) HS9.out ?_
  ·(intro w' hSw; go_simp)
  (try simp only [List.getElem_toArray, List.getElem_cons_succ, List.getElem_cons_zero])
  go_frame
  refine wpAnyN_done (by kernel_rfl) ?_
  refine NoPanic.normal ?_
  go_wp2_with fail
  exact HF.out _ K9.out
 ·exact absurd rfl h
end Go.Proofs.YtllfanlhgnkcfaaGreatDoor.K
namespace Go.Proofs.YtllfanlhgnkcfaaGreatDoor.K
open Go.RowKit Go.Proofs.Lys Go.Maps Go.Shelf
open Go.Proofs.YtllfanlhgnkcfaaGreatDoor.N (ownN_slice ownN_lt ownN_only ownN_stay ownN_base ownN_typed ownN_some)
open Go.Proofs.YtllfanlhgnkcfaaGreatDoor.G (byte_lt ofNat_toNat bV_ofNat)
set_option linter.unusedVariables false
set_option linter.unusedSimpArgs false
theorem split_chk_len (n : Nat) : ∀ l : C.Smps, l.length = n → ((C.splitL l).flatMap chkB).length ≤ 52 * n := by
 induction n using Nat.strongRecOn with
 | _ n ih =>
  intro l hl
  by_cases h : l = []
  ·subst h
   rw [C.splitL_nil]
   simp
  ·have h0 : 0 < l.length := List.length_pos_iff.2 h
   rw [C.splitL_cons h, List.flatMap_cons, List.length_append]
   have h1 := chk_len (l.take 120) (by rw [List.length_take]; omega)
   rw [List.length_take] at h1
   have h2 := ih (l.drop 120).length (by rw [List.length_drop]; omega) (l.drop 120) rfl
   rw [List.length_drop] at h2
   omega
theorem ser_len {s : Ser} (hm : N.makeL s.1 = some s.1) (hl : s.2.length ≤ 80000) : (serB s).length ≤ 5000 + 52 * s.2.length := by
 have hmd := N.makeL_made hm
 have h1 : (N.txtB s.1).data.toList.length ≤ 4820 := by
  unfold N.txtB
  rw [hm]
  show (N.mkB (N.textL s.1)).data.toList.length ≤ 4820
  have h2 := N.accT_len (l := s.1) (fun x hx => by
   have h9 := hm
   unfold N.makeL at h9
   split at h9
   ·cases h9
   ·split at h9
    ·rename_i h8
     exact List.all_eq_true.1 h8 x hx
    ·cases h9)
  have h3 := hmd.len16
  simp [N.mkB, N.textL]
  omega
 have h4 := split_chk_len _ s.2 rfl
 have p1 := putN_ten (U.uN_lt ((N.txtB s.1).size : Int))
 have p2 := putN_ten (U.uN_lt ((C.splitL s.2).length : Int))
 unfold serB
 simp only [List.length_append]
 omega
theorem totN_cons (s : Ser) (l : List Ser) : totN (s :: l) = s.2.length + 2 * s.1.length + totN l := by simp [totN]
theorem totN_mem {l : List Ser} {s : Ser} (h : s ∈ l) : s.2.length + 2 * s.1.length ≤ totN l := by
 induction l with
 | nil => cases h
 | cons y r ih =>
  rw [totN_cons]
  rcases List.mem_cons.1 h with rfl | h
  ·omega
  ·have := ih h
   omega
theorem flat_ser_len : ∀ (l : List Ser), (∀ s ∈ l, N.makeL s.1 = some s.1 ∧ s.2.length ≤ 80000) → (l.flatMap serB).length ≤ 5000 * l.length + 52 * totN l
 | [], _ => by simp [totN]
 | s :: l, h => by
  have h1 := ser_len (h s (List.mem_cons_self ..)).1 (h s (List.mem_cons_self ..)).2
  have h2 := flat_ser_len l (fun x hx => h x (List.mem_cons_of_mem _ hx))
  rw [List.flatMap_cons, List.length_append, List.length_cons, totN_cons]
  omega
theorem few_reach {l : List Ser} (h : Few l) : Reach l := by
 obtain ⟨h1, h2, h3⟩ := h
 refine ⟨fun s hs => ?_, by omega, fun h0 => ?_⟩
 ·have a := N.bigN_small (h3 s hs)
  have b := totN_mem hs
  exact ⟨by omega, a.1, by omega⟩
 ·obtain ⟨_, hf⟩ := check_fit h0
  have h4 := flat_ser_len l (fun s hs => by
   obtain ⟨i, hi, rfl⟩ := List.getElem_of_mem hs
   have b := totN_mem hs
   exact ⟨(hf i hi).made, by omega⟩)
  have hFit : ∀ s ∈ l, s.2 ≠ [] ∧ S.Rising (s.2.map (·.1)) := fun s hs => by
   obtain ⟨i, hi, rfl⟩ := List.getElem_of_mem hs
   exact ⟨(hf i hi).some, (times_iff _).1 (hf i hi).times⟩
  have hsb := span_bounds (l := l) (fun s hs => ⟨(hFit s hs).1, fun x hx => by
   obtain ⟨i, hi, rfl⟩ := List.getElem_of_mem hx
   have := (hFit s hs).2.at (i := i) (by rw [List.length_map]; exact hi)
   rw [List.getElem_map] at this
   exact this⟩)
  have hz1 := putN_ten (zig_lt hsb.1)
  have hz2 := putN_ten (zig_lt hsb.2)
  have hz3 := putN_ten (U.uN_lt (l.length : Int))
  unfold bodyB
  simp only [List.length_append, List.length_cons, List.length_nil]
  omega
end Go.Proofs.YtllfanlhgnkcfaaGreatDoor.K
namespace Go.Proofs.YtllfanlhgnkcfaaGreatDoor.K
open Go.RowKit Go.Proofs.Lys Go.Maps
set_option linter.unusedVariables false
set_option linter.unusedSimpArgs false
theorem numK_put {u : Nat} (h : u < 18446744073709551616) (more : List UInt8) : numK (putN u ++ more) = some (wrap64 (u : Int), (putN u).length) := by
 unfold numK
 rw [get_put0 h more]
 rfl
theorem drop_put (a b : List UInt8) : (a ++ b).drop a.length = b := List.drop_left
def LabBack : Prop := ∀ (m : N.Labs), N.makeL m = some m → ∀ more : List UInt8, labK (putN (U.uN ((N.txtB m).size : Int)) ++ (N.txtB m).data.toList ++ more) = some (m, more)
theorem packs_of {p : C.Smps} (h0 : p ≠ []) (hl : p.length ≤ 120) (hr : S.Rising (p.map (·.1))) : C.Packs p (chkB p) 0 :=
 .inr (.inr ⟨h0, _, _, .inr (.inr ⟨by rw [List.length_map]; exact hl, hr, rfl, rfl⟩), .inr ⟨by rw [List.length_map]; exact hl, rfl, rfl⟩, rfl, rfl⟩)
theorem smpsR_put : ∀ (ps : List C.Smps) (acc : C.Smps) (more : List UInt8), (∀ p ∈ ps, p ≠ [] ∧ p.length ≤ 120 ∧ S.Rising (p.map (·.1)) ∧ V.In64 (p.map (·.2))) → SmpsR ps.length (ps.flatMap chkB ++ more) acc (some (acc ++ ps.flatten, more))
 | [], acc, more, _ => by
  show some _ = some _
  simp
 | p :: ps, acc, more, h => by
  obtain ⟨h0, hl, hr, hi⟩ := h p (List.mem_cons_self ..)
  have h1 := C.reads_packs (packs_of h0 hl hr) hi (ps.flatMap chkB ++ more)
  have h2 := smpsR_put ps (acc ++ p) more (fun q hq => h q (List.mem_cons_of_mem _ hq))
  refine ⟨p, (chkB p).length, 0, by rw [List.flatMap_cons, List.append_assoc]; exact h1, .inr ⟨rfl, ?_⟩⟩
  rw [List.flatMap_cons, List.append_assoc, drop_put, List.flatten_cons, ← List.append_assoc]
  exact h2
theorem splitL_flat (n : Nat) : ∀ l : C.Smps, l.length = n → (C.splitL l).flatten = l := by
 induction n using Nat.strongRecOn with
 | _ n ih =>
  intro l hl
  by_cases h : l = []
  ·subst h
   rw [C.splitL_nil]
   rfl
  ·have h0 : 0 < l.length := List.length_pos_iff.2 h
   rw [C.splitL_cons h, List.flatten_cons, ih (l.drop 120).length (by rw [List.length_drop]; omega) (l.drop 120) rfl, List.take_append_drop]
theorem splitL_in (n : Nat) : ∀ l : C.Smps, l.length = n → V.In64 (l.map (·.2)) → ∀ p ∈ C.splitL l, V.In64 (p.map (·.2)) := by
 intro l hl hi p hp x hx
 refine hi x ?_
 obtain ⟨y, hy, rfl⟩ := List.mem_map.1 hx
 refine List.mem_map.2 ⟨y, ?_, rfl⟩
 rw [← splitL_flat n l hl]
 exact List.mem_flatten.2 ⟨p, hp, hy⟩
theorem smpK_put {s : C.Smps} (hl : s.length ≤ 1000000) (hr : S.Rising (s.map (·.1))) (hi : V.In64 (s.map (·.2))) (more : List UInt8) : SmpK (putN (U.uN ((C.splitL s).length : Int)) ++ (C.splitL s).flatMap chkB ++ more) (some (s, more)) := by
 have hlen := C.splitL_len _ s rfl
 have hpo := parts_ok _ s rfl hr
 refine .inr ⟨_, _, by rw [List.append_assoc]; exact numK_put (U.uN_lt _) _, ?_⟩
 rw [List.append_assoc, drop_put, U.uN_back ⟨by omega, by omega⟩, Int.toNat_natCast]
 have h := smpsR_put (C.splitL s) [] more (fun p hp => ⟨(hpo p hp).1, (hpo p hp).2.1, (hpo p hp).2.2, splitL_in _ s rfl hi p hp⟩)
 rw [List.nil_append, splitL_flat _ s rfl] at h
 exact h
theorem sersR_put (hLB : LabBack) : ∀ (l acc : List Ser) (more : List UInt8), (∀ s ∈ l, N.makeL s.1 = some s.1 ∧ s.2.length ≤ 1000000 ∧ S.Rising (s.2.map (·.1)) ∧ V.In64 (s.2.map (·.2))) → SersR l.length (l.flatMap serB ++ more) acc (some (acc ++ l, more))
 | [], acc, more, _ => by
  show some _ = some _
  simp
 | s :: l, acc, more, h => by
  obtain ⟨hm, hl, hr, hi⟩ := h s (List.mem_cons_self ..)
  have h2 := sersR_put hLB l (acc ++ [s]) more (fun q hq => h q (List.mem_cons_of_mem _ hq))
  refine .inr ⟨s.1, putN (U.uN ((C.splitL s.2).length : Int)) ++ (C.splitL s.2).flatMap chkB ++ (l.flatMap serB ++ more), some (s.2, l.flatMap serB ++ more), ?_, smpK_put hl hr hi _, .inr ⟨s.2, _, rfl, ?_⟩⟩
  ·have := hLB s.1 hm (putN (U.uN ((C.splitL s.2).length : Int)) ++ (C.splitL s.2).flatMap chkB ++ (l.flatMap serB ++ more))
   rw [← this, List.flatMap_cons]
   unfold serB
   simp only [List.append_assoc]
  ·rw [show acc ++ s :: l = acc ++ [s] ++ l by simp]
   exact h2
theorem blkK_body (hLB : LabBack) {l : List Ser} (h0 : checkB l = 0) (hl : ∀ s ∈ l, s.2.length ≤ 1000000 ∧ V.In64 (s.2.map (·.2))) : BlkK (bodyB l) (some l) := by
 obtain ⟨h1000, hf⟩ := check_fit h0
 have hser := sersR_put hLB l [] [] (fun s hs => by
  obtain ⟨i, hi, rfl⟩ := List.getElem_of_mem hs
  exact ⟨(hf i hi).made, (hl _ hs).1, (times_iff _).1 (hf i hi).times, (hl _ hs).2⟩)
 rw [List.append_nil, List.nil_append] at hser
 have hTm : ∀ s ∈ l, s.2 ≠ [] ∧ ∀ x ∈ s.2, -9007199254740992 ≤ x.1 ∧ x.1 ≤ 9007199254740992 := fun s hs => by
  obtain ⟨i, hi, rfl⟩ := List.getElem_of_mem hs
  refine ⟨(hf i hi).some, fun x hx => ?_⟩
  obtain ⟨j, hj, rfl⟩ := List.getElem_of_mem hx
  have := ((times_iff _).1 (hf i hi).times).at (i := j) (by rw [List.length_map]; exact hj)
  rw [List.getElem_map] at this
  exact this
 have hsb := span_bounds hTm
 have e : bodyB l = [76, 89, 83, 49] ++ (putN (U.zigN (spanB l).1) ++ (putN (U.zigN (spanB l).2) ++ (putN (U.uN (l.length : Int)) ++ l.flatMap serB))) := by
  unfold bodyB
  simp only [List.append_assoc]
 have e4 : (bodyB l).drop 4 = putN (U.zigN (spanB l).1) ++ (putN (U.zigN (spanB l).2) ++ (putN (U.uN (l.length : Int)) ++ l.flatMap serB)) := by
  rw [e]
  rfl
 refine .inr ⟨by rw [e]; simp, .inr ⟨_, _, by rw [e4]; exact numK_put (zig_lt hsb.1) _, .inr ⟨_, _, some (l, []), by rw [e4, drop_put]; exact numK_put (zig_lt hsb.2) _, ?_, rfl⟩⟩⟩
 rw [e4, drop_put, drop_put]
 refine .inr ⟨_, _, numK_put (U.uN_lt _) _, ?_⟩
 rw [drop_put, U.uN_back ⟨by omega, by omega⟩, Int.toNat_natCast]
 exact hser
end Go.Proofs.YtllfanlhgnkcfaaGreatDoor.K
namespace Go.Proofs.YtllfanlhgnkcfaaGreatDoor.K
open Go.RowKit Go.Proofs.Lys Go.Maps
set_option linter.unusedVariables false
set_option linter.unusedSimpArgs false
theorem labK_gen (t more : List UInt8) (m : N.Labs) (hp : N.parseL t = some m) (n : Nat) (hn : t.length = n) (hl : n ≤ 100000) (pb : List UInt8) (hq : numK (pb ++ (t ++ more)) = some ((n : Int), pb.length)) : labK (pb ++ t ++ more) = some (m, more) := by
 rw [List.append_assoc]
 unfold labK
 rw [hq]
 simp only [Option.bind_some]
 rw [drop_put, Int.toNat_natCast, if_neg (by rw [List.length_append]; omega), List.take_left' hn, List.drop_left' hn, hp]
 rfl
theorem numK_len (n : Nat) (hl : n ≤ 100000) (more : List UInt8) : numK (putN (U.uN (n : Int)) ++ more) = some ((n : Int), (putN (U.uN (n : Int))).length) := by
 have h := numK_put (U.uN_lt (n : Int)) more
 rw [U.uN_back ⟨by omega, by omega⟩] at h
 exact h
theorem txt_len {m : N.Labs} (hmd : N.Made m) : (N.textL m).length ≤ 100000 := by
 have h2 := N.accT_len (l := m) hmd.ok
 have h3 := hmd.len16
 unfold N.textL
 rw [List.length_append, List.length_singleton]
 omega
theorem txt_data {m : N.Labs} (hm : N.makeL m = some m) : (N.txtB m).data.toList = N.textL m := by
 unfold N.txtB
 rw [hm]
theorem labBack : LabBack := fun m hm more => by
 have hmd := N.makeL_made hm
 have htx := txt_data hm
 have hsz : (N.txtB m).size = (N.textL m).length := by rw [Lib.size_eq, htx]
 rw [hsz, htx]
 exact labK_gen _ more m (N.parse_iff.2 ⟨hmd, rfl⟩) _ rfl (txt_len hmd) _ (numK_len _ (txt_len hmd) _)
end Go.Proofs.YtllfanlhgnkcfaaGreatDoor.K
namespace Go.Proofs.YtllfanlhgnkcfaaGreatDoor.K
open Go.RowKit Go.Proofs.Lys Go.Maps
set_option linter.unusedVariables false
set_option linter.unusedSimpArgs false
theorem fine_sers : ∀ (l : List Ser), (∀ s ∈ l, N.makeL s.1 = some s.1 ∧ s.2.length ≤ 1000000 ∧ S.Rising (s.2.map (·.1)) ∧ V.In64 (s.2.map (·.2))) → Fine l.length (l.flatMap serB)
 | [], _ => trivial
 | s :: l, h => by
  obtain ⟨hm, hl, hr, hi⟩ := h s (List.mem_cons_self ..)
  have hLB := labBack s.1 hm (putN (U.uN ((C.splitL s.2).length : Int)) ++ (C.splitL s.2).flatMap chkB ++ l.flatMap serB)
  have e : (s :: l).flatMap serB = putN (U.uN ((N.txtB s.1).size : Int)) ++ (N.txtB s.1).data.toList ++ (putN (U.uN ((C.splitL s.2).length : Int)) ++ (C.splitL s.2).flatMap chkB ++ l.flatMap serB) := by
   rw [List.flatMap_cons]
   unfold serB
   simp only [List.append_assoc]
  rw [← e] at hLB
  refine ⟨fun T k hT => .inl ?_, fun m more l' rest h1 h2 => ?_⟩
  ·have htx := txt_data hm
   have hsz : (N.txtB s.1).size = (N.textL s.1).length := by rw [Lib.size_eq, htx]
   have hlt := txt_len (N.makeL_made hm)
   rw [e, List.append_assoc, hsz, numK_len _ hlt] at hT
   simp only [Option.some.injEq, Prod.mk.injEq] at hT
   omega
  ·rw [hLB] at h1
   simp only [Option.some.injEq, Prod.mk.injEq] at h1
   obtain ⟨rfl, rfl⟩ := h1
   have h3 := h2.inj (smpK_put hl hr hi (l.flatMap serB))
   simp only [Option.some.injEq, Prod.mk.injEq] at h3
   obtain ⟨rfl, rfl⟩ := h3
   exact fine_sers l (fun q hq => h q (List.mem_cons_of_mem _ hq))
theorem fine_body {l : List Ser} (h0 : checkB l = 0) (hl : ∀ s ∈ l, s.2.length ≤ 1000000 ∧ V.In64 (s.2.map (·.2))) : FineB (bodyB l) := by
 obtain ⟨h1000, hf⟩ := check_fit h0
 have hfi := fine_sers l (fun s hs => by
  obtain ⟨i, hi, rfl⟩ := List.getElem_of_mem hs
  exact ⟨(hf i hi).made, (hl _ hs).1, (times_iff _).1 (hf i hi).times, (hl _ hs).2⟩)
 have hTm : ∀ s ∈ l, s.2 ≠ [] ∧ ∀ x ∈ s.2, -9007199254740992 ≤ x.1 ∧ x.1 ≤ 9007199254740992 := fun s hs => by
  obtain ⟨i, hi, rfl⟩ := List.getElem_of_mem hs
  refine ⟨(hf i hi).some, fun x hx => ?_⟩
  obtain ⟨j, hj, rfl⟩ := List.getElem_of_mem hx
  have := ((times_iff _).1 (hf i hi).times).at (i := j) (by rw [List.length_map]; exact hj)
  rw [List.getElem_map] at this
  exact this
 have hsb := span_bounds hTm
 have e : bodyB l = [76, 89, 83, 49] ++ (putN (U.zigN (spanB l).1) ++ (putN (U.zigN (spanB l).2) ++ (putN (U.uN (l.length : Int)) ++ l.flatMap serB))) := by
  unfold bodyB
  simp only [List.append_assoc]
 have e4 : (bodyB l).drop 4 = putN (U.zigN (spanB l).1) ++ (putN (U.zigN (spanB l).2) ++ (putN (U.uN (l.length : Int)) ++ l.flatMap serB)) := by
  rw [e]
  rfl
 intro n1 k1 n2 k2 n k h1 h2 h3
 rw [e4, numK_put (zig_lt hsb.1)] at h1
 simp only [Option.some.injEq, Prod.mk.injEq] at h1
 obtain ⟨rfl, rfl⟩ := h1
 rw [e4, drop_put] at h2 h3 ⊢
 rw [numK_put (zig_lt hsb.2)] at h2
 simp only [Option.some.injEq, Prod.mk.injEq] at h2
 obtain ⟨rfl, rfl⟩ := h2
 rw [drop_put] at h3 ⊢
 rw [numK_put (U.uN_lt _)] at h3
 simp only [Option.some.injEq, Prod.mk.injEq] at h3
 obtain ⟨rfl, rfl⟩ := h3
 rw [drop_put, U.uN_back ⟨by omega, by omega⟩, Int.toNat_natCast]
 exact hfi
theorem few_len {l : List Ser} (h : Few l) (h0 : checkB l = 0) : (blockB l).length ≤ 1300000 := by
 obtain ⟨h1, h2, h3⟩ := h
 obtain ⟨_, hf⟩ := check_fit h0
 have h4 := flat_ser_len l (fun s hs => by
  obtain ⟨i, hi, rfl⟩ := List.getElem_of_mem hs
  have b := totN_mem hs
  exact ⟨(hf i hi).made, by omega⟩)
 have hFit : ∀ s ∈ l, s.2 ≠ [] ∧ S.Rising (s.2.map (·.1)) := fun s hs => by
  obtain ⟨i, hi, rfl⟩ := List.getElem_of_mem hs
  exact ⟨(hf i hi).some, (times_iff _).1 (hf i hi).times⟩
 have hsb := span_bounds (l := l) (fun s hs => ⟨(hFit s hs).1, fun x hx => by
  obtain ⟨i, hi, rfl⟩ := List.getElem_of_mem hx
  have := (hFit s hs).2.at (i := i) (by rw [List.length_map]; exact hi)
  rw [List.getElem_map] at this
  exact this⟩)
 have hz1 := putN_ten (zig_lt hsb.1)
 have hz2 := putN_ten (zig_lt hsb.2)
 have hz3 := putN_ten (U.uN_lt (l.length : Int))
 have hf4 : (G.four (G.sumL (bodyB l))).length = 4 := rfl
 unfold blockB
 rw [List.length_append, hf4]
 unfold bodyB
 simp only [List.length_append, List.length_cons, List.length_nil]
 omega
theorem read_block {l : List Ser} (h : Few l) (h0 : checkB l = 0) (hi : ∀ s ∈ l, V.In64 (s.2.map (·.2))) :
  ReadK (blockB l) l ∧ (∀ m, ReadK (blockB l) m → m = l) ∧ (∀ N, (blockB l).length = N + 4 → FineB ((blockB l).take N)) ∧ (∀ N m, (blockB l).length = N + 4 → BlkK ((blockB l).take N) (some m) → Reach m) := by
 have hf4 : (G.four (G.sumL (bodyB l))).length = 4 := rfl
 have hlen : (blockB l).length = (bodyB l).length + 4 := by
  unfold blockB
  rw [List.length_append, hf4]
 have htk : ∀ N, (blockB l).length = N + 4 → (blockB l).take N = bodyB l := fun N hN => by
  have : N = (bodyB l).length := by omega
  subst this
  unfold blockB
  exact List.take_left
 have hl : ∀ s ∈ l, s.2.length ≤ 1000000 ∧ V.In64 (s.2.map (·.2)) := fun s hs => ⟨by have := totN_mem hs; have := h.2.1; omega, hi s hs⟩
 have hbk := blkK_body labBack h0 hl
 refine ⟨⟨_, hlen, by rw [htk _ hlen]; exact hbk, h0, rfl⟩, fun m hm => ?_, fun N hN => by rw [htk N hN]; exact fine_body h0 hl, fun N m hN hm => ?_⟩
 ·obtain ⟨N, hN, h1, _⟩ := hm
  rw [htk N hN] at h1
  have := h1.inj hbk
  simpa using this
 ·rw [htk N hN] at hm
  have := hm.inj hbk
  simp only [Option.some.injEq] at this
  rw [this]
  exact few_reach h
end Go.Proofs.YtllfanlhgnkcfaaGreatDoor.K
