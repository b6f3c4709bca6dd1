/-
  Kbig, Kal, Kturn, Kturn2.
-/
import Derived.Test.YtmacfhhmpnmjeaaGreatDoorQ35
import Derived.Test.YtmacfhhmpnmjeaaGreatDoorQ47
import Derived.Test.YtmacfhhmpnmjeaaGreatDoorQ48
import Derived.Test.YtmacfhhmpnmjeaaGreatDoorQ50

/-
  The law's own: series that are too much, its example.
-/
namespace Go.Proofs.YtmacfhhmpnmjeaaGreatDoor.K
open Go.RowKit Go.Proofs.Lys Go.Maps Go.Shelf
set_option linter.unusedVariables false
set_option linter.unusedSimpArgs false

def totN (l : List Ser) : Nat := (l.map (fun s => s.2.length + 2 * s.1.length)).sum
/-- Series that are not too much. -/
def Few (l : List Ser) : Prop := l.length ≤ 200 ∧ totN l ≤ 4000 ∧ ∀ s ∈ l, N.bigN s.1 ≤ 4000
def BigA (w : World) (l : List Ser) (e : Ending) (w' : World) : Prop := (∃ B, e = .returned (.bool B) ∧ (B = false → Few l)) ∧ Kept w w'
set_option maxRecDepth 100000 in
set_option maxHeartbeats 3200000 in
theorem kbig_any (w : World) (v : Value) (l : List Ser) (h : SIn w v l) : Calls Tryz.prog 7 #[v] w (BigA w l) := by
  obtain ⟨hs, hC, hl⟩ := h
  obtain ⟨a, c, rfl⟩ := hs.len
  obtain ⟨N, hN⟩ : ∃ N, l.length = N := ⟨_, rfl⟩
  rw [hN] at hs hl ⊢
  obtain ⟨R, hR⟩ : ∃ R, BigA w l = R := ⟨_, rfl⟩
  rw [hR]
  have HT : Hid (∀ w', Kept w w' → R (.returned (.bool true)) w') := fun w' k => by rw [← hR]; exact ⟨⟨true, rfl, fun h => by cases h⟩, k⟩
  have HF : Hid (∀ w', Few l → Kept w w' → R (.returned (.bool false)) w') := fun w' f k => by rw [← hR]; exact ⟨⟨false, rfl, fun _ => f⟩, k⟩
  clear hR
  by_cases h1 : 200 < N
  · have d1 : decide ((200 : Int) < (N : Int)) = true := decide_eq_true (by omega)
    have HFN := hid (HT.out w (Only.refl _ _))
    clear hs hC hN
    go_enter Tryz.func7, Tryz.ntmps7
    go_wp2_with fail
    exact HFN.out
  · have d1 : decide ((200 : Int) < (N : Int)) = false := decide_eq_false (by omega)
    have d2 : ¬ 200 < N := h1
    have HS := hid hs
    have HN := hid hN
    have HC := hid hC
    clear hs hN hC
    go_enter Tryz.func7, Tryz.ntmps7
    go_wp2_with fail
    go_loopw [3, 4] (fun s3 s4 wr => ∃ (i T : Nat), i ≤ N ∧ s4 = .int .i64 (i : Int) ∧ s3 = .int .i64 (T : Int) ∧ T ≤ 4000 ∧ Hid (T = totN (l.take i)) ∧ Hid (∀ s ∈ l.take i, Go.Proofs.YtmacfhhmpnmjeaaGreatDoor.N.bigN s.1 ≤ 4000) ∧ Kept w wr) (fun _ s4 _ => N - (intOf s4).toNat)
    case atStart => exact ⟨0, 0, by omega, rfl, rfl, by omega, hid rfl, hid (fun s h => by simp at h), Only.refl _ _⟩
    case round =>
      obtain ⟨i, T, hi, rfl, rfl, hT4, hTt, hTb, kr⟩ := hrel
      by_cases hlt : i < N
      · have hil : i < l.length := by have := HN.out; omega
        obtain ⟨b, o, la, lc, sa, sc, rfl, x0, x1, hl0, hs0⟩ := HS.out.cell HN.out i hlt
        obtain ⟨hC1, hC2, hC3⟩ := HC.out l[i] (List.getElem_mem hil)
        have y0 := cell_kept kr x0
        have HBG := hid (Go.Proofs.YtmacfhhmpnmjeaaGreatDoor.N.big_any wr _ l[i].1 (hl0.stay kr) (by omega) hC1)
        have HNT : Hid (∀ LN SN, l[i].1.length = LN → l[i].2.length = SN → T + SN + 2 * LN = totN (l.take (i + 1))) := fun LN SN e1 e2 => by
          rw [List.take_succ_eq_append_getElem hil]
          have h9 := hTt.out
          unfold totN at h9 ⊢
          rw [List.map_append, List.sum_append, ← h9]
          simp
          omega
        have HNB : Hid (Go.Proofs.YtmacfhhmpnmjeaaGreatDoor.N.bigN l[i].1 ≤ 4000 → ∀ s ∈ l.take (i + 1), Go.Proofs.YtmacfhhmpnmjeaaGreatDoor.N.bigN s.1 ≤ 4000) := fun hb s hs => by
          rw [List.take_succ_eq_append_getElem hil, List.mem_append] at hs
          rcases hs with hs | hs
          · exact hTb.out s hs
          · rw [List.mem_singleton.1 hs]
            exact hb
        have HLEN := hid (Go.Proofs.YtmacfhhmpnmjeaaGreatDoor.N.bigN_len l[i].1)
        generalize hLN : l[i].1.length = LN at x0 y0 hC2 HBG HNT HLEN
        generalize hSN : l[i].2.length = SN at x1 hC3 HNT
        generalize Go.Proofs.YtmacfhhmpnmjeaaGreatDoor.N.bigN l[i].1 = BN at HBG HNB HLEN
        have HX0 := hid x0
        have HX1 := hid x1
        have KR := hid kr
        clear hl0 hs0 hC1 x0 x1 kr hTt hTb hLN hSN
        go_wp2_with fail
        refine HBG.out.mono ?_
        rintro e w1 ⟨rfl, k1⟩
        have K1 := hid (show Kept w w1 from KR.out.trans k1 (fun _ _ f => f))
        have z0 := cell_kept K1.out HX0.out
        have z1 := cell_kept K1.out HX1.out
        clear y0 HBG k1
        go_wp2_with fail
        go_quiet (fail)
        have K2 := hid (show Kept w (w1.drewN nq) from Go.Proofs.YtmacfhhmpnmjeaaGreatDoor.N.kept_drewN K1.out nq)
        obtain ⟨w2, hw2⟩ : ∃ w2, w1.drewN nq = w2 := ⟨_, rfl⟩
        rw [hw2] at K2
        try rw [hw2]
        clear hw2 nq z0 z1
        by_cases hbn : 4000 < BN
        · have e1 : decide (4000 < BN) = true := decide_eq_true hbn
          have HFN := hid (HT.out w2 K2.out)
          go_wp2_with fail
          exact HFN.out
        · have e1 : decide (4000 < BN) = false := decide_eq_false hbn
          by_cases htt : 4000 < T + SN + 2 * LN
          · have HFN := hid (HT.out w2 K2.out)
            have e2 : decide ((4000 : Int) < (T : Int) + (SN : Int) + 2 * (LN : Int)) = true := decide_eq_true (by omega)
            have e3 : (4000 : Int) < (T : Int) + (SN : Int) + 2 * (LN : Int) := by omega
            go_wp2_with fail
            exact HFN.out
          · have e2 : decide ((4000 : Int) < (T : Int) + (SN : Int) + 2 * (LN : Int)) = false := decide_eq_false (by omega)
            have e3 : ¬ (4000 : Int) < (T : Int) + (SN : Int) + 2 * (LN : Int) := by omega
            go_wp2_with fail
            go_roundw
            case rel => exact ⟨i + 1, T + SN + 2 * LN, by omega, by go_num, by first | (congr 1; done) | (congr 1; omega), by omega, hid (HNT.out LN SN rfl rfl), hid (HNB.out (by omega)), K2.out⟩
            case measure => simp [intOf]; omega
      · have HFN := hid (HF.out wr ⟨by have := HN.out; omega, by have h9 := hTt.out; rw [List.take_of_length_le (by have := HN.out; omega)] at h9; omega, fun s hs => by have h9 := hTb.out s; rw [List.take_of_length_le (by have := HN.out; omega)] at h9; exact h9 hs⟩ kr)
        clear kr
        go_wp2_with fail
        exact HFN.out
end Go.Proofs.YtmacfhhmpnmjeaaGreatDoor.K

/-
  The law's own: its example.
-/
namespace Go.Proofs.YtmacfhhmpnmjeaaGreatDoor.K
open Go.RowKit Go.Proofs.Lys Go.Maps Go.Shelf
open Go.Proofs.YtmacfhhmpnmjeaaGreatDoor.N (ownN_slice ownN_lt ownN_only ownN_stay ownN_base ownN_typed ownN_some)
open Go.Proofs.YtmacfhhmpnmjeaaGreatDoor.C (oper_append_run)
set_option linter.unusedVariables false
set_option linter.unusedSimpArgs false
attribute [local go_sem] Oper.semAt_some

theorem num16_any (n : Int) (w : World) : Calls Tryz.prog 14 #[.int .i64 n] w fun e w' => e = .returned (.int .i64 n) ∧ w' = w := by
  go_enter Tryz.func14, Tryz.ntmps14
  go_wp2
  go_ret
  exact ⟨rfl, rfl⟩
def headN : List UInt8 := [76, 89, 83, 49, 0, 0, 0]
theorem body_nil : bodyB [] = headN := by decide +kernel
theorem reach_nil : Reach [] := ⟨fun s h => (by cases h), by simp, fun _ => by rw [body_nil]; decide⟩
set_option maxRecDepth 100000 in
set_option maxHeartbeats 1600000 in
theorem alive16_any (w : World) (hT : G.Tab w) (hG : ErrT w) : Calls Tryz.prog 6 #[] w fun e w' => e = .returned (.bool true) ∧ Kept w w' := by
  have HPK := hid (pack_any w (.slice none 0 0) [] (.inl ⟨_, _, rfl, rfl⟩) reach_nil hT hG)
  have HNU := hid (fun W => num16_any 0 W)
  obtain ⟨R, hR⟩ : ∃ R, (fun (e : Ending) (w' : World) => e = .returned (.bool true) ∧ Kept w w') = R := ⟨_, rfl⟩
  rw [hR]
  have HF : Hid (∀ w', Kept w w' → R (.returned (.bool true)) w') := fun w' k => by rw [← hR]; exact ⟨rfl, k⟩
  clear hR hT hG
  go_enter Tryz.func6, Tryz.ntmps6
  go_wp2_with fail
  refine HPK.out.mono ?_
  rintro e w1 ⟨k1, ⟨_, u, rfl, hu⟩ | ⟨h, _⟩⟩
  · obtain ⟨ua, uc, hue⟩ := ownN_slice hu
    generalize hUN : (blockB []).length = UN at hue
    subst hue
    have HU := hid hu
    have K1 := hid k1
    clear hu k1 hUN HPK
    go_wp2_with fail
    obtain ⟨W2, hW2⟩ : ∃ W2, (w1.alloc (.cells #[.int .u8 76, .int .u8 89, .int .u8 83, .int .u8 49, .int .u8 0, .int .u8 0, .int .u8 0] 5)).drew = W2 := ⟨_, rfl⟩
    have k2 : Kept w1 W2 := by rw [← hW2]; exact ((Only.refl _ w1).alloc _).drew
    have HS2 : Hid (SrcOf W2 (.slice ua UN uc) ((blockB []).map bV)) := own_src (ownN_stay HU.out k2)
    have HH2 : Hid (BytAt W2 w1.heap.size (.slice (some ⟨w1.heap.size, 0, none⟩) 7 7) headN) := by
      show BytAt _ _ _ _
      rw [← hW2]
      exact ownN_stay (World.ownsRow_lit w1 #[.int .u8 76, .int .u8 89, .int .u8 83, .int .u8 49, .int .u8 0, .int .u8 0, .int .u8 0] 7 (Nat.le_refl _) (by decide) rfl) (Only.refl _ _).drew
    have K2 := hid (show Kept w W2 from K1.out.trans k2 (fun _ _ f => f))
    have HSUM := hid (G.rsum_any W2 _ headN (own_src HH2.out) (by decide))
    have hlt := G.sumL_lt headN
    have HFO := hid (G.rfour_any W2 (G.sumL headN) hlt)
    have hsz : w1.heap.size < W2.heap.size := by rw [← hW2]; simp
    have HBB : Hid (blockB [] = headN ++ G.four (G.sumL headN)) := by
      show _ = _
      unfold blockB
      rw [body_nil]
    have hf4 : (G.four (G.sumL headN)).length = 4 := rfl
    generalize G.sumL headN = SM at HSUM HFO HBB hf4 hlt
    have HWS : Hid (w.heap.size ≤ w1.heap.size) := K1.out.size
    have HX : Hid (∀ (B D : World), Kept w1 B → Only (fun j => (Value.slice (some ⟨w1.heap.size, 0, none⟩) 7 7).ownBlock = some j) B D → SrcOf D (.slice ua UN uc) ((blockB []).map bV)) := fun B D kab hO =>
      own_src (ownN_only (ownN_stay HU.out kab) hO (fun j hj e1 => by
        have h5 : w1.heap.size = j := by simpa [Value.ownBlock] using e1
        have h6 := (ownN_lt HU.out hj).2
        omega))
    have K12 := hid k2
    have HW2 := hid hW2
    clear hW2 HU K1 k2
    refine wp_region_noPanic ?_
    refine wp_region_last (L := 1000) (S := fun w' => SrcOf w' (.slice ua UN uc) ((blockB []).map bV)) (by kernel_rfl) ?_
    rw [HW2.out]
    refine wpAnyN_take (i := 0) (v := .int .i64 0) rfl (by kernel_rfl) (by kernel_rfl) (by kernel_rfl) (by decide) (by kernel_rfl) (fun _ _ _ h => h) (Or.inl ⟨by kernel_rfl, ?_⟩) HS2.out ?_
    · (intro w' hSw; go_simp)
    (try simp only [List.getElem_toArray, List.getElem_cons_succ, List.getElem_cons_zero])
    go_frame
    refine wpAnyL_one (i := 1) (by kernel_rfl) rfl (by kernel_rfl) ?_
    go_simp
    refine (HNU.out _).mono ?_
    rintro e w' ⟨rfl, hw⟩
    replace hw := hw.symm
    subst hw
    refine ⟨HS2.out, ?_⟩
    (try go_frame)
    refine wpAnyN_take (i := 2) (v := .bool true) rfl (by kernel_rfl) (by kernel_rfl) (by kernel_rfl) (by decide) (by kernel_rfl) (fun _ _ _ h => h) (Or.inl ⟨by kernel_rfl, ?_⟩) HS2.out ?_
    · (intro w' hSw; go_simp)
    (try simp only [List.getElem_toArray, List.getElem_cons_succ, List.getElem_cons_zero])
    go_frame
    refine wpAnyN_take (i := 3) (v := .bool true) rfl (by kernel_rfl) (by kernel_rfl) (by kernel_rfl) (by decide) (by kernel_rfl) (fun _ _ _ h => h) (Or.inl ⟨by kernel_rfl, ?_⟩) HS2.out ?_
    · (intro w' hSw; go_simp)
    (try simp only [List.getElem_toArray, List.getElem_cons_succ, List.getElem_cons_zero])
    go_frame
    refine wpAnyN_take (i := 4) (v := .slice ua UN uc) rfl (by kernel_rfl) (by kernel_rfl) (by kernel_rfl) (by decide) (by kernel_rfl) (fun _ _ _ h => h) (Or.inl ⟨by kernel_rfl, ?_⟩) HS2.out ?_
    · (intro w' hSw; go_simp)
    (try simp only [List.getElem_toArray, List.getElem_cons_succ, List.getElem_cons_zero])
    go_frame
    refine wpAnyN_take (i := 5) (v := .string (⟨(blockB []).toArray⟩ : ByteArray)) rfl (by kernel_rfl) (by kernel_rfl) (by kernel_rfl) (by decide) (by kernel_rfl) (fun _ _ _ h => h) (Or.inl ⟨by kernel_rfl, ?_⟩) HS2.out ?_
    · (intro w' hSw; have s0 := G.bytes_str hSw; clear hSw; go_simp)
    (try simp only [List.getElem_toArray, List.getElem_cons_succ, List.getElem_cons_zero])
    go_frame
    refine wpAnyN_take (i := 6) (v := .slice (some ⟨w1.heap.size, 0, none⟩) 7 7) rfl (by kernel_rfl) (by kernel_rfl) (by kernel_rfl) (by decide) (by kernel_rfl) (fun _ _ _ h => h) (Or.inl ⟨by kernel_rfl, ?_⟩) HS2.out ?_
    · (intro w' hSw; go_simp)
    (try simp only [List.getElem_toArray, List.getElem_cons_succ, List.getElem_cons_zero])
    go_frame
    refine wpAnyN_take (i := 7) (v := .slice (some ⟨w1.heap.size, 0, none⟩) 7 7) rfl (by kernel_rfl) (by kernel_rfl) (by kernel_rfl) (by decide) (by kernel_rfl) (fun _ _ _ h => h) (Or.inl ⟨by kernel_rfl, ?_⟩) HS2.out ?_
    · (intro w' hSw; go_simp)
    (try simp only [List.getElem_toArray, List.getElem_cons_succ, List.getElem_cons_zero])
    go_frame
    refine wpAnyL_one (i := 8) (by kernel_rfl) rfl (by kernel_rfl) ?_
    go_simp
    refine HSUM.out.mono ?_
    rintro e w' ⟨rfl, hw⟩
    replace hw := hw.symm
    subst hw
    refine ⟨HS2.out, ?_⟩
    (try go_frame)
    refine wpAnyL_one (i := 9) (by kernel_rfl) rfl (by kernel_rfl) ?_
    go_simp
    refine HFO.out.mono ?_
    rintro e w3 ⟨rfl, ho3, k3⟩
    obtain ⟨a9, n9, c9, w9, r9, hn9, hB9, ho9⟩ := byt_app (ownN_stay HH2.out k3) (own_src ho3) (by rw [hf4]; decide) (by have := k3.size; omega)
    have HS3 := hid (SrcOf.stay HS2.out k3)
    have HB9 : Hid (SrcOf w9 (.slice a9 n9 c9) ((blockB []).map bV)) := by
      show SrcOf _ _ _
      rw [HBB.out]
      exact own_src hB9.out
    have HS9 : Hid (SrcOf w9 (.slice ua UN uc) ((blockB []).map bV)) := HX.out w3 w9 (K12.out.trans k3 (fun _ _ f => f)) ho9.out
    have K9 := hid (show Kept w w9 from (K2.out.trans k3 (fun _ _ f => f)).trans ho9.out (fun j hj e => by
      have : w1.heap.size = j := by simpa [Value.ownBlock] using e
      have := HWS.out
      omega))
    clear hn9 hB9 ho9 ho3 k3
    refine ⟨HS3.out, ?_⟩
    (try go_frame)
    refine wpAnyL_one (i := 10) (by kernel_rfl) rfl (by kernel_rfl) (oper_append_run _ _ _ rfl rfl rfl r9 ?_)
    refine ⟨HS9.out, ?_⟩
    (try go_frame)
    have c9 := G.bytes_str HB9.out
    refine wpAnyL_one (i := 11) (by kernel_rfl) rfl (by kernel_rfl) ?_
    go_simp
    refine ⟨HS9.out, ?_⟩
    (try go_frame)
    refine wpAnyN_take (i := 12) (v := .bool true) rfl (by kernel_rfl) (by kernel_rfl) (by kernel_rfl) (by decide) (by kernel_rfl) (fun _ _ _ h => h) (Or.inl ⟨by kernel_rfl, ?_⟩) HS9.out ?_
    · (intro w' hSw; go_simp)
    (try simp only [List.getElem_toArray, List.getElem_cons_succ, List.getElem_cons_zero])
    go_frame
    refine wpAnyN_take (i := 13) (v := .bool true) rfl (by kernel_rfl) (by kernel_rfl) (by kernel_rfl) (by decide) (by kernel_rfl) (fun _ _ _ h => h) (Or.inl ⟨by kernel_rfl, ?_⟩) HS9.out ?_
    · (intro w' hSw; go_simp)
    (try simp only [List.getElem_toArray, List.getElem_cons_succ, List.getElem_cons_zero])
    go_frame
    refine wpAnyN_take (i := 14) (v := .bool true) rfl (by kernel_rfl) (by kernel_rfl) (by kernel_rfl) (by decide) (by kernel_rfl) (fun _ _ _ h => h) (Or.inl ⟨by kernel_rfl, ?_⟩) HS9.out ?_
    · (intro w' hSw; go_simp)
    (try simp only [List.getElem_toArray, List.getElem_cons_succ, List.getElem_cons_zero])
    go_frame
    refine wpAnyN_done (by kernel_rfl) ?_
    refine NoPanic.normal ?_
    go_wp2_with fail
    exact HF.out _ K9.out
  · exact absurd rfl h
end Go.Proofs.YtmacfhhmpnmjeaaGreatDoor.K

/-
  The law BlockTurned.
-/
namespace Go.Proofs.YtmacfhhmpnmjeaaGreatDoor.K
open Go.RowKit Go.Proofs.Lys Go.Maps Go.Shelf
open Go.Proofs.YtmacfhhmpnmjeaaGreatDoor.N (ownN_slice ownN_lt ownN_only ownN_stay ownN_base ownN_typed ownN_some)
open Go.Proofs.YtmacfhhmpnmjeaaGreatDoor.G (byte_lt ofNat_toNat bV_ofNat)
set_option linter.unusedVariables false
set_option linter.unusedSimpArgs false

theorem split_chk_len (n : Nat) : ∀ l : C.Smps, l.length = n → ((C.splitL l).flatMap chkB).length ≤ 52 * n := by
  induction n using Nat.strongRecOn with
  | _ n ih =>
    intro l hl
    by_cases h : l = []
    · subst h
      rw [C.splitL_nil]
      simp
    · have h0 : 0 < l.length := List.length_pos_iff.2 h
      rw [C.splitL_cons h, List.flatMap_cons, List.length_append]
      have h1 := chk_len (l.take 120) (by rw [List.length_take]; omega)
      rw [List.length_take] at h1
      have h2 := ih (l.drop 120).length (by rw [List.length_drop]; omega) (l.drop 120) rfl
      rw [List.length_drop] at h2
      omega
theorem ser_len {s : Ser} (hm : N.makeL s.1 = some s.1) (hl : s.2.length ≤ 4000) : (serB s).length ≤ 5000 + 52 * s.2.length := by
  have hmd := N.makeL_made hm
  have h1 : (N.txtB s.1).data.toList.length ≤ 4820 := by
    unfold N.txtB
    rw [hm]
    show (N.mkB (N.textL s.1)).data.toList.length ≤ 4820
    have h2 := N.accT_len (l := s.1) (fun x hx => by
      have h9 := hm
      unfold N.makeL at h9
      split at h9
      · cases h9
      · split at h9
        · rename_i h8
          exact List.all_eq_true.1 h8 x hx
        · cases h9)
    have h3 := hmd.len16
    simp [N.mkB, N.textL]
    omega
  have h4 := split_chk_len _ s.2 rfl
  have p1 := putN_ten (U.uN_lt ((N.txtB s.1).size : Int))
  have p2 := putN_ten (U.uN_lt ((C.splitL s.2).length : Int))
  unfold serB
  simp only [List.length_append]
  omega
theorem totN_cons (s : Ser) (l : List Ser) : totN (s :: l) = s.2.length + 2 * s.1.length + totN l := by simp [totN]
theorem totN_mem {l : List Ser} {s : Ser} (h : s ∈ l) : s.2.length + 2 * s.1.length ≤ totN l := by
  induction l with
  | nil => cases h
  | cons y r ih =>
    rw [totN_cons]
    rcases List.mem_cons.1 h with rfl | h
    · omega
    · have := ih h
      omega
theorem flat_ser_len : ∀ (l : List Ser), (∀ s ∈ l, N.makeL s.1 = some s.1 ∧ s.2.length ≤ 4000) → (l.flatMap serB).length ≤ 5000 * l.length + 52 * totN l
  | [], _ => by simp [totN]
  | s :: l, h => by
    have h1 := ser_len (h s (List.mem_cons_self ..)).1 (h s (List.mem_cons_self ..)).2
    have h2 := flat_ser_len l (fun x hx => h x (List.mem_cons_of_mem _ hx))
    rw [List.flatMap_cons, List.length_append, List.length_cons, totN_cons]
    omega
theorem few_reach {l : List Ser} (h : Few l) : Reach l := by
  obtain ⟨h1, h2, h3⟩ := h
  refine ⟨fun s hs => ?_, by omega, fun h0 => ?_⟩
  · have a := N.bigN_small (h3 s hs)
    have b := totN_mem hs
    exact ⟨by omega, a.1, by omega⟩
  · obtain ⟨_, hf⟩ := check_fit h0
    have h4 := flat_ser_len l (fun s hs => by
      obtain ⟨i, hi, rfl⟩ := List.getElem_of_mem hs
      have b := totN_mem hs
      exact ⟨(hf i hi).made, by omega⟩)
    have hFit : ∀ s ∈ l, s.2 ≠ [] ∧ S.Rising (s.2.map (·.1)) := fun s hs => by
      obtain ⟨i, hi, rfl⟩ := List.getElem_of_mem hs
      exact ⟨(hf i hi).some, (times_iff _).1 (hf i hi).times⟩
    have hsb := span_bounds (l := l) (fun s hs => ⟨(hFit s hs).1, fun x hx => by
      obtain ⟨i, hi, rfl⟩ := List.getElem_of_mem hx
      have := (hFit s hs).2.at (i := i) (by rw [List.length_map]; exact hi)
      rw [List.getElem_map] at this
      exact this⟩)
    have hz1 := putN_ten (zig_lt hsb.1)
    have hz2 := putN_ten (zig_lt hsb.2)
    have hz3 := putN_ten (U.uN_lt (l.length : Int))
    unfold bodyB
    simp only [List.length_append, List.length_cons, List.length_nil]
    omega
theorem kxor_ne {y by_ : Nat} (h : by_ ≠ 0) : y ^^^ by_ ≠ y := by
  intro e
  have h1 : y ^^^ (y ^^^ by_) = y ^^^ y := by rw [e]
  rw [← Nat.xor_assoc, Nat.xor_self, Nat.zero_xor] at h1
  exact h h1
theorem kown_xor {w : World} {base g n cap k : Nat} {ys : List UInt8} (h : w.ownsRow base 5 1 (.slice (some ⟨g, 0, none⟩) n cap) n (ys.map bV)) (hk : k < ys.length) (by_ : Nat) (hb : by_ < 256) :
    ∃ y z : Nat, y = ys[k].toNat ∧ y < 256 ∧ w.cell? ⟨g, k, none⟩ = some (.int .u8 (y : Int)) ∧ w.frozen? ⟨g, k, none⟩ = false ∧ bits .xor .u8 (y : Int) (by_ : Int) = (z : Int) ∧ z = (UInt8.ofNat (y ^^^ by_)).toNat ∧
    (w.setCell ⟨g, k, none⟩ (.int .u8 (z : Int))).ownsRow base 5 1 (.slice (some ⟨g, 0, none⟩) n cap) n ((ys.set k (UInt8.ofNat (y ^^^ by_))).map bV) := by
  have hn := own_len h
  rw [List.length_map] at hn
  have hy : ys[k].toNat < 256 := byte_lt _
  have hx : ys[k].toNat ^^^ by_ < 256 := Nat.xor_lt_two_pow (n := 8) hy hb
  refine ⟨ys[k].toNat, ys[k].toNat ^^^ by_, rfl, hy, ?_, h.frozenAt k, u8_xor_nat _ _ hy hb, (ofNat_toNat hx).symm, ?_⟩
  · rw [h.cellAt k (by omega), List.getElem?_map, List.getElem?_eq_getElem hk]
    rfl
  · rw [List.map_set, bV_ofNat hx]
    exact (h.stored k _).1
/-- A byte turned: the sum is not theirs any more. -/
theorem turned_sum (body : List UInt8) (k : Nat) (hk : k < (body ++ G.four (G.sumL body)).length) (c : UInt8) (hc : c ≠ (body ++ G.four (G.sumL body))[k]) :
    ((body ++ G.four (G.sumL body)).set k c).drop body.length ≠ G.four (G.sumL (((body ++ G.four (G.sumL body)).set k c).take body.length)) := by
  intro e
  by_cases h : k < body.length
  · rw [List.set_append_left _ _ h, List.drop_left' (by simp), List.take_left' (by simp)] at e
    have h1 := G.four_inj (G.sumL_lt _) (G.sumL_lt _) e
    have h2 := G.sumL_set body k h c h1.symm
    exact hc (by rw [h2, List.getElem_append_left h])
  · rw [List.set_append_right _ _ (by omega), List.drop_left, List.take_left] at e
    have hl : (G.four (G.sumL body)).length = 4 := rfl
    have hk2 : k - body.length < (G.four (G.sumL body)).length := by rw [List.length_append] at hk; omega
    have h3 : ((G.four (G.sumL body)).set (k - body.length) c)[k - body.length]? = some c := by rw [List.getElem?_set_self hk2]
    rw [e, List.getElem?_eq_getElem hk2] at h3
    exact hc (by rw [List.getElem_append_right (by omega)]; exact (Option.some.inj h3).symm)
end Go.Proofs.YtmacfhhmpnmjeaaGreatDoor.K

/-
  The law BlockTurned: the walk.
-/
namespace Go.Proofs.YtmacfhhmpnmjeaaGreatDoor.K
open Go.RowKit Go.Proofs.Lys Go.Maps Go.Shelf
open Go.Proofs.YtmacfhhmpnmjeaaGreatDoor.N (ownN_slice ownN_lt ownN_only ownN_stay ownN_base ownN_typed ownN_some)
open Go.Proofs.YtmacfhhmpnmjeaaGreatDoor.G (byte_lt ofNat_toNat bV_ofNat)
set_option linter.unusedVariables false
set_option linter.unusedSimpArgs false

set_option maxRecDepth 100000 in
set_option maxHeartbeats 6400000 in
theorem turned_walk (w : World) (v : Value) (l : List Ser) (at_ : Int) (Y : Nat) (h : SIn w v l) (hT : G.Tab w) (hG : ErrT w) (hA : at_ ≤ 9223372036854775807) (hY : Y < 256) :
    Calls Tryz.prog 5 #[v, .int .i64 at_, .int .u8 (Y : Int)] w fun e w' => e = .returned (.bool true) ∧ Kept w w' := by
  have HAL := hid (alive16_any w hT hG)
  obtain ⟨R, hR⟩ : ∃ R, (fun (e : Ending) (w' : World) => e = .returned (.bool true) ∧ Kept w w') = R := ⟨_, rfl⟩
  rw [hR]
  have HF : Hid (∀ w', Kept w w' → R (.returned (.bool true)) w') := fun w' k => by rw [← hR]; exact ⟨rfl, k⟩
  clear hR
  have HBG := hid (fun W (k : Kept w W) => kbig_any W v l ⟨h.src.stay k, h.came, h.len⟩)
  have HCK := hid (fun W (k : Kept w W) (f : Few l) => rcheck_any W v l (h.src.stay k) (few_reach f).len (fun s hs => ⟨((few_reach f).all s hs).1, ((few_reach f).all s hs).2.1, by have := ((few_reach f).all s hs).2.2; omega⟩))
  have HPK := hid (fun W (k : Kept w W) (f : Few l) => pack_any W v l (h.src.stay k) (few_reach f) (hT.stay k) (hG.stay k))
  have HTT := hid hT
  have HGG := hid hG
  obtain ⟨a, c, rfl⟩ := h.src.len
  obtain ⟨N, hN⟩ : ∃ N, l.length = N := ⟨_, rfl⟩
  rw [hN] at HBG HCK HPK ⊢
  clear h hT hG hN
  go_enter Tryz.func5, Tryz.ntmps5
  go_wp2_with fail
  refine HAL.out.mono ?_
  rintro e w1 ⟨rfl, k1⟩
  have K1 := hid k1
  clear k1 HAL
  go_wp2_with fail
  refine (HBG.out w1 K1.out).mono ?_
  rintro e w2 ⟨⟨B, rfl, hB⟩, k2⟩
  have K2 := hid (show Kept w w2 from K1.out.trans k2 (fun _ _ f => f))
  clear k2 HBG
  cases B with
  | true =>
    have HFN := hid (HF.out w2 K2.out)
    clear hB
    go_wp2_with fail
    exact HFN.out
  | false =>
    have HW := hid (hB rfl)
    clear hB
    go_wp2_with fail
    refine (HCK.out w2 K2.out HW.out).mono ?_
    rintro e w3 ⟨rfl, k3⟩
    have K3 := hid (show Kept w w3 from K2.out.trans k3 (fun _ _ f => f))
    have HFN := hid (HF.out w3 K3.out)
    have HPP := hid (HPK.out w3 K3.out HW.out)
    have HRE := hid (few_reach HW.out)
    obtain ⟨n, hn⟩ : ∃ n, checkB l = n := ⟨_, rfl⟩
    have HN := hid hn
    rw [hn]
    clear k3 hn HPK HCK
    by_cases h0 : n = 0
    · subst h0
      by_cases hy : Y = 0
      · subst hy
        go_wp2_with fail
        exact HFN.out
      · have y1 : ((Y : Int) == 0) = false := by simp; omega
        have y2 : ¬ (Y : Int) = 0 := by omega
        have y3 : ¬ Y = 0 := hy
        by_cases ha : at_ < 0
        · have a1 : decide (at_ < 0) = true := decide_eq_true ha
          go_wp2_with fail
          exact HFN.out
        · obtain ⟨A, rfl⟩ : ∃ A : Nat, at_ = (A : Int) := ⟨at_.toNat, by omega⟩
          have a1 : decide ((A : Int) < 0) = false := decide_eq_false ha
          have HY0 := hid hy
          clear ha hy HFN
          go_wp2_with fail
          refine HPP.out.mono ?_
          rintro e w4 ⟨k4, ⟨_, u, rfl, hu⟩ | ⟨h, _⟩⟩
          · have HBL : Hid ((blockB l).length = (bodyB l).length + 4) := by
              show _ = _
              unfold blockB
              rw [List.length_append]
              rfl
            obtain ⟨F, hF⟩ : ∃ F, (blockB l).length = F := ⟨_, rfl⟩
            have hF4 : 4 ≤ F := by have := HBL.out; omega
            have hFm : F ≤ 9000004 := by have := HBL.out; have := HRE.out.tot HN.out; omega
            have HFL := hid hF
            have hu2 := hu
            unfold BytAt at hu2
            rw [hF] at hu2
            obtain ⟨g, cc, rfl⟩ := ownN_some hu2 (by omega)
            obtain ⟨r, hr⟩ : ∃ r, A % F = r := ⟨_, rfl⟩
            have hrF : r < F := by rw [← hr]; exact Nat.mod_lt _ (by omega)
            have m2 : (A : Int).tmod (F : Int) = (r : Int) := by rw [← hr]; exact (Int.ofNat_tmod A F).symm
            have m4 : (A : Int) % (F : Int) = (r : Int) := by rw [← hr]; exact (Int.natCast_emod A F).symm
            have hF0 : ((F : Int) == 0) = false := by simp; omega
            obtain ⟨y, z, hyy, hyl, t1, t2, t3, hz, t4⟩ := kown_xor hu2 (k := r) (by rw [hF]; exact hrF) Y hY
            have hge := (ownN_lt hu2 (k := g) rfl).1
            have K4 := hid (show Kept w w4 from K3.out.trans k4 (fun _ _ f => f))
            have K5 : Hid (Kept w (w4.setCell ⟨g, r, none⟩ (.int .u8 (z : Int)))) := K4.out.setCell (fun h => absurd h (by show ¬ g < w.heap.size; have := K3.out.size; omega)) _
            have HUN : Hid (Calls Tryz.prog 17 #[.slice (some ⟨g, 0, none⟩) F cc] (w4.setCell ⟨g, r, none⟩ (.int .u8 (z : Int))) fun e w' => e = .returned (.tuple #[.slice none 0 0, .int .i64 5]) ∧ Kept (w4.setCell ⟨g, r, none⟩ (.int .u8 (z : Int))) w') := by
              have hB : BytAt (w4.setCell ⟨g, r, none⟩ (.int .u8 (z : Int))) w3.heap.size (.slice (some ⟨g, 0, none⟩) F cc) ((blockB l).set r (UInt8.ofNat (y ^^^ Y))) := by
                unfold BytAt
                rw [List.length_set, hF]
                exact t4
              refine unpack_no _ _ ((blockB l).set r (UInt8.ofNat (y ^^^ Y))) (bsrcG hB) (bodyB l).length (by rw [List.length_set]; exact HBL.out) (by rw [List.length_set, hF]; omega) (HTT.out.stay K5.out) (HGG.out.stay K5.out) ?_
              have hne : UInt8.ofNat (y ^^^ Y) ≠ (blockB l)[r]'(by rw [hF]; exact hrF) := fun e => by
                have h1 := congrArg UInt8.toNat e
                rw [ofNat_toNat (Nat.xor_lt_two_pow (n := 8) hyl hY), ← hyy] at h1
                exact kxor_ne HY0.out h1
              exact turned_sum (bodyB l) r (by rw [← hF] at hrF; exact hrF) _ hne
            clear hu hu2 hyy hz t4 hge k4 HPP hr hF
            go_wp2_with (go_at_call 14; refine (num16_any _ _).mono ?_; rintro e w' ⟨rfl, hw⟩; replace hw := hw.symm; subst hw)
            refine HUN.out.mono ?_
            rintro e w5 ⟨rfl, k5⟩
            have HFN := hid (HF.out w5 (K5.out.trans k5 (fun _ _ f => f)))
            clear k5 t1 t2 t3
            go_wp2_with (go_at_call 14; refine (num16_any _ _).mono ?_; rintro e w' ⟨rfl, hw⟩; replace hw := hw.symm; subst hw)
            exact HFN.out
          · exact absurd HN.out h
    · have n1 : (n == 0) = false := by simp; omega
      have n2 : (n != 0) = true := by simp; omega
      go_wp2_with fail
      exact HFN.out
end Go.Proofs.YtmacfhhmpnmjeaaGreatDoor.K
