/-
  sink: a run goes down.
-/
import Derived.Test.YtcacoanhiphbiaaZsr
namespace Go.Proofs.Ytcacoanhiphbiaa.Ms
open Go Go.RowKit Go.Proofs.Lys
set_option linter.unusedVariables false
set_option linter.unusedSimpArgs false

/-- What sink leaves. -/
def SinkP (RK : Rank) (w0 : World) (hb : Nat) (h : List Run) (g cap lo : Nat) (w : World) (e : Ending) (w' : World) : Prop :=
  e = .returned (.tuple #[]) ∧ ∃ h2, h2.Perm h ∧ HeapI h2 lo ∧ HeapW RK w0 hb h2 g cap w' ∧ Only (fun k => k = g) w w'
/-- Two runs change their places. -/
theorem HeapW.swap {RK : Rank} {w0 : World} {hb : Nat} {h : List Run} {g cap : Nat} {w : World} (H : HeapW RK w0 hb h g cap w) {i j : Nat} (hi : i < h.length) (hj : j < h.length) (hij : i ≠ j) :
    HeapW RK w0 hb (swapR h i j) g cap ((((w.setCell ⟨g, i * 2, none⟩ h[j].1).setCell ⟨g, i * 2 + 1, none⟩ (.int .i64 (h[j].2.2 : Int))).setCell ⟨g, j * 2, none⟩ h[i].1).setCell ⟨g, j * 2 + 1, none⟩ (.int .i64 (h[i].2.2 : Int))) ∧
    Only (fun k => k = g) w ((((w.setCell ⟨g, i * 2, none⟩ h[j].1).setCell ⟨g, i * 2 + 1, none⟩ (.int .i64 (h[j].2.2 : Int))).setCell ⟨g, j * 2, none⟩ h[i].1).setCell ⟨g, j * 2 + 1, none⟩ (.int .i64 (h[i].2.2 : Int))) := by
  have hO : Only (fun k => k = g) w ((((w.setCell ⟨g, i * 2, none⟩ h[j].1).setCell ⟨g, i * 2 + 1, none⟩ (.int .i64 (h[j].2.2 : Int))).setCell ⟨g, j * 2, none⟩ h[i].1).setCell ⟨g, j * 2 + 1, none⟩ (.int .i64 (h[i].2.2 : Int))) :=
    (((((Only.refl (fun k => k = g) w).setCell (p := ⟨g, i * 2, none⟩) (fun _ => rfl) _).setCell (p := ⟨g, i * 2 + 1, none⟩) (fun _ => rfl) _).setCell (p := ⟨g, j * 2, none⟩) (fun _ => rfl) _).setCell (p := ⟨g, j * 2 + 1, none⟩) (fun _ => rfl) _)
  have hg : w0.heap.size ≤ g := (ownN_lt H.row rfl).1
  have hne : hb ≠ g := Typed.ne H.blk.typed (ownN_typed H.row rfl) (by decide)
  refine ⟨⟨?_, ?_, ?_, ?_, H.base⟩, hO⟩
  · rw [swap_len]
    exact Only.blk hO H.blk hne
  · rw [swap_len]
    have h1 := (H.row.stored (i * 2) h[j].1).1
    have h2 := (h1.stored (i * 2 + 1) (.int .i64 (h[j].2.2 : Int))).1
    have h3 := (h2.stored (j * 2) h[i].1).1
    have h4 := (h3.stored (j * 2 + 1) (.int .i64 (h[i].2.2 : Int))).1
    rw [runL_set h i h[j], runL_set (h.set i h[j]) j h[i]] at h4
    have e : swapR h i j = (h.set i h[j]).set j h[i] := by unfold swapR; rw [getD_at hi, getD_at hj]
    rw [e]
    exact h4
  · intro r hr
    exact H.src r ((swap_perm hi hj hij).subset hr)
  · exact H.kept.trans hO (fun k hk e => by have e' : k = g := e; omega)

set_option maxRecDepth 100000 in
set_option maxHeartbeats 6400000 in
theorem sink_any {RK : Rank} {w0 : World} {hb : Nat} {h : List Run} {g cap : Nat} (w : World) (H : HeapW RK w0 hb h g cap w) (hlen : h.length ≤ 1000000) (hne : ∀ r ∈ h, r.2.1 ≠ []) (at_ lo : Nat) (hI : SinkI h at_ lo) (hlo : lo ≤ at_) (hat : at_ ≤ 1000000) :
    Calls Try.prog 27 #[.pointer (some ⟨hb, 0, none⟩), .int .i64 (at_ : Int)] w (SinkP RK w0 hb h g cap lo w) := by
  obtain ⟨R, hR⟩ : ∃ R, SinkP RK w0 hb h g cap lo w = R := ⟨_, rfl⟩
  rw [hR]
  have HRR := hid hR
  obtain ⟨N, hN⟩ : ∃ N, h.length = N := ⟨_, rfl⟩
  have HN := hid hN
  have HH := hid H
  have HI := hid hI
  have HNE := hid hne
  rw [hN] at hlen
  have HLO := hid hlo
  clear H hI hne hR hN hlo
  go_enter Try.func27, Try.ntmps27
  go_wp2
  go_step3
  go_wp2
  go_step3
  go_wp2
  go_loopw [1] (fun s wr => ∃ (at_ : Nat) (h' : List Run), s = .int .i64 (at_ : Int) ∧ at_ ≤ 1000000 ∧ lo ≤ at_ ∧ Hid (h'.Perm h) ∧ Hid (SinkI h' at_ lo) ∧ Hid (HeapW RK w0 hb h' g cap wr) ∧ Hid (Only (fun k => k = g) w wr)) (fun s _ => N - (intOf s).toNat)
  case atStart => exact ⟨at_, h, rfl, hat, HLO.out, hid (List.Perm.refl h), HI, HH, hid (Only.refl _ _)⟩
  case round =>
    clear HI HH HLO hat
    obtain ⟨at_, h', rfl, hat, hlo, HP, HI, HH, HO⟩ := hrel
    have HLN : Hid (h'.length = N) := hid (HP.out.length_eq.trans HN.out)
    have HLO := hid hlo
    have hcb := HH.out.blk
    rw [HLN.out] at hcb
    have b0 := hcb.cell 0 rfl
    have hltb := hcb.lt
    clear hcb hlo
    by_cases h1 : N ≤ 2 * at_ + 1
    · have HF : Hid (R (.returned (.tuple #[])) wr) := hid (by
        rw [← HRR.out]
        exact ⟨rfl, h', HP.out, sink_stop HI.out (fun j hj hl => by have := HLN.out; omega), HH.out, HO.out⟩)
      go_wp2
      rw [Exit.noGoto_normal]
      go_end0
      exact HF.out
    · have hx1 : ¬ ((N : Int) ≤ 2 * (at_ : Int) + 1) := by omega
      by_cases h2 : 2 * at_ + 2 < N
      · have HA1 : Hid (Calls Try.prog 35 #[.pointer (some ⟨hb, 0, none⟩), .int .i64 (2 * (at_ : Int) + 1 + 1), .int .i64 (2 * (at_ : Int) + 1)] wr fun e w' => e = .returned (.bool (ahdB (h'.getD (2 * at_ + 2) dR) (h'.getD (2 * at_ + 1) dR))) ∧ Kept wr w') := by
          have := ahead_any wr HH.out (by rw [HLN.out]; exact hlen) (fun r hr => HNE.out r (HP.out.subset hr)) (2 * at_ + 2) (2 * at_ + 1) (by rw [HLN.out]; omega) (by rw [HLN.out]; omega)
          rw [show ((2 * at_ + 2 : Nat) : Int) = 2 * (at_ : Int) + 1 + 1 by omega, show ((2 * at_ + 1 : Nat) : Int) = 2 * (at_ : Int) + 1 by omega] at this
          exact hid this
        cases hab : ahdB (h'.getD (2 * at_ + 2) dR) (h'.getD (2 * at_ + 1) dR) with
        | true =>
          rw [hab] at HA1
          have HOTH : Hid (∀ j, (j = 2 * at_ + 1 ∨ j = 2 * at_ + 2) → j < h'.length → ¬ Ahd (h'.getD j dR) (h'.getD (2 * at_ + 2) dR)) := hid (fun j hj hl => by
            have h3 := ahdB_iff.1 hab
            rcases hj with rfl | rfl
            · rw [not_ahd]; unfold Ahd at h3; omega
            · exact ahd_irr _)
          clear hab
          go_wp2_with fail
          refine HA1.out.mono ?_
          rintro e W ⟨rfl, k1⟩
          have HW := hid (HH.out.keep k1)
          have HOW := hid (HO.out.trans k1 (fun _ _ f => f.elim))
          clear k1 HA1 b0 hltb
          have HA2 : Hid (Calls Try.prog 35 #[.pointer (some ⟨hb, 0, none⟩), .int .i64 (2 * (at_ : Int) + 1 + 1), .int .i64 (at_ : Int)] W fun e w' => e = .returned (.bool (ahdB (h'.getD (2 * at_ + 2) dR) (h'.getD at_ dR))) ∧ Kept W w') := by
            have := ahead_any W HW.out (by rw [HLN.out]; exact hlen) (fun r hr => HNE.out r (HP.out.subset hr)) (2 * at_ + 2) at_ (by rw [HLN.out]; omega) (by rw [HLN.out]; omega)
            rw [show ((2 * at_ + 2 : Nat) : Int) = 2 * (at_ : Int) + 1 + 1 by omega] at this
            exact hid this
          cases hab : ahdB (h'.getD (2 * at_ + 2) dR) (h'.getD at_ dR) with
          | false =>
            rw [hab] at HA2
            have HF : Hid (∀ w', Kept W w' → R (.returned (.tuple #[])) w') := hid (fun w' k => by
              rw [← HRR.out]
              refine ⟨rfl, h', HP.out, sink_stop HI.out (fun j hj hl => ?_), HW.out.keep k, HOW.out.trans k (fun _ _ f => f.elim)⟩
              exact not_ahd_trans (HOTH.out j hj hl) (ahdB_false.1 hab))
            clear hab
            go_wp2_with fail
            refine HA2.out.mono ?_
            rintro e w3 ⟨rfl, k3⟩
            have HF3 := hid (HF.out w3 k3)
            clear k3 HA2 HF
            go_wp2
            rw [Exit.noGoto_normal]
            go_end0
            exact HF3.out
          | true =>
            rw [hab] at HA2
            have HSI := hid (sink_step (way := 2 * at_ + 2) (oth := 0) HI.out HLO.out (by rw [HLN.out]; omega) (by omega) HOTH.out (ahdB_iff.1 hab))
            have hat2 : at_ < h'.length := by rw [HLN.out]; omega
            have hwy2 : 2 * at_ + 2 < h'.length := by rw [HLN.out]; omega
            clear hab
            go_wp2_with fail
            refine HA2.out.mono ?_
            rintro e w3 ⟨rfl, k3⟩
            have HW3 := hid (HW.out.keep k3)
            have HO3 := hid (HOW.out.trans k3 (fun _ _ f => f.elim))
            obtain ⟨s1, s2⟩ := HW3.out.swap hat2 hwy2 (by omega)
            have hca := HW3.out.cells hat2
            have hcw := HW3.out.cells hwy2
            have hcb := HW3.out.blk
            rw [HLN.out] at hcb
            have b0 := hcb.cell 0 rfl
            have hltb := hcb.lt
            have hf := HW3.out.row.frozenAt
            obtain ⟨ra, hra⟩ : ∃ r, h'[at_] = r := ⟨_, rfl⟩
            obtain ⟨rw_, hrw⟩ : ∃ r, h'[2 * at_ + 2] = r := ⟨_, rfl⟩
            have hsa := (HW3.out.src _ (List.getElem_mem hat2)).2
            have hsw := (HW3.out.src _ (List.getElem_mem hwy2)).2
            rw [hra] at hca s1 s2 hsa
            rw [hrw] at hcw s1 s2 hsw
            obtain ⟨va, sa, pa⟩ := ra
            obtain ⟨vw, sw, pw⟩ := rw_
            simp only at hca s1 s2 hsa hcw hsw
            obtain ⟨xa, ca, rfl, -⟩ := hsa
            obtain ⟨xw, cw, rfl, -⟩ := hsw
            generalize sa.length = la at hca s1 s2
            generalize sw.length = lw at hcw s1 s2
            obtain ⟨a0, a1⟩ := hca
            obtain ⟨y0, y1⟩ := hcw
            have hltg : g < w3.heap.size := World.block_lt_of_cell? w3 _ a0
            have f0 := hf (at_ * 2)
            have f1 := hf (at_ * 2 + 1)
            have f2 := hf ((2 * at_ + 2) * 2)
            have f3 := hf ((2 * at_ + 2) * 2 + 1)
            have HS1 := hid s1
            have HS2 := hid (HO3.out.trans s2 (fun _ _ e => e))
            have HP2 := hid ((swap_perm hat2 hwy2 (by omega)).trans HP.out)
            clear hra hrw hcb s1 s2 k3 HA2 hf
            go_wp2_with fail
            go_region
            have HS9 := hid (HS1.out.keep ((Only.refl _ _).drew))
            have HO9 := hid (HS2.out.trans (((Only.refl (fun _ => False) _).drew)) (fun _ _ f => f.elim))
            clear HS1 HS2 f0 f1 f2 f3 a0 a1 y0 y1 b0 hltb hltg
            generalize ((((w3.setCell ⟨g, at_ * 2, none⟩ (.slice xw lw cw)).setCell ⟨g, at_ * 2 + 1, none⟩ (.int .i64 (pw : Int))).setCell ⟨g, (2 * at_ + 2) * 2, none⟩ (.slice xa la ca)).setCell ⟨g, (2 * at_ + 2) * 2 + 1, none⟩ (.int .i64 (pa : Int))).drew = w9 at HS9 HO9 ⊢
            go_wp2
            go_roundw
            case rel => exact ⟨2 * at_ + 2, swapR h' at_ (2 * at_ + 2), by rw [show ((2 * at_ + 2 : Nat) : Int) = 2 * (at_ : Int) + 1 + 1 by omega], by omega, by have := HLO.out; omega, HP2, HSI, HS9, HO9⟩
            case measure => simp [intOf]; omega
        | false =>
          rw [hab] at HA1
          have HOTH : Hid (∀ j, (j = 2 * at_ + 1 ∨ j = 2 * at_ + 2) → j < h'.length → ¬ Ahd (h'.getD j dR) (h'.getD (2 * at_ + 1) dR)) := hid (fun j hj hl => by
            have h3 := ahdB_false.1 hab
            rcases hj with rfl | rfl
            · exact ahd_irr _
            · exact h3)
          clear hab
          go_wp2_with fail
          refine HA1.out.mono ?_
          rintro e W ⟨rfl, k1⟩
          have HW := hid (HH.out.keep k1)
          have HOW := hid (HO.out.trans k1 (fun _ _ f => f.elim))
          clear k1 HA1 b0 hltb
          have HA2 : Hid (Calls Try.prog 35 #[.pointer (some ⟨hb, 0, none⟩), .int .i64 (2 * (at_ : Int) + 1), .int .i64 (at_ : Int)] W fun e w' => e = .returned (.bool (ahdB (h'.getD (2 * at_ + 1) dR) (h'.getD at_ dR))) ∧ Kept W w') := by
            have := ahead_any W HW.out (by rw [HLN.out]; exact hlen) (fun r hr => HNE.out r (HP.out.subset hr)) (2 * at_ + 1) at_ (by rw [HLN.out]; omega) (by rw [HLN.out]; omega)
            rw [show ((2 * at_ + 1 : Nat) : Int) = 2 * (at_ : Int) + 1 by omega] at this
            exact hid this
          cases hab : ahdB (h'.getD (2 * at_ + 1) dR) (h'.getD at_ dR) with
          | false =>
            rw [hab] at HA2
            have HF : Hid (∀ w', Kept W w' → R (.returned (.tuple #[])) w') := hid (fun w' k => by
              rw [← HRR.out]
              refine ⟨rfl, h', HP.out, sink_stop HI.out (fun j hj hl => ?_), HW.out.keep k, HOW.out.trans k (fun _ _ f => f.elim)⟩
              exact not_ahd_trans (HOTH.out j hj hl) (ahdB_false.1 hab))
            clear hab
            go_wp2_with fail
            refine HA2.out.mono ?_
            rintro e w3 ⟨rfl, k3⟩
            have HF3 := hid (HF.out w3 k3)
            clear k3 HA2 HF
            go_wp2
            rw [Exit.noGoto_normal]
            go_end0
            exact HF3.out
          | true =>
            rw [hab] at HA2
            have HSI := hid (sink_step (way := 2 * at_ + 1) (oth := 0) HI.out HLO.out (by rw [HLN.out]; omega) (by omega) HOTH.out (ahdB_iff.1 hab))
            have hat2 : at_ < h'.length := by rw [HLN.out]; omega
            have hwy2 : 2 * at_ + 1 < h'.length := by rw [HLN.out]; omega
            clear hab
            go_wp2_with fail
            refine HA2.out.mono ?_
            rintro e w3 ⟨rfl, k3⟩
            have HW3 := hid (HW.out.keep k3)
            have HO3 := hid (HOW.out.trans k3 (fun _ _ f => f.elim))
            obtain ⟨s1, s2⟩ := HW3.out.swap hat2 hwy2 (by omega)
            have hca := HW3.out.cells hat2
            have hcw := HW3.out.cells hwy2
            have hcb := HW3.out.blk
            rw [HLN.out] at hcb
            have b0 := hcb.cell 0 rfl
            have hltb := hcb.lt
            have hf := HW3.out.row.frozenAt
            obtain ⟨ra, hra⟩ : ∃ r, h'[at_] = r := ⟨_, rfl⟩
            obtain ⟨rw_, hrw⟩ : ∃ r, h'[2 * at_ + 1] = r := ⟨_, rfl⟩
            have hsa := (HW3.out.src _ (List.getElem_mem hat2)).2
            have hsw := (HW3.out.src _ (List.getElem_mem hwy2)).2
            rw [hra] at hca s1 s2 hsa
            rw [hrw] at hcw s1 s2 hsw
            obtain ⟨va, sa, pa⟩ := ra
            obtain ⟨vw, sw, pw⟩ := rw_
            simp only at hca s1 s2 hsa hcw hsw
            obtain ⟨xa, ca, rfl, -⟩ := hsa
            obtain ⟨xw, cw, rfl, -⟩ := hsw
            generalize sa.length = la at hca s1 s2
            generalize sw.length = lw at hcw s1 s2
            obtain ⟨a0, a1⟩ := hca
            obtain ⟨y0, y1⟩ := hcw
            have hltg : g < w3.heap.size := World.block_lt_of_cell? w3 _ a0
            have f0 := hf (at_ * 2)
            have f1 := hf (at_ * 2 + 1)
            have f2 := hf ((2 * at_ + 1) * 2)
            have f3 := hf ((2 * at_ + 1) * 2 + 1)
            have HS1 := hid s1
            have HS2 := hid (HO3.out.trans s2 (fun _ _ e => e))
            have HP2 := hid ((swap_perm hat2 hwy2 (by omega)).trans HP.out)
            clear hra hrw hcb s1 s2 k3 HA2 hf
            go_wp2_with fail
            go_region
            have HS9 := hid (HS1.out.keep ((Only.refl _ _).drew))
            have HO9 := hid (HS2.out.trans (((Only.refl (fun _ => False) _).drew)) (fun _ _ f => f.elim))
            clear HS1 HS2 f0 f1 f2 f3 a0 a1 y0 y1 b0 hltb hltg
            generalize ((((w3.setCell ⟨g, at_ * 2, none⟩ (.slice xw lw cw)).setCell ⟨g, at_ * 2 + 1, none⟩ (.int .i64 (pw : Int))).setCell ⟨g, (2 * at_ + 1) * 2, none⟩ (.slice xa la ca)).setCell ⟨g, (2 * at_ + 1) * 2 + 1, none⟩ (.int .i64 (pa : Int))).drew = w9 at HS9 HO9 ⊢
            go_wp2
            go_roundw
            case rel => exact ⟨2 * at_ + 1, swapR h' at_ (2 * at_ + 1), by rw [show ((2 * at_ + 1 : Nat) : Int) = 2 * (at_ : Int) + 1 by omega], by omega, by have := HLO.out; omega, HP2, HSI, HS9, HO9⟩
            case measure => simp [intOf]; omega
      · have hx2 : ¬ (2 * (at_ : Int) + 1 + 1 < (N : Int)) := by omega
        have HOTH : Hid (∀ j, (j = 2 * at_ + 1 ∨ j = 2 * at_ + 2) → j < h'.length → ¬ Ahd (h'.getD j dR) (h'.getD (2 * at_ + 1) dR)) := hid (fun j hj hl => by
          have := HLN.out
          have : j = 2 * at_ + 1 := by omega
          rw [this]
          exact ahd_irr _)
        obtain ⟨W, hWr⟩ : ∃ W, W = wr := ⟨_, rfl⟩
        subst hWr
        have HW := hid HH.out
        have HOW := hid HO.out
        have HA2 : Hid (Calls Try.prog 35 #[.pointer (some ⟨hb, 0, none⟩), .int .i64 (2 * (at_ : Int) + 1), .int .i64 (at_ : Int)] W fun e w' => e = .returned (.bool (ahdB (h'.getD (2 * at_ + 1) dR) (h'.getD at_ dR))) ∧ Kept W w') := by
          have := ahead_any W HW.out (by rw [HLN.out]; exact hlen) (fun r hr => HNE.out r (HP.out.subset hr)) (2 * at_ + 1) at_ (by rw [HLN.out]; omega) (by rw [HLN.out]; omega)
          rw [show ((2 * at_ + 1 : Nat) : Int) = 2 * (at_ : Int) + 1 by omega] at this
          exact hid this
        cases hab : ahdB (h'.getD (2 * at_ + 1) dR) (h'.getD at_ dR) with
        | false =>
          rw [hab] at HA2
          have HF : Hid (∀ w', Kept W w' → R (.returned (.tuple #[])) w') := hid (fun w' k => by
            rw [← HRR.out]
            refine ⟨rfl, h', HP.out, sink_stop HI.out (fun j hj hl => ?_), HW.out.keep k, HOW.out.trans k (fun _ _ f => f.elim)⟩
            exact not_ahd_trans (HOTH.out j hj hl) (ahdB_false.1 hab))
          clear hab
          go_wp2_with fail
          refine HA2.out.mono ?_
          rintro e w3 ⟨rfl, k3⟩
          have HF3 := hid (HF.out w3 k3)
          clear k3 HA2 HF
          go_wp2
          rw [Exit.noGoto_normal]
          go_end0
          exact HF3.out
        | true =>
          rw [hab] at HA2
          have HSI := hid (sink_step (way := 2 * at_ + 1) (oth := 0) HI.out HLO.out (by rw [HLN.out]; omega) (by omega) HOTH.out (ahdB_iff.1 hab))
          have hat2 : at_ < h'.length := by rw [HLN.out]; omega
          have hwy2 : 2 * at_ + 1 < h'.length := by rw [HLN.out]; omega
          clear hab
          go_wp2_with fail
          refine HA2.out.mono ?_
          rintro e w3 ⟨rfl, k3⟩
          have HW3 := hid (HW.out.keep k3)
          have HO3 := hid (HOW.out.trans k3 (fun _ _ f => f.elim))
          obtain ⟨s1, s2⟩ := HW3.out.swap hat2 hwy2 (by omega)
          have hca := HW3.out.cells hat2
          have hcw := HW3.out.cells hwy2
          have hcb := HW3.out.blk
          rw [HLN.out] at hcb
          have b0 := hcb.cell 0 rfl
          have hltb := hcb.lt
          have hf := HW3.out.row.frozenAt
          obtain ⟨ra, hra⟩ : ∃ r, h'[at_] = r := ⟨_, rfl⟩
          obtain ⟨rw_, hrw⟩ : ∃ r, h'[2 * at_ + 1] = r := ⟨_, rfl⟩
          have hsa := (HW3.out.src _ (List.getElem_mem hat2)).2
          have hsw := (HW3.out.src _ (List.getElem_mem hwy2)).2
          rw [hra] at hca s1 s2 hsa
          rw [hrw] at hcw s1 s2 hsw
          obtain ⟨va, sa, pa⟩ := ra
          obtain ⟨vw, sw, pw⟩ := rw_
          simp only at hca s1 s2 hsa hcw hsw
          obtain ⟨xa, ca, rfl, -⟩ := hsa
          obtain ⟨xw, cw, rfl, -⟩ := hsw
          generalize sa.length = la at hca s1 s2
          generalize sw.length = lw at hcw s1 s2
          obtain ⟨a0, a1⟩ := hca
          obtain ⟨y0, y1⟩ := hcw
          have hltg : g < w3.heap.size := World.block_lt_of_cell? w3 _ a0
          have f0 := hf (at_ * 2)
          have f1 := hf (at_ * 2 + 1)
          have f2 := hf ((2 * at_ + 1) * 2)
          have f3 := hf ((2 * at_ + 1) * 2 + 1)
          have HS1 := hid s1
          have HS2 := hid (HO3.out.trans s2 (fun _ _ e => e))
          have HP2 := hid ((swap_perm hat2 hwy2 (by omega)).trans HP.out)
          clear hra hrw hcb s1 s2 k3 HA2 hf
          go_wp2_with fail
          go_region
          have HS9 := hid (HS1.out.keep ((Only.refl _ _).drew))
          have HO9 := hid (HS2.out.trans (((Only.refl (fun _ => False) _).drew)) (fun _ _ f => f.elim))
          clear HS1 HS2 f0 f1 f2 f3 a0 a1 y0 y1 b0 hltb hltg
          generalize ((((w3.setCell ⟨g, at_ * 2, none⟩ (.slice xw lw cw)).setCell ⟨g, at_ * 2 + 1, none⟩ (.int .i64 (pw : Int))).setCell ⟨g, (2 * at_ + 1) * 2, none⟩ (.slice xa la ca)).setCell ⟨g, (2 * at_ + 1) * 2 + 1, none⟩ (.int .i64 (pa : Int))).drew = w9 at HS9 HO9 ⊢
          go_wp2
          go_roundw
          case rel => exact ⟨2 * at_ + 1, swapR h' at_ (2 * at_ + 1), by rw [show ((2 * at_ + 1 : Nat) : Int) = 2 * (at_ : Int) + 1 by omega], by omega, by have := HLO.out; omega, HP2, HSI, HS9, HO9⟩
          case measure => simp [intOf]; omega
end Go.Proofs.Ytcacoanhiphbiaa.Ms
