/-
  Series that came in; series that are too much.
-/
import Derived.Test.YtcacoanhiphbiaaZsown
import Derived.Test.YtcacoanhiphbiaaZlop
import Derived.Test.YtcacoanhiphbiaaNref
namespace Go.Proofs.Ytcacoanhiphbiaa.Ms
open Go Go.RowKit Go.Proofs.Lys Go.Maps
open Go.Proofs.Ytcacoanhiphbiaa.N (Labs LabAt LabSrc bigN bigN_len Came)
set_option linter.unusedVariables false
set_option linter.unusedSimpArgs false

/-- A series that came in. -/
structure RawS (w : World) (x : SVc) : Prop where
  lab : LabSrc w x.lv x.labs
  smp : Mg.SSrc w x.sv x.smps
  came : Came x.labs
  ll : x.labs.length ≤ 1000000000000000
  sl : x.smps.length ≤ 1000000000000000
theorem RawS.stay {w W : World} {x : SVc} (h : RawS w x) (k : Kept w W) : RawS W x := ⟨h.lab.stay k, h.smp.stay k, h.came, h.ll, h.sl⟩
theorem RawS.ln {w : World} {x : SVc} (h : RawS w x) : x.labs.length = x.ln := by
  obtain ⟨a, c, e⟩ := h.lab.len
  injection e with _ e _
  exact e.symm
theorem RawS.sn {w : World} {x : SVc} (h : RawS w x) : x.smps.length = x.sn := by
  obtain ⟨_, _, e, _⟩ := h.smp.2
  injection e with _ e _
  exact e.symm
/-- Series that came in. -/
structure RIn (w : World) (v : Value) (l : List SVc) : Prop where
  src : (∃ a c, v = .slice a 0 c ∧ l = []) ∨ (0 < l.length ∧ ∃ b o c, v = .slice (some ⟨b, o, none⟩) l.length c ∧ ∀ i (hi : i < l.length), w.cell? ⟨b, o + i * 2, none⟩ = some l[i].lv ∧ w.cell? ⟨b, o + i * 2 + 1, none⟩ = some l[i].sv ∧ RawS w l[i])
  shape : ∃ a c, v = .slice a l.length c ∧ l.length ≤ c
  len : l.length ≤ 1000000000000000
theorem RIn.stay {w W : World} {v : Value} {l : List SVc} (h : RIn w v l) (k : Kept w W) : RIn W v l := by
  refine ⟨?_, h.shape, h.len⟩
  rcases h.src with h | ⟨h0, b, o, c, rfl, hc⟩
  · exact .inl h
  · exact .inr ⟨h0, b, o, c, rfl, fun i hi => ⟨each_cell k _ _ (hc i hi).1, each_cell k _ _ (hc i hi).2.1, (hc i hi).2.2.stay k⟩⟩
theorem RIn.cell {w : World} {a : Option Addr} {c M : Nat} {l : List SVc} (h : RIn w (.slice a M c) l) (hM : l.length = M) (k : Nat) (hk : k < M) : ∃ b o, a = some ⟨b, o, none⟩ ∧ w.cell? ⟨b, o + k * 2, none⟩ = some (l[k]'(by omega)).lv ∧ w.cell? ⟨b, o + k * 2 + 1, none⟩ = some (l[k]'(by omega)).sv ∧ RawS w (l[k]'(by omega)) := by
  rcases h.src with ⟨a', c', e, h0⟩ | ⟨_, b, o, c', e, hc⟩
  · subst h0
    simp at hM
    omega
  · simp only [Value.slice.injEq] at e
    exact ⟨b, o, e.1, hc k (by omega)⟩
def totR (l : List SVc) : Nat := (l.map (fun s => s.smps.length + 2 * s.labs.length)).sum
theorem totR_snoc (l : List SVc) (x : SVc) : totR (l ++ [x]) = totR l + (x.smps.length + 2 * x.labs.length) := by
  unfold totR
  rw [List.map_append, List.sum_append]
  simp
/-- Series that are not too much. -/
def FewR (l : List SVc) : Prop := l.length ≤ 200 ∧ totR l ≤ 4000 ∧ ∀ s ∈ l, bigN s.labs ≤ 4000
def BigR (w : World) (l : List SVc) (e : Ending) (w' : World) : Prop := (∃ B, e = .returned (.bool B) ∧ (B = false → FewR l)) ∧ Kept w w'
set_option maxRecDepth 100000 in
set_option maxHeartbeats 3200000 in
theorem mbig_any (w : World) (v : Value) (l : List SVc) (h : RIn w v l) : Calls Try.prog 5 #[v] w (BigR w l) := by
  obtain ⟨a, c, rfl, _⟩ := h.shape
  have hl := h.len
  obtain ⟨N, hN⟩ : ∃ N, l.length = N := ⟨_, rfl⟩
  rw [hN] at h hl ⊢
  obtain ⟨R, hR⟩ : ∃ R, BigR w l = R := ⟨_, rfl⟩
  rw [hR]
  have HT : Hid (∀ w', Kept w w' → R (.returned (.bool true)) w') := fun w' k => by rw [← hR]; exact ⟨⟨true, rfl, fun h => by cases h⟩, k⟩
  have HF : Hid (∀ w', FewR l → Kept w w' → R (.returned (.bool false)) w') := fun w' f k => by rw [← hR]; exact ⟨⟨false, rfl, fun _ => f⟩, k⟩
  clear hR
  by_cases h1 : 200 < N
  · have d1 : decide ((200 : Int) < (N : Int)) = true := decide_eq_true (by omega)
    have HFN := hid (HT.out w (Only.refl _ _))
    clear h hN
    go_enter Try.func5, Try.ntmps5
    go_wp2_with fail
    exact HFN.out
  · have d1 : decide ((200 : Int) < (N : Int)) = false := decide_eq_false (by omega)
    have d2 : ¬ 200 < N := h1
    have HS := hid h
    have HN := hid hN
    clear h hN
    go_enter Try.func5, Try.ntmps5
    go_wp2_with fail
    go_loopw [3, 4] (fun s3 s4 wr => ∃ (i T : Nat), i ≤ N ∧ s4 = .int .i64 (i : Int) ∧ s3 = .int .i64 (T : Int) ∧ T ≤ 4000 ∧ Hid (T = totR (l.take i)) ∧ Hid (∀ s ∈ l.take i, bigN s.labs ≤ 4000) ∧ Hid (Kept w wr)) (fun _ s4 _ => N - (intOf s4).toNat)
    case atStart => exact ⟨0, 0, by omega, rfl, rfl, by omega, hid rfl, hid (fun s h => by simp at h), hid (Only.refl _ _)⟩
    case round =>
      obtain ⟨i, T, hi, rfl, rfl, hT4, hTt, hTb, KR⟩ := hrel
      by_cases hlt : i < N
      · have hil : i < l.length := by have := HN.out; omega
        obtain ⟨b, o, rfl, x0, x1, hrw⟩ := (HS.out.stay KR.out).cell HN.out i hlt
        obtain ⟨x, hx⟩ : ∃ x, l[i] = x := ⟨_, rfl⟩
        have htk : l.take (i + 1) = l.take i ++ [x] := by rw [List.take_succ_eq_append_getElem hil, hx]
        have HTK := hid htk
        rw [hx] at x0 x1 hrw
        have HBG := hid (Go.Proofs.Ytcacoanhiphbiaa.N.big_any wr _ x.labs hrw.lab (by have := hrw.ll; omega) hrw.came)
        have hll := hrw.ll
        have hsl := hrw.sl
        have e1 := hrw.ln
        have e2 := hrw.sn
        have HNT : Hid (T + x.smps.length + 2 * x.labs.length = totR (l.take (i + 1))) := hid (by
          rw [HTK.out, totR_snoc, ← hTt.out]
          omega)
        have HNB : Hid (bigN x.labs ≤ 4000 → ∀ s ∈ l.take (i + 1), bigN s.labs ≤ 4000) := hid (fun hb s hs => by
          rw [HTK.out, List.mem_append] at hs
          rcases hs with hs | hs
          · exact hTb.out s hs
          · rw [List.mem_singleton.1 hs]
            exact hb)
        have HLEN := hid (bigN_len x.labs)
        unfold SVc.lv at x0 HBG
        unfold SVc.sv at x1
        rw [e1, e2] at HNT
        rw [e1] at HLEN hll
        rw [e2] at hsl
        obtain ⟨xa, LN, xc, sa, SN, sc, xl, xs⟩ := x
        simp only at x0 x1 HBG HNT HNB HLEN hll hsl
        generalize bigN xl = BN at HBG HNB HLEN
        have HX0 := hid x0
        have HX1 := hid x1
        clear hrw e1 e2 hx htk
        go_wp2_with fail
        refine HBG.out.mono ?_
        rintro e w1 ⟨rfl, k1⟩
        have z0 := each_cell k1 _ _ HX0.out
        have z1 := each_cell k1 _ _ HX1.out
        have K1 := hid (show Kept w w1 from KR.out.trans k1 (fun _ _ f => f))
        clear x0 x1 HBG k1
        go_wp2_with fail
        go_quiet (fail)
        have K2 := hid (show Kept w (w1.drewN nq) from Go.Proofs.Ytcacoanhiphbiaa.N.kept_drewN K1.out nq)
        obtain ⟨w2, hw2⟩ : ∃ w2, w1.drewN nq = w2 := ⟨_, rfl⟩
        rw [hw2] at K2
        try rw [hw2]
        clear hw2 nq z0 z1
        by_cases hbn : 4000 < BN
        · have e1 : decide (4000 < BN) = true := decide_eq_true hbn
          have HFN := hid (HT.out w2 K2.out)
          go_wp2_with fail
          exact HFN.out
        · have e1 : decide (4000 < BN) = false := decide_eq_false hbn
          by_cases htt : 4000 < T + SN + 2 * LN
          · have HFN := hid (HT.out w2 K2.out)
            have e2 : decide ((4000 : Int) < (T : Int) + (SN : Int) + 2 * (LN : Int)) = true := decide_eq_true (by omega)
            have e3 : (4000 : Int) < (T : Int) + (SN : Int) + 2 * (LN : Int) := by omega
            go_wp2_with fail
            exact HFN.out
          · have e2 : decide ((4000 : Int) < (T : Int) + (SN : Int) + 2 * (LN : Int)) = false := decide_eq_false (by omega)
            have e3 : ¬ (4000 : Int) < (T : Int) + (SN : Int) + 2 * (LN : Int) := by omega
            go_wp2_with fail
            go_roundw
            case rel => exact ⟨i + 1, T + SN + 2 * LN, by omega, by go_num, by first | (congr 1; done) | (congr 1; omega), by omega, HNT, hid (HNB.out (by omega)), K2⟩
            case measure => simp [intOf]; omega
      · have HFN := hid (HF.out wr ⟨by have := HN.out; omega, by have h9 := hTt.out; rw [List.take_of_length_le (by have := HN.out; omega)] at h9; omega, fun s hs => by have h9 := hTb.out s; rw [List.take_of_length_le (by have := HN.out; omega)] at h9; exact h9 hs⟩ KR.out)
        clear KR
        go_wp2_with fail
        exact HFN.out
end Go.Proofs.Ytcacoanhiphbiaa.Ms
