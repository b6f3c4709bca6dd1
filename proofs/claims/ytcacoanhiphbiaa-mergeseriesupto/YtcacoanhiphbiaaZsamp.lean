/-
  Samples.
-/
import Derived.Test.YtcacoanhiphbiaaZheap
namespace Go.Proofs.Ytcacoanhiphbiaa.Mg
open Go Go.RowKit Go.Proofs.Lys
set_option linter.unusedVariables false
set_option linter.unusedSimpArgs false

/-- How many items a heap has in memory. -/
def restN (hb : Nat) (w : World) : Nat :=
  match w.cell? ⟨hb, 0, none⟩ with
  | some (.slice (some ⟨g, _, _⟩) n _) => ((List.range n).map (fun i => match w.cell? ⟨g, i * 2, none⟩ with | some (.slice _ k _) => k | _ => 0)).sum
  | _ => 0
theorem flat_sum (h : List Run) : (flat h).length = (h.map (fun r => r.2.1.length)).sum := by
  induction h with
  | nil => rfl
  | cons r t ih => rw [flat_cons, List.length_append, ih, List.map_cons, List.sum_cons]
theorem restN_eq {w0 : World} {hb : Nat} {h : List Run} {a : Option Addr} {c : Nat} {w : World} (H : HeapC w0 hb h a c w) : restN hb w = (flat h).length := by
  have h0 : w.cell? ⟨hb, 0, none⟩ = some (.slice a h.length c) := H.blk.cell 0 rfl
  by_cases hz : h.length = 0
  · have : h = [] := List.length_eq_zero_iff.1 hz
    subst this
    unfold restN
    rw [h0]
    cases a with
    | none => rfl
    | some p => rfl
  · obtain ⟨g, rfl, hW⟩ := H.toW (by omega)
    unfold restN
    rw [h0]
    simp only
    rw [flat_sum]
    congr 1
    apply List.ext_getElem?
    intro i
    rw [List.getElem?_map, List.getElem?_map]
    by_cases hi : i < h.length
    · rw [List.getElem?_eq_getElem (by simpa using hi), List.getElem?_eq_getElem hi]
      simp only [List.getElem_range, Option.map_some]
      obtain ⟨a1, c1, e, _⟩ := (hW.src _ (List.getElem_mem hi)).2
      rw [(hW.cells hi).1, e]
    · rw [List.getElem?_eq_none (by simpa using hi), List.getElem?_eq_none (by omega)]
      rfl
theorem HeapC.only {w0 : World} {hb : Nat} {h : List Run} {a : Option Addr} {c : Nat} {w w' : World} {O : Nat → Prop} (H : HeapC w0 hb h a c w) (k : Only O w w') (hO : ∀ q, O q → w0.heap.size ≤ q ∧ q ≠ hb ∧ (Value.slice a h.length c).ownBlock ≠ some q) : HeapC w0 hb h a c w' :=
  ⟨Only.blk k H.blk (fun e => (hO _ e).2.1 rfl), ownN_only H.row k (fun b hb' e => (hO b e).2.2 hb'), H.src, H.kept.trans k (fun j hj e => by have := (hO j e).1; omega), H.base⟩
/-- A sample more. -/
theorem smp_one {w : World} {B : Nat} {v : Value} {l : List (Int × Int)} (hown : SmpAt w B v l) (hB : B ≤ w.heap.size) (p : Int × Int) (hl : l.length < 1000000) :
    ∃ g cap w', Hid ((Builtin.append_ #[27, 27] 0 #[v, .slice (some ⟨w.heap.size, 0, none⟩) 1 1]).run Try.prog (w.alloc (.cells #[.int .i64 p.1, .int .i64 p.2] 36)) = .ok (.slice (some ⟨g, 0, none⟩) (l.length + 1) cap) w') ∧ SmpAt w' B (.slice (some ⟨g, 0, none⟩) (l.length + 1) cap) (l ++ [p]) ∧ Only (fun k => v.ownBlock = some k) w w' := by
  have k1 : Kept w (w.alloc (.cells #[.int .i64 p.1, .int .i64 p.2] 36)) := (Only.refl _ w).alloc _
  have hb := Blk.new w [.int .i64 p.1, .int .i64 p.2] 36
  have hs : SmpSrc (w.alloc (.cells #[.int .i64 p.1, .int .i64 p.2] 36)) (.slice (some ⟨w.heap.size, 0, none⟩) 1 1) [p] := by
    refine .inr ⟨by simp, w.heap.size, 0, 1, rfl, fun i hi => ?_⟩
    have : i = 0 := by simpa using hi
    subst this
    exact ⟨hb.cell 0 rfl, hb.cell 1 rfl⟩
  obtain ⟨v', w', hr, h1, h2, h3⟩ := smp_append (ownN_stay hown k1) hs (by simp; omega) (Nat.le_trans hB k1.size)
  obtain ⟨g, cap, rfl⟩ := ownN_some h1 (by simp)
  have hn : (l ++ [p]).length = l.length + 1 := by simp
  rw [hn] at hr h1
  exact ⟨g, cap, w', hr, h1, ((Only.refl _ w).alloc _).grown h2 (fun j hj _ => hj)⟩
theorem smpL_last (o : List (Int × Int)) (y x : Int × Int) : ((smpL (o ++ [y])).set (o.length * 2) (.int .i64 x.1)).set (o.length * 2 + 1) (.int .i64 x.2) = smpL (o ++ [x]) := by
  induction o with
  | nil => rfl
  | cons p t ih =>
    rw [List.length_cons, show (t.length + 1) * 2 = t.length * 2 + 1 + 1 by omega, List.cons_append, List.cons_append, smpL, smpL, ← ih]
    rfl
/-- The last sample is written over. -/
theorem smp_last {w : World} {B g cap : Nat} {o : List (Int × Int)} {y x : Int × Int} (h : SmpAt w B (.slice (some ⟨g, 0, none⟩) (o.length + 1) cap) (o ++ [y])) :
    SmpAt ((w.setCell ⟨g, o.length * 2, none⟩ (.int .i64 x.1)).setCell ⟨g, o.length * 2 + 1, none⟩ (.int .i64 x.2)) B (.slice (some ⟨g, 0, none⟩) (o.length + 1) cap) (o ++ [x]) := by
  have e1 : (o ++ [y]).length = o.length + 1 := by simp
  have e2 : (o ++ [x]).length = o.length + 1 := by simp
  unfold SmpAt at h ⊢
  rw [e1] at h
  rw [e2, ← smpL_last o y x]
  exact ((h.stored (o.length * 2) (.int .i64 x.1)).1.stored (o.length * 2 + 1) (.int .i64 x.2)).1
/-- What Samples leaves. -/
def SamP (w : World) (tgt : Smps) (e : Ending) (w' : World) : Prop := ∃ v, e = .returned v ∧ SmpAt w' w.heap.size v tgt ∧ Kept w w'
theorem flat_le {h : List Run} (hne : ∀ r ∈ h, r.2.1 ≠ []) : h.length ≤ (flat h).length := by
  induction h with
  | nil => exact Nat.le_refl _
  | cons r t ih =>
    rw [flat_cons, List.length_append, List.length_cons]
    have h1 := ih (fun r hr => hne r (List.mem_cons_of_mem _ hr))
    have h2 := List.length_pos_iff.2 (hne r List.mem_cons_self)
    omega

set_option maxRecDepth 100000 in
set_option maxHeartbeats 6400000 in
theorem samples_any (w : World) (v : Value) (vs : List Value) (ls : List Smps) (hs : LLSrc w v vs ls) (hl : ls.flatten.length ≤ 100000) (hm : ls.length ≤ 100000) :
    Calls Try.prog 10 #[v] w (SamP w (mrg ls.flatten)) := by
  obtain ⟨R, hR⟩ : ∃ R, SamP w (mrg ls.flatten) = R := ⟨_, rfl⟩
  rw [hR]
  have HRR := hid hR
  have HHO := hid (heapof_any w v vs ls hs hl hm)
  obtain ⟨a0, c0, rfl⟩ := hs.src.len
  generalize vs.length = M at HHO ⊢
  have HL := hid hl
  clear hs hR hl hm
  go_enter Try.func10, Try.ntmps10
  go_wp2_with fail
  refine HHO.out.mono ?_
  rintro e w2 ⟨hb, h, a, c, rfl, hC, hM, hhl, hfl⟩
  obtain ⟨tgt, htgt⟩ : ∃ t, mrg ls.flatten = t := ⟨_, rfl⟩
  rw [htgt] at hM HRR
  have HC2 := hid hC
  have HM2 := hid hM
  have HF2 : Hid ((flat h).length + ([] : Smps).length ≤ 100000) := hid (by rw [hfl]; simpa using HL.out)
  clear HHO hC hM hhl hfl htgt
  go_wp2
  go_loopw [3] (fun s wr => ∃ (h : List Run) (a : Option Addr) (c : Nat) (out : Smps), Hid (HeapC w hb h a c wr) ∧ Hid (MrgI h out tgt) ∧ Hid (SmpAt wr w.heap.size s out) ∧ Hid ((flat h).length + out.length ≤ 100000)) (fun _ wr => restN hb wr)
  case atStart => exact ⟨h, a, c, [], HC2, HM2, hid ⟨rfl, .inl ⟨rfl, rfl⟩⟩, HF2⟩
  case round =>
    clear HC2 HM2 HF2
    obtain ⟨h, a, c, out, HC, HM, HO, HN⟩ := hrel
    obtain ⟨ao, co, e0⟩ := ownN_slice HO.out
    subst e0
    obtain ⟨OL, hOL⟩ : ∃ OL, out.length = OL := ⟨_, rfl⟩
    have HOL := hid hOL
    have HRS := hid (restN_eq HC.out)
    have hne : ∀ r ∈ h, r.2.1 ≠ [] := by
      obtain ⟨rem, hp, _, hr, _, _⟩ := HM.out.rest
      exact fun r hr2 => (hr r (hp.subset hr2)).1
    have hhl := flat_le hne
    have HFI := hid (filled_any wr HC.out.blk (by have := HN.out; omega))
    rw [hOL]
    cases h with
    | nil =>
      have e : out = tgt := mrg_end HM.out
      have HF : Hid (R (.returned (.slice ao OL co)) wr) := hid (by
        rw [← HRR.out, ← e, ← HOL.out]
        exact ⟨_, rfl, HO.out, HC.out.kept⟩)
      rw [List.length_nil] at HFI
      clear hne hhl hOL
      go_wp2_with fail
      refine HFI.out.mono ?_
      rintro e w' ⟨rfl, hw⟩
      replace hw := hw.symm
      subst hw
      go_wp2
      exact HF.out
    | cons r0 t =>
      obtain ⟨v, s, p⟩ := r0
      cases s with
      | nil => exact absurd rfl (hne _ List.mem_cons_self)
      | cons x xs =>
        obtain ⟨g, rfl, hW⟩ := HC.out.toW (by simp)
        have HFH : Hid ((flat (((v, x :: xs, p) : Run) :: t)).length = xs.length + 1 + (flat t).length) := hid (by rw [flat_cons, List.length_append]; rfl)
        have hb1 := HN.out
        rw [HFH.out] at hb1
        rw [List.length_cons, HFH.out] at hhl
        have HTK := hid (take_any wr hW HM.out (by omega) (by omega))
        unfold TakeP at HTK
        have hrp := rise_put HM.out.rise (mrg_take (v' := v) HM.out).1
        have hgb := hW.ne
        have hgty := ownN_typed hW.row rfl
        have hbty := hW.blk.typed
        have HNO : Hid (∀ q, (Value.slice ao out.length co).ownBlock = some q → ¬ (q = hb ∨ q = g)) := hid (fun q hq e => by
          rcases e with e | e
          · exact (Typed.ne (ownN_typed HO.out hq) hbty (by decide)) e
          · exact (Typed.ne (ownN_typed HO.out hq) hgty (by decide)) e)
        have HFI2 : Hid (Calls Try.prog 24 #[.pointer (some ⟨hb, 0, none⟩)] wr fun e w' => e = .returned (.bool true) ∧ w' = wr) := hid (by
          have := HFI.out
          rw [List.length_cons, show decide (0 < t.length + 1) = true from by simp] at this
          exact this)
        clear hne HFI hW hgb hgty hbty
        go_wp2_with fail
        refine HFI2.out.mono ?_
        rintro e w' ⟨rfl, hw⟩
        replace hw := hw.symm
        subst hw
        go_wp2_with fail
        refine HTK.out.mono ?_
        rintro e w3 ⟨rfl, h3, hw3, hm3, o3, hl3⟩
        have HW3 := hid hw3
        have HM3 := hid hm3
        have HL3 := hid hl3
        have HO3 := hid (ownN_only HO.out o3 HNO.out)
        clear HTK hw3 hm3 o3 hl3 HFI2
        rcases hrp.2.2 with ⟨e1, e2⟩ | ⟨o, y, e1, ⟨e3, e2⟩ | ⟨e3, e2⟩⟩
        · have HPUT : Hid (putS x out = out ++ [x]) := hid (by rw [e2, e1]; rfl)
          have hol0 : OL = 0 := by rw [← hOL, e1]; rfl
          rw [hOL] at HO3
          subst hol0
          clear hrp e1 e2 hOL
          go_wp2_with fail
          go_quiet (fail)
          have kq := kept_drewN ((Only.refl (fun _ => False) w3).alloc (.cells #[.int .i64 x.1, .int .i64 x.2] 36)) nq
          have HCW := hid (HW3.out.toC.keep kq)
          have HOW := hid (ownN_stay HO3.out kq)
          have HSW : Hid (Blk ((w3.alloc (.cells #[.int .i64 x.1, .int .i64 x.2] 36)).drewN nq) w3.heap.size [.int .i64 x.1, .int .i64 x.2] 36) := hid (Only.blk (kept_drewN (Only.refl _ _) nq) (Blk.new w3 [.int .i64 x.1, .int .i64 x.2] 36) (fun f => f))
          generalize (w3.alloc (.cells #[.int .i64 x.1, .int .i64 x.2] 36)).drewN nq = W at HCW HOW HSW ⊢
          clear kq
          have HOW2 : SmpAt W w.heap.size (.slice ao 0 co) (out) := by unfold SmpAt; rw [HOL.out]; exact HOW.out
          have HA := smp_one HOW2 (HCW.out.kept.size) x (by rw [HOL.out]; omega)
          rw [HOL.out, Nat.zero_add] at HA
          obtain ⟨g8, cap8, w8, Hr, h8, o8⟩ := HA
          have hty : ∀ q, (Value.slice ao 0 co).ownBlock = some q → w.heap.size ≤ q ∧ q ≠ hb ∧ (Value.slice (some ⟨g, 0, none⟩) h3.length c).ownBlock ≠ some q := fun q hq =>
            ⟨(ownN_lt HOW.out hq).1, fun e => (Typed.ne (ownN_typed HOW.out hq) HCW.out.blk.typed (by decide)) e, fun e => (Typed.ne (ownN_typed HOW.out hq) (ownN_typed HCW.out.row e) (by decide)) rfl⟩
          have HC8 := hid (HCW.out.only o8 hty)
          have HO8 : Hid (SmpAt w8 w.heap.size (.slice (some ⟨g8, 0, none⟩) 1 cap8) (putS x out)) := hid (by rw [HPUT.out]; exact h8)
          have HLN8 : Hid ((putS x out).length = 1) := hid (by rw [HPUT.out, List.length_append, HOL.out]; rfl)
          have s0 := HSW.out.cell 0 rfl
          have s1 := HSW.out.cell 1 rfl
          have hlts := HSW.out.lt
          clear o8 h8 hty
          go_wp2_with (at_builtin; refine wpList_append_run rfl _ _ _ rfl rfl rfl Hr ?_)
          go_roundw
          case rel => exact ⟨h3, _, _, putS x out, HC8, HM3, HO8, hid (by rw [HLN8.out, HL3.out]; have := HN.out; rw [HFH.out, HOL.out] at this; omega)⟩
          case measure =>
            rw [restN_eq HC8.out, HRS.out, HL3.out, HFH.out]
            omega
        · have hol1 : OL = o.length + 1 := by rw [← hOL, e1]; simp
          obtain ⟨PL, hPL⟩ : ∃ PL, o.length = PL := ⟨_, rfl⟩
          have HPLn := hid hPL
          rw [hPL] at hol1
          rw [hOL] at HO3
          obtain ⟨go, cw, eo⟩ := ownN_some HO.out (by omega)
          simp only [Value.slice.injEq] at eo
          obtain ⟨rfl, _, rfl⟩ := eo
          have hOb : PL ≤ 100000 := by omega
          subst hol1 e1
          have HPUT : Hid (putS x (o ++ [y]) = o ++ [x]) := hid e2
          have hwo := HO3.out
          have c0 := hwo.cellAt (PL * 2) (by omega)
          rw [← hPL, (smpL_at (o ++ [y]) o.length (by simp)).1] at c0
          simp only [List.getElem_append_right (Nat.le_refl _), Nat.sub_self, List.getElem_cons_zero] at c0
          rw [hPL] at c0
          have hlgo := (ownN_lt hwo rfl).2
          have hyx : (y.1 == x.1) = true := by simpa using e3
          clear hrp e2 hOL hPL hwo e3
          go_wp2_with fail
          go_quiet (fail)
          have kq := kept_drewN ((Only.refl (fun _ => False) w3).alloc (.cells #[.int .i64 x.1, .int .i64 x.2] 36)) nq
          have HCW := hid (HW3.out.toC.keep kq)
          have HOW := hid (ownN_stay HO3.out kq)
          have HSW : Hid (Blk ((w3.alloc (.cells #[.int .i64 x.1, .int .i64 x.2] 36)).drewN nq) w3.heap.size [.int .i64 x.1, .int .i64 x.2] 36) := hid (Only.blk (kept_drewN (Only.refl _ _) nq) (Blk.new w3 [.int .i64 x.1, .int .i64 x.2] 36) (fun f => f))
          generalize (w3.alloc (.cells #[.int .i64 x.1, .int .i64 x.2] 36)).drewN nq = W at HCW HOW HSW ⊢
          clear kq
          have hO8 := smp_last (x := x) (o := o) (y := y) (by rw [HPLn.out]; unfold SmpAt; rw [HOL.out]; exact HOW.out)
          rw [HPLn.out] at hO8
          have HCW1 := hid (HCW.out.only (((Only.refl (fun k => k = go) W).setCell (p := ⟨go, PL * 2, none⟩) (fun _ => rfl) (.int .i64 x.1)).setCell (p := ⟨go, PL * 2 + 1, none⟩) (fun _ => rfl) (.int .i64 x.2)) (fun q hq => by
            have hq' : q = go := hq
            subst hq'
            have hown : (Value.slice (some ⟨q, 0, none⟩) (PL + 1) co).ownBlock = some q := rfl
            exact ⟨(ownN_lt HOW.out hown).1, fun e => (Typed.ne (ownN_typed HOW.out hown) HCW.out.blk.typed (by decide)) e, fun e => (Typed.ne (ownN_typed HOW.out hown) (ownN_typed HCW.out.row e) (by decide)) rfl⟩))
          have HO8 : Hid (SmpAt ((W.setCell ⟨go, PL * 2, none⟩ (.int .i64 x.1)).setCell ⟨go, PL * 2 + 1, none⟩ (.int .i64 x.2)) w.heap.size (.slice (some ⟨go, 0, none⟩) (PL + 1) co) (putS x (o ++ [y]))) := hid (by rw [HPUT.out]; exact hO8)
          have HLN8 : Hid ((putS x (o ++ [y])).length = PL + 1) := hid (by rw [HPUT.out, List.length_append, HPLn.out]; rfl)
          have hwo := HOW.out
          have d0 := hwo.cellAt (PL * 2) (by omega)
          have d1 := hwo.cellAt (PL * 2 + 1) (by omega)
          rw [← HPLn.out, (smpL_at (o ++ [y]) o.length (by simp)).1] at d0
          rw [← HPLn.out, (smpL_at (o ++ [y]) o.length (by simp)).2] at d1
          simp only [List.getElem_append_right (Nat.le_refl _), Nat.sub_self, List.getElem_cons_zero] at d0 d1
          rw [HPLn.out] at d0 d1
          have fz0 := hwo.frozenAt (PL * 2)
          have fz1 := hwo.frozenAt (PL * 2 + 1)
          have hlgo2 := (ownN_lt hwo rfl).2
          have s0 := HSW.out.cell 0 rfl
          have s1 := HSW.out.cell 1 rfl
          have hlts := HSW.out.lt
          clear hO8 hwo
          go_wp2
          go_roundw
          case rel => exact ⟨h3, _, _, putS x (o ++ [y]), HCW1, HM3, HO8, hid (by rw [HLN8.out, HL3.out]; have := HN.out; rw [HFH.out, HOL.out] at this; omega)⟩
          case measure =>
            rw [restN_eq HCW1.out, HRS.out, HL3.out, HFH.out]
            omega
        · have hol1 : OL = o.length + 1 := by rw [← hOL, e1]; simp
          obtain ⟨PL, hPL⟩ : ∃ PL, o.length = PL := ⟨_, rfl⟩
          have HPLn := hid hPL
          rw [hPL] at hol1
          rw [hOL] at HO3
          obtain ⟨go, cw, eo⟩ := ownN_some HO.out (by omega)
          simp only [Value.slice.injEq] at eo
          obtain ⟨rfl, _, rfl⟩ := eo
          have hOb : PL ≤ 100000 := by omega
          subst hol1 e1
          have HPUT : Hid (putS x (o ++ [y]) = o ++ [y] ++ [x]) := hid e2
          have hwo := HO3.out
          have c0 := hwo.cellAt (PL * 2) (by omega)
          rw [← hPL, (smpL_at (o ++ [y]) o.length (by simp)).1] at c0
          simp only [List.getElem_append_right (Nat.le_refl _), Nat.sub_self, List.getElem_cons_zero] at c0
          rw [hPL] at c0
          have hlgo := (ownN_lt hwo rfl).2
          have hyx : (y.1 == x.1) = false := by simpa using e3
          clear hrp e2 hOL hPL hwo e3
          go_wp2_with fail
          go_quiet (fail)
          have kq := kept_drewN ((Only.refl (fun _ => False) w3).alloc (.cells #[.int .i64 x.1, .int .i64 x.2] 36)) nq
          have HCW := hid (HW3.out.toC.keep kq)
          have HOW := hid (ownN_stay HO3.out kq)
          have HSW : Hid (Blk ((w3.alloc (.cells #[.int .i64 x.1, .int .i64 x.2] 36)).drewN nq) w3.heap.size [.int .i64 x.1, .int .i64 x.2] 36) := hid (Only.blk (kept_drewN (Only.refl _ _) nq) (Blk.new w3 [.int .i64 x.1, .int .i64 x.2] 36) (fun f => f))
          generalize (w3.alloc (.cells #[.int .i64 x.1, .int .i64 x.2] 36)).drewN nq = W at HCW HOW HSW ⊢
          clear kq
          have HOW2 : SmpAt W w.heap.size (.slice (some ⟨go, 0, none⟩) (PL + 1) co) (o ++ [y]) := by unfold SmpAt; rw [HOL.out]; exact HOW.out
          have HA := smp_one HOW2 (HCW.out.kept.size) x (by rw [HOL.out]; omega)
          rw [HOL.out] at HA
          obtain ⟨g8, cap8, w8, Hr, h8, o8⟩ := HA
          have hty : ∀ q, (Value.slice (some ⟨go, 0, none⟩) (PL + 1) co).ownBlock = some q → w.heap.size ≤ q ∧ q ≠ hb ∧ (Value.slice (some ⟨g, 0, none⟩) h3.length c).ownBlock ≠ some q := fun q hq =>
            ⟨(ownN_lt HOW.out hq).1, fun e => (Typed.ne (ownN_typed HOW.out hq) HCW.out.blk.typed (by decide)) e, fun e => (Typed.ne (ownN_typed HOW.out hq) (ownN_typed HCW.out.row e) (by decide)) rfl⟩
          have HC8 := hid (HCW.out.only o8 hty)
          have HO8 : Hid (SmpAt w8 w.heap.size (.slice (some ⟨g8, 0, none⟩) (PL + 1 + 1) cap8) (putS x (o ++ [y]))) := hid (by rw [HPUT.out]; exact h8)
          have HLN8 : Hid ((putS x (o ++ [y])).length = PL + 1 + 1) := hid (by rw [HPUT.out, List.length_append, HOL.out]; rfl)
          have s0 := HSW.out.cell 0 rfl
          have s1 := HSW.out.cell 1 rfl
          have hlts := HSW.out.lt
          clear o8 h8 hty
          go_wp2_with (at_builtin; refine wpList_append_run rfl _ _ _ rfl rfl rfl Hr ?_)
          go_roundw
          case rel => exact ⟨h3, _, _, putS x (o ++ [y]), HC8, HM3, HO8, hid (by rw [HLN8.out, HL3.out]; have := HN.out; rw [HFH.out, HOL.out] at this; omega)⟩
          case measure =>
            rw [restN_eq HC8.out, HRS.out, HL3.out, HFH.out]
            omega
end Go.Proofs.Ytcacoanhiphbiaa.Mg
