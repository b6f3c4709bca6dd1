/-
  Dfset2.
-/
import Derived.Test.YtfmdnaagdhpcpaaQ03
import Derived.Test.YtfmdnaagdhpcpaaQ09
import Derived.Deep.DrawnRows

/-
  A file with a tail behind a crash: what stays of its tail, turned or not, and all of it sure.
-/
namespace Go.Proofs.Ytfmdnaagdhpcpaa
open Go.RowKit Go.Proofs.Lys Go.Maps Go.Shelf
set_option linter.unusedVariables false

section
variable {w : World}

/-- No tail: nothing is taken. -/
theorem fset_none {fb L cap nb : Nat} {a : Option Addr} {fv : Value} (hF : Blk w fb [.slice a L cap, .int .i64 (L : Int)] 87) :
    Calls Try.prog 43 #[.pointer (some ⟨fb, 0, none⟩), fv] w fun e w' => e = .returned (.tuple #[]) ∧ Stay w w' := by
  have f0 := hF.cell 0 rfl
  have f1 := hF.cell 1 rfl
  have hz : ((L : Int) - (L : Int) == 0) = true := by simp
  go_enter Try.func43, Try.ntmps43
  go_wp2_with fail
  go_region_held3 (fun w' => w'.cell? ⟨fb, 0, none⟩ = some (.slice a L cap) ∧ w'.cell? ⟨fb, 1, none⟩ = some (.int .i64 (L : Int))) (exact ⟨f0, f1⟩) (fail)
  go_wp2
  exact bodyPost_ret (results_none rfl _ _ _) rfl ⟨rfl, (Only.refl _ w).drew⟩

/-- The first bytes of a row. -/
theorem row_take {g n cap : Nat} {ls : List UInt8} (h : w.ownsRow 0 5 1 (.slice (some ⟨g, 0, none⟩) n cap) n (ls.map byteV)) (M : Nat) (hM : M ≤ n) : w.ownsRow 0 5 1 (.slice (some ⟨g, 0, none⟩) M cap) M ((ls.take M).map byteV) := by
  obtain ⟨hl, ⟨h1, _⟩ | ⟨g', cap', cur, hv, hb, hg, hn, hm, hc, ht⟩⟩ := h
  · cases h1
  · cases hv
    simp at hl
    refine ⟨by simp; omega, .inr ⟨g, cap, cur, rfl, hb, hg, by omega, hm, hc, ?_⟩⟩
    simp only [Nat.mul_one] at ht ⊢
    rw [List.map_take, ← ht, List.take_take]
    congr 1
    omega

theorem slice_to (g L cap M : Nat) (m : Int) (hm : m = (M : Int)) (hM : M ≤ cap) (hc : cap ≠ 0) (w : World) : (Instr.sliceAt 29 (.slice (some ⟨g, 0, none⟩) L cap) none (some (.int .i64 m)) none).run Try.prog w = .ok (.slice (some ⟨g, 0, none⟩) M cap) w := by
  subst hm
  have h1 : (0 : Int) ≤ (M : Int) ∧ (M : Int) ≤ (cap : Int) := by omega
  have hs : (sizeOf 5).run Try.prog w = .ok 1 w := by kernel_rfl
  simp [Instr.sliceAt, Instr.slice, Instr.sliceBounds, Instr.sliceBound, run_underlying Try.underlying29, asIntOf, hM, hs, Addr.add, Result.andThen]

theorem wp_slice_run {P : Program} {o : Oper} {a : Act} {w : World} {K : Act → World → Prop} {Q : Exit → Act → World → Prop} (t : TypeId) (s x : Operand) (ho : o.op = Op.slice t s none (some x) none) (sv xv v : Value) (hs : a.eval s = sv) (hx : a.eval x = xv)
    (hrun : (Instr.sliceAt t sv none (some xv) none).run P w = .ok v w) (h : K (a.put o.dst v) w) : o.wp P a w K Q := by
  unfold Oper.wp execOp
  simp [ho, hs, hx, hrun, Result.andThen]
  exact h

/-- What a file with a tail becomes. -/
def FPost (w : World) (fb g nb su M cap : Nat) (O : Nat → Prop) (l : List Int) (b : List UInt8) (w' : World) : Prop :=
  w'.ownsRow 0 5 1 (.slice (some ⟨g, 0, none⟩) M cap) M ((if DModel.oddB (l.tail.headD 0) then DModel.spoil b su else b).map byteV) ∧ Blk w' fb [.slice (some ⟨g, 0, none⟩) M cap, .int .i64 (M : Int)] 87 ∧ NumsAt w' O nb l.tail.tail ∧ Only (fun x => x = fb ∨ x = g ∨ x = nb) w w'

theorem fset_next {fb L su cap nb g M : Nat} {O : Nat → Prop} {l1 : List Int} {bs : List UInt8} (hF : Blk w fb [.slice (some ⟨g, 0, none⟩) L cap, .int .i64 (su : Int)] 87) (hB : w.ownsRow 0 5 1 (.slice (some ⟨g, 0, none⟩) L cap) L (bs.map byteV)) (hML : M ≤ L)
    (hNO : ¬ O nb) (hOf : O fb) (hOg : O g) (hfg : g ≠ fb) {w2 : World} (hk2 : Only (fun x => x = nb) w.drew.drew w2) (hN2 : NumsAt w2 O nb l1) :
    NumsAt (w2.setCell ⟨fb, 0, none⟩ (.slice (some ⟨g, 0, none⟩) M cap)) O nb l1 ∧ ∀ w4, Only (fun x => x = nb) (w2.setCell ⟨fb, 0, none⟩ (.slice (some ⟨g, 0, none⟩) M cap)) w4 →
      Blk w4 fb [.slice (some ⟨g, 0, none⟩) M cap, .int .i64 (su : Int)] 87 ∧ w4.ownsRow 0 5 1 (.slice (some ⟨g, 0, none⟩) M cap) M ((bs.take M).map byteV) ∧ Only (fun x => x = fb ∨ x = g ∨ x = nb) w w4 := by
  have hnf : nb ≠ fb := fun e => hNO (e ▸ hOf)
  have hng : nb ≠ g := fun e => hNO (e ▸ hOg)
  have hks : Only (fun x => x = fb) w2 (w2.setCell ⟨fb, 0, none⟩ (.slice (some ⟨g, 0, none⟩) M cap)) := (Only.refl (fun x => x = fb) w2).setCell (fun _ => rfl) _
  refine ⟨hN2.only hks hnf (fun j _ e => e ▸ hOf), fun w4 hk4 => ?_⟩
  have hF2 := (hk2.blk hF.drew.drew (fun e => hnf e.symm)).set 0 (.slice (some ⟨g, 0, none⟩) M cap)
  have hB2 := hks.row (hk2.row hB.drew.drew (fun k e hk => hng (by cases e; exact hk.symm))) (fun k e hk => hfg (by cases e; exact hk))
  refine ⟨hk4.blk hF2 (fun e => hnf e.symm), row_take (hk4.row hB2 (fun k e hk => hng (by cases e; exact hk.symm))) M hML, ?_⟩
  have h1 : Only (fun x => x = fb ∨ x = g ∨ x = nb) w w2 := (Only.refl (fun x => x = fb ∨ x = g ∨ x = nb) w).drew.drew.trans hk2 (fun j _ e => .inr (.inr e))
  exact (h1.trans hks (fun j _ e => .inl e)).trans hk4 (fun j _ e => .inr (.inr e))

theorem fset_fin0 {fb su cap nb g M : Nat} {O : Nat → Prop} {l : List Int} {b : List UInt8} {w4 : World} (hodd : DModel.oddB (l.tail.headD 0) = false) (hNO : ¬ O nb) (hOf : O fb) (hfg : g ≠ fb)
    (hF4 : Blk w4 fb [.slice (some ⟨g, 0, none⟩) M cap, .int .i64 (su : Int)] 87) (hB4 : w4.ownsRow 0 5 1 (.slice (some ⟨g, 0, none⟩) M cap) M (b.map byteV)) (hN4 : NumsAt w4 O nb l.tail.tail) (hO4 : Only (fun x => x = fb ∨ x = g ∨ x = nb) w w4) :
    FPost w fb g nb su M cap O l b (w4.setCell ⟨fb, 1, none⟩ (.int .i64 (M : Int))) := by
  have hks : Only (fun x => x = fb) w4 (w4.setCell ⟨fb, 1, none⟩ (.int .i64 (M : Int))) := (Only.refl (fun x => x = fb) w4).setCell (fun _ => rfl) _
  refine ⟨?_, hF4.set 1 _, hN4.only hks (fun e => hNO (e ▸ hOf)) (fun j _ e => e ▸ hOf), hO4.trans hks (fun j _ e => .inl e)⟩
  rw [hodd]
  exact hks.row hB4 (fun k e hk => hfg (by cases e; exact hk))

theorem fset_fin1 {fb su cap nb g M : Nat} {O : Nat → Prop} {l : List Int} {b : List UInt8} {w4 w5 : World} (hodd : DModel.oddB (l.tail.headD 0) = true) (hNO : ¬ O nb) (hOf : O fb) (hOg : O g) (hfg : g ≠ fb)
    (hF4 : Blk w4 fb [.slice (some ⟨g, 0, none⟩) M cap, .int .i64 (su : Int)] 87) (hB5 : w5.ownsRow 0 5 1 (.slice (some ⟨g, 0, none⟩) M cap) M ((DModel.spoil b su).map byteV)) (hk5 : Only (fun k => (Value.slice (some ⟨g, 0, none⟩) M cap).ownBlock = some k) w4 w5)
    (hN4 : NumsAt w4 O nb l.tail.tail) (hO4 : Only (fun x => x = fb ∨ x = g ∨ x = nb) w w4) :
    Blk w5 fb [.slice (some ⟨g, 0, none⟩) M cap, .int .i64 (su : Int)] 87 ∧ FPost w fb g nb su M cap O l b (w5.setCell ⟨fb, 1, none⟩ (.int .i64 (M : Int))) := by
  have hks : Only (fun x => x = fb) w5 (w5.setCell ⟨fb, 1, none⟩ (.int .i64 (M : Int))) := (Only.refl (fun x => x = fb) w5).setCell (fun _ => rfl) _
  have hk5' : Only (fun x => x = g) w4 w5 := hk5.mono (fun k _ e => by cases e; rfl)
  have hF5 := hk5'.blk hF4 (fun e => hfg e.symm)
  refine ⟨hF5, ?_, hF5.set 1 _, (hN4.only hk5' (fun e => hNO (e ▸ hOg)) (fun j _ e => e ▸ hOg)).only hks (fun e => hNO (e ▸ hOf)) (fun j _ e => e ▸ hOf), (hO4.trans hk5' (fun j _ e => .inr (.inl e))).trans hks (fun j _ e => .inl e)⟩
  rw [hodd]
  exact hks.row hB5 (fun k e hk => hfg (by cases e; exact hk))


set_option maxRecDepth 100000 in
set_option maxHeartbeats 3200000 in
theorem fset_neg {fb L su cap nb g : Nat} {O : Nat → Prop} {l : List Int} {bs : List UInt8} (hF : Blk w fb [.slice (some ⟨g, 0, none⟩) L cap, .int .i64 (su : Int)] 87) (hB : w.ownsRow 0 5 1 (.slice (some ⟨g, 0, none⟩) L cap) L (bs.map byteV)) (hbs : bs.length = L) (hsu : su < L) (hL : L ≤ 16777216)
    (hN : NumsAt w O nb l) (hNO : ¬ O nb) (hOf : O fb) (hOg : O g) (hk : l.headD 0 < 0) :
    Calls Try.prog 43 #[.pointer (some ⟨fb, 0, none⟩), .func (.func 66) #[] #[.pointer (some ⟨nb, 0, none⟩)]] w fun e w' => e = .returned (.tuple #[]) ∧ FPost w fb g nb su su cap O l (bs.take su) w' := by
  have hcapL : L ≤ cap ∧ cap ≠ 0 := by
    obtain ⟨hl, ⟨h1, _⟩ | ⟨g', cap', cur, hv, hb, hg, hn, hm, hc, ht⟩⟩ := hB
    · cases h1
    · cases hv
      exact ⟨hn, by omega⟩
  have hnf : nb ≠ fb := fun e => hNO (e ▸ hOf)
  have hng : nb ≠ g := fun e => hNO (e ▸ hOg)
  have hfg : g ≠ fb := (row_typed hB rfl).ne hF.typed (by decide)
  have hn1 := Hid.mk (next_any (w := w.drew.drew) (O := O) (nb := nb) (l := l) (by
    obtain ⟨v, hb, rest⟩ := hN
    exact ⟨v, hb, rest⟩))
  have e1 : IntKind.i64.wrap ((L : Int) - (su : Int)) = ((L - su : Nat) : Int) := by rw [IntKind.wrap_i64]; omega
  have e2 : ((((L - su : Nat) : Int)) == 0) = false := by simp; omega
  have hT0 : ¬ ((L - su : Nat) : Int) < 0 := by omega
  have e3 : IntKind.i64.wrap (su : Int) = (su : Int) := by rw [IntKind.wrap_i64]; omega
  have hM : ((su : Nat) : Int) ≤ (cap : Int) := by omega
  have hM0 : (0 : Int) ≤ ((su : Nat) : Int) := by omega
  have HML2 : Hid (su ≤ L) := by unfold Hid; omega
  have hMsu : Hid (su ≤ su) := by unfold Hid; omega
  have hcz : ¬ cap = 0 := hcapL.2
  have HMC : Hid (su ≤ cap) := by unfold Hid; omega
  have H0 := Hid.mk (And.intro hbs (And.intro hsu hL))
  generalize hx : l.headD 0 = x at *
  clear hx
  have f0 := hF.cell 0 rfl
  have f1 := hF.cell 1 rfl
  have hfar : ∀ w2, Only (fun x => x = nb) w.drew.drew w2 → w2.cell? ⟨fb, 0, none⟩ = some (.slice (some ⟨g, 0, none⟩) L cap) ∧ w2.cell? ⟨fb, 1, none⟩ = some (.int .i64 (su : Int)) ∧ w2.frozen? ⟨fb, 0, none⟩ = false := fun w2 hk => ⟨(hk.blk hF.drew.drew (fun e => hnf e.symm)).cell 0 rfl, (hk.blk hF.drew.drew (fun e => hnf e.symm)).cell 1 rfl, (hk.blk hF.drew.drew (fun e => hnf e.symm)).frozen 0⟩
  have HFAR := Hid.mk hfar
  clear hfar hbs hcapL
  generalize hTT : L - su = T at *
  clear hTT
  go_enter Try.func43, Try.ntmps43
  go_wp2_with fail
  go_region_held3 (fun w' => w'.cell? ⟨fb, 0, none⟩ = some (.slice (some ⟨g, 0, none⟩) L cap) ∧ w'.cell? ⟨fb, 1, none⟩ = some (.int .i64 (su : Int))) (exact ⟨f0, f1⟩) (fail)
  go_wp2_with fail
  refine wp_region_noPanic ?_
  refine wp_region_last (L := 18) (S := fun w' => w'.cell? ⟨fb, 0, none⟩ = some (.slice (some ⟨g, 0, none⟩) L cap) ∧ w'.cell? ⟨fb, 1, none⟩ = some (.int .i64 (su : Int))) (by kernel_rfl) ?_
  have hS : (fun w' : World => w'.cell? ⟨fb, 0, none⟩ = some (.slice (some ⟨g, 0, none⟩) L cap) ∧ w'.cell? ⟨fb, 1, none⟩ = some (.int .i64 (su : Int))) w.drew.drew := ⟨f0, f1⟩
  refine wpAnyL_take (i := 0) (v := .pointer (some ⟨fb, 0, none⟩)) rfl (by kernel_rfl) (by kernel_rfl) (by kernel_rfl) (by kernel_rfl) (by kernel_rfl) (fun _ _ _ h => h) (Or.inl ⟨by rfl, ?_⟩) hS ?_
  · (intro w' hSw; go_simp)
  go_frame
  refine wpAnyL_take (i := 1) (v := .pointer (some ⟨fb, 0, none⟩)) rfl (by kernel_rfl) (by kernel_rfl) (by kernel_rfl) (by kernel_rfl) (by kernel_rfl) (fun _ _ _ h => h) (Or.inl ⟨by rfl, ?_⟩) hS ?_
  · (intro w' hSw; go_simp)
  go_frame
  refine wpAnyL_take (i := 2) (v := .pointer (some ⟨fb, 0, none⟩)) rfl (by kernel_rfl) (by kernel_rfl) (by kernel_rfl) (by kernel_rfl) (by kernel_rfl) (fun _ _ _ h => h) (Or.inl ⟨by rfl, ?_⟩) hS ?_
  · (intro w' hSw; go_simp)
  go_frame
  refine wpAnyL_take (i := 3) (v := .pointer (some ⟨fb, 0, none⟩)) rfl (by kernel_rfl) (by kernel_rfl) (by kernel_rfl) (by kernel_rfl) (by kernel_rfl) (fun _ _ _ h => h) (Or.inl ⟨by rfl, ?_⟩) hS ?_
  · (intro w' hSw; go_simp)
  go_frame
  refine wpAnyL_take (i := 4) (v := .slice (some ⟨g, 0, none⟩) L cap) rfl (by kernel_rfl) (by kernel_rfl) (by kernel_rfl) (by kernel_rfl) (by kernel_rfl) (fun _ _ _ h => h) (Or.inl ⟨by rfl, ?_⟩) hS ?_
  · (intro w' hSw; go_simp)
  go_frame
  refine wpAnyL_take (i := 5) (v := .pointer (some ⟨fb, 0, none⟩)) rfl (by kernel_rfl) (by kernel_rfl) (by kernel_rfl) (by kernel_rfl) (by kernel_rfl) (fun _ _ _ h => h) (Or.inl ⟨by rfl, ?_⟩) hS ?_
  · (intro w' hSw; go_simp)
  go_frame
  refine wpAnyL_take (i := 6) (v := .pointer (some ⟨fb, 0, none⟩)) rfl (by kernel_rfl) (by kernel_rfl) (by kernel_rfl) (by kernel_rfl) (by kernel_rfl) (fun _ _ _ h => h) (Or.inl ⟨by rfl, ?_⟩) hS ?_
  · (intro w' hSw; go_simp)
  go_frame
  refine wpAnyL_take (i := 7) (v := .pointer (some ⟨fb, 1, none⟩)) rfl (by kernel_rfl) (by kernel_rfl) (by kernel_rfl) (by kernel_rfl) (by kernel_rfl) (fun _ _ _ h => h) (Or.inl ⟨by rfl, ?_⟩) hS ?_
  · (intro w' hSw; go_simp)
  go_frame
  refine wpAnyL_take (i := 8) (v := .int .i64 (su : Int)) rfl (by kernel_rfl) (by kernel_rfl) (by kernel_rfl) (by kernel_rfl) (by kernel_rfl) (fun _ _ _ h => h) (Or.inl ⟨by rfl, ?_⟩) hS ?_
  · (intro w' hSw; go_simp)
  go_frame
  refine wpAnyL_take (i := 9) (v := .func (.func 66) #[] #[.pointer (some ⟨nb, 0, none⟩)]) rfl (by kernel_rfl) (by kernel_rfl) (by kernel_rfl) (by kernel_rfl) (by kernel_rfl) (fun _ _ _ h => h) (Or.inl ⟨by rfl, ?_⟩) hS ?_
  · (intro w' hSw; go_simp)
  go_frame
  refine wpAnyL_take (i := 12) (v := .int .i64 (T : Int)) rfl (by kernel_rfl) (by kernel_rfl) (by kernel_rfl) (by kernel_rfl) (by kernel_rfl) (fun _ _ _ h => h) (Or.inl ⟨by rfl, ?_⟩) hS ?_
  · (intro w' hSw; go_simp)
  go_frame
  refine wpAnyL_one (i := 10) (by kernel_rfl) rfl rfl ?_
  go_simp
  refine hn1.out.mono ?_
  rintro e w2 ⟨rfl, hk2, hN2⟩
  obtain ⟨g0, g1, gf⟩ := HFAR.out w2 hk2
  refine ⟨⟨g0, g1⟩, ?_⟩
  refine wpAnyL_one (i := 11) (by kernel_rfl) rfl rfl ?_
  go_simp
  refine wpAnyL_one (i := 13) (by kernel_rfl) rfl rfl ?_
  go_simp
  rw [if_neg (show ¬ ((T : Nat) : Int) < 0 by omega)]
  refine wpAnyL_one (i := 14) (by kernel_rfl) rfl rfl ?_
  go_simp
  refine wpAnyL_one (i := 15) (by kernel_rfl) rfl rfl ?_
  simp only [Go.wp_at_succ, Go.wp_at_zero]
  refine wp_slice_run _ _ _ rfl (.slice (some ⟨g, 0, none⟩) L cap) (.int .i64 (su : Int)) (.slice (some ⟨g, 0, none⟩) su cap) rfl (by simp [Act.eval]) (slice_to g L cap su (su : Int) (by simp) HMC.out hcz w2) ?_
  refine ⟨⟨g0, g1⟩, ?_⟩
  go_frame
  refine wpAnyL_one (i := 16) (by kernel_rfl) rfl rfl ?_
  go_simp
  refine wpAnyL_one (i := 17) (by kernel_rfl) rfl rfl ?_
  go_simp
  refine wpAnyL_last (by kernel_rfl) (by kernel_rfl) rfl rfl ?_
  go_simp
  refine NoPanic.normal ?_
  obtain ⟨hN3, hrest⟩ := fset_next (M := su) hF hB HML2.out hNO hOf hOg hfg hk2 hN2
  have HR := Hid.mk hrest
  clear hrest g0 g1 gf
  go_wp2_with fail
  refine (next_any hN3).mono ?_
  rintro e w4 ⟨rfl, hk4, hN4⟩
  obtain ⟨hF4, hB4, hO4⟩ := HR.out w4 hk4
  generalize hy : l.tail.headD 0 = y at *
  have HY := Hid.mk hy
  clear hy
  go_wp2_with fail
  refine (odd_free _ _).mono ?_
  rintro e w5 ⟨rfl, rfl⟩
  cases hodd : DModel.oddB y
  · go_wp2_with fail
    refine (secure_any hF4).mono ?_
    rintro e w6 ⟨rfl, rfl⟩
    go_wp2_with fail
    go_end0
    exact ⟨rfl, fset_fin0 (by rw [HY.out]; exact hodd) hNO hOf hfg hF4 hB4 hN4 hO4⟩
  · have hlt : (bs.take (su)).length = su := by have := HML2.out; have := H0.out.1; simp; omega
    go_wp2_with fail
    refine (spoil_raw (bs := bs.take (su)) hF4 (by rw [hlt]; exact hB4) (by rw [hlt]; exact hMsu.out) (by rw [hlt]; have := HML2.out; omega)).mono ?_
    rintro e w6 ⟨rfl, hB6, hk6⟩
    rw [hlt] at hB6
    obtain ⟨hF6, hP6⟩ := fset_fin1 (l := l) (by rw [HY.out]; exact hodd) hNO hOf hOg hfg hF4 hB6 hk6 hN4 hO4
    go_wp2_with fail
    refine (secure_any hF6).mono ?_
    rintro e w7 ⟨rfl, rfl⟩
    go_wp2_with fail
    go_end0
    exact ⟨rfl, hP6⟩

set_option maxRecDepth 100000 in
set_option maxHeartbeats 3200000 in
theorem fset_mid {fb L su cap nb g : Nat} {O : Nat → Prop} {l : List Int} {bs : List UInt8} (hF : Blk w fb [.slice (some ⟨g, 0, none⟩) L cap, .int .i64 (su : Int)] 87) (hB : w.ownsRow 0 5 1 (.slice (some ⟨g, 0, none⟩) L cap) L (bs.map byteV)) (hbs : bs.length = L) (hsu : su < L) (hL : L ≤ 16777216)
    (hN : NumsAt w O nb l) (hNO : ¬ O nb) (hOf : O fb) (hOg : O g) (r : Nat) (hk : l.headD 0 = (r : Int)) (hr : r ≤ L - su) :
    Calls Try.prog 43 #[.pointer (some ⟨fb, 0, none⟩), .func (.func 66) #[] #[.pointer (some ⟨nb, 0, none⟩)]] w fun e w' => e = .returned (.tuple #[]) ∧ FPost w fb g nb su (su + r) cap O l (bs.take (su + r)) w' := by
  have hcapL : L ≤ cap ∧ cap ≠ 0 := by
    obtain ⟨hl, ⟨h1, _⟩ | ⟨g', cap', cur, hv, hb, hg, hn, hm, hc, ht⟩⟩ := hB
    · cases h1
    · cases hv
      exact ⟨hn, by omega⟩
  have hnf : nb ≠ fb := fun e => hNO (e ▸ hOf)
  have hng : nb ≠ g := fun e => hNO (e ▸ hOg)
  have hfg : g ≠ fb := (row_typed hB rfl).ne hF.typed (by decide)
  have hn1 := Hid.mk (next_any (w := w.drew.drew) (O := O) (nb := nb) (l := l) (by
    obtain ⟨v, hb, rest⟩ := hN
    exact ⟨v, hb, rest⟩))
  have e1 : IntKind.i64.wrap ((L : Int) - (su : Int)) = ((L - su : Nat) : Int) := by rw [IntKind.wrap_i64]; omega
  have e2 : ((((L - su : Nat) : Int)) == 0) = false := by simp; omega
  have hT0 : ¬ ((L - su : Nat) : Int) < 0 := by omega
  have e3 : IntKind.i64.wrap ((su : Int) + (r : Int)) = ((su + r : Nat) : Int) := by rw [IntKind.wrap_i64]; omega
  have hr1 : ¬ (L - su) < r := by omega
  have hr2 : ¬ ((L - su : Nat) : Int) < (r : Int) := by omega
  have hr3 : ¬ (r : Int) < 0 := by omega
  have hM : (((su + r) : Nat) : Int) ≤ (cap : Int) := by omega
  have hM0 : (0 : Int) ≤ (((su + r) : Nat) : Int) := by omega
  have HML2 : Hid ((su + r) ≤ L) := by unfold Hid; omega
  have hMsu : Hid (su ≤ (su + r)) := by unfold Hid; omega
  have hcz : ¬ cap = 0 := hcapL.2
  have HMC : Hid ((su + r) ≤ cap) := by unfold Hid; omega
  have H0 := Hid.mk (And.intro hbs (And.intro hsu hL))
  generalize hx : l.headD 0 = x at *
  clear hx
  have f0 := hF.cell 0 rfl
  have f1 := hF.cell 1 rfl
  have hfar : ∀ w2, Only (fun x => x = nb) w.drew.drew w2 → w2.cell? ⟨fb, 0, none⟩ = some (.slice (some ⟨g, 0, none⟩) L cap) ∧ w2.cell? ⟨fb, 1, none⟩ = some (.int .i64 (su : Int)) ∧ w2.frozen? ⟨fb, 0, none⟩ = false := fun w2 hk => ⟨(hk.blk hF.drew.drew (fun e => hnf e.symm)).cell 0 rfl, (hk.blk hF.drew.drew (fun e => hnf e.symm)).cell 1 rfl, (hk.blk hF.drew.drew (fun e => hnf e.symm)).frozen 0⟩
  have HFAR := Hid.mk hfar
  clear hfar hbs hcapL
  generalize hTT : L - su = T at *
  clear hTT
  subst hk
  go_enter Try.func43, Try.ntmps43
  go_wp2_with fail
  go_region_held3 (fun w' => w'.cell? ⟨fb, 0, none⟩ = some (.slice (some ⟨g, 0, none⟩) L cap) ∧ w'.cell? ⟨fb, 1, none⟩ = some (.int .i64 (su : Int))) (exact ⟨f0, f1⟩) (fail)
  go_wp2_with fail
  refine wp_region_noPanic ?_
  refine wp_region_last (L := 18) (S := fun w' => w'.cell? ⟨fb, 0, none⟩ = some (.slice (some ⟨g, 0, none⟩) L cap) ∧ w'.cell? ⟨fb, 1, none⟩ = some (.int .i64 (su : Int))) (by kernel_rfl) ?_
  have hS : (fun w' : World => w'.cell? ⟨fb, 0, none⟩ = some (.slice (some ⟨g, 0, none⟩) L cap) ∧ w'.cell? ⟨fb, 1, none⟩ = some (.int .i64 (su : Int))) w.drew.drew := ⟨f0, f1⟩
  refine wpAnyL_take (i := 0) (v := .pointer (some ⟨fb, 0, none⟩)) rfl (by kernel_rfl) (by kernel_rfl) (by kernel_rfl) (by kernel_rfl) (by kernel_rfl) (fun _ _ _ h => h) (Or.inl ⟨by rfl, ?_⟩) hS ?_
  · (intro w' hSw; go_simp)
  go_frame
  refine wpAnyL_take (i := 1) (v := .pointer (some ⟨fb, 0, none⟩)) rfl (by kernel_rfl) (by kernel_rfl) (by kernel_rfl) (by kernel_rfl) (by kernel_rfl) (fun _ _ _ h => h) (Or.inl ⟨by rfl, ?_⟩) hS ?_
  · (intro w' hSw; go_simp)
  go_frame
  refine wpAnyL_take (i := 2) (v := .pointer (some ⟨fb, 0, none⟩)) rfl (by kernel_rfl) (by kernel_rfl) (by kernel_rfl) (by kernel_rfl) (by kernel_rfl) (fun _ _ _ h => h) (Or.inl ⟨by rfl, ?_⟩) hS ?_
  · (intro w' hSw; go_simp)
  go_frame
  refine wpAnyL_take (i := 3) (v := .pointer (some ⟨fb, 0, none⟩)) rfl (by kernel_rfl) (by kernel_rfl) (by kernel_rfl) (by kernel_rfl) (by kernel_rfl) (fun _ _ _ h => h) (Or.inl ⟨by rfl, ?_⟩) hS ?_
  · (intro w' hSw; go_simp)
  go_frame
  refine wpAnyL_take (i := 4) (v := .slice (some ⟨g, 0, none⟩) L cap) rfl (by kernel_rfl) (by kernel_rfl) (by kernel_rfl) (by kernel_rfl) (by kernel_rfl) (fun _ _ _ h => h) (Or.inl ⟨by rfl, ?_⟩) hS ?_
  · (intro w' hSw; go_simp)
  go_frame
  refine wpAnyL_take (i := 5) (v := .pointer (some ⟨fb, 0, none⟩)) rfl (by kernel_rfl) (by kernel_rfl) (by kernel_rfl) (by kernel_rfl) (by kernel_rfl) (fun _ _ _ h => h) (Or.inl ⟨by rfl, ?_⟩) hS ?_
  · (intro w' hSw; go_simp)
  go_frame
  refine wpAnyL_take (i := 6) (v := .pointer (some ⟨fb, 0, none⟩)) rfl (by kernel_rfl) (by kernel_rfl) (by kernel_rfl) (by kernel_rfl) (by kernel_rfl) (fun _ _ _ h => h) (Or.inl ⟨by rfl, ?_⟩) hS ?_
  · (intro w' hSw; go_simp)
  go_frame
  refine wpAnyL_take (i := 7) (v := .pointer (some ⟨fb, 1, none⟩)) rfl (by kernel_rfl) (by kernel_rfl) (by kernel_rfl) (by kernel_rfl) (by kernel_rfl) (fun _ _ _ h => h) (Or.inl ⟨by rfl, ?_⟩) hS ?_
  · (intro w' hSw; go_simp)
  go_frame
  refine wpAnyL_take (i := 8) (v := .int .i64 (su : Int)) rfl (by kernel_rfl) (by kernel_rfl) (by kernel_rfl) (by kernel_rfl) (by kernel_rfl) (fun _ _ _ h => h) (Or.inl ⟨by rfl, ?_⟩) hS ?_
  · (intro w' hSw; go_simp)
  go_frame
  refine wpAnyL_take (i := 9) (v := .func (.func 66) #[] #[.pointer (some ⟨nb, 0, none⟩)]) rfl (by kernel_rfl) (by kernel_rfl) (by kernel_rfl) (by kernel_rfl) (by kernel_rfl) (fun _ _ _ h => h) (Or.inl ⟨by rfl, ?_⟩) hS ?_
  · (intro w' hSw; go_simp)
  go_frame
  refine wpAnyL_take (i := 12) (v := .int .i64 (T : Int)) rfl (by kernel_rfl) (by kernel_rfl) (by kernel_rfl) (by kernel_rfl) (by kernel_rfl) (fun _ _ _ h => h) (Or.inl ⟨by rfl, ?_⟩) hS ?_
  · (intro w' hSw; go_simp)
  go_frame
  refine wpAnyL_one (i := 10) (by kernel_rfl) rfl rfl ?_
  go_simp
  refine hn1.out.mono ?_
  rintro e w2 ⟨rfl, hk2, hN2⟩
  obtain ⟨g0, g1, gf⟩ := HFAR.out w2 hk2
  refine ⟨⟨g0, g1⟩, ?_⟩
  refine wpAnyL_one (i := 11) (by kernel_rfl) rfl rfl ?_
  go_simp
  (first | rw [if_neg (show ¬ ((r : Nat) : Int) < 0 by omega)] | skip)
  refine wpAnyL_one (i := 13) (by kernel_rfl) rfl rfl ?_
  go_simp
  (first | rw [if_neg (show ¬ ((T : Nat) : Int) < ((r : Nat) : Int) by omega)] | skip)
  refine wpAnyL_one (i := 14) (by kernel_rfl) rfl rfl ?_
  go_simp
  refine wpAnyL_one (i := 15) (by kernel_rfl) rfl rfl ?_
  simp only [Go.wp_at_succ, Go.wp_at_zero]
  refine wp_slice_run _ _ _ rfl (.slice (some ⟨g, 0, none⟩) L cap) (.int .i64 ((su : Int) + (r : Int))) (.slice (some ⟨g, 0, none⟩) (su + r) cap) rfl (by simp [Act.eval]) (slice_to g L cap (su + r) ((su : Int) + (r : Int)) (by simp) HMC.out hcz w2) ?_
  refine ⟨⟨g0, g1⟩, ?_⟩
  go_frame
  refine wpAnyL_one (i := 16) (by kernel_rfl) rfl rfl ?_
  go_simp
  refine wpAnyL_one (i := 17) (by kernel_rfl) rfl rfl ?_
  go_simp
  refine wpAnyL_last (by kernel_rfl) (by kernel_rfl) rfl rfl ?_
  go_simp
  refine NoPanic.normal ?_
  obtain ⟨hN3, hrest⟩ := fset_next (M := (su + r)) hF hB HML2.out hNO hOf hOg hfg hk2 hN2
  have HR := Hid.mk hrest
  clear hrest g0 g1 gf
  go_wp2_with fail
  refine (next_any hN3).mono ?_
  rintro e w4 ⟨rfl, hk4, hN4⟩
  obtain ⟨hF4, hB4, hO4⟩ := HR.out w4 hk4
  generalize hy : l.tail.headD 0 = y at *
  have HY := Hid.mk hy
  clear hy
  go_wp2_with fail
  refine (odd_free _ _).mono ?_
  rintro e w5 ⟨rfl, rfl⟩
  cases hodd : DModel.oddB y
  · go_wp2_with fail
    refine (secure_any hF4).mono ?_
    rintro e w6 ⟨rfl, rfl⟩
    go_wp2_with fail
    go_end0
    exact ⟨rfl, fset_fin0 (by rw [HY.out]; exact hodd) hNO hOf hfg hF4 hB4 hN4 hO4⟩
  · have hlt : (bs.take ((su + r))).length = (su + r) := by have := HML2.out; have := H0.out.1; simp; omega
    go_wp2_with fail
    refine (spoil_raw (bs := bs.take ((su + r))) hF4 (by rw [hlt]; exact hB4) (by rw [hlt]; exact hMsu.out) (by rw [hlt]; have := HML2.out; omega)).mono ?_
    rintro e w6 ⟨rfl, hB6, hk6⟩
    rw [hlt] at hB6
    obtain ⟨hF6, hP6⟩ := fset_fin1 (l := l) (by rw [HY.out]; exact hodd) hNO hOf hOg hfg hF4 hB6 hk6 hN4 hO4
    go_wp2_with fail
    refine (secure_any hF6).mono ?_
    rintro e w7 ⟨rfl, rfl⟩
    go_wp2_with fail
    go_end0
    exact ⟨rfl, hP6⟩

set_option maxRecDepth 100000 in
set_option maxHeartbeats 3200000 in
theorem fset_all {fb L su cap nb g : Nat} {O : Nat → Prop} {l : List Int} {bs : List UInt8} (hF : Blk w fb [.slice (some ⟨g, 0, none⟩) L cap, .int .i64 (su : Int)] 87) (hB : w.ownsRow 0 5 1 (.slice (some ⟨g, 0, none⟩) L cap) L (bs.map byteV)) (hbs : bs.length = L) (hsu : su < L) (hL : L ≤ 16777216)
    (hN : NumsAt w O nb l) (hNO : ¬ O nb) (hOf : O fb) (hOg : O g) (hk : ((L - su : Nat) : Int) < l.headD 0) :
    Calls Try.prog 43 #[.pointer (some ⟨fb, 0, none⟩), .func (.func 66) #[] #[.pointer (some ⟨nb, 0, none⟩)]] w fun e w' => e = .returned (.tuple #[]) ∧ FPost w fb g nb su L cap O l (bs.take L) w' := by
  have hcapL : L ≤ cap ∧ cap ≠ 0 := by
    obtain ⟨hl, ⟨h1, _⟩ | ⟨g', cap', cur, hv, hb, hg, hn, hm, hc, ht⟩⟩ := hB
    · cases h1
    · cases hv
      exact ⟨hn, by omega⟩
  have hnf : nb ≠ fb := fun e => hNO (e ▸ hOf)
  have hng : nb ≠ g := fun e => hNO (e ▸ hOg)
  have hfg : g ≠ fb := (row_typed hB rfl).ne hF.typed (by decide)
  have hn1 := Hid.mk (next_any (w := w.drew.drew) (O := O) (nb := nb) (l := l) (by
    obtain ⟨v, hb, rest⟩ := hN
    exact ⟨v, hb, rest⟩))
  have e1 : IntKind.i64.wrap ((L : Int) - (su : Int)) = ((L - su : Nat) : Int) := by rw [IntKind.wrap_i64]; omega
  have e2 : ((((L - su : Nat) : Int)) == 0) = false := by simp; omega
  have hT0 : ¬ ((L - su : Nat) : Int) < 0 := by omega
  have e3 : IntKind.i64.wrap ((su : Int) + ((L - su : Nat) : Int)) = (L : Int) := by rw [IntKind.wrap_i64]; omega
  have hk2 : ¬ l.headD 0 < 0 := by omega
  have hM : ((L : Nat) : Int) ≤ (cap : Int) := by omega
  have hM0 : (0 : Int) ≤ ((L : Nat) : Int) := by omega
  have HML2 : Hid (L ≤ L) := by unfold Hid; omega
  have hMsu : Hid (su ≤ L) := by unfold Hid; omega
  have hcz : ¬ cap = 0 := hcapL.2
  have HMC : Hid (L ≤ cap) := by unfold Hid; omega
  have H0 := Hid.mk (And.intro hbs (And.intro hsu hL))
  generalize hx : l.headD 0 = x at *
  clear hx
  have f0 := hF.cell 0 rfl
  have f1 := hF.cell 1 rfl
  have hfar : ∀ w2, Only (fun x => x = nb) w.drew.drew w2 → w2.cell? ⟨fb, 0, none⟩ = some (.slice (some ⟨g, 0, none⟩) L cap) ∧ w2.cell? ⟨fb, 1, none⟩ = some (.int .i64 (su : Int)) ∧ w2.frozen? ⟨fb, 0, none⟩ = false := fun w2 hk => ⟨(hk.blk hF.drew.drew (fun e => hnf e.symm)).cell 0 rfl, (hk.blk hF.drew.drew (fun e => hnf e.symm)).cell 1 rfl, (hk.blk hF.drew.drew (fun e => hnf e.symm)).frozen 0⟩
  have HFAR := Hid.mk hfar
  clear hfar hbs hcapL
  generalize hTT : L - su = T at *
  clear hTT
  go_enter Try.func43, Try.ntmps43
  go_wp2_with fail
  go_region_held3 (fun w' => w'.cell? ⟨fb, 0, none⟩ = some (.slice (some ⟨g, 0, none⟩) L cap) ∧ w'.cell? ⟨fb, 1, none⟩ = some (.int .i64 (su : Int))) (exact ⟨f0, f1⟩) (fail)
  go_wp2_with fail
  refine wp_region_noPanic ?_
  refine wp_region_last (L := 18) (S := fun w' => w'.cell? ⟨fb, 0, none⟩ = some (.slice (some ⟨g, 0, none⟩) L cap) ∧ w'.cell? ⟨fb, 1, none⟩ = some (.int .i64 (su : Int))) (by kernel_rfl) ?_
  have hS : (fun w' : World => w'.cell? ⟨fb, 0, none⟩ = some (.slice (some ⟨g, 0, none⟩) L cap) ∧ w'.cell? ⟨fb, 1, none⟩ = some (.int .i64 (su : Int))) w.drew.drew := ⟨f0, f1⟩
  refine wpAnyL_take (i := 0) (v := .pointer (some ⟨fb, 0, none⟩)) rfl (by kernel_rfl) (by kernel_rfl) (by kernel_rfl) (by kernel_rfl) (by kernel_rfl) (fun _ _ _ h => h) (Or.inl ⟨by rfl, ?_⟩) hS ?_
  · (intro w' hSw; go_simp)
  go_frame
  refine wpAnyL_take (i := 1) (v := .pointer (some ⟨fb, 0, none⟩)) rfl (by kernel_rfl) (by kernel_rfl) (by kernel_rfl) (by kernel_rfl) (by kernel_rfl) (fun _ _ _ h => h) (Or.inl ⟨by rfl, ?_⟩) hS ?_
  · (intro w' hSw; go_simp)
  go_frame
  refine wpAnyL_take (i := 2) (v := .pointer (some ⟨fb, 0, none⟩)) rfl (by kernel_rfl) (by kernel_rfl) (by kernel_rfl) (by kernel_rfl) (by kernel_rfl) (fun _ _ _ h => h) (Or.inl ⟨by rfl, ?_⟩) hS ?_
  · (intro w' hSw; go_simp)
  go_frame
  refine wpAnyL_take (i := 3) (v := .pointer (some ⟨fb, 0, none⟩)) rfl (by kernel_rfl) (by kernel_rfl) (by kernel_rfl) (by kernel_rfl) (by kernel_rfl) (fun _ _ _ h => h) (Or.inl ⟨by rfl, ?_⟩) hS ?_
  · (intro w' hSw; go_simp)
  go_frame
  refine wpAnyL_take (i := 4) (v := .slice (some ⟨g, 0, none⟩) L cap) rfl (by kernel_rfl) (by kernel_rfl) (by kernel_rfl) (by kernel_rfl) (by kernel_rfl) (fun _ _ _ h => h) (Or.inl ⟨by rfl, ?_⟩) hS ?_
  · (intro w' hSw; go_simp)
  go_frame
  refine wpAnyL_take (i := 5) (v := .pointer (some ⟨fb, 0, none⟩)) rfl (by kernel_rfl) (by kernel_rfl) (by kernel_rfl) (by kernel_rfl) (by kernel_rfl) (fun _ _ _ h => h) (Or.inl ⟨by rfl, ?_⟩) hS ?_
  · (intro w' hSw; go_simp)
  go_frame
  refine wpAnyL_take (i := 6) (v := .pointer (some ⟨fb, 0, none⟩)) rfl (by kernel_rfl) (by kernel_rfl) (by kernel_rfl) (by kernel_rfl) (by kernel_rfl) (fun _ _ _ h => h) (Or.inl ⟨by rfl, ?_⟩) hS ?_
  · (intro w' hSw; go_simp)
  go_frame
  refine wpAnyL_take (i := 7) (v := .pointer (some ⟨fb, 1, none⟩)) rfl (by kernel_rfl) (by kernel_rfl) (by kernel_rfl) (by kernel_rfl) (by kernel_rfl) (fun _ _ _ h => h) (Or.inl ⟨by rfl, ?_⟩) hS ?_
  · (intro w' hSw; go_simp)
  go_frame
  refine wpAnyL_take (i := 8) (v := .int .i64 (su : Int)) rfl (by kernel_rfl) (by kernel_rfl) (by kernel_rfl) (by kernel_rfl) (by kernel_rfl) (fun _ _ _ h => h) (Or.inl ⟨by rfl, ?_⟩) hS ?_
  · (intro w' hSw; go_simp)
  go_frame
  refine wpAnyL_take (i := 9) (v := .func (.func 66) #[] #[.pointer (some ⟨nb, 0, none⟩)]) rfl (by kernel_rfl) (by kernel_rfl) (by kernel_rfl) (by kernel_rfl) (by kernel_rfl) (fun _ _ _ h => h) (Or.inl ⟨by rfl, ?_⟩) hS ?_
  · (intro w' hSw; go_simp)
  go_frame
  refine wpAnyL_take (i := 12) (v := .int .i64 (T : Int)) rfl (by kernel_rfl) (by kernel_rfl) (by kernel_rfl) (by kernel_rfl) (by kernel_rfl) (fun _ _ _ h => h) (Or.inl ⟨by rfl, ?_⟩) hS ?_
  · (intro w' hSw; go_simp)
  go_frame
  refine wpAnyL_one (i := 10) (by kernel_rfl) rfl rfl ?_
  go_simp
  refine hn1.out.mono ?_
  rintro e w2 ⟨rfl, hk2, hN2⟩
  obtain ⟨g0, g1, gf⟩ := HFAR.out w2 hk2
  refine ⟨⟨g0, g1⟩, ?_⟩
  refine wpAnyL_one (i := 11) (by kernel_rfl) rfl rfl ?_
  go_simp
  (first | rw [if_neg (show ¬ x < 0 by omega)] | skip)
  refine wpAnyL_one (i := 13) (by kernel_rfl) rfl rfl ?_
  go_simp
  (first | rw [if_pos (show ((T : Nat) : Int) < x by omega)] | skip)
  refine wpAnyL_one (i := 14) (by kernel_rfl) rfl rfl ?_
  go_simp
  refine wpAnyL_one (i := 15) (by kernel_rfl) rfl rfl ?_
  simp only [Go.wp_at_succ, Go.wp_at_zero]
  refine wp_slice_run _ _ _ rfl (.slice (some ⟨g, 0, none⟩) L cap) (.int .i64 (L : Int)) (.slice (some ⟨g, 0, none⟩) L cap) rfl (by simp [Act.eval]) (slice_to g L cap L (L : Int) (by simp) HMC.out hcz w2) ?_
  refine ⟨⟨g0, g1⟩, ?_⟩
  go_frame
  refine wpAnyL_one (i := 16) (by kernel_rfl) rfl rfl ?_
  go_simp
  refine wpAnyL_one (i := 17) (by kernel_rfl) rfl rfl ?_
  go_simp
  refine wpAnyL_last (by kernel_rfl) (by kernel_rfl) rfl rfl ?_
  go_simp
  refine NoPanic.normal ?_
  obtain ⟨hN3, hrest⟩ := fset_next (M := L) hF hB HML2.out hNO hOf hOg hfg hk2 hN2
  have HR := Hid.mk hrest
  clear hrest g0 g1 gf
  go_wp2_with fail
  refine (next_any hN3).mono ?_
  rintro e w4 ⟨rfl, hk4, hN4⟩
  obtain ⟨hF4, hB4, hO4⟩ := HR.out w4 hk4
  generalize hy : l.tail.headD 0 = y at *
  have HY := Hid.mk hy
  clear hy
  go_wp2_with fail
  refine (odd_free _ _).mono ?_
  rintro e w5 ⟨rfl, rfl⟩
  cases hodd : DModel.oddB y
  · go_wp2_with fail
    refine (secure_any hF4).mono ?_
    rintro e w6 ⟨rfl, rfl⟩
    go_wp2_with fail
    go_end0
    exact ⟨rfl, fset_fin0 (by rw [HY.out]; exact hodd) hNO hOf hfg hF4 hB4 hN4 hO4⟩
  · have hlt : (bs.take (L)).length = L := by have := HML2.out; have := H0.out.1; simp; omega
    go_wp2_with fail
    refine (spoil_raw (bs := bs.take (L)) hF4 (by rw [hlt]; exact hB4) (by rw [hlt]; exact hMsu.out) (by rw [hlt]; have := HML2.out; omega)).mono ?_
    rintro e w6 ⟨rfl, hB6, hk6⟩
    rw [hlt] at hB6
    obtain ⟨hF6, hP6⟩ := fset_fin1 (l := l) (by rw [HY.out]; exact hodd) hNO hOf hOg hfg hF4 hB6 hk6 hN4 hO4
    go_wp2_with fail
    refine (secure_any hF6).mono ?_
    rintro e w7 ⟨rfl, rfl⟩
    go_wp2_with fail
    go_end0
    exact ⟨rfl, hP6⟩
end
end Go.Proofs.Ytfmdnaagdhpcpaa
