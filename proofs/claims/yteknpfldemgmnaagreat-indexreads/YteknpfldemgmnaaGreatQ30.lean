/-
  Xseq.
-/
import Derived.Test.YteknpfldemgmnaaGreatQ25
import Derived.Test.YteknpfldemgmnaaGreatQ29

/-
  slices.AppendSeq and slices.Collect of the pairs.
-/
namespace Go.Proofs.YteknpfldemgmnaaGreat.X
open Go.RowKit Go.Proofs.Lys Go.Maps Go.Proofs.YteknpfldemgmnaaGreat.N Go.Shelf
set_option linter.unusedVariables false
set_option linter.unusedSimpArgs false
attribute [local go_sem] Oper.semAt_some

theorem keys_stops (n : Nat) (hn : 1 ≤ n) (Bm : Nat) {w : World} {x : IxC} {O : Nat → Prop} {P : Posts} (hA : IxAt w x O) (hI : Is x P) (hm : w.cell? ⟨Bm, 0, none⟩ = some (.map (some x.mb))) :
    SeqStopsK Fence.wide n Tryz.prog 85 #[.pointer (some ⟨Bm, 0, none⟩)] (fun y : Lab => #[labV y]) KeepsWalks (fun ys => ys.Perm (x.es.map (·.lab))) (fun _ => True) x.es.length w := fun l J Jx W hW hJa _ hY h0 =>
  keys1_in n hn l Bm hA hI J Jx hY W hJa (kept_cell (Only.below hW) hm) (Only.map (Only.below hW) hA.map (fun f => f)) h0
theorem labAt_cells {w w' : World} {row : Option Nat} (hg : w.grownBy w' row) (hr : ∀ r, row = some r → ∃ o : Obj, w.heap[r]? = some o ∧ o.isCells = false) {B : Nat} {v : Value} {l : Labs} (h : LabAt w B v l) : LabAt w' B v l := row_cells hg hr h
/-- What stands between two rounds: the box of the list, the list, all that was there. -/
def SeqI (w : World) (pre : List Lab) (W : World) : Prop :=
  (∃ v, Boxed W w.heap.size 44 v ∧ LabAt W (w.heap.size + 1) v pre) ∧ Below w.heap.size w W ∧ w.heap.size + 1 ≤ W.heap.size
theorem seqI_own (w : World) {B : Nat} (hB : w.heap.size ≤ B) : OwnFrom B (SeqI w) :=
  OwnFrom.and (Own.from (fun s X Y row ⟨v, hb, ho⟩ hg hr => ⟨v, (grown_cells hg hr ⟨_, _, hb⟩).trans hb, labAt_cells hg hr ho⟩) _)
    (OwnFrom.and (ownFrom_below (Nat.le_refl _) hB) (fun _ _ _ _ hs hg _ => Nat.le_trans hs hg.size))

set_option maxRecDepth 100000 in
set_option maxHeartbeats 3200000 in
theorem appseq_any (w : World) (Bm : Nat) {x : IxC} {O : Nat → Prop} {P : Posts} (hA : IxAt w x O) (hI : Is x P) (hm : w.cell? ⟨Bm, 0, none⟩ = some (.map (some x.mb))) (hl : x.es.length ≤ 100000) :
    Calls Tryz.prog 98 #[.slice none 0 0, .func (.func 85) #[] #[.pointer (some ⟨Bm, 0, none⟩)]] w fun e w' => ∃ v ys, e = .returned v ∧ LabAt w' w.heap.size v ys ∧ ys.Perm (x.es.map (·.lab)) ∧ Kept w w' := by
  refine (callsIn_wide (n := 3)).1 ?_
  refine callsIn_of_wp_marks Tryz.func98 rfl trivial ?_ rfl
  simp only [Tryz.ntmps98, List.size_toArray, List.length_cons, List.length_nil, Nat.reduceAdd, Nat.reduceSub, Array.replicate_succ, Array.replicate_zero, List.push_toArray, List.append_toArray, List.nil_append, List.cons_append]
  gi_wp2
  have b0 := Boxed.new w 44 (.slice none 0 0)
  have kw : Kept w (w.alloc (.cells #[.slice none 0 0] 44)) := (Only.refl _ w).alloc _
  have hA1 := hA.stay kw
  have hm1 := kept_cell kw hm
  have hB0 : Below w.heap.size w (w.alloc (.cells #[.slice none 0 0] 44)) := (Below.refl _ w).alloc (Nat.le_refl _) _
  have hs0 : (w.alloc (.cells #[.slice none 0 0] 44)).heap.size = w.heap.size + 1 := by simp
  refine wpIn_rangeFunc_ownH rfl (by omega) (gf := 85) (lb := #[.pointer (some ⟨Bm, 0, none⟩)]) rfl trivial (enters_of Tryz.func85 (by kernel_rfl) rfl)
    (keys_stops _ (by omega) Bm hA1 hI hm1) walksK_t walksK_b (Below.refl _ _) (fun _ => rfl)
    (SeqI w) (fun _ _ _ => False) (seqI_own w (by omega)) (fun _ _ _ _ _ hs _ _ => hs)
    ⟨⟨_, b0, World.ownsRow_nil _ _ _ _⟩, hB0, by omega⟩
    (fun y a' W => ∃ B, w.heap.size + 1 ≤ B ∧ Blk W B [.string y.1, .string y.2] 43 ∧ (∃ v, Boxed W w.heap.size 44 v ∧ v.ownBlock ≠ some B) ∧ a' = { tmps := #[.slice none 0 0, .func (.func 85) #[] #[.pointer (some ⟨Bm, 0, none⟩)], .pointer (some ⟨w.heap.size, 0, none⟩), undef, .slice none 0 0, .pointer (some ⟨B, 0, none⟩), .func (.func 85) #[] #[.pointer (some ⟨Bm, 0, none⟩)], labV y, undef, undef, undef, undef, undef], defers := [] })
    (fun y a' => fun _ X Y row ⟨B, h1, h2, ⟨v, h4, h5⟩, h3⟩ hg hr => ⟨B, h1, h2.of_block (grown_cells hg (fun r e => (hr r e).2) h2.typed), ⟨v, (grown_cells hg (fun r e => (hr r e).2) ⟨_, _, h4⟩).trans h4, h5⟩, h3⟩) ?assign ?body ?done ?stop
  case assign =>
    intro l pre y W K hI2 hK
    obtain ⟨y1, y2⟩ := y
    clear b0 kw hA1 hm1 hB0 hs0 hA hI hm
    gi_wp2
    have hk1 : Kept W (W.alloc (.cells #[.string y1, .string y2] 43)) := (Only.refl _ W).alloc _
    have hsz := hI2.2.2
    have hout : ∃ v, Boxed (W.alloc (.cells #[.string y1, .string y2] 43)) w.heap.size 44 v ∧ v.ownBlock ≠ some W.heap.size := by
      obtain ⟨⟨v, hb, hR⟩, _⟩ := hI2
      refine ⟨v, hb.alloc _, fun e => ?_⟩
      have := (ownN_lt hR e).2
      omega
    refine hK _ _ ((hk1.others (fun _ f => f.elim)).from _) (hk1.others (fun _ f => f.elim)).walks (seqI_own w (Nat.le_refl _) pre W _ none hI2 (World.grownBy_alloc W _ none) (fun r e => by cases e)) ⟨W.heap.size, hsz, Blk.new W _ _, hout, rfl⟩
  case body =>
    rintro q pre y a' W hq hrec ⟨⟨v, hb, hR⟩, hBel, hs3⟩ ⟨B, hB3, hBk, ⟨v', hbv, hvB⟩, rfl⟩ hlt
    obtain rfl : v = v' := by
      have h1 := (show W.heap[w.heap.size]? = _ from hb).symm.trans hbv
      simpa using h1
    obtain ⟨y1, y2⟩ := y
    have hc0 := hb.cell
    have r0 := hBk.cell 0 rfl
    have r1 := hBk.cell 1 rfl
    obtain ⟨a8, c8, e8⟩ := ownN_slice hR
    have k1 : Kept W (W.alloc (.cells #[.string y1, .string y2] 43)) := (Only.refl _ W).alloc _
    obtain ⟨v2, w3, hr, h1, h2, h3⟩ := lab_append (ownN_stay hR k1) (lab_lit W (y1, y2)) (by simp; omega) (Nat.le_trans hs3 k1.size)
    have HRUN := hid hr
    have hlow : ∀ j, v.ownBlock = some j → w.heap.size + 1 ≤ j := fun j hj => (ownN_lt hR hj).1
    have hO : Only (fun j => v.ownBlock = some j) W w3 := (k1.mono (O' := fun j => v.ownBlock = some j) (fun _ _ f => f.elim)).grown h2 (fun j e _ => e)
    have hb3 : Boxed w3 w.heap.size 44 v := (hO.block _ hb.lt (fun e => by have := hlow _ e; omega)).trans hb
    have hc3 := hb3.cell
    have hf3 := hb3.frozen
    have hlen2 : (pre ++ [(y1, y2)]).length = pre.length + 1 := by simp
    obtain ⟨a9, c9, e9⟩ := ownN_slice h1
    rw [hlen2] at e9
    have hS : Only (fun k => k = w.heap.size) w3 (w3.setCell ⟨w.heap.size, 0, none⟩ v2) := (Only.refl (fun k => k = w.heap.size) w3).setCell (p := ⟨w.heap.size, 0, none⟩) (fun _ => rfl) _
    have hk4 : Only (fun j => v.ownBlock = some j ∨ j = w.heap.size) W (w3.setCell ⟨w.heap.size, 0, none⟩ v2) :=
      (hO.mono (O' := fun j => v.ownBlock = some j ∨ j = w.heap.size) (fun _ _ h => .inl h)).trans hS (fun _ _ h => .inr h)
    have hko : KeepsOthers W (w3.setCell ⟨w.heap.size, 0, none⟩ v2) := hk4.others (fun k hk hlt => by
      rcases hk with hk | hk
      · exact ⟨_, ownN_typed hR hk⟩
      · subst hk; exact ⟨_, _, _, hb⟩)
    have hbel : Below w.heap.size W (w3.setCell ⟨w.heap.size, 0, none⟩ v2) := hk4.toBelow (fun k hk => hk.elim (fun h => by have := hlow k h; omega) (fun h => by omega)) (by omega)
    have HFIN : Hid (KeepsOthers W (w3.setCell ⟨w.heap.size, 0, none⟩ v2) ∧ SeqI w (pre ++ [(y1, y2)]) (w3.setCell ⟨w.heap.size, 0, none⟩ v2)) := by
      refine ⟨hko, ⟨v2, hb3.set v2, ?_⟩, hBel.trans hbel, Nat.le_trans hs3 hk4.size⟩
      refine ownN_only h1 hS (fun j hj e => ?_)
      have := (ownN_lt h1 hj).1
      omega
    rw [e9] at HRUN HFIN
    rw [e8] at HRUN hc0 hc3
    clear b0 kw hA1 hm1 hB0 hs0 hA hI hm hb hR hBel hBk hbv hvB k1 hr h1 h2 h3 hlow hO hb3 hS hk4 hko hbel e8 e9
    gi_wp2_with (gi_at_builtin; refine wpListIn_append_run rfl _ _ _ rfl rfl rfl HRUN ?_)
    exact ⟨HFIN.out.1.from _, HFIN.out.1.walks, HFIN.out.2⟩
  case done =>
    rintro D ys W hD hperm ⟨⟨v, hb, hR⟩, hBel, hs3⟩ hK
    have hc0 := hb.cell
    obtain ⟨a8, c8, e8⟩ := ownN_slice hR
    have hK2 : ∀ W2 : World, W2.heap[D]? = some (.deferred (some [])) → True := fun _ _ => trivial
    have HF : Hid (Kept w (W.putObj D (.deferred none)) ∧ LabAt (W.putObj D (.deferred none)) w.heap.size v ys) := by
      refine ⟨Only.below (hBel.trans (belowK_b (w := w) (Nat.le_refl _) W D _ _ (by omega) hK rfl rfl)), ?_⟩
      have h1 := labAt_cells (grownBy_putObj' W D (.deferred none)) (fun r e => by cases e; exact ⟨_, hK, rfl⟩) hR
      exact ownN_base h1 (by omega)
    have HP := hid hperm
    rw [e8] at hc0 HF
    clear b0 kw hA1 hm1 hB0 hs0 hA hI hm hb hR hBel e8 hperm hK2
    gi_wp2
    refine ⟨by simp, .inl ⟨_, _, rfl, run_takeDeferred hK, ?_⟩⟩
    refine ⟨_, results_tmp (t := 4) rfl _ _ _, ?_⟩
    exact ⟨.slice a8 ys.length c8, ys, rfl, HF.out.2, HP.out, HF.out.1⟩
  case stop =>
    rintro D c pre W _ _ h _
    exact h.elim
set_option maxRecDepth 100000 in
theorem collect_any (w : World) (Bm : Nat) {x : IxC} {O : Nat → Prop} {P : Posts} (hA : IxAt w x O) (hI : Is x P) (hm : w.cell? ⟨Bm, 0, none⟩ = some (.map (some x.mb))) (hl : x.es.length ≤ 100000) :
    Calls Tryz.prog 83 #[.func (.func 85) #[] #[.pointer (some ⟨Bm, 0, none⟩)]] w fun e w' => ∃ v ys, e = .returned v ∧ LabAt w' w.heap.size v ys ∧ ys.Perm (x.es.map (·.lab)) ∧ Kept w w' := by
  have H := hid (appseq_any w Bm hA hI hm hl)
  clear hA hI hm
  go_enter Tryz.func83, Tryz.ntmps83
  go_wp2_with fail
  refine H.out.mono ?_
  rintro e w1 ⟨v, ys, rfl, h1, h2, k1⟩
  obtain ⟨a, c, rfl⟩ := ownN_slice h1
  have H1 := hid h1
  have H2 := hid h2
  have K1 := hid k1
  clear h1 h2 k1 H
  go_wp2
  go_ret
  exact ⟨_, ys, rfl, H1.out, H2.out, K1.out⟩
theorem keysof_any (w : World) (b : Nat) : Calls Tryz.prog 58 #[.map (some b)] w fun e w' => e = .returned (.func (.func 85) #[] #[.pointer (some ⟨w.heap.size, 0, none⟩)]) ∧ w' = w.alloc (.cells #[.map (some b)] 57) := by
  have hmf : ∀ (fn : Fn) (first cap : Array Value) (w : World), (Instr.makeFunc fn first cap).run Tryz.prog w = .ok (.func fn first cap) w := fun _ _ _ _ => rfl
  go_enter Tryz.func58, Tryz.ntmps58
  go_wp2
  go_ret
  exact ⟨rfl, rfl⟩
end Go.Proofs.YteknpfldemgmnaaGreat.X
