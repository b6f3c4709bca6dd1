/-
  Xkeys, Xseq, Xsrt, Xrow, Xposts, Xref1, Xref2, Xname, Xstr, Xall, Xown, Lmakes15.
-/
import Derived.Test.YtdgkdgbdkhnpcaaGreatJoina
import Derived.Test.YtdgkdgbdkhnpcaaGreatRnd
import Derived.RangeFuncNested
import Derived.RangeFuncBound
import Derived.RangeFuncBox
import Derived.RangeFuncCalls
import Derived.RangeFuncLeaves
import Derived.Shelf.Abstract
import Derived.Shelf.RegionOpen
import Derived.Sort.MapsRangeIn
import Derived.OwnWalkIn
import Derived.TacticsInMore
import Derived.LoopNIn
import Derived.LoopIn
import Derived.Test.YtdgkdgbdkhnpcaaGreatXmake
import Derived.Test.YtdgkdgbdkhnpcaaGreatNcmp
import Derived.Test.YtdgkdgbdkhnpcaaGreatSort
import Derived.Sort.Grow
import Derived.Test.YtdgkdgbdkhnpcaaGreatXst
import Derived.Test.YtdgkdgbdkhnpcaaGreatNput
import Derived.Test.YtdgkdgbdkhnpcaaGreatXplain
import Derived.Lib.SlicesCompact
import Derived.Test.YtdgkdgbdkhnpcaaGreatShelf2
import Derived.Test.YtdgkdgbdkhnpcaaGreatXrchk

/-
  maps.Keys of an index' map: its iterator.
-/
namespace Go.Proofs.YtdgkdgbdkhnpcaaGreat.X
open Go.RowKit Go.Proofs.Lys Go.Maps Go.Proofs.YtdgkdgbdkhnpcaaGreat.N Go.Shelf
set_option linter.unusedVariables false
set_option linter.unusedSimpArgs false
attribute [local go_sem] Oper.semAt_some

theorem done_len {es : List EntC} {left : Lit → Bool} : (doneE es left).length ≤ es.length := List.length_filter_le _ _
set_option maxRecDepth 100000 in
set_option maxHeartbeats 1600000 in
theorem keys1_in (n : Nat) (hn : 1 ≤ n) (l Bm : Nat) {w : World} {x : IxC} {O : Nat → Prop} {P : Posts} (hA : IxAt w x O) (hI : Is x P) (J Jx : List Lab → World → Prop)
    (hY : ∀ pre y W, J pre W → pre.length < x.es.length → YieldAt Fence.wide (n - 1) Tryz.prog l #[labV y] W fun e W' =>
      (e = .returned (.bool true) ∧ J (pre ++ [y]) W' ∧ KeepsWalks W W') ∨ (e = .returned (.bool false) ∧ Jx (pre ++ [y]) W'))
    (W : World) (hJ : AbidesFrom W.heap.size J) (hm : W.cell? ⟨Bm, 0, none⟩ = some (.map (some x.mb))) (hown : W.ownsMap Tryz.prog 27 slE x.mb x.kv.length (kvD x.kv)) (h0 : J [] W) :
    CallsIn Fence.wide n Tryz.prog 87 #[.func (.yield l) #[] #[], .pointer (some ⟨Bm, 0, none⟩)] W fun e W' => (∃ v, e = .returned v) ∧
      ((∃ ys : List Lab, ys.Perm (x.es.map (·.lab)) ∧ J ys W') ∨ (∃ pre : List Lab, True ∧ Jx pre W')) := by
  have HA := hid hA
  have HI := hid hI
  have HY := hid hY
  have HJ := hid hJ
  have hmbl := hown.lt
  clear hA hI hY hJ
  refine callsIn_of_wp Tryz.func87 rfl trivial ?_ rfl
  simp only [Tryz.ntmps87, List.size_toArray, List.length_cons, List.length_nil, Nat.reduceAdd, Nat.reduceSub, Array.replicate_succ, Array.replicate_zero, List.push_toArray, List.append_toArray, List.nil_append, List.cons_append]
  gi_wp2_with (first
    | (gi_at_range; refine wpListIn_range_own _ rfl _ 57 rfl 27 36 law Tryz.underlying57 _ x.mb x.kv.length (kvD x.kv) rfl hown ?_; intro w0 hrg0 hg0 hs0)
    | gi_in)
  go_frame
  gi_loopw [3] (fun _ wr => ∃ (left : Lit → Bool) (cnt : Nat) (ss : List Lab), wr.ranges Tryz.prog 27 slE x.mb W.heap.size x.kv.length (kvD x.kv) left cnt ∧ Hid (ss.Perm ((doneE x.es left).map (·.lab))) ∧ Hid (J ss wr) ∧ W.heap.size + 1 ≤ wr.heap.size)
    (fun _ wr => wr.rangeLeft x.mb W.heap.size)
  case atStart =>
    refine ⟨_, _, [], hrg0, hid ?_, hid (HJ.out [] W w0 none h0 hg0 (fun r e => by cases e)), by omega⟩
    rw [done_start HA.out]
    exact .refl _
  case round =>
    obtain ⟨left, cnt, ss, hrg, hperm, hJs, hsz⟩ := hrel
    gi_wp2_with (first
      | (gi_at_next; refine wpListIn_next_ranges _ rfl _ rfl 27 law slE labV slV (fun key kl hk => (key_inv key kl hk).imp (fun x hx => hx.1)) slE_inv x.mb W.heap.size x.kv.length _ _ _ rfl hrg ?_ ?_)
      | gi_in)
    · intro hc0 hl0
      have HP := hid (show ss.Perm (x.es.map (·.lab)) from by
        have h1 := hperm.out
        rw [done_end hl0] at h1
        exact h1)
      clear hl0 hc0
      gi_wp2
      go_end0
      exact ⟨⟨_, rfl⟩, .inl ⟨ss, HP.out, hJs.out⟩⟩
    · intro y1 y2 c kl yd yp w2 cnt2 hkey hlk hv hat hrg2 hlt hg2 hs2 hen
      obtain ⟨s, hs, rfl, hy, rfl⟩ := key_came (y := (y1, y2)) (c := c) HA.out HI.out hkey hv hat
      have hst := done_step HA.out hs hlk
      have hJ2 : J ss w2 := HJ.out ss wr w2 (some W.heap.size) hJs.out hg2 (fun r e => by cases e; exact ⟨Nat.le_refl _, hrg.iter_walk⟩)
      have hJ3 : J ss (w2.alloc (.cells #[.string y1, .string y2] 27)) := HJ.out ss w2 _ none hJ2 (World.grownBy_alloc w2 _ none) (fun r e => by cases e)
      have hlen : ss.length < x.es.length := by
        have h1 := hst.length_eq
        have h2 := hperm.out.length_eq
        have h3 := done_len (es := x.es) (left := fun z => left z && !z.sameKey (keyL s))
        rw [List.length_map] at h2
        rw [List.length_cons] at h1
        omega
      obtain ⟨fn, tmps, assign, body, hy2, hR⟩ := HY.out ss (y1, y2) _ hJ3 hlen
      have HP1 : Hid ((ss ++ [(y1, y2)]).Perm ((doneE x.es (fun z => left z && !z.sameKey (keyL s))).map (·.lab))) := by
        refine hid (List.Perm.trans ?_ (hst.map (·.lab)).symm)
        rw [List.map_cons, ← hy]
        exact List.perm_append_comm.trans (hperm.out.cons _)
      have kA : Kept w2 (w2.alloc (.cells #[.string y1, .string y2] 27)) := (Only.refl _ w2).alloc _
      have hrgA : (w2.alloc (.cells #[.string y1, .string y2] 27)).ranges Tryz.prog 27 slE x.mb W.heap.size x.kv.length (kvD x.kv) (fun z => left z && !z.sameKey (keyL s)) cnt2 :=
        ranges_block hrg2 (kA.block _ (by omega) (fun f => f)) (kA.block _ (by omega) (fun f => f))
      have HRA := hid hrgA
      have HRG := hid hrg
      have HLT := hid hlt
      have HR := hid hR
      have hsz2 : W.heap.size + 1 ≤ (w2.alloc (.cells #[.string y1, .string y2] 27)).heap.size := by simp; omega
      obtain ⟨a8, n8, c8, e8⟩ : ∃ a n8 c8, slV s.c = .slice a n8 c8 := by
        cases s.c with
        | none => exact ⟨_, _, _, rfl⟩
        | some q => exact ⟨_, _, _, rfl⟩
      rw [e8] at hen ⊢
      clear hrg2 hrgA kA hlt hrg hst hkey hv hat hlk hg2 hJ2 hJ3 hlen hR hs2 e8 hy
      gi_wp2
      refine HR.out.mono ?_
      rintro e W3 (⟨rfl, hJ4, hk4⟩ | ⟨rfl, hJx4⟩)
      · have HJ4 := hid hJ4
        have HR4 := hid (HRA.out.of_walks hk4)
        have hsz4 := hk4.size
        clear hJ4 hk4
        gi_wp2
        go_roundw
        case rel => exact ⟨_, cnt2, ss ++ [(y1, y2)], HR4.out, HP1, hid HJ4.out, by omega⟩
        case measure => rw [HR4.out.left_eq, HRG.out.left_eq]; exact HLT.out
      · have HX4 := hid hJx4
        clear hJx4
        gi_wp2
        refine bodyPost_ret (results_none rfl _ _ _) rfl ?_
        exact ⟨⟨_, rfl⟩, .inr ⟨_, trivial, HX4.out⟩⟩
end Go.Proofs.YtdgkdgbdkhnpcaaGreat.X

/-
  slices.AppendSeq and slices.Collect of the pairs.
-/
namespace Go.Proofs.YtdgkdgbdkhnpcaaGreat.X
open Go.RowKit Go.Proofs.Lys Go.Maps Go.Proofs.YtdgkdgbdkhnpcaaGreat.N Go.Shelf
set_option linter.unusedVariables false
set_option linter.unusedSimpArgs false
attribute [local go_sem] Oper.semAt_some

theorem keys_stops (n : Nat) (hn : 1 ≤ n) (Bm : Nat) {w : World} {x : IxC} {O : Nat → Prop} {P : Posts} (hA : IxAt w x O) (hI : Is x P) (hm : w.cell? ⟨Bm, 0, none⟩ = some (.map (some x.mb))) :
    SeqStopsK Fence.wide n Tryz.prog 87 #[.pointer (some ⟨Bm, 0, none⟩)] (fun y : Lab => #[labV y]) KeepsWalks (fun ys => ys.Perm (x.es.map (·.lab))) (fun _ => True) x.es.length w := fun l J Jx W hW hJa _ hY h0 =>
  keys1_in n hn l Bm hA hI J Jx hY W hJa (kept_cell (Only.below hW) hm) (Only.map (Only.below hW) hA.map (fun f => f)) h0
theorem labAt_cells {w w' : World} {row : Option Nat} (hg : w.grownBy w' row) (hr : ∀ r, row = some r → ∃ o : Obj, w.heap[r]? = some o ∧ o.isCells = false) {B : Nat} {v : Value} {l : Labs} (h : LabAt w B v l) : LabAt w' B v l := row_cells hg hr h
/-- What stands between two rounds: the box of the list, the list, all that was there. -/
def SeqI (w : World) (pre : List Lab) (W : World) : Prop :=
  (∃ v, Boxed W w.heap.size 25 v ∧ LabAt W (w.heap.size + 1) v pre) ∧ Below w.heap.size w W ∧ w.heap.size + 1 ≤ W.heap.size
theorem seqI_own (w : World) {B : Nat} (hB : w.heap.size ≤ B) : OwnFrom B (SeqI w) :=
  OwnFrom.and (Own.from (fun s X Y row ⟨v, hb, ho⟩ hg hr => ⟨v, (grown_cells hg hr ⟨_, _, hb⟩).trans hb, labAt_cells hg hr ho⟩) _)
    (OwnFrom.and (ownFrom_below (Nat.le_refl _) hB) (fun _ _ _ _ hs hg _ => Nat.le_trans hs hg.size))

set_option maxRecDepth 100000 in
set_option maxHeartbeats 3200000 in
theorem appseq_any (w : World) (Bm : Nat) {x : IxC} {O : Nat → Prop} {P : Posts} (hA : IxAt w x O) (hI : Is x P) (hm : w.cell? ⟨Bm, 0, none⟩ = some (.map (some x.mb))) (hl : x.es.length ≤ 100000) :
    Calls Tryz.prog 102 #[.slice none 0 0, .func (.func 87) #[] #[.pointer (some ⟨Bm, 0, none⟩)]] w fun e w' => ∃ v ys, e = .returned v ∧ LabAt w' w.heap.size v ys ∧ ys.Perm (x.es.map (·.lab)) ∧ Kept w w' := by
  refine (callsIn_wide (n := 3)).1 ?_
  refine callsIn_of_wp_marks Tryz.func102 rfl trivial ?_ rfl
  simp only [Tryz.ntmps102, List.size_toArray, List.length_cons, List.length_nil, Nat.reduceAdd, Nat.reduceSub, Array.replicate_succ, Array.replicate_zero, List.push_toArray, List.append_toArray, List.nil_append, List.cons_append]
  gi_wp2
  have b0 := Boxed.new w 25 (.slice none 0 0)
  have kw : Kept w (w.alloc (.cells #[.slice none 0 0] 25)) := (Only.refl _ w).alloc _
  have hA1 := hA.stay kw
  have hm1 := kept_cell kw hm
  have hB0 : Below w.heap.size w (w.alloc (.cells #[.slice none 0 0] 25)) := (Below.refl _ w).alloc (Nat.le_refl _) _
  have hs0 : (w.alloc (.cells #[.slice none 0 0] 25)).heap.size = w.heap.size + 1 := by simp
  refine wpIn_rangeFunc_ownH rfl (by omega) (gf := 87) (lb := #[.pointer (some ⟨Bm, 0, none⟩)]) rfl trivial (enters_of Tryz.func87 (by kernel_rfl) rfl)
    (keys_stops _ (by omega) Bm hA1 hI hm1) walksK_t walksK_b (Below.refl _ _) (fun _ => rfl)
    (SeqI w) (fun _ _ _ => False) (seqI_own w (by omega)) (fun _ _ _ _ _ hs _ _ => hs)
    ⟨⟨_, b0, World.ownsRow_nil _ _ _ _⟩, hB0, by omega⟩
    (fun y a' W => ∃ B, w.heap.size + 1 ≤ B ∧ Blk W B [.string y.1, .string y.2] 27 ∧ (∃ v, Boxed W w.heap.size 25 v ∧ v.ownBlock ≠ some B) ∧ a' = { tmps := #[.slice none 0 0, .func (.func 87) #[] #[.pointer (some ⟨Bm, 0, none⟩)], .pointer (some ⟨w.heap.size, 0, none⟩), undef, .slice none 0 0, .pointer (some ⟨B, 0, none⟩), .func (.func 87) #[] #[.pointer (some ⟨Bm, 0, none⟩)], labV y, undef, undef, undef, undef, undef], defers := [] })
    (fun y a' => fun _ X Y row ⟨B, h1, h2, ⟨v, h4, h5⟩, h3⟩ hg hr => ⟨B, h1, h2.of_block (grown_cells hg (fun r e => (hr r e).2) h2.typed), ⟨v, (grown_cells hg (fun r e => (hr r e).2) ⟨_, _, h4⟩).trans h4, h5⟩, h3⟩) ?assign ?body ?done ?stop
  case assign =>
    intro l pre y W K hI2 hK
    obtain ⟨y1, y2⟩ := y
    clear b0 kw hA1 hm1 hB0 hs0 hA hI hm
    gi_wp2
    have hk1 : Kept W (W.alloc (.cells #[.string y1, .string y2] 27)) := (Only.refl _ W).alloc _
    have hsz := hI2.2.2
    have hout : ∃ v, Boxed (W.alloc (.cells #[.string y1, .string y2] 27)) w.heap.size 25 v ∧ v.ownBlock ≠ some W.heap.size := by
      obtain ⟨⟨v, hb, hR⟩, _⟩ := hI2
      refine ⟨v, hb.alloc _, fun e => ?_⟩
      have := (ownN_lt hR e).2
      omega
    refine hK _ _ ((hk1.others (fun _ f => f.elim)).from _) (hk1.others (fun _ f => f.elim)).walks (seqI_own w (Nat.le_refl _) pre W _ none hI2 (World.grownBy_alloc W _ none) (fun r e => by cases e)) ⟨W.heap.size, hsz, Blk.new W _ _, hout, rfl⟩
  case body =>
    rintro q pre y a' W hq hrec ⟨⟨v, hb, hR⟩, hBel, hs3⟩ ⟨B, hB3, hBk, ⟨v', hbv, hvB⟩, rfl⟩ hlt
    obtain rfl : v = v' := by
      have h1 := (show W.heap[w.heap.size]? = _ from hb).symm.trans hbv
      simpa using h1
    obtain ⟨y1, y2⟩ := y
    have hc0 := hb.cell
    have r0 := hBk.cell 0 rfl
    have r1 := hBk.cell 1 rfl
    obtain ⟨a8, c8, e8⟩ := ownN_slice hR
    have k1 : Kept W (W.alloc (.cells #[.string y1, .string y2] 27)) := (Only.refl _ W).alloc _
    obtain ⟨v2, w3, hr, h1, h2, h3⟩ := lab_append (ownN_stay hR k1) (lab_lit W (y1, y2)) (by simp; omega) (Nat.le_trans hs3 k1.size)
    have HRUN := hid hr
    have hlow : ∀ j, v.ownBlock = some j → w.heap.size + 1 ≤ j := fun j hj => (ownN_lt hR hj).1
    have hO : Only (fun j => v.ownBlock = some j) W w3 := (k1.mono (O' := fun j => v.ownBlock = some j) (fun _ _ f => f.elim)).grown h2 (fun j e _ => e)
    have hb3 : Boxed w3 w.heap.size 25 v := (hO.block _ hb.lt (fun e => by have := hlow _ e; omega)).trans hb
    have hc3 := hb3.cell
    have hf3 := hb3.frozen
    have hlen2 : (pre ++ [(y1, y2)]).length = pre.length + 1 := by simp
    obtain ⟨a9, c9, e9⟩ := ownN_slice h1
    rw [hlen2] at e9
    have hS : Only (fun k => k = w.heap.size) w3 (w3.setCell ⟨w.heap.size, 0, none⟩ v2) := (Only.refl (fun k => k = w.heap.size) w3).setCell (p := ⟨w.heap.size, 0, none⟩) (fun _ => rfl) _
    have hk4 : Only (fun j => v.ownBlock = some j ∨ j = w.heap.size) W (w3.setCell ⟨w.heap.size, 0, none⟩ v2) :=
      (hO.mono (O' := fun j => v.ownBlock = some j ∨ j = w.heap.size) (fun _ _ h => .inl h)).trans hS (fun _ _ h => .inr h)
    have hko : KeepsOthers W (w3.setCell ⟨w.heap.size, 0, none⟩ v2) := hk4.others (fun k hk hlt => by
      rcases hk with hk | hk
      · exact ⟨_, ownN_typed hR hk⟩
      · subst hk; exact ⟨_, _, _, hb⟩)
    have hbel : Below w.heap.size W (w3.setCell ⟨w.heap.size, 0, none⟩ v2) := hk4.toBelow (fun k hk => hk.elim (fun h => by have := hlow k h; omega) (fun h => by omega)) (by omega)
    have HFIN : Hid (KeepsOthers W (w3.setCell ⟨w.heap.size, 0, none⟩ v2) ∧ SeqI w (pre ++ [(y1, y2)]) (w3.setCell ⟨w.heap.size, 0, none⟩ v2)) := by
      refine ⟨hko, ⟨v2, hb3.set v2, ?_⟩, hBel.trans hbel, Nat.le_trans hs3 hk4.size⟩
      refine ownN_only h1 hS (fun j hj e => ?_)
      have := (ownN_lt h1 hj).1
      omega
    rw [e9] at HRUN HFIN
    rw [e8] at HRUN hc0 hc3
    clear b0 kw hA1 hm1 hB0 hs0 hA hI hm hb hR hBel hBk hbv hvB k1 hr h1 h2 h3 hlow hO hb3 hS hk4 hko hbel e8 e9
    gi_wp2_with (gi_at_builtin; refine wpListIn_append_run rfl _ _ _ rfl rfl rfl HRUN ?_)
    exact ⟨HFIN.out.1.from _, HFIN.out.1.walks, HFIN.out.2⟩
  case done =>
    rintro D ys W hD hperm ⟨⟨v, hb, hR⟩, hBel, hs3⟩ hK
    have hc0 := hb.cell
    obtain ⟨a8, c8, e8⟩ := ownN_slice hR
    have hK2 : ∀ W2 : World, W2.heap[D]? = some (.deferred (some [])) → True := fun _ _ => trivial
    have HF : Hid (Kept w (W.putObj D (.deferred none)) ∧ LabAt (W.putObj D (.deferred none)) w.heap.size v ys) := by
      refine ⟨Only.below (hBel.trans (belowK_b (w := w) (Nat.le_refl _) W D _ _ (by omega) hK rfl rfl)), ?_⟩
      have h1 := labAt_cells (grownBy_putObj' W D (.deferred none)) (fun r e => by cases e; exact ⟨_, hK, rfl⟩) hR
      exact ownN_base h1 (by omega)
    have HP := hid hperm
    rw [e8] at hc0 HF
    clear b0 kw hA1 hm1 hB0 hs0 hA hI hm hb hR hBel e8 hperm hK2
    gi_wp2
    refine ⟨by simp, .inl ⟨_, _, rfl, run_takeDeferred hK, ?_⟩⟩
    refine ⟨_, results_tmp (t := 4) rfl _ _ _, ?_⟩
    exact ⟨.slice a8 ys.length c8, ys, rfl, HF.out.2, HP.out, HF.out.1⟩
  case stop =>
    rintro D c pre W _ _ h _
    exact h.elim
set_option maxRecDepth 100000 in
theorem collect_any (w : World) (Bm : Nat) {x : IxC} {O : Nat → Prop} {P : Posts} (hA : IxAt w x O) (hI : Is x P) (hm : w.cell? ⟨Bm, 0, none⟩ = some (.map (some x.mb))) (hl : x.es.length ≤ 100000) :
    Calls Tryz.prog 85 #[.func (.func 87) #[] #[.pointer (some ⟨Bm, 0, none⟩)]] w fun e w' => ∃ v ys, e = .returned v ∧ LabAt w' w.heap.size v ys ∧ ys.Perm (x.es.map (·.lab)) ∧ Kept w w' := by
  have H := hid (appseq_any w Bm hA hI hm hl)
  clear hA hI hm
  go_enter Tryz.func85, Tryz.ntmps85
  go_wp2_with fail
  refine H.out.mono ?_
  rintro e w1 ⟨v, ys, rfl, h1, h2, k1⟩
  obtain ⟨a, c, rfl⟩ := ownN_slice h1
  have H1 := hid h1
  have H2 := hid h2
  have K1 := hid k1
  clear h1 h2 k1 H
  go_wp2
  go_ret
  exact ⟨_, ys, rfl, H1.out, H2.out, K1.out⟩
theorem keysof_any (w : World) (b : Nat) : Calls Tryz.prog 55 #[.map (some b)] w fun e w' => e = .returned (.func (.func 87) #[] #[.pointer (some ⟨w.heap.size, 0, none⟩)]) ∧ w' = w.alloc (.cells #[.map (some b)] 57) := by
  have hmf : ∀ (fn : Fn) (first cap : Array Value) (w : World), (Instr.makeFunc fn first cap).run Tryz.prog w = .ok (.func fn first cap) w := fun _ _ _ _ => rfl
  go_enter Tryz.func55, Tryz.ntmps55
  go_wp2
  go_ret
  exact ⟨rfl, rfl⟩
end Go.Proofs.YtdgkdgbdkhnpcaaGreat.X

/-
  The pairs, sorted: slices.SortFunc, slices.SortedFunc, pairs.
-/
namespace Go.Proofs.YtdgkdgbdkhnpcaaGreat.X
open Go.RowKit Go.Proofs.Lys Go.Sort Go.Shelf Go.Maps Go.Proofs.YtdgkdgbdkhnpcaaGreat.N
set_option linter.unusedVariables false
set_option linter.unusedSimpArgs false

/-- Something was drawn, and blocks were laid: nothing else. -/
def Grew (w w' : World) : Prop := ∃ q os, w' = grow (w.drewN q) os
theorem grow_drewN (w : World) (os : Array Obj) (n : Nat) : (grow w os).drewN n = grow (w.drewN n) os := rfl
theorem Grew.refl (w : World) : Grew w w := ⟨0, #[], by rw [grow_empty]; rfl⟩
theorem Grew.trans {a b c : World} (h : Grew a b) (k : Grew b c) : Grew a c := by
  obtain ⟨q, os, rfl⟩ := h
  obtain ⟨q', os', rfl⟩ := k
  exact ⟨q + q', os ++ os', by rw [grow_drewN, grow_grow, World.drewN_drewN]⟩
theorem Grew.alloc {a b : World} (h : Grew a b) (o : Obj) : Grew a (b.alloc o) := h.trans ⟨0, #[o], by rw [alloc_eq_grow]; rfl⟩
theorem Grew.drew {a b : World} (h : Grew a b) : Grew a b.drew := h.trans ⟨1, #[], by rw [grow_empty]; rfl⟩

set_option maxRecDepth 20000 in
set_option maxHeartbeats 2000000 in
theorem clos_pair (x y : Lab) (w : World) : Calls Tryz.prog 56 #[.agg #[.string x.1, .string x.2], .agg #[.string y.1, .string y.2]] w fun e w' => e = .returned (.int .i64 (labC x y)) ∧ Grew w w' := by
  have h1 := fun W => Tryz.strings_Compare x.1 y.1 W
  have h2 := fun W => Tryz.strings_Compare x.2 y.2 W
  have hf : labC x y = if Lib.compareBytes x.1.data.toList y.1.data.toList ≠ 0 then Lib.compareBytes x.1.data.toList y.1.data.toList else Lib.compareBytes x.2.data.toList y.2.data.toList := rfl
  generalize labC x y = r at hf ⊢
  generalize Lib.compareBytes x.1.data.toList y.1.data.toList = P1 at h1 hf
  generalize Lib.compareBytes x.2.data.toList y.2.data.toList = P2 at h2 hf
  generalize x.1 = a1 at *
  generalize x.2 = a2 at *
  generalize y.1 = b1 at *
  generalize y.2 = b2 at *
  have HO := hid (fun (W : World) (b : Nat) (c0 : W.cell? ⟨b, 0, none⟩ = some (.int .i64 P1)) (c1 : W.cell? ⟨b, 1, none⟩ = some (.int .i64 P2)) => or_any W b P1 P2 c0 c1)
  rw [← hf] at HO
  clear hf
  have H1 := hid h1
  have H2 := hid h2
  clear h1 h2
  have hb1 := (Blk.new w [.string a1, .string a2] 27).alloc (.cells #[.string b1, .string b2] 27)
  have hb2 := Blk.new (w.alloc (.cells #[.string a1, .string a2] 27)) [.string b1, .string b2] 27
  simp only [World.size_alloc] at hb2
  obtain ⟨w2, hw2⟩ : ∃ w2, w2 = (w.alloc (.cells #[.string a1, .string a2] 27)).alloc (.cells #[.string b1, .string b2] 27) := ⟨_, rfl⟩
  have hb1' : Blk w2 w.heap.size [.string a1, .string a2] 27 := by rw [hw2]; exact hb1
  have hb2' : Blk w2 (w.heap.size + 1) [.string b1, .string b2] 27 := by rw [hw2]; exact hb2
  have HS := hid (show CmpS w.heap.size a1 a2 b1 b2 w2.drew from ⟨hb1'.drew, hb2'.drew⟩)
  have hw2' := hid hw2
  clear hb1 hb2 hw2 hb1' hb2'
  go_enter Tryz.func56, Tryz.ntmps56
  go_wp2_with fail
  refine wp_region_noPanic ?_
  refine wp_region_last (L := 1000) (S := CmpS w.heap.size a1 a2 b1 b2) (by kernel_rfl) ?_
  rw [← hw2'.out]
  have hS : CmpS w.heap.size a1 a2 b1 b2 w2.drew := HS.out
  refine wpAnyN_take (i := 0) (v := .pointer (some ⟨w.heap.size, 0, none⟩)) rfl (by kernel_rfl) (by kernel_rfl) (by kernel_rfl) (by decide) (by kernel_rfl) (fun _ _ _ h => h) (Or.inl ⟨by rfl, ?_⟩) hS ?_
  · (intro w' hSw; have s0 := hSw.x.cell 0 rfl; have s1 := hSw.x.cell 1 rfl; have s2 := hSw.y.cell 0 rfl; have s3 := hSw.y.cell 1 rfl; clear hSw; go_simp)
  go_frame
  refine wpAnyN_take (i := 1) (v := .string a1) rfl (by kernel_rfl) (by kernel_rfl) (by kernel_rfl) (by decide) (by kernel_rfl) (fun _ _ _ h => h) (Or.inl ⟨by rfl, ?_⟩) hS ?_
  · (intro w' hSw; have s0 := hSw.x.cell 0 rfl; have s1 := hSw.x.cell 1 rfl; have s2 := hSw.y.cell 0 rfl; have s3 := hSw.y.cell 1 rfl; clear hSw; go_simp)
  go_frame
  refine wpAnyN_take (i := 2) (v := .pointer (some ⟨w.heap.size + 1, 0, none⟩)) rfl (by kernel_rfl) (by kernel_rfl) (by kernel_rfl) (by decide) (by kernel_rfl) (fun _ _ _ h => h) (Or.inl ⟨by rfl, ?_⟩) hS ?_
  · (intro w' hSw; have s0 := hSw.x.cell 0 rfl; have s1 := hSw.x.cell 1 rfl; have s2 := hSw.y.cell 0 rfl; have s3 := hSw.y.cell 1 rfl; clear hSw; go_simp)
  go_frame
  refine wpAnyN_take (i := 3) (v := .string b1) rfl (by kernel_rfl) (by kernel_rfl) (by kernel_rfl) (by decide) (by kernel_rfl) (fun _ _ _ h => h) (Or.inl ⟨by rfl, ?_⟩) hS ?_
  · (intro w' hSw; have s0 := hSw.x.cell 0 rfl; have s1 := hSw.x.cell 1 rfl; have s2 := hSw.y.cell 0 rfl; have s3 := hSw.y.cell 1 rfl; clear hSw; go_simp)
  go_frame
  refine wpAnyN_take (i := 5) (v := .pointer (some ⟨w.heap.size, 1, none⟩)) rfl (by kernel_rfl) (by kernel_rfl) (by kernel_rfl) (by decide) (by kernel_rfl) (fun _ _ _ h => h) (Or.inl ⟨by rfl, ?_⟩) hS ?_
  · (intro w' hSw; have s0 := hSw.x.cell 0 rfl; have s1 := hSw.x.cell 1 rfl; have s2 := hSw.y.cell 0 rfl; have s3 := hSw.y.cell 1 rfl; clear hSw; go_simp)
  go_frame
  refine wpAnyN_take (i := 6) (v := .string a2) rfl (by kernel_rfl) (by kernel_rfl) (by kernel_rfl) (by decide) (by kernel_rfl) (fun _ _ _ h => h) (Or.inl ⟨by rfl, ?_⟩) hS ?_
  · (intro w' hSw; have s0 := hSw.x.cell 0 rfl; have s1 := hSw.x.cell 1 rfl; have s2 := hSw.y.cell 0 rfl; have s3 := hSw.y.cell 1 rfl; clear hSw; go_simp)
  go_frame
  refine wpAnyN_take (i := 7) (v := .pointer (some ⟨w.heap.size + 1, 1, none⟩)) rfl (by kernel_rfl) (by kernel_rfl) (by kernel_rfl) (by decide) (by kernel_rfl) (fun _ _ _ h => h) (Or.inl ⟨by rfl, ?_⟩) hS ?_
  · (intro w' hSw; have s0 := hSw.x.cell 0 rfl; have s1 := hSw.x.cell 1 rfl; have s2 := hSw.y.cell 0 rfl; have s3 := hSw.y.cell 1 rfl; clear hSw; go_simp)
  go_frame
  refine wpAnyN_take (i := 8) (v := .string b2) rfl (by kernel_rfl) (by kernel_rfl) (by kernel_rfl) (by decide) (by kernel_rfl) (fun _ _ _ h => h) (Or.inl ⟨by rfl, ?_⟩) hS ?_
  · (intro w' hSw; have s0 := hSw.x.cell 0 rfl; have s1 := hSw.x.cell 1 rfl; have s2 := hSw.y.cell 0 rfl; have s3 := hSw.y.cell 1 rfl; clear hSw; go_simp)
  go_frame
  refine wpAnyL_one (i := 4) (by kernel_rfl) rfl rfl ?_
  go_simp
  refine (H1.out _).mono ?_
  rintro e w' ⟨rfl, hw⟩
  replace hw := hw.symm
  subst hw
  refine ⟨hS, ?_⟩
  (try go_frame)
  refine wpAnyL_one (i := 9) (by kernel_rfl) rfl rfl ?_
  go_simp
  refine (H2.out _).mono ?_
  rintro e w' ⟨rfl, hw⟩
  replace hw := hw.symm
  subst hw
  refine ⟨hS, ?_⟩
  (try go_frame)
  refine wpAnyL_one (i := 10) (by kernel_rfl) rfl rfl ?_
  go_simp
  have hS3 : CmpS w.heap.size a1 a2 b1 b2 (w2.alloc (.cells #[.int .i64 P1, .int .i64 P2] 3)).drew := hS.alloc _
  have hbb := (Blk.new w2 [.int .i64 P1, .int .i64 P2] 3).drew
  refine ⟨hS3, ?_⟩
  (try go_frame)
  refine wpAnyL_one (i := 11) (by kernel_rfl) rfl rfl ?_
  go_simp
  refine (HO.out _ _ (hbb.cell 0 rfl) (hbb.cell 1 rfl)).mono ?_
  rintro e w' ⟨rfl, hw⟩
  replace hw := hw.symm
  subst hw
  refine ⟨hS3, ?_⟩
  (try go_frame)
  refine wpAnyL_one (i := 12) (by kernel_rfl) rfl rfl ?_
  go_simp
  refine ⟨by kernel_rfl, ?_⟩
  refine NoPanic.normal ?_
  clear hS hS3 hbb
  go_wp2_with fail
  go_ret
  refine ⟨rfl, ?_⟩
  rw [hw2'.out]
  exact ((((Grew.refl w).alloc _).alloc _).alloc _).drew
theorem only_sortK {α : Type} [Inhabited α] (enc : α → List Value) (k : Nat) (w : World) (blk off m : Nat) (dk : Array α) (os : Array Obj) : Only (fun j => j = blk) w (sortWorldK enc k w blk off m dk os) := by
  refine ⟨rfl, rfl, rfl, ?_, fun j hj hn => ?_⟩
  · unfold sortWorldK
    rw [size_grow, size_putRowK]
    exact Nat.le_add_right _ _
  · unfold sortWorldK
    rw [heap_grow_old _ _ (by rw [size_putRowK]; exact hj)]
    show ((Go.Sort.ahead w m).heap.modify blk _)[j]? = _
    rw [Array.getElem?_modify, if_neg (fun e => hn e.symm)]
    rfl
def encP (x : Lab) : List Value := [.string x.1, .string x.2]
theorem ltP (x y : Lab) : ltOf labC x y = decide (labC x y = -1) := by
  unfold ltOf
  have := labC_good.rng x y
  rcases this with e | e | e <;> rw [e] <;> rfl
theorem swoP : SWO (ltOf labC) where
  irrefl x := by
    rw [ltP]
    have := labC_good.self x
    simp [this]
  trans x y z h1 h2 := by
    rw [ltP] at *
    simp only [decide_eq_true_eq] at *
    exact labC_good.trans _ _ _ h1 h2
  ntrans x y z h1 h2 := by
    rw [ltP] at *
    simp only [decide_eq_false_iff_not] at *
    have r1 := labC_good.rng x y
    have r2 := labC_good.rng y z
    have a1 := labC_good.anti x y
    have a2 := labC_good.anti y z
    have a3 := labC_good.anti x z
    have := labC_good.trans_le (x := z) (y := y) (z := x) (by omega) (by omega)
    omega

set_option maxRecDepth 100000 in
theorem sort_labs (w : World) (B : Nat) (v : Value) (xs : Labs) (h : LabAt w B v xs) (hd : xs.Nodup) (hlen : xs.length ≤ 1000000) :
    Calls Tryz.prog 86 #[v, .func (.func 56) #[] #[]] w fun e w' => e = .returned (.tuple #[]) ∧ Only (fun k => v.ownBlock = some k) w w' ∧ ∃ qs : Labs, qs.Perm xs ∧ (qs.Pairwise fun a b => labC a b = -1) ∧ LabAt w' B v qs := by
  rcases h.2 with ⟨rfl, h0⟩ | ⟨g, cap, cur, rfl, hb, hg, hnc, hcm, hcs, htake⟩
  · have hx0 : xs = [] := List.length_eq_zero_iff.1 h0
    subst hx0
    refine (AnyF.slices_SortFunc_none Tryz.sortP none 0 _ w).mono ?_
    rintro e w' ⟨rfl, rfl⟩
    exact ⟨rfl, Only.refl _ _, [], .refl _, .nil, h⟩
  · by_cases hx0 : xs.length = 0
    · have hx1 : xs = [] := List.length_eq_zero_iff.1 hx0
      subst hx1
      refine (AnyF.slices_SortFunc_none Tryz.sortP (some ⟨g, 0, none⟩) cap _ w).mono ?_
      rintro e w' ⟨rfl, rfl⟩
      exact ⟨rfl, Only.refl _ _, [], .refl _, .nil, h⟩
    have hinh : Inhabited Lab := ⟨xs[0]'(by omega)⟩
    have hsz : xs.toArray.size = xs.length := by simp
    have hglt := (Array.getElem?_eq_some_iff.1 hg).1
    have hcell : ∀ j u, (labL xs)[j]? = some u → cur[j]? = some u := fun j u hj => by
      have hj2 := (List.getElem?_eq_some_iff.1 hj).1
      rw [labL_len] at hj2
      rw [← htake, List.getElem?_take, if_pos (by omega)] at hj
      simpa using hj
    have hflat : ∀ (ys : Labs) (t : Nat) (ht : t < ys.length * 2), (encP (ys.toArray[t / 2]!))[t % 2]! = ((labL ys)[t]?).getD undef := fun ys t ht => by
      have hlt : t / 2 < ys.length := by omega
      have e1 : ys.toArray[t / 2]! = ys[t / 2] := by rw [getElem!_pos _ _ (by simpa using hlt)]; simp
      rw [e1]
      have h2 := labL_at ys (t / 2) hlt
      rcases (show t % 2 = 0 ∨ t % 2 = 1 by omega) with e | e
      · rw [e]
        have h3 := h2.1
        rw [show t / 2 * 2 = t by omega] at h3
        rw [h3]
        simp [encP]
      · rw [e]
        have h3 := h2.2
        rw [show t / 2 * 2 + 1 = t by omega] at h3
        rw [h3]
        simp [encP]
    have hH : HoldsK encP 2 w g 0 xs.toArray := by
      intro t ht
      rw [size_flatK, hsz] at ht
      refine ⟨?_, by simp [World.frozen?, hg]⟩
      rw [get_flatK encP 2 _ t (by rw [hsz]; exact ht)]
      have h3 := hflat xs t ht
      show w.cell? ⟨g, 0 + t, none⟩ = some (id _)
      rw [id, h3, Nat.zero_add]
      have h4 : t < (labL xs).length := by rw [labL_len]; exact ht
      have h5 := hcell t _ (List.getElem?_eq_getElem h4)
      simp only [World.cell?, hg]
      rw [List.getElem?_eq_getElem h4]
      simpa using h5
    have eg : ∀ args w, (callFunc 56 args).run Tryz.prog w = .ok (.enter 56 args) w := enters_of Tryz.func56 (by kernel_rfl) rfl
    have hcmp : CmpLays Tryz.prog 56 #[] encP 2 labC g 0 xs.toArray.size w := fun m os dk hdk x y => clos_pair x y _
    have hT : ∀ x y : Lab, (ltOf labC) x y = false → (ltOf labC) y x = false → x = y := fun x y h1 h2 => by
      rw [ltP] at h1 h2
      simp only [decide_eq_false_iff_not] at h1 h2
      have r1 := labC_good.rng x y
      have a1 := labC_good.anti x y
      exact labC_good.zero x y (by omega)
    have hcon := AnyQ.slices_SortFunc_total Tryz.sortP 2 (fun w => by kernel_rfl) (fun w => by kernel_rfl) encP (fun _ => rfl) (fun x u hu => by
        simp [encP] at hu
        rcases hu with rfl | rfl <;> rfl) labC swoP 56 #[] g 0 cap xs.toArray w eg hcmp hH hglt (by rw [hsz]; omega) hT
    rw [hsz] at hcon
    refine hcon.mono ?_
    rintro e w' ⟨rfl, n, os, rfl⟩
    generalize hys : (List.mergeSort xs.toArray.toList fun x y => !ltOf labC y x) = ys
    have hperm : ys.Perm xs := by
      rw [← hys]
      exact List.mergeSort_perm _ _
    have hsorted : ys.Pairwise (fun a b => (!ltOf labC b a) = true) := by
      rw [← hys]
      refine List.pairwise_mergeSort (fun a b c h1 h2 => ?_) (fun a b => ?_) _
      · rw [ltP] at *
        simp only [Bool.not_eq_true', decide_eq_false_iff_not] at *
        have a1 := labC_good.anti a b
        have a2 := labC_good.anti b c
        have a3 := labC_good.anti a c
        have r1 := labC_good.rng a b
        have r2 := labC_good.rng b c
        have := labC_good.trans_le (x := a) (y := b) (z := c) (by omega) (by omega)
        omega
      · rw [ltP, ltP]
        have a1 := labC_good.anti a b
        by_cases c1 : labC b a = -1
        · have : ¬ labC a b = -1 := by omega
          simp [this]
        · simp [c1]
    have hyl : ys.length = xs.length := hperm.length_eq
    have hqd : ys.Pairwise (fun a b => a ≠ b) := hperm.nodup_iff.2 hd
    have ko := only_sortK encP 2 w g 0 n ys.toArray os
    have hblk : (sortWorldK encP 2 w g 0 n ys.toArray os).heap[g]? = some (.cells (putCells id 0 (flatK encP 2 ys.toArray) cur) 27 (0, 0)) := by
      unfold sortWorldK
      rw [heap_grow_old _ _ (by rw [size_putRowK]; exact hglt)]
      show ((Go.Sort.ahead w n).heap.modify g _)[g]? = _
      rw [Array.getElem?_modify, if_pos rfl]
      show Option.map _ (w.heap[g]?) = _
      rw [hg]
      rfl
    refine ⟨rfl, ko.mono (fun k _ e => by rw [e]; rfl), ys, hperm, ?_, ⟨labL_len _, .inr ⟨g, cap, _, by rw [hyl], hb, hblk, by rw [hyl]; exact hnc, hcm, by simp only [putCells, Array.size_mapIdx]; exact hcs, ?_⟩⟩⟩
    · refine (hsorted.and hqd).imp ?_
      rintro a b ⟨h1, h2⟩
      rw [ltP] at h1
      simp only [Bool.not_eq_true', decide_eq_false_iff_not] at h1
      have a1 := labC_good.anti a b
      have r1 := labC_good.rng a b
      rcases r1 with e | e | e
      · exact e
      · exact absurd (labC_good.zero _ _ e) h2
      · omega
    · rw [hyl]
      refine List.ext_getElem? (fun j => ?_)
      have hys2 : (labL ys).length = xs.length * 2 := by rw [labL_len, hyl]
      by_cases hj : j < xs.length * 2
      · rw [List.getElem?_take, if_pos hj, Array.getElem?_toList]
        simp only [putCells, Array.getElem?_mapIdx]
        rw [Array.getElem?_eq_getElem (by omega)]
        simp only [Option.map_some]
        have hsy : ys.toArray.size = ys.length := by simp
        rw [if_pos ⟨by omega, by rw [size_flatK, hsy]; omega⟩, show j - 0 = j by omega, id, get_flatK encP 2 _ j (by rw [hsy]; omega), hflat ys j (by omega), List.getElem?_eq_getElem (show j < (labL ys).length by rw [hys2]; exact hj)]
        rfl
      · rw [List.getElem?_take, if_neg hj, List.getElem?_eq_none (by omega)]
theorem perm_sorted {P Q : Labs} (h : P.Perm Q) (hp : P.Pairwise (fun a b => labC a b = -1)) (hq : Q.Pairwise (fun a b => labC a b = -1)) : P = Q := by
  refine h.eq_of_pairwise (fun a b _ _ h1 h2 => ?_) hp hq
  have := labC_good.anti a b
  omega

set_option maxRecDepth 100000 in
set_option maxHeartbeats 800000 in
theorem sorted_any (w : World) (Bm : Nat) {x : IxC} {O : Nat → Prop} {P : Posts} (hA : IxAt w x O) (hI : Is x P) (hm : w.cell? ⟨Bm, 0, none⟩ = some (.map (some x.mb))) (hl : x.es.length ≤ 100000) :
    Calls Tryz.prog 54 #[.func (.func 87) #[] #[.pointer (some ⟨Bm, 0, none⟩)], .func (.func 56) #[] #[]] w fun e w' => ∃ v, e = .returned v ∧ LabAt w' w.heap.size v (P.map (·.1)) ∧ Kept w w' := by
  have H := hid (collect_any w Bm hA hI hm hl)
  have HPS : Hid (∀ ys qs : Labs, ys.Perm (x.es.map (·.lab)) → qs.Perm ys → qs.Pairwise (fun a b => labC a b = -1) → qs = P.map (·.1)) := fun ys qs h1 h2 h3 => by
    have h4 : (x.es.map (·.lab)).Perm (P.map (·.1)) := by
      have := hI.perm.map (·.1)
      rw [List.map_map] at this
      exact this
    refine perm_sorted (h2.trans (h1.trans h4)) h3 ?_
    rw [List.pairwise_map]
    exact hI.sort
  have HND := hid (fun (ys : Labs) (h : ys.Perm (x.es.map (·.lab))) => (show ys.Nodup from h.nodup_iff.2 (by unfold List.Nodup; rw [List.pairwise_map]; exact hA.labs)))
  have HLE := hid (fun (ys : Labs) (h : ys.Perm (x.es.map (·.lab))) => (show ys.length ≤ 1000000 from by have := h.length_eq; rw [List.length_map] at this; omega))
  clear hA hI hm
  go_enter Tryz.func54, Tryz.ntmps54
  go_wp2_with fail
  refine H.out.mono ?_
  rintro e w1 ⟨v, ys, rfl, h1, h2, k1⟩
  have HS := hid (sort_labs w1 _ v ys h1 (HND.out ys h2) (HLE.out ys h2))
  have HLOW := hid (fun j (hj : v.ownBlock = some j) => (ownN_lt h1 hj).1)
  have H2 := hid h2
  have K1 := hid k1
  obtain ⟨a, c, e⟩ := ownN_slice h1
  generalize hYN : ys.length = YN at e
  subst e
  clear h1 h2 k1 H
  go_wp2_with fail
  refine HS.out.mono ?_
  rintro e w2 ⟨rfl, ko, qs, hp, hpw, hat⟩
  have HAT := hid hat
  have HQ := hid (HPS.out ys qs H2.out hp hpw)
  have K2 := hid (show Kept w w2 from K1.out.trans ko (fun j hj e => by have := HLOW.out j e; omega))
  clear hat hp hpw ko HS
  go_wp2
  go_ret
  refine ⟨_, rfl, ?_, K2.out⟩
  rw [← HQ.out]
  exact HAT.out
set_option maxHeartbeats 800000 in
/-- pairs: those of the posts, in their order. -/
theorem pairs_any {w : World} {x : IxC} {O : Nat → Prop} {P : Posts} (hA : IxAt w x O) (hI : Is x P) (hl : x.es.length ≤ 100000) :
    Calls Tryz.prog 27 #[.pointer (some ⟨x.xb, 0, none⟩)] w fun e w' => ∃ v, e = .returned v ∧ LabAt w' w.heap.size v (P.map (·.1)) ∧ Kept w w' := by
  have kw : Kept w (w.alloc (.cells #[.map (some x.mb)] 57)) := (Only.refl _ w).alloc _
  have H := hid (sorted_any (w.alloc (.cells #[.map (some x.mb)] 57)) w.heap.size (hA.stay kw) hI ((Blk.new w [.map (some x.mb)] 57).cell 0 rfl) hl)
  have HK := hid kw
  have m1 := hA.blk.cell 1 rfl
  have HKE := hid (keysof_any w x.mb)
  clear hA hI kw
  generalize x.xb = XB at *
  generalize x.mb = MB at *
  go_enter Tryz.func27, Tryz.ntmps27
  go_wp2_with fail
  refine HKE.out.mono ?_
  rintro e w1 ⟨rfl, hw⟩
  replace hw := hw.symm
  subst hw
  go_wp2_with fail
  refine H.out.mono ?_
  rintro e w2 ⟨v, rfl, hat, k2⟩
  have HAT := hid (show LabAt w2 w.heap.size v (P.map (·.1)) from ownN_base hat (by simp))
  have K2 := hid (HK.out.trans k2 (fun _ _ f => f))
  obtain ⟨a, c, e⟩ := ownN_slice hat
  generalize hN : (P.map (·.1)).length = N at e
  subst e
  clear hat k2 H
  go_wp2
  go_ret
  exact ⟨_, rfl, HAT.out, K2.out⟩
end Go.Proofs.YtdgkdgbdkhnpcaaGreat.X

/-
  Rows of posts: cells, parts, joins.
-/
namespace Go.Proofs.YtdgkdgbdkhnpcaaGreat.X
open Go.RowKit Go.Proofs.Lys Go.Maps Go.Proofs.YtdgkdgbdkhnpcaaGreat.N
set_option linter.unusedVariables false
set_option linter.unusedSimpArgs false

/-- A post that is told: its label, its list's value, its numbers. -/
structure PV where
  lab : Lab
  lv : Value
  l : List Int
def PV.has (x : PV) (k : Nat) : Prop := x.lv.ownBlock = some k
def postV (x : PV) : Post := (x.lab, x.l)
def pvL : List PV → List Value
  | [] => []
  | x :: r => .string x.lab.1 :: .string x.lab.2 :: x.lv :: pvL r
theorem pvL_len (l : List PV) : (pvL l).length = l.length * 3 := by
  induction l with
  | nil => rfl
  | cons p r ih => rw [pvL, List.length_cons, List.length_cons, List.length_cons, ih, List.length_cons]; omega
theorem pvL_app (l r : List PV) : pvL (l ++ r) = pvL l ++ pvL r := by
  induction l with
  | nil => rfl
  | cons p l ih => rw [List.cons_append, pvL, ih, pvL]; rfl
theorem pvL_at (l : List PV) (i : Nat) (h : i < l.length) : (pvL l)[i * 3]? = some (.string l[i].lab.1) ∧ (pvL l)[i * 3 + 1]? = some (.string l[i].lab.2) ∧ (pvL l)[i * 3 + 2]? = some l[i].lv := by
  induction l generalizing i with
  | nil => simp at h
  | cons p r ih =>
    cases i with
    | zero => exact ⟨rfl, rfl, rfl⟩
    | succ i =>
      have := ih i (by simpa using h)
      rw [show (i + 1) * 3 = i * 3 + 3 by omega]
      exact this
theorem Tryz.infoPost : (Tryz.prog.info? 38).map (fun i => (i.zero, i.size, i.bytes)) = some (some (.agg #[.string ⟨#[]⟩, .string ⟨#[]⟩, .slice none 0 0]), 3, 56) := by kernel_rfl
/-- A row of posts, cell by cell. -/
def PvCells (w : World) (v : Value) (qs : List PV) : Prop :=
  (∃ a c, v = .slice a 0 c ∧ qs = []) ∨ ∃ b o c, v = .slice (some ⟨b, o, none⟩) qs.length c ∧ ∀ i (hi : i < qs.length), w.cell? ⟨b, o + i * 3, none⟩ = some (.string qs[i].lab.1) ∧ w.cell? ⟨b, o + i * 3 + 1, none⟩ = some (.string qs[i].lab.2) ∧ w.cell? ⟨b, o + i * 3 + 2, none⟩ = some qs[i].lv
theorem cell_kept {w W : World} (k : Kept w W) {a : Addr} {u : Value} (h : w.cell? a = some u) : W.cell? a = some u := by
  rw [World.cell?_of_block (w := w) (w' := W) (a := a) (k.block a.block (World.block_lt_of_cell? w a h) (fun f => f))]
  exact h
theorem PvCells.stay {w W : World} {v : Value} {qs : List PV} (h : PvCells w v qs) (k : Kept w W) : PvCells W v qs := by
  rcases h with h | ⟨b, o, c, e, hc⟩
  · exact .inl h
  · exact .inr ⟨b, o, c, e, fun i hi => ⟨cell_kept k (hc i hi).1, cell_kept k (hc i hi).2.1, cell_kept k (hc i hi).2.2⟩⟩
theorem PvCells.len {w : World} {v : Value} {qs : List PV} (h : PvCells w v qs) : ∃ a c, v = .slice a qs.length c := by
  rcases h with ⟨a, c, rfl, rfl⟩ | ⟨b, o, c, rfl, _⟩
  · exact ⟨a, c, rfl⟩
  · exact ⟨_, c, rfl⟩
theorem PvCells.cell {w : World} {a : Option Addr} {N c : Nat} {qs : List PV} (h : PvCells w (.slice a N c) qs) (hN : qs.length = N) (k : Nat) (hk : k < N) :
    ∃ b o, a = some ⟨b, o, none⟩ ∧ w.cell? ⟨b, o + k * 3, none⟩ = some (.string (qs[k]'(by omega)).lab.1) ∧ w.cell? ⟨b, o + k * 3 + 1, none⟩ = some (.string (qs[k]'(by omega)).lab.2) ∧ w.cell? ⟨b, o + k * 3 + 2, none⟩ = some (qs[k]'(by omega)).lv := by
  rcases h with ⟨a', c', e, e2⟩ | ⟨b, o, c', e, hc⟩
  · subst e2
    simp at hN
    omega
  · simp only [Value.slice.injEq] at e
    exact ⟨b, o, e.1, hc k (by omega)⟩
abbrev PvAt (w : World) (B : Nat) (v : Value) (qs : List PV) : Prop := w.ownsRow B 38 3 v qs.length (pvL qs)
theorem pv_cells {w : World} {B : Nat} {v : Value} {qs : List PV} (h : PvAt w B v qs) : PvCells w v qs := by
  by_cases h0 : qs.length = 0
  · have : qs = [] := List.length_eq_zero_iff.1 h0
    subst this
    obtain ⟨a, c, rfl⟩ := ownN_slice h
    exact .inl ⟨a, c, rfl, rfl⟩
  · obtain ⟨g, cap, rfl⟩ := ownN_some h (by omega)
    refine .inr ⟨g, 0, cap, rfl, fun i hi => ?_⟩
    have hx := pvL_at qs i hi
    rw [Nat.zero_add]
    exact ⟨by rw [h.cellAt (i * 3) (by omega)]; exact hx.1, by rw [h.cellAt (i * 3 + 1) (by omega)]; exact hx.2.1, by rw [h.cellAt (i * 3 + 2) (by omega)]; exact hx.2.2⟩
/-- Values that are slices. -/
def PvPlain (qs : List PV) : Prop := ∀ q ∈ qs, ∃ a n c, q.lv = .slice a n c
theorem pvL_plain {qs : List PV} (h : PvPlain qs) : ∀ u ∈ pvL qs, u.oneCell' = true := by
  induction qs with
  | nil => intro u hu; cases hu
  | cons p r ih =>
    intro u hu
    rw [pvL] at hu
    simp only [List.mem_cons] at hu
    rcases hu with rfl | rfl | rfl | hu
    · rfl
    · rfl
    · obtain ⟨a, n, c, e⟩ := h p (List.mem_cons_self ..)
      rw [e]; rfl
    · exact ih (fun q hq => h q (List.mem_cons_of_mem _ hq)) u hu
theorem pv_src {w : World} {b o : Nat} {q : List PV} (hc : ∀ i (hi : i < q.length), w.cell? ⟨b, o + i * 3, none⟩ = some (.string q[i].lab.1) ∧ w.cell? ⟨b, o + i * 3 + 1, none⟩ = some (.string q[i].lab.2) ∧ w.cell? ⟨b, o + i * 3 + 2, none⟩ = some q[i].lv) : ∀ j u, (pvL q)[j]? = some u → w.cell? ((⟨b, o, none⟩ : Addr).add j) = some u := by
  intro j u hu
  rw [add_none]
  have hj : j < (pvL q).length := (List.getElem?_eq_some_iff.1 hu).1
  rw [pvL_len] at hj
  have hx := pvL_at q (j / 3) (by omega)
  have hcc := hc (j / 3) (by omega)
  have hp : j % 3 = 0 ∨ j % 3 = 1 ∨ j % 3 = 2 := by omega
  rcases hp with hp | hp | hp
  · have ej : j = j / 3 * 3 := by omega
    rw [ej] at hu ⊢
    rw [hx.1] at hu
    cases hu
    exact hcc.1
  · have ej : j = j / 3 * 3 + 1 := by omega
    rw [ej] at hu ⊢
    rw [hx.2.1] at hu
    cases hu
    rw [← Nat.add_assoc]
    exact hcc.2.1
  · have ej : j = j / 3 * 3 + 2 := by omega
    rw [ej] at hu ⊢
    rw [hx.2.2] at hu
    cases hu
    rw [← Nat.add_assoc]
    exact hcc.2.2
theorem pv_append {w : World} {B : Nat} {v xv : Value} {l q : List PV} (hown : PvAt w B v l) (hsrc : PvCells w xv q) (hq : PvPlain q) (hl : l.length + q.length ≤ 1000000) (hB : B ≤ w.heap.size) :
    ∃ v' w', (Builtin.append_ #[34, 34] 0 #[v, xv]).run Tryz.prog w = .ok v' w' ∧ PvAt w' B v' (l ++ q) ∧ w.grownBy w' v.ownBlock ∧ (v'.ownBlock = v.ownBlock ∨ v'.ownBlock = some w.heap.size) := by
  obtain ⟨i0, hi0, hz0, hz1, hz2⟩ := info_parts Tryz.infoPost
  have hm : l.length + q.length ≤ maxLen := by unfold maxLen; omega
  have ht := Tryz.underlying34
  have hll : (l ++ q).length = l.length + q.length := List.length_append
  have main : ∀ (a : Addr) (c : Nat), xv = .slice (some a) q.length c → (∀ j u, (pvL q)[j]? = some u → w.cell? (a.add j) = some u) → ∃ v' w', (Builtin.append_ #[34, 34] 0 #[v, xv]).run Tryz.prog w = .ok v' w' ∧ PvAt w' B v' (l ++ q) ∧ w.grownBy w' v.ownBlock ∧ (v'.ownBlock = v.ownBlock ∨ v'.ownBlock = some w.heap.size) := by
    intro a c e hc
    subst e
    obtain ⟨v', w', hr, h2, h3, _, h5⟩ := run_append_own_at (P := Tryz.prog) w B _ 0 _ i0 _ 3 56 ht hi0 hz0 hz1 hz2 rfl (by decide) v l.length (pvL l) hown a q.length c (pvL q) (pvL_len q)
      hc (pvL_plain hq) hm (by omega) hB
    refine ⟨v', w', hr, ?_, h3, h5⟩
    unfold PvAt
    rw [hll, pvL_app]
    exact h2
  rcases hsrc with ⟨a, c, rfl, rfl⟩ | ⟨b, o, c, rfl, hc⟩
  · cases a with
    | none =>
      refine ⟨v, w, ?_, by rw [List.append_nil]; exact hown, World.grownBy.refl _ _, .inl rfl⟩
      rcases hown.2 with ⟨rfl, h0⟩ | ⟨g, cap, cur, rfl, hbg, hg, hnc, hcm, hcs, htake⟩
      · simp [Builtin.append_, run_underlying ht, sizeOf, typeInfo, hi0, Builtin.lenOf, Builtin.firstCells]
      · simp [Builtin.append_, run_underlying ht, sizeOf, typeInfo, hi0, Builtin.lenOf, Builtin.firstCells, hnc, storeCells]
    | some a => exact main a c rfl (fun j u hu => by simp [pvL] at hu)
  · exact main _ c rfl (pv_src hc)
/-- A copy of a row of posts. -/
theorem pv_copy {w : World} {xv : Value} {q : List PV} (hsrc : PvCells w xv q) (hq : PvPlain q) (hl : q.length ≤ 100000) :
    ∃ v w', Hid ((Builtin.append_ #[34, 34] 0 #[.slice none 0 0, xv]).run Tryz.prog w = .ok v w') ∧ PvAt w' w.heap.size v q ∧ Kept w w' := by
  obtain ⟨v', w', hr, h1, h2, h3⟩ := pv_append (w := w) (B := w.heap.size) (v := .slice none 0 0) (l := []) ⟨rfl, .inl ⟨rfl, rfl⟩⟩ hsrc hq (by simp; omega) (Nat.le_refl _)
  rw [List.nil_append] at h1
  exact ⟨v', w', hr, h1, (Only.refl _ w).grown h2 (fun j hj => by cases hj)⟩
theorem Tryz.sizePost (W : World) : (sizeOf 38).run Tryz.prog W = .ok 3 W := by kernel_rfl
/-- A row of posts in two. -/
theorem pv_cut {w : World} {B : Nat} {v : Value} {l : List PV} (h : PvAt w B v l) (k : Nat) (hk : k ≤ l.length) :
    ∃ a1 a2 c2, (∀ W, (Instr.sliceAt 34 v none (some (.int .i64 (k : Int))) (some (.int .i64 (k : Int)))).run Tryz.prog W = .ok (.slice a1 k k) W) ∧ PvCells w (.slice a1 k k) (l.take k) ∧
      (∀ W, (Instr.sliceAt 34 v (some (.int .i64 (k : Int))) none none).run Tryz.prog W = .ok (.slice a2 (l.length - k) c2) W) ∧ PvCells w (.slice a2 (l.length - k) c2) (l.drop k) := by
  have ht := Tryz.underlying34
  rcases h.2 with ⟨rfl, h0⟩ | ⟨g, cap, cur, rfl, hb, hg, hnc, hcm, hcs, htake⟩
  · have hl : l = [] := List.length_eq_zero_iff.1 h0
    subst hl
    have hk0 : k = 0 := by simpa using hk
    subst hk0
    exact ⟨none, none, 0, fun W => by kernel_rfl, .inl ⟨_, _, rfl, rfl⟩, fun W => by kernel_rfl, .inl ⟨_, _, rfl, rfl⟩⟩
  · have hs := pv_cells h
    have hkc : k ≤ cap := by omega
    refine ⟨some ⟨g, 0, none⟩, some (if cap = k then ⟨g, 0, none⟩ else ⟨g, k * 3, none⟩), cap - k, fun W => ?_, ?_, fun W => ?_, ?_⟩
    · simp [Instr.sliceAt, Instr.slice, Instr.sliceBounds, Instr.sliceBound, run_underlying ht, asIntOf, hkc, Addr.add, Result.andThen, Tryz.sizePost]
    · rcases hs with ⟨a, c, e, e2⟩ | ⟨b, o, c, e1, hc⟩
      · subst e2
        have hk0 : k = 0 := by simpa using hk
        subst hk0
        exact .inl ⟨_, _, rfl, rfl⟩
      · cases e1
        have hlt : (l.take k).length = k := by rw [List.length_take]; omega
        refine .inr ⟨g, 0, k, by rw [hlt], fun i hi => ?_⟩
        rw [List.getElem_take]
        exact hc i (by omega)
    · simp [Instr.sliceAt, Instr.slice, Instr.sliceBounds, Instr.sliceBound, run_underlying ht, asIntOf, hk, Addr.add, Result.andThen, Tryz.sizePost]
      by_cases hck : cap = k
      · rw [if_pos hck, if_pos hck]
      · rw [if_neg hck, if_neg hck]
        by_cases hk0 : k * 3 = 0
        · rw [if_pos hk0, hk0]
        · rw [if_neg hk0]
    · by_cases hkl : k = l.length
      · subst hkl
        rw [Nat.sub_self, List.drop_length]
        exact .inl ⟨_, _, rfl, rfl⟩
      · rcases hs with ⟨a, c, e, e2⟩ | ⟨b, o, c, e1, hc⟩
        · subst e2
          simp at hk hkl
          omega
        · cases e1
          have hlt : (l.drop k).length = l.length - k := List.length_drop
          refine .inr ⟨g, k * 3, cap - k, by rw [hlt, if_neg (by omega)], fun i hi => ?_⟩
          rw [List.getElem_drop]
          have := hc (k + i) (by omega)
          rw [Nat.zero_add, Nat.add_mul] at this
          exact this
/-- A post behind a slice that is full. -/
theorem pv_full {w : World} {a : Option Addr} {k xb : Nat} {l : List PV} {x : PV} (h : PvCells w (.slice a k k) l) (hl : l.length = k) (hk : k ≤ 100000) (hx : Blk w xb [.string x.lab.1, .string x.lab.2, x.lv] 38) :
    ∃ c w', Hid ((Builtin.append_ #[34, 34] 0 #[.slice a k k, .slice (some ⟨xb, 0, none⟩) 1 1]).run Tryz.prog w = .ok (.slice (some ⟨w.heap.size, 0, none⟩) (k + 1) c) w') ∧ PvAt w' w.heap.size (.slice (some ⟨w.heap.size, 0, none⟩) (k + 1) c) (l ++ [x]) ∧ Kept w w' := by
  obtain ⟨i0, hi0, hz0, hz1, hz2⟩ := info_parts Tryz.infoPost
  have hnews : ∀ j v, ([.string x.lab.1, .string x.lab.2, x.lv] : List Value)[j]? = some v → w.cell? ((⟨xb, 0, none⟩ : Addr).add j) = some v := fun j u hj => by rw [add_none, Nat.zero_add]; exact hx.cell j hj
  have e : pvL (l ++ [x]) = pvL l ++ [.string x.lab.1, .string x.lab.2, x.lv] := by rw [pvL_app]; rfl
  have own : ∀ old, (w.drew.alloc (.cells ((pvL l).toArray ++ #[.string x.lab.1, .string x.lab.2, x.lv] ++ Builtin.zeroCells (Value.agg #[.string ⟨#[]⟩, .string ⟨#[]⟩, .slice none 0 0]).cells (grownCap w (k + 1) old 38 - (k + 1))) 38)).ownsRow w.heap.size 38 3 (.slice (some ⟨w.heap.size, 0, none⟩) (k + 1) (grownCap w (k + 1) old 38)) (l ++ [x]).length (pvL (l ++ [x])) := fun old => by
    have hge := grownCap_ge w (k + 1) old 38
    have hcm := grownCap_le_maxLen w (k + 1) old 38 (by unfold maxLen; omega)
    have hlen : (l ++ [x]).length = k + 1 := by rw [List.length_append, hl]; rfl
    refine ⟨pvL_len _, .inr ⟨w.heap.size, _, _, by rw [hlen], Nat.le_refl _, heap_alloc_new w.drew _, by rw [hlen]; exact hge, hcm, ?_, ?_⟩⟩
    · simp only [Array.size_append, List.size_toArray, size_zeroCells, pvL_len, hl]
      simp [Value.cells]
      omega
    · rw [e, hlen]
      simp only [Array.toList_append]
      rw [List.take_left']
      simp [pvL_len, hl]
      omega
  have kept : ∀ o, Kept w (w.drew.alloc o) := fun o => ((Only.refl _ w).drew).alloc o
  rcases h with ⟨a', c', hv, rfl⟩ | ⟨b, o, c', hv, hc⟩
  · simp only [Value.slice.injEq] at hv
    obtain ⟨rfl, rfl, _⟩ := hv
    cases a with
    | none =>
      have hr := run_append_nil (P := Tryz.prog) w 34 0 38 i0 _ Tryz.underlying34 hi0 hz0 ⟨xb, 0, none⟩ 1 1 [.string x.lab.1, .string x.lab.2, x.lv] (by rw [hz1]; rfl) hnews (by omega) (by omega) (by rw [hz2]; omega)
      refine ⟨_, _, hr, ?_, kept _⟩
      have := own 0
      unfold PvAt
      simpa [pvL] using this
    | some b =>
      have hr := run_append_grow (P := Tryz.prog) w 34 0 38 i0 _ Tryz.underlying34 hi0 hz0 b 0 0 [] (by simp) (by simp) ⟨xb, 0, none⟩ 1 1 [.string x.lab.1, .string x.lab.2, x.lv] (by rw [hz1]; rfl) hnews (by omega) (by omega) (by rw [hz2]; decide)
      refine ⟨_, _, hr, ?_, kept _⟩
      have := own 0
      unfold PvAt
      simpa [pvL] using this
  · simp only [Value.slice.injEq] at hv
    obtain ⟨rfl, _, _⟩ := hv
    have hfit : Builtin.nextslicecap (k + 1) k * i0.bytes ≤ 281474976710656 := by
      rw [hz2]
      have := nextslicecap_le (need := k + 1) (old := k) (by omega)
      omega
    have hr := run_append_grow (P := Tryz.prog) w 34 0 38 i0 _ Tryz.underlying34 hi0 hz0 ⟨b, o, none⟩ k k (pvL l) (by rw [hz1, pvL_len, hl]) (pv_src hc) ⟨xb, 0, none⟩ 1 1 [.string x.lab.1, .string x.lab.2, x.lv] (by rw [hz1]; rfl) hnews (by omega) (by omega) hfit
    refine ⟨_, _, hr, ?_, kept _⟩
    have := own k
    unfold PvAt
    simpa using this
theorem pvL_set (qs : List PV) (k : Nat) (u : Value) (m : List Int) (hk : k < qs.length) : pvL (qs.set k ⟨qs[k].lab, u, m⟩) = (pvL qs).set (k * 3 + 2) u := by
  induction qs generalizing k with
  | nil => simp at hk
  | cons p r ih =>
    cases k with
    | zero => rfl
    | succ k =>
      have e1 : (k + 1) * 3 + 2 = k * 3 + 2 + 1 + 1 + 1 := by omega
      have h := ih k (by simpa using hk)
      rw [List.set_cons_succ, pvL, pvL, e1]
      simp only [List.getElem_cons_succ, List.set_cons_succ]
      rw [h]
theorem pv_set {w : World} {B g cap k : Nat} {qs : List PV} (h : PvAt w B (.slice (some ⟨g, 0, none⟩) qs.length cap) qs) (hk : k < qs.length) (u : Value) (m : List Int) :
    w.frozen? ⟨g, k * 3 + 2, none⟩ = false ∧ PvAt (w.setCell ⟨g, k * 3 + 2, none⟩ u) B (.slice (some ⟨g, 0, none⟩) qs.length cap) (qs.set k ⟨qs[k].lab, u, m⟩) := by
  refine ⟨h.frozenAt _, ?_⟩
  have h1 := (h.stored (k * 3 + 2) u).1
  unfold PvAt
  rw [List.length_set, pvL_set qs k u m hk]
  exact h1
/-- Posts that lie in blocks of their own, from B on. -/
structure PostAt (w : World) (B : Nat) (v : Value) (xs : List PV) : Prop where
  row : PvAt w B v xs
  num : ∀ x ∈ xs, NumAt w B x.lv x.l
  apart : xs.Pairwise (fun a b => ∀ k, a.has k → ¬ b.has k)
theorem PostAt.only {w w' : World} {B : Nat} {v : Value} {xs : List PV} {O : Nat → Prop} (h : PostAt w B v xs) (k : Only O w w') (hO : ∀ j, B ≤ j → j < w.heap.size → ¬ O j) : PostAt w' B v xs :=
  ⟨ownN_only h.row k (fun b hb => hO b (ownN_lt h.row hb).1 (ownN_lt h.row hb).2), fun x hx => ownN_only (h.num x hx) k (fun b hb => hO b (ownN_lt (h.num x hx) hb).1 (ownN_lt (h.num x hx) hb).2), h.apart⟩
theorem PostAt.stay {w w' : World} {B : Nat} {v : Value} {xs : List PV} (h : PostAt w B v xs) (k : Kept w w') : PostAt w' B v xs := h.only k (fun _ _ _ f => f)
theorem PostAt.nil (w : World) (B : Nat) : PostAt w B (.slice none 0 0) [] := ⟨World.ownsRow_nil _ _ _ _, (fun x hx => by cases hx), .nil⟩
theorem PostAt.base {w : World} {B B' : Nat} {v : Value} {xs : List PV} (h : PostAt w B v xs) (hb : B' ≤ B) : PostAt w B' v xs := ⟨ownN_base h.row hb, fun x hx => ownN_base (h.num x hx) hb, h.apart⟩
theorem PostAt.plain {w : World} {B : Nat} {v : Value} {xs : List PV} (h : PostAt w B v xs) : PvPlain xs := fun x hx => by
  obtain ⟨a, c, e⟩ := ownN_slice (h.num x hx)
  exact ⟨_, _, _, e⟩
theorem PostAt.ne {w : World} {B : Nat} {v : Value} {xs : List PV} (h : PostAt w B v xs) {x : PV} (hx : x ∈ xs) {j : Nat} (hj : x.has j) : v.ownBlock ≠ some j := fun e => ((ownN_typed (h.num x hx) hj).ne (ownN_typed h.row e) (by decide)) rfl
/-- A post more, with a list of its own that is new. -/
theorem post_more {w w2 w3 : World} {B : Nat} {v v' : Value} {xs : List PV} (h : PostAt w B v xs) (hB : B ≤ w.heap.size) (k : Kept w w2) {x : PV} (hx : NumAt w2 w.heap.size x.lv x.l) (hr : PvAt w3 B v' (xs ++ [x])) (ko : Only (fun j => v.ownBlock = some j) w2 w3) : PostAt w3 B v' (xs ++ [x]) ∧ Only (fun j => v.ownBlock = some j) w w3 := by
  refine ⟨⟨hr, fun y hy => ?_, ?_⟩, (k.mono (O' := fun j => v.ownBlock = some j) (fun _ _ f => f.elim)).trans ko (fun _ _ e => e)⟩
  · rcases List.mem_append.1 hy with e | e
    · exact ownN_only (ownN_stay (h.num y e) k) ko (fun j hj e2 => h.ne e hj e2)
    · rw [List.mem_singleton.1 e]
      refine ownN_base (ownN_only hx ko (fun j hj e2 => ?_)) hB
      have h1 := (ownN_lt hx hj).1
      have h2 := (ownN_lt h.row e2).2
      omega
  · refine List.pairwise_append.2 ⟨h.apart, List.pairwise_singleton _ _, fun a ha b hb j h1 h2 => ?_⟩
    rw [List.mem_singleton.1 hb] at h2
    have h3 := (ownN_lt (h.num a ha) h1).2
    have h4 := (ownN_lt hx h2).1
    omega
end Go.Proofs.YtdgkdgbdkhnpcaaGreat.X

/-
  slices.Clone of numbers; Posts.
-/
namespace Go.Proofs.YtdgkdgbdkhnpcaaGreat.X
open Go.RowKit Go.Proofs.Lys Go.Maps Go.Proofs.YtdgkdgbdkhnpcaaGreat.N
set_option linter.unusedVariables false
set_option linter.unusedSimpArgs false

theorem iclone_any (w : World) (v : Value) (l : List Int) (hs : Po.ISrc w v l) (hl : l.length ≤ 100000) :
    Calls Tryz.prog 28 #[v] w fun e w' => ∃ v', e = .returned v' ∧ NumAt w' w.heap.size v' l ∧ Kept w w' := by
  have he : ∀ (x : Option Addr) (n k : Nat) (w : World), (Go.binOp .eql 36 (.slice x n k) (.slice none 0 0)).run Tryz.prog w = .ok (.bool x.isNone) w := fun x n k w => Lib.run_eql_slice_nil w _ _ x n k 0 0 Tryz.underlying36
  obtain ⟨hs1, a, c, rfl, _⟩ := hs
  cases a with
  | none =>
    have hl0 : l = [] := by
      rcases hs1.shape with ⟨h, _⟩ | ⟨_, b, o, c2, e, _⟩
      · exact List.map_eq_nil_iff.1 h
      · cases e
    subst hl0
    clear hs1
    go_enter Tryz.func28, Tryz.ntmps28
    go_wp2
    go_ret
    exact ⟨_, rfl, World.ownsRow_nil _ _ _ _, Only.refl _ _⟩
  | some a =>
    have hb : ∀ w : World, (Instr.buildSlice 36 0 #[]).run Tryz.prog w = .ok (.slice (some ⟨w.heap.size, 0, none⟩) 0 0) (w.alloc (.cells #[] 3)) := fun w => by kernel_rfl
    have h0 : NumAt (w.alloc (.cells #[] 3)) w.heap.size (.slice (some ⟨w.heap.size, 0, none⟩) 0 0) [] := World.ownsRow_lit w #[] 0 (Nat.le_refl _) (by decide) rfl
    have k0 : Kept w (w.alloc (.cells #[] 3)) := (Only.refl _ w).alloc _
    obtain ⟨v', w', hr, h1, h2, h3⟩ := append_src (P := Tryz.prog) (base := w.heap.size) Tryz.underlying36 Po.infoI6 rfl (by decide) h0 (hs1.stay k0) (Po.ints_one _) (by simp; omega) (by simp)
    have h1' : NumAt w' w.heap.size v' l := by simpa using h1
    have HR := hid hr
    have HF := hid (show NumAt w' w.heap.size v' l ∧ Kept w w' from ⟨h1', k0.grown h2 (fun j hj => by simp [Value.ownBlock] at hj; intro hlt; omega)⟩)
    clear hs1 h1 h2 h3 hr h0 k0 h1'
    generalize l.length = n at HR ⊢
    go_enter Tryz.func28, Tryz.ntmps28
    go_wp2_with (at_builtin; refine Lys.wpList_append_run rfl _ _ _ rfl rfl rfl HR ?_)
    go_ret
    exact ⟨_, rfl, HF.out⟩

/-- What Posts tells. -/
def PostsP (w : World) (P : Posts) (e : Ending) (w' : World) : Prop := ∃ v qs, e = .returned v ∧ PostAt w' w.heap.size v qs ∧ qs.map postV = P ∧ Kept w w'
theorem postV_take {P : Posts} {qs : List PV} {k : Nat} (h : qs.map postV = P.take k) (hk : k < P.length) {x : PV} (hx : postV x = P[k]) : (qs ++ [x]).map postV = P.take (k + 1) := by
  rw [List.map_append, h, List.take_succ_eq_append_getElem hk]
  simp [hx]
theorem Is.small {w : World} {x : IxC} {O : Nat → Prop} {P : Posts} (hA : IxAt w x O) (hI : Is x P) {p : Post} (hp : p ∈ P) : p.1.1.size ≤ 100000 ∧ p.1.2.size ≤ 100000 := by
  obtain ⟨e, he, h⟩ := List.mem_map.1 (hI.perm.mem_iff.2 hp)
  have := hA.small e he
  rw [← h]
  exact this

set_option maxRecDepth 100000 in
set_option maxHeartbeats 6400000 in
theorem posts_any {w : World} {x : IxC} {O : Nat → Prop} {P : Posts} (hA : IxAt w x O) (hI : Is x P) (hl : P.length ≤ 100000) (hll : ∀ p ∈ P, p.2.length ≤ 100000) :
    Calls Tryz.prog 11 #[.pointer (some ⟨x.xb, 0, none⟩)] w (PostsP w P) := by
  have HP := hid (pairs_any hA hI (by rw [hI.len]; exact hl))
  have HXW : Hid (∀ (W : World) (Q : Nat → Prop), Only Q w W → (∀ j, Q j → w.heap.size ≤ j) → ∀ p ∈ P, W.cell? ⟨x.xb, 1, none⟩ = some (.map (some x.mb)) ∧
      (Instr.lookup 57 (.map (some x.mb)) (.agg #[.string p.1.1, .string p.1.2]) false).run Tryz.prog W = .ok (slV (slOf x p.1)) W ∧ Po.ISrc W (slV (slOf x p.1)) p.2) := fun W Q k hQ p hp => by
    have h := hA.only k (fun j hj e => by have h1 := hA.lt j hj; have h2 := hQ j e; omega)
    have hsm := Is.small hA hI hp
    have h3 := (h.slice hI p.1 hsm).1
    rw [look_sorted hI.sort (x := p.1) (l := p.2) hp] at h3
    exact ⟨h.blk.cell 1 rfl, look_sl (x := p.1) h.map (small_max hsm).1 (small_max hsm).2, Po.own_isrc h3⟩
  have HLL := hid hll
  have HSV : Hid (∀ y, ∃ a n c, slV (slOf x y) = .slice a n c) := fun y => by
    cases slOf x y with
    | none => exact ⟨_, _, _, rfl⟩
    | some q => exact ⟨_, _, _, rfl⟩
  have HFIN : Hid (∀ v qs w', PostAt w' w.heap.size v qs → qs.map postV = P → Kept w w' → PostsP w P (.returned v) w') := fun v qs w' h1 h2 h3 => ⟨v, qs, rfl, h1, h2, h3⟩
  clear hA hI hll
  generalize x.xb = XB at *
  generalize x.mb = MB at *
  go_enter Tryz.func11, Tryz.ntmps11
  go_wp2_with fail
  refine HP.out.mono ?_
  rintro e w1 ⟨v1, rfl, hat1, k1⟩
  have HK1 := hid k1
  have HL1 := hid (LabAt.src hat1)
  obtain ⟨a1, c1, e1⟩ := ownN_slice hat1
  rw [List.length_map] at e1
  subst e1
  have hs1 := k1.size
  clear hat1 k1 HP
  obtain ⟨N, hN⟩ : ∃ N, P.length = N := ⟨_, rfl⟩
  rw [hN] at hl HL1 ⊢
  have HN := hid hN
  have HN2 : Hid ((P.map (·.1)).length = N) := by rw [List.length_map]; exact HN.out
  clear hN
  go_wp2_with fail
  go_loopw [3, 9] (fun s3 s9 wr => ∃ (k : Nat) (qs : List PV) (a : Option Addr) (n c : Nat), k ≤ N ∧ s9 = .int .i64 (k : Int) ∧ s3 = .slice a n c ∧ n = qs.length ∧ PostAt wr w1.heap.size (.slice a n c) qs ∧ Hid (qs.map postV = P.take k) ∧ Kept w1 wr) (fun _ s9 _ => N - (intOf s9).toNat)
  case atStart => exact ⟨0, [], none, 0, 0, by omega, rfl, rfl, rfl, PostAt.nil _ _, hid (by simp), Only.refl _ _⟩
  case round =>
    obtain ⟨k, qs, a3, n3, c3, hk, rfl, rfl, hn3, hpo, hqs, kr⟩ := hrel
    have HPO := hid hpo
    have HK := hid kr
    have hsr := kr.size
    by_cases hlt : k < N
    · have hkP : k < P.length := by have := HN.out; omega
      have hqk : qs.length = k := by
        have := congrArg List.length hqs.out
        rw [List.length_map, List.length_take] at this
        omega
      obtain ⟨b, o, rfl, y1, y2⟩ := (HL1.out.stay kr).cell HN2.out k hlt
      simp only [List.getElem_map] at y1 y2
      have hpm : P[k] ∈ P := List.getElem_mem hkP
      have HXP := hid (fun (W : World) (Q : Nat → Prop) (kq : Only Q w W) (hq : ∀ j, Q j → w.heap.size ≤ j) => HXW.out W Q kq hq P[k] hpm)
      have HLP := hid (HLL.out P[k] hpm)
      obtain ⟨sa, sn, sc, hsv⟩ := HSV.out P[k].1
      rw [hsv] at HXP
      have HTK : Hid (∀ u, (qs ++ [(⟨P[k].1, u, P[k].2⟩ : PV)]).map postV = P.take (k + 1)) := fun u => postV_take hqs.out hkP rfl
      have hlow : ∀ j, (Value.slice a3 n3 c3).ownBlock = some j → w1.heap.size ≤ j ∧ j < wr.heap.size := fun j hj => ownN_lt hpo.row hj
      have HLOW := hid hlow
      clear hpo hsv hqs
      clear hn3
      generalize P[k] = p at y1 y2 HXP HLP HTK
      obtain ⟨⟨Y1, Y2⟩, pl⟩ := p
      simp only at y1 y2 HXP HLP HTK
      have hbm := Blk.new wr [.string Y1, .string Y2] 27
      have ka : Kept wr (wr.alloc (.cells #[.string Y1, .string Y2] 27)) := (Only.refl _ wr).alloc _
      have HPa := hid (HPO.out.stay ka)
      have HKw := hid (HK.out.trans ka (fun _ _ f => f))
      have S0 := hid (fun (W : World) (kW : Only (fun j => (Value.slice a3 n3 c3).ownBlock = some j) (wr.alloc (.cells #[.string Y1, .string Y2] 27)) W) => (show (W.cell? ⟨wr.heap.size, 0, none⟩ = some (.string Y1) ∧ W.cell? ⟨wr.heap.size, 1, none⟩ = some (.string Y2)) ∧ (W.cell? ⟨XB, 1, none⟩ = some (.map (some MB)) ∧
          (Instr.lookup 57 (.map (some MB)) (.agg #[.string Y1, .string Y2]) false).run Tryz.prog W = .ok (.slice sa sn sc) W ∧ Po.ISrc W (.slice sa sn sc) pl) from by
        have hb := kW.blk hbm (fun e => by have := (HLOW.out _ e).2; omega)
        refine ⟨⟨hb.cell 0 rfl, hb.cell 1 rfl⟩, HXP.out W _ ((((HK1.out.trans HKw.out (fun _ _ f => f)).mono (O' := fun j => (Value.slice a3 n3 c3).ownBlock = some j) (fun _ _ f => f.elim))).trans kW (fun _ _ e => e)) (fun j hj => ?_)⟩
        have := (HLOW.out j hj).1
        omega))
      clear hbm ka hlow HXP
      have hsa : (wr.alloc (.cells #[.string Y1, .string Y2] 27)).heap.size = wr.heap.size + 1 := by simp
      go_wp2_with fail
      generalize wr.alloc (.cells #[.string Y1, .string Y2] 27) = w5 at S0 HPa HKw hsa ⊢
      generalize wr.heap.size = B5 at *
      refine wp_region_noPanic ?_
      refine wp_region_last (L := 1000) (S := fun w' => Only (fun j => (Value.slice a3 n3 c3).ownBlock = some j) w5 w') (by kernel_rfl) ?_
      have K0 := hid (show Only (fun j => (Value.slice a3 n3 c3).ownBlock = some j) w5 w5.drew from (Only.refl _ _).drew)
      have K0k := hid (show Kept w5 w5.drew from (Only.refl _ _).drew)
      refine wpAnyN_take (i := 0) (v := .slice a3 n3 c3) rfl (by kernel_rfl) (by kernel_rfl) (by kernel_rfl) (by decide) (by kernel_rfl) (fun _ _ _ h => h) (Or.inl ⟨by rfl, ?_⟩) K0.out ?_
      · (intro w' hSw; obtain ⟨⟨s0, s1⟩, s2, s3, _⟩ := S0.out w' hSw; clear hSw; go_simp)
      (try simp only [List.getElem_toArray, List.getElem_cons_succ, List.getElem_cons_zero])
      go_frame
      refine wpAnyN_take (i := 1) (v := .agg #[.string Y1, .string Y2]) rfl (by kernel_rfl) (by kernel_rfl) (by kernel_rfl) (by decide) (by kernel_rfl) (fun _ _ _ h => h) (Or.inl ⟨by rfl, ?_⟩) K0.out ?_
      · (intro w' hSw; obtain ⟨⟨s0, s1⟩, s2, s3, _⟩ := S0.out w' hSw; clear hSw; go_simp)
      (try simp only [List.getElem_toArray, List.getElem_cons_succ, List.getElem_cons_zero])
      go_frame
      refine wpAnyN_take (i := 2) (v := .pointer (some ⟨XB, 0, none⟩)) rfl (by kernel_rfl) (by kernel_rfl) (by kernel_rfl) (by decide) (by kernel_rfl) (fun _ _ _ h => h) (Or.inl ⟨by rfl, ?_⟩) K0.out ?_
      · (intro w' hSw; obtain ⟨⟨s0, s1⟩, s2, s3, _⟩ := S0.out w' hSw; clear hSw; go_simp)
      (try simp only [List.getElem_toArray, List.getElem_cons_succ, List.getElem_cons_zero])
      go_frame
      refine wpAnyN_take (i := 3) (v := .pointer (some ⟨XB, 0, none⟩)) rfl (by kernel_rfl) (by kernel_rfl) (by kernel_rfl) (by decide) (by kernel_rfl) (fun _ _ _ h => h) (Or.inl ⟨by rfl, ?_⟩) K0.out ?_
      · (intro w' hSw; obtain ⟨⟨s0, s1⟩, s2, s3, _⟩ := S0.out w' hSw; clear hSw; go_simp)
      (try simp only [List.getElem_toArray, List.getElem_cons_succ, List.getElem_cons_zero])
      go_frame
      refine wpAnyN_take (i := 4) (v := .pointer (some ⟨XB, 1, none⟩)) rfl (by kernel_rfl) (by kernel_rfl) (by kernel_rfl) (by decide) (by kernel_rfl) (fun _ _ _ h => h) (Or.inl ⟨by rfl, ?_⟩) K0.out ?_
      · (intro w' hSw; obtain ⟨⟨s0, s1⟩, s2, s3, _⟩ := S0.out w' hSw; clear hSw; go_simp)
      (try simp only [List.getElem_toArray, List.getElem_cons_succ, List.getElem_cons_zero])
      go_frame
      refine wpAnyN_take (i := 5) (v := .map (some MB)) rfl (by kernel_rfl) (by kernel_rfl) (by kernel_rfl) (by decide) (by kernel_rfl) (fun _ _ _ h => h) (Or.inl ⟨by rfl, ?_⟩) K0.out ?_
      · (intro w' hSw; obtain ⟨⟨s0, s1⟩, s2, s3, _⟩ := S0.out w' hSw; clear hSw; go_simp)
      (try simp only [List.getElem_toArray, List.getElem_cons_succ, List.getElem_cons_zero])
      go_frame
      refine wpAnyN_take (i := 6) (v := .agg #[.string Y1, .string Y2]) rfl (by kernel_rfl) (by kernel_rfl) (by kernel_rfl) (by decide) (by kernel_rfl) (fun _ _ _ h => h) (Or.inl ⟨by rfl, ?_⟩) K0.out ?_
      · (intro w' hSw; obtain ⟨⟨s0, s1⟩, s2, s3, _⟩ := S0.out w' hSw; clear hSw; go_simp)
      (try simp only [List.getElem_toArray, List.getElem_cons_succ, List.getElem_cons_zero])
      go_frame
      refine wpAnyN_take (i := 7) (v := .slice sa sn sc) rfl (by kernel_rfl) (by kernel_rfl) (by kernel_rfl) (by decide) (by kernel_rfl) (fun _ _ _ h => h) (Or.inl ⟨by rfl, ?_⟩) K0.out ?_
      · (intro w' hSw; obtain ⟨⟨s0, s1⟩, s2, s3, _⟩ := S0.out w' hSw; clear hSw; go_simp)
      (try simp only [List.getElem_toArray, List.getElem_cons_succ, List.getElem_cons_zero])
      go_frame
      refine wpAnyL_one (i := 8) (by kernel_rfl) rfl rfl ?_
      go_simp
      refine (iclone_any _ (.slice sa sn sc) pl (S0.out _ K0.out).2.2.2 HLP.out).mono ?_
      rintro e w6 ⟨u6, rfl, hu6, k6⟩
      have K6 := hid (show Kept w5 w6 from K0k.out.trans k6 (fun _ _ f => f))
      have K6o := hid (show Only (fun j => (Value.slice a3 n3 c3).ownBlock = some j) w5 w6 from K6.out.mono (fun _ _ f => f.elim))
      obtain ⟨a6, c6, e6⟩ := ownN_slice hu6
      generalize hn6 : pl.length = n6 at e6
      subst e6
      have K7 := hid (show Kept w5 (w6.alloc (.cells #[.string Y1, .string Y2, .slice a6 n6 c6] 38)) from K6.out.alloc _)
      have hlit : PvCells (w6.alloc (.cells #[.string Y1, .string Y2, .slice a6 n6 c6] 38)) (.slice (some ⟨w6.heap.size, 0, none⟩) 1 1) [⟨(Y1, Y2), .slice a6 n6 c6, pl⟩] := by
        have hb := Blk.new w6 [.string Y1, .string Y2, .slice a6 n6 c6] 38
        refine .inr ⟨w6.heap.size, 0, 1, rfl, fun i hi => ?_⟩
        have : i = 0 := by simpa using hi
        subst this
        exact ⟨hb.cell 0 rfl, hb.cell 1 rfl, hb.cell 2 rfl⟩
      have hpa : PvAt (w6.alloc (.cells #[.string Y1, .string Y2, .slice a6 n6 c6] 38)) w1.heap.size (.slice a3 n3 c3) qs := (HPa.out.stay K7.out).row
      obtain ⟨v7, w7, hr7, ho7, hg7, _⟩ := pv_append hpa hlit (fun q hq => by rw [List.mem_singleton.1 hq]; exact ⟨_, _, _, rfl⟩) (by simp; omega) (by have := K7.out.size; have := HKw.out.size; omega)
      have hO7 : Only (fun j => (Value.slice a3 n3 c3).ownBlock = some j) (w6.alloc (.cells #[.string Y1, .string Y2, .slice a6 n6 c6] 38)) w7 := (Only.refl _ _).grown hg7 (fun j e _ => e)
      have K7o := hid (show Only (fun j => (Value.slice a3 n3 c3).ownBlock = some j) w5 (w6.alloc (.cells #[.string Y1, .string Y2, .slice a6 n6 c6] 38)) from K7.out.mono (fun _ _ f => f.elim))
      have K8o := hid (show Only (fun j => (Value.slice a3 n3 c3).ownBlock = some j) w5 w7 from K7o.out.trans hO7 (fun _ _ e => e))
      have hu5 : NumAt (w6.alloc (.cells #[.string Y1, .string Y2, .slice a6 n6 c6] 38)) w5.heap.size (.slice a6 n6 c6) pl := by
        have h1 := ownN_stay hu6 ((Only.refl (fun _ => False) w6).alloc (.cells #[.string Y1, .string Y2, .slice a6 n6 c6] 38))
        exact h1
      have HM := hid (post_more (x := ⟨(Y1, Y2), .slice a6 n6 c6, pl⟩) HPa.out (by have := HKw.out.size; omega) K7.out hu5 ho7 hO7)
      have HRUN := hid hr7
      obtain ⟨a7, c7, e7⟩ := ownN_slice ho7
      generalize hn7 : (qs ++ [(⟨(Y1, Y2), .slice a6 n6 c6, pl⟩ : PV)]).length = n7 at e7
      subst e7
      have HN7 := hid hn7
      clear hu6 k6 hlit hpa hr7 ho7 hg7 hO7 hu5 hn7
      refine ⟨K6o.out, ?_⟩
      (try go_frame)
      refine wpAnyL_one (i := 9) (by kernel_rfl) rfl rfl ?_
      go_simp
      refine ⟨K6o.out, ?_⟩
      (try go_frame)
      refine wpAnyL_one (i := 10) (by kernel_rfl) rfl rfl ?_
      go_simp
      refine ⟨K7o.out, ?_⟩
      (try go_frame)
      refine wpAnyL_one (i := 11) (by kernel_rfl) rfl rfl (oper_appendH _ _ _ rfl rfl rfl HRUN ?_)
      refine ⟨K8o.out, ?_⟩
      (try go_frame)
      refine wpAnyL_one (i := 12) (by kernel_rfl) rfl rfl ?_
      go_simp
      refine ⟨K8o.out, ?_⟩
      (try go_frame)
      refine wpAnyN_done (by kernel_rfl) ?_
      refine NoPanic.normal ?_
      go_wp2_with fail
      go_roundw
      case rel =>
        refine ⟨k + 1, _, a7, n7, c7, by omega, by go_num, rfl, HN7.out.symm, HM.out.1, hid (HTK.out _), HKw.out.trans K8o.out (fun j hj e => ?_)⟩
        have := (HLOW.out j e).1
        omega
      case measure => simp [intOf]; omega
    · have e : k = N := by omega
      subst e
      have hq2 : qs.map postV = P := by
        rw [hqs.out, List.take_of_length_le (by have := HN.out; omega)]
      have HF := hid (HFIN.out (.slice a3 n3 c3) qs wr (hpo.base (by omega)) hq2 (HK1.out.trans kr (fun _ _ f => f)))
      clear hq2 hpo hqs
      go_wp2
      go_ret
      exact HF.out
end Go.Proofs.YtdgkdgbdkhnpcaaGreat.X

/-
  The document's own posts: what they are in plain words, and the rows that are laid.
-/
namespace Go.Proofs.YtdgkdgbdkhnpcaaGreat.X
open Go.RowKit Go.Proofs.Lys Go.Maps Go.Proofs.YtdgkdgbdkhnpcaaGreat.N
set_option linter.unusedVariables false
set_option linter.unusedSimpArgs false

theorem addP_at : ∀ (P : Posts) (k : Nat) (x : Lab) (i : Int) (hk : k < P.length), (∀ j (hj : j < k) (hj' : j < P.length), labC P[j].1 x = -1) → P[k].1 = x → addP x i P = P.set k (x, P[k].2 ++ [i]) := by
  intro P
  induction P with
  | nil => intro k x i hk; simp at hk
  | cons y r ih =>
    intro k x i hk hp he
    cases k with
    | zero =>
      have : y.1 = x := he
      rw [addP, if_pos this]
      rfl
    | succ k =>
      have h0 : labC y.1 x = -1 := hp 0 (by omega) (by simp)
      have h1 : ¬ y.1 = x := fun e => by rw [e] at h0; exact labC_irr x h0
      have h2 : ¬ labC x y.1 = -1 := fun e => labC_irr _ (labC_good.trans _ _ _ h0 e)
      rw [addP, if_neg h1, if_neg h2, ih k x i (by simpa using hk) (fun j hj hj' => by have := hp (j + 1) (by omega) (by simpa using hj'); simpa using this) (by simpa using he)]
      rfl
theorem addP_in : ∀ (P : Posts) (k : Nat) (x : Lab) (i : Int), k ≤ P.length → (∀ j (hj : j < k) (hj' : j < P.length), labC P[j].1 x = -1) → (∀ h : k < P.length, labC P[k].1 x = 1) → addP x i P = P.take k ++ (x, [i]) :: P.drop k := by
  intro P
  induction P with
  | nil => intro k x i hk _ _; simp [addP]
  | cons y r ih =>
    intro k x i hk hp he
    cases k with
    | zero =>
      have h0 : labC y.1 x = 1 := he (by simp)
      have h1 : ¬ y.1 = x := fun e => by rw [e] at h0; have := labC_good.self x; omega
      have h2 : labC x y.1 = -1 := by have := labC_good.anti x y.1; omega
      rw [addP, if_neg h1, if_pos h2]
      rfl
    | succ k =>
      have h0 : labC y.1 x = -1 := hp 0 (by omega) (by simp)
      have h1 : ¬ y.1 = x := fun e => by rw [e] at h0; exact labC_irr x h0
      have h2 : ¬ labC x y.1 = -1 := fun e => labC_irr _ (labC_good.trans _ _ _ h0 e)
      rw [addP, if_neg h1, if_neg h2, ih k x i (by simpa using hk) (fun j hj hj' => by have := hp (j + 1) (by omega) (by simpa using hj'); simpa using this) (fun h => by have := he (by simpa using h); simpa using this)]
      rfl
theorem cmpL_one (a b : Lab) : cmpL [a] [b] = labC a b := by
  show lexC labC [a] [b] = labC a b
  unfold lexC
  split
  · rfl
  · rename_i h
    simp only [ne_eq, Decidable.not_not] at h
    rw [h]
    rfl
theorem postV_set {P : Posts} {qs : List PV} (h : qs.map postV = P) {k : Nat} (hk : k < qs.length) (u : Value) (m : List Int) : (qs.set k ⟨qs[k].lab, u, m⟩).map postV = P.set k (qs[k].lab, m) := by
  rw [List.map_set, h]
  rfl
theorem pw_at {qs : List PV} (h : qs.Pairwise (fun a b => ∀ k, a.has k → ¬ b.has k)) {i j : Nat} (hi : i < qs.length) (hj : j < qs.length) (hne : i ≠ j) {k : Nat} (h1 : qs[i].has k) : ¬ qs[j].has k := by
  rw [List.pairwise_iff_getElem] at h
  rcases Nat.lt_or_ge i j with e | e
  · exact h i j hi hj e k h1
  · exact fun h2 => h j i hj hi (by omega) k h2 h1
/-- A number more in the list of a post. -/
theorem set_rows {W : World} {B g cap k : Nat} {qs : List PV} (h : PostAt W B (.slice (some ⟨g, 0, none⟩) qs.length cap) qs) (hB : B ≤ W.heap.size) (hk : k < qs.length) (hl : qs[k].l.length ≤ 100000) (i : Int) :
    ∃ la lc w2 v2, qs[k].lv = .slice la qs[k].l.length lc ∧ Hid ((Builtin.append_ #[36, 36] 0 #[.slice la qs[k].l.length lc, .slice (some ⟨W.heap.size, 0, none⟩) 1 1]).run Tryz.prog (W.alloc (.cells #[.int .i64 i] 3)) = .ok v2 w2) ∧ (∃ a n c, v2 = .slice a n c) ∧
      w2.frozen? ⟨g, k * 3 + 2, none⟩ = false ∧ (∃ u, w2.cell? ⟨g, k * 3 + 2, none⟩ = some u) ∧ Hid (PostAt (w2.setCell ⟨g, k * 3 + 2, none⟩ v2) B (.slice (some ⟨g, 0, none⟩) qs.length cap) (qs.set k ⟨qs[k].lab, v2, qs[k].l ++ [i]⟩) ∧ Only (fun j => B ≤ j) W (w2.setCell ⟨g, k * 3 + 2, none⟩ v2)) := by
  have hm : qs[k] ∈ qs := List.getElem_mem hk
  have hnum := h.num _ hm
  obtain ⟨la, lc, e⟩ := ownN_slice hnum
  have ka : Kept W (W.alloc (.cells #[.int .i64 i] 3)) := (Only.refl _ W).alloc _
  have hlit : SrcOf (W.alloc (.cells #[.int .i64 i] 3)) (.slice (some ⟨W.heap.size, 0, none⟩) 1 1) (([i] : List Int).map (Value.int .i64)) := by
    have hb := Blk.new W [.int .i64 i] 3
    refine .inr ⟨⟨W.heap.size, 0, none⟩, 1, rfl, fun j u hu => ?_⟩
    have : j = 0 := by have := (List.getElem?_eq_some_iff.1 hu).1; simpa using this
    subst this
    cases hu
    exact hb.cell 0 rfl
  have hna := ownN_stay hnum ka
  rw [e] at hna
  obtain ⟨v2, w2, hr, ho, hg, hloc⟩ := append_src (P := Tryz.prog) (base := B) Tryz.underlying36 Po.infoI6 rfl (by decide) hna hlit (Po.ints_one _) (by simp; omega) (Nat.le_trans hB ka.size)
  rw [List.length_map, ← List.map_append, ← List.length_append] at ho
  obtain ⟨a9, c9, e9⟩ := own_slice ho
  have k2 : Only (fun j => qs[k].has j) (W.alloc (.cells #[.int .i64 i] 3)) w2 := (Only.refl _ _).grown hg (fun j hj _ => by unfold PV.has; rw [e]; exact hj)
  have hrow2 : PvAt w2 B (.slice (some ⟨g, 0, none⟩) qs.length cap) qs := ownN_only (ownN_stay h.row ka) k2 (fun j hj hq => h.ne hm hq hj)
  obtain ⟨hf, hset⟩ := pv_set hrow2 hk v2 (qs[k].l ++ [i])
  have hS : Only (fun j => j = g) w2 (w2.setCell ⟨g, k * 3 + 2, none⟩ v2) := (Only.refl (fun j => j = g) w2).setCell (p := ⟨g, k * 3 + 2, none⟩) (fun _ => rfl) _
  have hgb : (Value.slice (some ⟨g, 0, none⟩) qs.length cap).ownBlock = some g := rfl
  have hBg := (ownN_lt h.row hgb).1
  have hc2 : ∃ u, w2.cell? ⟨g, k * 3 + 2, none⟩ = some u := by
    have := (pv_cells hrow2).cell rfl k hk
    obtain ⟨b, o, e2, _, _, h3⟩ := this
    cases e2
    rw [Nat.zero_add] at h3
    exact ⟨_, h3⟩
  have hv2g : v2.ownBlock ≠ some g := fun e2 => ((ownN_typed ho e2).ne (ownN_typed hrow2 hgb) (by decide)) rfl
  refine ⟨la, lc, w2, v2, e, hid hr, ⟨a9, _, c9, e9⟩, hf, hc2, hid (And.intro (PostAt.mk hset (fun y hy => ?_) ?_) ?_)⟩
  · obtain ⟨j, hj, rfl⟩ := List.getElem_of_mem hy
    rw [List.length_set] at hj
    rw [List.getElem_set]
    split
    · exact ownN_only ho hS (fun b hb e2 => hv2g (by rw [← e2]; exact hb))
    · rename_i hne
      refine ownN_only (ownN_only (ownN_stay (h.num _ (List.getElem_mem hj)) ka) k2 (fun b hb hq => pw_at h.apart hk hj (fun e2 => hne e2) hq hb)) hS (fun b hb e2 => ?_)
      exact h.ne (List.getElem_mem hj) hb (by rw [e2]; rfl)
  · rw [List.pairwise_iff_getElem]
    intro a b ha hb hab j h1 h2
    rw [List.length_set] at ha hb
    have hnew : ∀ (q : Nat) (hq : q < qs.length), q ≠ k → v2.ownBlock = some j → ¬ qs[q].has j := fun q hq hne hj hq2 => by
      rcases hloc with e2 | e2
      · rw [e2] at hj
        exact pw_at h.apart hk hq (fun e3 => hne e3.symm) (k := j) (by unfold PV.has; rw [e]; exact hj) hq2
      · rw [e2] at hj
        cases hj
        have h3 := (ownN_lt (h.num _ (List.getElem_mem hq)) hq2).2
        have := ka.size
        omega
    rw [List.getElem_set] at h1 h2
    split at h1
    · rename_i e1
      rw [if_neg (by omega)] at h2
      exact hnew b hb (by omega) h1 h2
    · rename_i e1
      split at h2
      · rename_i e2
        exact hnew a ha (by omega) h2 h1
      · exact pw_at h.apart ha hb (by omega) h1 h2
  · refine ((ka.mono (O' := fun j => B ≤ j) (fun _ _ f => f.elim)).trans k2 (fun j _ hq => (ownN_lt hnum hq).1)).trans hS (fun j _ e2 => by rw [e2]; exact hBg)
/-- A post more, in its place. -/
theorem ins_rows {W : World} {B : Nat} {v : Value} {qs : List PV} (h : PostAt W B v qs) (hB : B ≤ W.heap.size) (hl : qs.length ≤ 99000) (k : Nat) (hk : k ≤ qs.length) (y : Lab) (i : Int) :
    ∃ a1 a2 c2 a3 c3 w2 c4 w3 a5 c5 w4,
      Hid (∀ X, (Instr.sliceAt 34 v none (some (.int .i64 (k : Int))) (some (.int .i64 (k : Int)))).run Tryz.prog X = .ok (.slice a1 k k) X) ∧
      Hid (∀ X, (Instr.sliceAt 34 v (some (.int .i64 (k : Int))) none none).run Tryz.prog X = .ok (.slice a2 (qs.length - k) c2) X) ∧
      Hid ((Builtin.append_ #[34, 34] 0 #[.slice none 0 0, .slice a2 (qs.length - k) c2]).run Tryz.prog W = .ok (.slice a3 (qs.length - k) c3) w2) ∧
      Hid ((Builtin.append_ #[34, 34] 0 #[.slice a1 k k, .slice (some ⟨w2.heap.size + 1, 0, none⟩) 1 1]).run Tryz.prog ((w2.drew.alloc (.cells #[.int .i64 i] 3)).alloc (.cells #[.string y.1, .string y.2, .slice (some ⟨w2.heap.size, 0, none⟩) 1 1] 38)) = .ok (.slice (some ⟨w2.heap.size + 2, 0, none⟩) (k + 1) c4) w3) ∧
      Hid ((Builtin.append_ #[34, 34] 0 #[.slice (some ⟨w2.heap.size + 2, 0, none⟩) (k + 1) c4, .slice a3 (qs.length - k) c3]).run Tryz.prog w3 = .ok (.slice a5 (qs.length + 1) c5) w4) ∧
      Hid (PostAt w4 B (.slice a5 (qs.length + 1) c5) (qs.take k ++ ⟨y, .slice (some ⟨w2.heap.size, 0, none⟩) 1 1, [i]⟩ :: qs.drop k)) ∧ Hid (Kept W w4) ∧ Hid (Kept W w2) ∧ Hid (Kept w2 w3) ∧ Hid (Kept w2 w4) := by
  obtain ⟨a1, a2, c2, s1, e1, s2, e2⟩ := pv_cut h.row k hk
  have hlt : (qs.take k).length = k := by rw [List.length_take]; omega
  have hld : (qs.drop k).length = qs.length - k := List.length_drop
  have hpl : PvPlain (qs.drop k) := fun q hq => h.plain q (List.mem_of_mem_drop hq)
  obtain ⟨v3, w2, r3, o3, k2⟩ := pv_copy e2 hpl (by rw [hld]; omega)
  obtain ⟨a3, c3, e3⟩ := ownN_slice o3
  rw [hld] at e3
  subst e3
  obtain ⟨x, hx⟩ : ∃ x : PV, x = ⟨y, .slice (some ⟨w2.heap.size, 0, none⟩) 1 1, [i]⟩ := ⟨_, rfl⟩
  have hs1 : (w2.drew.alloc (.cells #[.int .i64 i] 3)).heap.size = w2.heap.size + 1 := by simp
  have hs2 : ((w2.drew.alloc (.cells #[.int .i64 i] 3)).alloc (.cells #[.string y.1, .string y.2, .slice (some ⟨w2.heap.size, 0, none⟩) 1 1] 38)).heap.size = w2.heap.size + 2 := by simp
  have ka : Kept w2 ((w2.drew.alloc (.cells #[.int .i64 i] 3)).alloc (.cells #[.string y.1, .string y.2, .slice (some ⟨w2.heap.size, 0, none⟩) 1 1] 38)) := (((Only.refl _ w2).drew).alloc _).alloc _
  have hnum : NumAt (w2.drew.alloc (.cells #[.int .i64 i] 3)) w2.heap.size x.lv x.l := by
    rw [hx]
    exact World.ownsRow_lit w2.drew #[.int .i64 i] 1 (Nat.le_refl _) (by decide) rfl
  have hnum2 := ownN_stay hnum ((Only.refl (fun _ => False) _).alloc (.cells #[.string y.1, .string y.2, .slice (some ⟨w2.heap.size, 0, none⟩) 1 1] 38))
  have hbx : Blk ((w2.drew.alloc (.cells #[.int .i64 i] 3)).alloc (.cells #[.string y.1, .string y.2, .slice (some ⟨w2.heap.size, 0, none⟩) 1 1] 38)) (w2.heap.size + 1) [.string x.lab.1, .string x.lab.2, x.lv] 38 := by
    rw [hx]
    have := Blk.new (w2.drew.alloc (.cells #[.int .i64 i] 3)) [.string y.1, .string y.2, .slice (some ⟨w2.heap.size, 0, none⟩) 1 1] 38
    rw [hs1] at this
    exact this
  obtain ⟨c4, w3, r4, o4, k4⟩ := pv_full ((e1.stay k2).stay ka) hlt (by omega) hbx
  rw [hs2] at r4 o4
  have h4 : (qs.take k ++ [x]).length = k + 1 := by rw [List.length_append, hlt]; rfl
  have k3 : Kept w2 w3 := ka.trans k4 (fun _ _ f => f)
  obtain ⟨v5, w4, r5, o5, g5, _⟩ := pv_append (q := qs.drop k) o4 ((pv_cells o3).stay k3) hpl (by rw [h4, hld]; omega) (by have := k4.size; omega)
  have h5 : (qs.take k ++ [x] ++ qs.drop k).length = qs.length + 1 := by rw [List.length_append, h4, hld]; omega
  have hO5 : Only (fun j => (Value.slice (some ⟨w2.heap.size + 2, 0, none⟩) (k + 1) c4).ownBlock = some j) w3 w4 := (Only.refl _ w3).grown g5 (fun j e _ => e)
  have h2o : ∀ j, (Value.slice (some ⟨w2.heap.size + 2, 0, none⟩) (k + 1) c4).ownBlock = some j → j = w2.heap.size + 2 := fun j hj => by simpa [Value.ownBlock] using hj.symm
  have k5 : Kept w2 w4 := k3.trans hO5 (fun j hj e => by have := h2o j e; omega)
  have hkW : Kept W w4 := k2.trans k5 (fun _ _ f => f)
  obtain ⟨a5, c5, e5⟩ := ownN_slice o5
  rw [h5] at e5
  subst e5
  have eqs : qs.take k ++ [x] ++ qs.drop k = qs.take k ++ x :: qs.drop k := by simp
  rw [eqs] at o5
  have hnum4 : NumAt w4 w2.heap.size x.lv x.l := ownN_only (ownN_stay hnum2 k4) hO5 (fun j hj e => by
    have h6 := h2o j e
    have h7 := (ownN_lt hnum2 hj).2
    omega)
  refine ⟨a1, a2, c2, a3, c3, w2, c4, w3, a5, c5, w4, s1, s2, r3, r4, r5, ?_, hkW, k2, k3, k5⟩
  rw [← hx]
  have hmem : ∀ q, q ∈ qs.take k ++ x :: qs.drop k → q = x ∨ q ∈ qs := fun q hq => by
    rcases List.mem_append.1 hq with e | e
    · exact .inr (List.mem_of_mem_take e)
    · rcases List.mem_cons.1 e with e | e
      · exact .inl e
      · exact .inr (List.mem_of_mem_drop e)
  have hfar : ∀ q ∈ qs, ∀ j, q.has j → ¬ x.has j := fun q hq j h1 h2 => by
    have h3 := (ownN_lt (h.num q hq) h1).2
    have h4 := (ownN_lt hnum4 h2).1
    have := k2.size
    omega
  have hb2 : B ≤ w2.heap.size := Nat.le_trans hB k2.size
  refine ⟨ownN_base o5 (by omega), fun q hq => ?_, ?_⟩
  · rcases hmem q hq with e | e
    · rw [e]
      exact ownN_base hnum4 hb2
    · exact ownN_stay (h.num q e) hkW
  · have hap := h.apart
    rw [← List.take_append_drop k qs] at hap
    have hz := List.pairwise_append.1 hap
    refine List.pairwise_append.2 ⟨hz.1, List.pairwise_cons.2 ⟨fun b hb j h1 h2 => hfar b (List.mem_of_mem_drop hb) j h2 h1, hz.2.1⟩, fun a ha b hb j h1 h2 => ?_⟩
    rcases List.mem_cons.1 hb with e | e
    · rw [e] at h2
      exact hfar a (List.mem_of_mem_take ha) j h1 h2
    · exact hz.2.2 a ha b e j h1 h2
end Go.Proofs.YtdgkdgbdkhnpcaaGreat.X

/-
  The document's own posts.
-/
namespace Go.Proofs.YtdgkdgbdkhnpcaaGreat.X
open Go.RowKit Go.Proofs.Lys Go.Maps Go.Proofs.YtdgkdgbdkhnpcaaGreat.N
set_option linter.unusedVariables false
set_option linter.unusedSimpArgs false

theorem wp_region_then2 {P : Program} {id : Nat} {ops : Array Oper} {b : Bool} {Q : Exit → Act → World → Prop} {a : Act} {w : World} {A : Nat → Nat → Act} (D : World → Prop)
    (h1 : (Code.region id ops b).wp P (fun e a' w' => e = .normal ∧ ∃ bl br, a' = A bl br ∧ D w') a w) (h2 : ∀ bl br w', D w' → Q .normal (A bl br) w') : (Code.region id ops b).wp P Q a w :=
  Code.wp_mono (fun e a' w' h => by obtain ⟨rfl, bl, br, rfl, hD⟩ := h; exact h2 bl br w' hD) h1
theorem pv_at {w : World} {B g n cap : Nat} {qs : List PV} (h : PvAt w B (.slice (some ⟨g, 0, none⟩) n cap) qs) (k : Nat) (hk : k < qs.length) :
    w.cell? ⟨g, k * 3, none⟩ = some (.string qs[k].lab.1) ∧ w.cell? ⟨g, k * 3 + 1, none⟩ = some (.string qs[k].lab.2) ∧ w.cell? ⟨g, k * 3 + 2, none⟩ = some qs[k].lv := by
  rcases (pv_cells h).len with ⟨a, c, e⟩
  obtain ⟨b, o, e2, h1, h2, h3⟩ := (pv_cells h).cell (by cases e; rfl) k (by cases e; exact hk)
  cases e2
  rw [Nat.zero_add] at h1 h2 h3
  exact ⟨h1, h2, h3⟩
theorem bd_posts (L : List Labs) (k : Nat) (hk : k ≤ L.length) : Bd (postsOf (L.take k)) (sumN (L.take k)) ∧ SortP (postsOf (L.take k)) := by
  induction k with
  | zero => rw [List.take_zero]; exact ⟨bd_nil, List.Pairwise.nil⟩
  | succ k ih =>
    have hlt : k < L.length := hk
    obtain ⟨h1, h2⟩ := ih (by omega)
    rw [posts_take hlt, ← List.take_append_getElem hlt, sumN_app]
    have key : ∀ j, j ≤ L[k].length → Bd (addS (postsOf (L.take k)) (k : Int) (L[k].take j)) (sumN (L.take k) + j) ∧ SortP (addS (postsOf (L.take k)) (k : Int) (L[k].take j)) := fun j => by
      induction j with
      | zero => intro _; exact ⟨h1, h2⟩
      | succ j ihj =>
        intro hj
        obtain ⟨g1, g2⟩ := ihj (by omega)
        rw [addS_take (show j < L[k].length from hj)]
        exact ⟨g1.add g2 _ _, addP_sort _ _ g2⟩
    have := key L[k].length (Nat.le_refl _)
    rw [List.take_length] at this
    exact this
theorem bd_inner (L : List Labs) (k : Nat) (hk : k < L.length) (j : Nat) (hj : j ≤ L[k].length) : Bd (addS (postsOf (L.take k)) (k : Int) (L[k].take j)) (sumN (L.take k) + j) ∧ SortP (addS (postsOf (L.take k)) (k : Int) (L[k].take j)) := by
  obtain ⟨h1, h2⟩ := bd_posts L k (by omega)
  induction j with
  | zero => exact ⟨h1, h2⟩
  | succ j ihj =>
    obtain ⟨g1, g2⟩ := ihj (by omega)
    rw [addS_take (show j < L[k].length from hj)]
    exact ⟨g1.add g2 _ _, addP_sort _ _ g2⟩
theorem sumN_le (L : List Labs) (k : Nat) : sumN (L.take k) ≤ sumN L := by
  induction L generalizing k with
  | nil => simp
  | cons l r ih =>
    cases k with
    | zero => simp [sumN]
    | succ k => rw [List.take_succ_cons, sumN, sumN]; have := ih k; omega
/-- What a label makes of the posts so far. -/
structure StepI (P : Posts) (y : Lab) (i : Int) (qs : List PV) : Prop where
  eq : qs.map postV = P
  len : qs.length ≤ 90000
  each : ∀ q ∈ qs, q.l.length ≤ 100000
theorem step_of {P : Posts} {m : Nat} {qs : List PV} (h : qs.map postV = P) (hb : Bd P m) (hs : SortP P) (hm : m ≤ 90000) (y : Lab) (i : Int) : StepI P y i qs := by
  refine ⟨h, ?_, fun q hq => ?_⟩
  · have := congrArg List.length h
    rw [List.length_map] at this
    have := hb.1
    omega
  · have hm2 : (q.lab, q.l) ∈ P := by rw [← h]; exact List.mem_map.2 ⟨q, hq, rfl⟩
    have h1 := hb.2 q.lab
    rw [look_sorted hs hm2] at h1
    omega
theorem StepI.set {P : Posts} {y : Lab} {i : Int} {qs : List PV} (h : StepI P y i qs) {k : Nat} (hk : k < qs.length) (hlow : ∀ j (hj : j < qs.length), j < k → labC qs[j].lab y = -1) (he : qs[k].lab = y) (u : Value) : (qs.set k ⟨qs[k].lab, u, qs[k].l ++ [i]⟩).map postV = addP y i P := by
  have hl : qs.length = P.length := by have := congrArg List.length h.eq; rw [List.length_map] at this; exact this
  have hat : ∀ j (hj : j < qs.length) (hj' : j < P.length), P[j] = (qs[j].lab, qs[j].l) := fun j hj hj' => by
    have : P[j]? = some (postV qs[j]) := by rw [← h.eq, List.getElem?_map, List.getElem?_eq_getElem hj]; rfl
    rw [List.getElem?_eq_getElem hj'] at this
    exact Option.some.inj this
  rw [postV_set h.eq hk, addP_at P k y i (by omega) (fun j hj hj' => by rw [hat j (by omega) hj']; exact hlow j (by omega) hj) (by rw [hat k hk (by omega)]; exact he), hat k hk (by omega), he]
theorem StepI.ins {P : Posts} {y : Lab} {i : Int} {qs : List PV} (h : StepI P y i qs) {k : Nat} (hk : k ≤ qs.length) (hlow : ∀ j (hj : j < qs.length), j < k → labC qs[j].lab y = -1) (he : ∀ hk : k < qs.length, labC qs[k].lab y = 1) (u : Value) : (qs.take k ++ ⟨y, u, [i]⟩ :: qs.drop k).map postV = addP y i P := by
  have hl : qs.length = P.length := by have := congrArg List.length h.eq; rw [List.length_map] at this; exact this
  have hat : ∀ j (hj : j < qs.length) (hj' : j < P.length), P[j] = (qs[j].lab, qs[j].l) := fun j hj hj' => by
    have : P[j]? = some (postV qs[j]) := by rw [← h.eq, List.getElem?_map, List.getElem?_eq_getElem hj]; rfl
    rw [List.getElem?_eq_getElem hj'] at this
    exact Option.some.inj this
  rw [addP_in P k y i (by omega) (fun j hj hj' => by rw [hat j (by omega) hj']; exact hlow j (by omega) hj) (fun hk' => by rw [hat k (by omega) hk']; exact he (by omega)), List.map_append, List.map_cons, List.map_take, List.map_drop, h.eq]
  rfl

set_option maxRecDepth 100000 in
set_option maxHeartbeats 12800000 in
theorem rposts_any (w : World) (v : Value) (L : List Labs) (hs : LSrc w v L) (hsum : sumN L ≤ 90000) (hlen : L.length ≤ 100000) (hll : ∀ l ∈ L, l.length ≤ 100000) :
    Calls Tryz.prog 17 #[v] w (PostsP w (postsOf L)) := by
  obtain ⟨av, c, rfl⟩ := hs.len
  obtain ⟨N, hN⟩ : ∃ N, L.length = N := ⟨_, rfl⟩
  rw [hN] at hlen hs ⊢
  have HN := hid hN
  have HS := hid hs
  have HLL := hid hll
  have HFIN : Hid (∀ v qs w', PostAt w' w.heap.size v qs → qs.map postV = postsOf L → Kept w w' → PostsP w (postsOf L) (.returned v) w') := fun v qs w' h1 h2 h3 => ⟨v, qs, rfl, h1, h2, h3⟩
  clear hs hN hll
  go_enter Tryz.func17, Tryz.ntmps17
  go_wp2
  go_loopw [3, 4] (fun s3 s4 wr => ∃ (i : Nat) (qs : List PV) (a : Option Addr) (n c : Nat), i ≤ N ∧ s4 = .int .i64 (i : Int) ∧ s3 = .slice a n c ∧ n = qs.length ∧ Hid (PostAt wr w.heap.size (.slice a n c) qs) ∧ Hid (qs.map postV = postsOf (L.take i)) ∧ Kept w wr) (fun _ s4 _ => N - (intOf s4).toNat)
  case atStart => exact ⟨0, [], none, 0, 0, by omega, rfl, rfl, rfl, hid (PostAt.nil _ _), hid (by simp [postsOf, addF]), Only.refl _ _⟩
  case round =>
    obtain ⟨i, qs0, a0, n0, c0, hi, rfl, rfl, hn0, hpo0, hqs0, kr0⟩ := hrel
    by_cases hlt : i < N
    · have hiL : i < L.length := by have := HN.out; omega
      obtain ⟨b, o, a', c', rfl, x0, hls⟩ := HS.out.cell HN.out i hlt
      have HX0 := hid (fun W (k : Kept w W) => cell_kept k x0)
      have HLS := hid hls
      have hNLl := HLL.out L[i] (List.getElem_mem hiL)
      obtain ⟨NL, hNL⟩ : ∃ NL, L[i].length = NL := ⟨_, rfl⟩
      rw [hNL] at HX0 HLS hNLl
      have HNL := hid hNL
      have HTAKE : Hid (addS (postsOf (L.take i)) (i : Int) (L[i].take NL) = postsOf (L.take (i + 1))) := by
        show addS (postsOf (L.take i)) (i : Int) (L[i].take NL) = postsOf (L.take (i + 1))
        rw [posts_take hiL, show L[i].take NL = L[i] from List.take_of_length_le (by omega)]
      have HSTEP : Hid (∀ k (hk : k < NL) qs, qs.map postV = addS (postsOf (L.take i)) (i : Int) (L[i].take k) → ∀ (hkl : k < L[i].length), StepI (addS (postsOf (L.take i)) (i : Int) (L[i].take k)) L[i][k] (i : Int) qs) := fun k hk qs hq hkl => by
        obtain ⟨g1, g2⟩ := bd_inner L i hiL k (by omega)
        have h3 := sumN_le L (i + 1)
        rw [← List.take_append_getElem hiL, sumN_app] at h3
        exact step_of hq g1 g2 (by omega) _ _
      clear x0 hls hNL
      go_wp2_with fail
      go_loopw [3, 5] (fun s3 s5 wr => ∃ (k : Nat) (qs : List PV) (a : Option Addr) (n c : Nat), k ≤ NL ∧ s5 = .int .i64 (k : Int) ∧ s3 = .slice a n c ∧ n = qs.length ∧ Hid (PostAt wr w.heap.size (.slice a n c) qs) ∧ Hid (qs.map postV = addS (postsOf (L.take i)) (i : Int) (L[i].take k)) ∧ Kept w wr) (fun _ s5 _ => NL - (intOf s5).toNat)
      case atStart => exact ⟨0, qs0, a0, n0, c0, by omega, rfl, rfl, hn0, hpo0, hid (by rw [List.take_zero]; exact hqs0.out), kr0⟩
      case round =>
        obtain ⟨k, qs, a1, n1, c1, hk, rfl, rfl, hn1, hpo, hqs, kr⟩ := hrel
        have x1 := HX0.out _ kr
        by_cases hkl : k < NL
        · have hkL : k < L[i].length := by have := HNL.out; omega
          obtain ⟨b2, o2, rfl, y1, y2⟩ := (HLS.out.stay kr).cell HNL.out k hkl
          have HST := hid (HSTEP.out k hkl qs hqs.out hkL)
          have HNEXT : Hid (∀ qs2 : List PV, qs2.map postV = addP L[i][k] (i : Int) (addS (postsOf (L.take i)) (i : Int) (L[i].take k)) → qs2.map postV = addS (postsOf (L.take i)) (i : Int) (L[i].take (k + 1))) := fun qs2 h => by rw [addS_take hkL]; exact h
          clear hqs hpo0 hqs0 kr0 hn0
          have HN1 := hid hn1
          clear hn1
          have hn1b : n1 ≤ 90000 := by have h1 := HST.out.len; have h2 := HN1.out; omega
          generalize L[i][k] = y at y1 y2 HST HNEXT
          obtain ⟨Y1, Y2⟩ := y
          simp only at y1 y2
          have ka : Kept wr (wr.alloc (.cells #[.string Y1, .string Y2] 27)) := (Only.refl _ wr).alloc _
          have hbm := Blk.new wr [.string Y1, .string Y2] 27
          have HBM := hid hbm
          have HPO := hid (hpo.out.stay ka)
          have HK8 := hid (kr.trans ka (fun _ _ f => f))
          have hsz8 : (wr.alloc (.cells #[.string Y1, .string Y2] 27)).heap.size = wr.heap.size + 1 := by simp
          have hszw := kr.size
          clear ka hbm hpo
          go_wp2_with fail
          generalize wr.alloc (.cells #[.string Y1, .string Y2] 27) = w8 at HBM HPO HK8 hsz8 ⊢
          generalize wr.heap.size = B8 at *
          clear kr x1 y1 y2
          go_loopw [7] (fun s7 wr => ∃ t : Nat, t ≤ n1 ∧ s7 = .int .i64 (t : Int) ∧ Hid (∀ j (hj : j < qs.length), j < t → labC qs[j].lab (Y1, Y2) = -1) ∧ Kept w8 wr) (fun s7 _ => n1 - (intOf s7).toNat)
          case atStart => exact ⟨0, by omega, rfl, hid (fun j _ h => by omega), Only.refl _ _⟩
          case round =>
            obtain ⟨t, ht, rfl, hlow, kr3⟩ := hrel
            have K3 := hid kr3
            have bx := K3.out.blk HBM.out (fun f => f)
            have z0 := bx.cell 0 rfl
            have z1 := bx.cell 1 rfl
            by_cases htn : t < n1
            · have htq : t < qs.length := by have := HN1.out; omega
              obtain ⟨g, cap, eg⟩ := ownN_some HPO.out.row (by omega)
              simp only [Value.slice.injEq] at eg
              have eg1 := eg.1
              clear eg
              subst eg1
              obtain ⟨p0, p1, p2⟩ := pv_at (HPO.out.stay kr3).row t htq
              obtain ⟨r, hr⟩ : ∃ r, labC qs[t].lab (Y1, Y2) = r := ⟨_, rfl⟩
              have HR := hid hr
              have hrr := labC_good.rng qs[t].lab (Y1, Y2)
              rw [hr] at hrr
              have HLAB := hid (show labC qs[t].lab (Y1, Y2) = 0 → qs[t].lab = (Y1, Y2) from labC_good.zero _ _)
              have hn := fun W => eql_lab qs[t].lab (Y1, Y2) W
              have HCMP := hid (fun W va vb (h1 : LabSrc W va [qs[t].lab]) (h2 : LabSrc W vb [(Y1, Y2)]) => rcmp_any W va vb _ _ h1 h2 (by simp) (by simp))
              rw [cmpL_one, hr] at HCMP
              have HDL := hid (show decide (qs[t].lab = (Y1, Y2)) = true ↔ qs[t].lab = (Y1, Y2) from decide_eq_true_iff)
              clear hr
              generalize hXX : qs[t].lab = XX at p0 p1 hn HCMP HLAB HR HDL
              have HXX := hid hXX
              clear hXX
              obtain ⟨X1, X2⟩ := XX
              simp only at p0 p1 hn
              go_wp2_with fail
              have S0 := hid (fun (W : World) (kW : Kept wr W) => (show W.cell? ⟨g, t * 3, none⟩ = some (.string X1) ∧ W.cell? ⟨g, t * 3 + 1, none⟩ = some (.string X2) ∧ W.cell? ⟨B8, 0, none⟩ = some (.string Y1) ∧ W.cell? ⟨B8, 1, none⟩ = some (.string Y2) from ⟨cell_kept kW p0, cell_kept kW p1, cell_kept kW z0, cell_kept kW z1⟩))
              have K0 := hid (show Kept wr wr.drew from (Only.refl _ _).drew)
              have dtn : decide ((t : Int) < (n1 : Int)) = true := decide_eq_true (by omega)
              clear p0 p1 p2 z0 z1 bx kr3
              have GOAL := True.intro
              apply wp_region_then2 (D := fun X5 => Kept wr X5)
              case h1 =>
                refine wp_region_noPanic ?_
                refine wp_region_last (L := 1000) (S := fun w' => Kept wr w') (by kernel_rfl) ?_
                refine wpAnyN_take (i := 0) (v := .int .i64 (t : Int)) rfl (by kernel_rfl) (by kernel_rfl) (by kernel_rfl) (by decide) (by kernel_rfl) (fun _ _ _ h => h) (Or.inl ⟨by kernel_rfl, ?_⟩) K0.out ?_
                · (intro w' hSw; obtain ⟨s0, s1, s2, s3⟩ := S0.out w' hSw; clear hSw; go_simp)
                (try simp only [List.getElem_toArray, List.getElem_cons_succ, List.getElem_cons_zero])
                go_frame
                refine wpAnyN_take (i := 1) (v := .slice (some ⟨g, 0, none⟩) n1 c1) rfl (by kernel_rfl) (by kernel_rfl) (by kernel_rfl) (by decide) (by kernel_rfl) (fun _ _ _ h => h) (Or.inl ⟨by kernel_rfl, ?_⟩) K0.out ?_
                · (intro w' hSw; obtain ⟨s0, s1, s2, s3⟩ := S0.out w' hSw; clear hSw; go_simp)
                (try simp only [List.getElem_toArray, List.getElem_cons_succ, List.getElem_cons_zero])
                go_frame
                refine wpAnyN_take (i := 2) (v := .int .i64 (n1 : Int)) rfl (by kernel_rfl) (by kernel_rfl) (by kernel_rfl) (by decide) (by kernel_rfl) (fun _ _ _ h => h) (Or.inl ⟨by kernel_rfl, ?_⟩) K0.out ?_
                · (intro w' hSw; obtain ⟨s0, s1, s2, s3⟩ := S0.out w' hSw; clear hSw; go_simp)
                (try simp only [List.getElem_toArray, List.getElem_cons_succ, List.getElem_cons_zero])
                go_frame
                refine wpAnyN_take (i := 3) (v := .bool true) rfl (by kernel_rfl) (by kernel_rfl) (by kernel_rfl) (by decide) (by kernel_rfl) (fun _ _ _ h => h) (Or.inl ⟨by kernel_rfl, ?_⟩) K0.out ?_
                · (intro w' hSw; obtain ⟨s0, s1, s2, s3⟩ := S0.out w' hSw; clear hSw; go_simp)
                (try simp only [List.getElem_toArray, List.getElem_cons_succ, List.getElem_cons_zero])
                go_frame
                refine wpAnyN_take (i := 4) (v := .bool true) rfl (by kernel_rfl) (by kernel_rfl) (by kernel_rfl) (by decide) (by kernel_rfl) (fun _ _ _ h => h) (Or.inl ⟨by kernel_rfl, ?_⟩) K0.out ?_
                · (intro w' hSw; obtain ⟨s0, s1, s2, s3⟩ := S0.out w' hSw; clear hSw; go_simp)
                (try simp only [List.getElem_toArray, List.getElem_cons_succ, List.getElem_cons_zero])
                go_frame
                refine wpAnyN_take (i := 5) (v := .slice (some ⟨g, 0, none⟩) n1 c1) rfl (by kernel_rfl) (by kernel_rfl) (by kernel_rfl) (by decide) (by kernel_rfl) (fun _ _ _ h => h) (Or.inl ⟨by kernel_rfl, ?_⟩) K0.out ?_
                · (intro w' hSw; obtain ⟨s0, s1, s2, s3⟩ := S0.out w' hSw; clear hSw; go_simp)
                (try simp only [List.getElem_toArray, List.getElem_cons_succ, List.getElem_cons_zero])
                go_frame
                refine wpAnyN_take (i := 6) (v := .int .i64 (t : Int)) rfl (by kernel_rfl) (by kernel_rfl) (by kernel_rfl) (by decide) (by kernel_rfl) (fun _ _ _ h => h) (Or.inl ⟨by kernel_rfl, ?_⟩) K0.out ?_
                · (intro w' hSw; obtain ⟨s0, s1, s2, s3⟩ := S0.out w' hSw; clear hSw; go_simp)
                (try simp only [List.getElem_toArray, List.getElem_cons_succ, List.getElem_cons_zero])
                go_frame
                refine wpAnyN_take (i := 7) (v := .pointer (some ⟨g, t * 3, none⟩)) rfl (by kernel_rfl) (by kernel_rfl) (by kernel_rfl) (by decide) (by kernel_rfl) (fun _ _ _ h => h) (Or.inl ⟨by kernel_rfl, ?_⟩) K0.out ?_
                · (intro w' hSw; obtain ⟨s0, s1, s2, s3⟩ := S0.out w' hSw; clear hSw; go_simp)
                (try simp only [List.getElem_toArray, List.getElem_cons_succ, List.getElem_cons_zero])
                go_frame
                refine wpAnyN_take (i := 8) (v := .pointer (some ⟨g, t * 3, none⟩)) rfl (by kernel_rfl) (by kernel_rfl) (by kernel_rfl) (by decide) (by kernel_rfl) (fun _ _ _ h => h) (Or.inl ⟨by kernel_rfl, ?_⟩) K0.out ?_
                · (intro w' hSw; obtain ⟨s0, s1, s2, s3⟩ := S0.out w' hSw; clear hSw; go_simp)
                (try simp only [List.getElem_toArray, List.getElem_cons_succ, List.getElem_cons_zero])
                go_frame
                refine wpAnyN_take (i := 9) (v := .agg #[.string X1, .string X2]) rfl (by kernel_rfl) (by kernel_rfl) (by kernel_rfl) (by decide) (by kernel_rfl) (fun _ _ _ h => h) (Or.inl ⟨by kernel_rfl, ?_⟩) K0.out ?_
                · (intro w' hSw; obtain ⟨s0, s1, s2, s3⟩ := S0.out w' hSw; clear hSw; go_simp)
                (try simp only [List.getElem_toArray, List.getElem_cons_succ, List.getElem_cons_zero])
                go_frame
                refine wpAnyN_take (i := 11) (v := .agg #[.string Y1, .string Y2]) rfl (by kernel_rfl) (by kernel_rfl) (by kernel_rfl) (by decide) (by kernel_rfl) (fun _ _ _ h => h) (Or.inl ⟨by kernel_rfl, ?_⟩) K0.out ?_
                · (intro w' hSw; obtain ⟨s0, s1, s2, s3⟩ := S0.out w' hSw; clear hSw; go_simp)
                (try simp only [List.getElem_toArray, List.getElem_cons_succ, List.getElem_cons_zero])
                go_frame
                refine wpAnyL_two (i := 10) (j := 12) (by kernel_rfl) rfl rfl (by kernel_rfl) (by kernel_rfl) ?_ ?_
                · go_simp
                  have KA := hid (show Kept wr (wr.drew.alloc (.cells #[.string X1, .string X2] 27)) from K0.out.alloc _)
                  refine ⟨KA.out, ?_⟩
                  (try go_frame)
                  refine wpAnyL_one (i := 12) (by kernel_rfl) rfl (by kernel_rfl) ?_
                  go_simp
                  have K6 := hid (show Kept wr ((wr.drew.alloc (.cells #[.string X1, .string X2] 27)).alloc (.cells #[.string Y1, .string Y2] 27)) from KA.out.alloc _)
                  refine ⟨K6.out, ?_⟩
                  (try go_frame)
                  have h1 : LabSrc ((wr.drew.alloc (.cells #[.string X1, .string X2] 27)).alloc (.cells #[.string Y1, .string Y2] 27)) (.slice (some ⟨wr.heap.size, 0, none⟩) 1 1) [(X1, X2)] := (lab_lit wr.drew (X1, X2)).stay ((Only.refl _ _).alloc _)
                  have h2 : LabSrc ((wr.drew.alloc (.cells #[.string X1, .string X2] 27)).alloc (.cells #[.string Y1, .string Y2] 27)) (.slice (some ⟨wr.heap.size + 1, 0, none⟩) 1 1) [(Y1, Y2)] := by
                    have := lab_lit (wr.drew.alloc (.cells #[.string X1, .string X2] 27)) (Y1, Y2)
                    simpa using this
                  have H1 := hid h1
                  have H2 := hid h2
                  clear h1 h2
                  refine wpAnyL_one (i := 13) (by kernel_rfl) rfl (by kernel_rfl) ?_
                  go_simp
                  refine (HCMP.out _ _ _ (H1.out) (H2.out)).mono ?_
                  rintro e X7 ⟨rfl, k7⟩
                  have K7 := hid (show Kept wr X7 from K6.out.trans k7 (fun _ _ f => f))
                  clear k7
                  refine ⟨K7.out, ?_⟩
                  (try go_frame)
                  refine wpAnyL_one (i := 14) (by kernel_rfl) rfl (by kernel_rfl) ?_
                  go_simp
                  refine ⟨K7.out, ?_⟩
                  (try go_frame)
                  refine wpAnyL_one (i := 15) (by kernel_rfl) rfl (by kernel_rfl) ?_
                  go_simp
                  refine ⟨K7.out, ?_⟩
                  (try go_frame)
                  refine wpAnyN_done (by kernel_rfl) ?_
                  refine NoPanic.normal ?_
                  generalize wr.heap.size + 1 = br
                  generalize wr.heap.size = bl
                  exact ⟨rfl, ⟨bl, br, rfl⟩, K7.out⟩
                · go_simp
                  have KA := hid (show Kept wr (wr.drew.alloc (.cells #[.string Y1, .string Y2] 27)) from K0.out.alloc _)
                  refine ⟨KA.out, ?_⟩
                  (try go_frame)
                  refine wpAnyL_one (i := 10) (by kernel_rfl) rfl (by kernel_rfl) ?_
                  go_simp
                  have K6 := hid (show Kept wr ((wr.drew.alloc (.cells #[.string Y1, .string Y2] 27)).alloc (.cells #[.string X1, .string X2] 27)) from KA.out.alloc _)
                  refine ⟨K6.out, ?_⟩
                  (try go_frame)
                  have h1 : LabSrc ((wr.drew.alloc (.cells #[.string Y1, .string Y2] 27)).alloc (.cells #[.string X1, .string X2] 27)) (.slice (some ⟨wr.heap.size, 0, none⟩) 1 1) [(Y1, Y2)] := (lab_lit wr.drew (Y1, Y2)).stay ((Only.refl _ _).alloc _)
                  have h2 : LabSrc ((wr.drew.alloc (.cells #[.string Y1, .string Y2] 27)).alloc (.cells #[.string X1, .string X2] 27)) (.slice (some ⟨wr.heap.size + 1, 0, none⟩) 1 1) [(X1, X2)] := by
                    have := lab_lit (wr.drew.alloc (.cells #[.string Y1, .string Y2] 27)) (X1, X2)
                    simpa using this
                  have H1 := hid h1
                  have H2 := hid h2
                  clear h1 h2
                  refine wpAnyL_one (i := 13) (by kernel_rfl) rfl (by kernel_rfl) ?_
                  go_simp
                  refine (HCMP.out _ _ _ (H2.out) (H1.out)).mono ?_
                  rintro e X7 ⟨rfl, k7⟩
                  have K7 := hid (show Kept wr X7 from K6.out.trans k7 (fun _ _ f => f))
                  clear k7
                  refine ⟨K7.out, ?_⟩
                  (try go_frame)
                  refine wpAnyL_one (i := 14) (by kernel_rfl) rfl (by kernel_rfl) ?_
                  go_simp
                  refine ⟨K7.out, ?_⟩
                  (try go_frame)
                  refine wpAnyL_one (i := 15) (by kernel_rfl) rfl (by kernel_rfl) ?_
                  go_simp
                  refine ⟨K7.out, ?_⟩
                  (try go_frame)
                  refine wpAnyN_done (by kernel_rfl) ?_
                  refine NoPanic.normal ?_
                  first | exact ⟨rfl, ⟨_, _, rfl⟩, K7.out⟩ | exact ⟨rfl, _, _, rfl, K7.out⟩ | exact ⟨rfl, K7.out⟩ | trace_state
              case h2 =>
                intro bl br X5 hD
                have K5a := hid hD
                have K5 := hid (show Kept w8 X5 from K3.out.trans hD (fun _ _ f => f))
                obtain ⟨p0, p1, z0, z1⟩ := S0.out X5 hD
                clear hD
                rcases hrr with rfl | rfl | rfl
                · have HL1 : Hid (∀ j (hj : j < qs.length), j < t + 1 → labC qs[j].lab (Y1, Y2) = -1) := fun j hj h => by
                    by_cases e : j = t
                    · subst e
                      rw [HXX.out]
                      exact HR.out
                    · exact hlow.out j hj (by omega)
                  clear hn p0 p1 z0 z1
                  go_wp2_with fail
                  go_roundw
                  case rel => exact ⟨t + 1, by omega, by go_num, HL1, K5.out⟩
                  case measure => simp [intOf]; omega
                · have hXY := HLAB.out HR.out
                  rw [HDL.out.2 hXY] at hn
                  have HXY := hid hXY
                  clear hXY
                  go_wp2_with fail
                  go_quiet (fail)
                  have K6 := hid (show Kept w8 (X5.drewN nq) from kept_drewN K5.out nq)
                  generalize X5.drewN nq = X6 at K6 ⊢
                  clear p0 p1 z0 z1 hn
                  have bx6 := K6.out.blk HBM.out (fun f => f)
                  have z0 := bx6.cell 0 rfl
                  have z1 := bx6.cell 1 rfl
                  clear bx6
                  obtain ⟨_, _, p2⟩ := pv_at (HPO.out.stay K6.out).row t htq
                  have hst := set_rows (k := t) (by rw [← HN1.out]; exact HPO.out.stay K6.out) (by have := K6.out.size; omega) htq (HST.out.each _ (List.getElem_mem htq)) (i : Int)
                  rw [← HN1.out] at hst
                  obtain ⟨la, lc, w9, v9, e9, hr9, ⟨a9, m9, c9, rfl⟩, hf9, ⟨u9, hc9⟩, hfin9⟩ := hst
                  have HQ := hid (HNEXT.out _ (HST.out.set htq hlow.out (by rw [HXX.out]; exact HXY.out) (.slice a9 m9 c9)))
                  have HK9 := hid (show Kept w (w9.setCell ⟨g, t * 3 + 2, none⟩ (.slice a9 m9 c9)) from (HK8.out.trans K6.out (fun _ _ f => f)).trans hfin9.out.2 (fun j hj e => by omega))
                  have HLQ : Hid (n1 = (qs.set t ⟨qs[t].lab, .slice a9 m9 c9, qs[t].l ++ [(i : Int)]⟩).length) := by rw [List.length_set]; exact HN1
                  rw [e9] at p2
                  generalize qs[t].l.length = m8 at p2 hr9
                  clear e9 z0 z1
                  go_wp2_with (at_builtin; refine Lys.wpList_append_run rfl _ _ _ rfl rfl rfl hr9 ?_)
                  go_wp2_with fail
                  go_roundw
                  case rel => exact ⟨k + 1, _, some ⟨g, 0, none⟩, n1, c1, by omega, by go_num, rfl, HLQ.out, hfin9.out.1, HQ, HK9.out⟩
                  case measure => simp [intOf]; omega
                · have hXY : ¬ (X1, X2) = (Y1, Y2) := fun e => by
                    have h1 := HR.out
                    rw [e] at h1
                    have := labC_good.self (Y1, Y2)
                    omega
                  rw [decide_eq_false hXY] at hn
                  have HNE : Hid (∀ h : t < qs.length, labC qs[t].lab (Y1, Y2) = 1) := fun h => by rw [HXX.out]; exact HR.out
                  clear hXY
                  go_wp2_with fail
                  go_quiet (fail)
                  have K6 := hid (show Kept w8 (X5.drewN nq) from kept_drewN K5.out nq)
                  generalize X5.drewN nq = X6 at K6 ⊢
                  clear p0 p1 z0 z1 hn
                  have bx6 := K6.out.blk HBM.out (fun f => f)
                  have z0 := bx6.cell 0 rfl
                  have z1 := bx6.cell 1 rfl
                  clear bx6
                  have hins := ins_rows (HPO.out.stay K6.out) (by have := K6.out.size; omega) (by have := HST.out.len; omega) t (by have := HN1.out; omega) (Y1, Y2) (i : Int)
                  rw [← HN1.out] at hins
                  obtain ⟨b1, b2, d2, b3, c3, w2, c4, w3, b5, c5, w4, hs1, hs2, hr3, hr4, hr5, hp4, hk4, hk2, hk23, hk24⟩ := hins
                  have HQ := hid (HNEXT.out _ (HST.out.ins (k := t) (by have := HN1.out; omega) hlow.out HNE.out (.slice (some ⟨w2.heap.size, 0, none⟩) 1 1)))
                  have HK9 := hid (show Kept w w4 from (HK8.out.trans K6.out (fun _ _ f => f)).trans hk4.out (fun _ _ f => f))
                  have HLQ : Hid (n1 + 1 = (qs.take t ++ (⟨(Y1, Y2), .slice (some ⟨w2.heap.size, 0, none⟩) 1 1, [(i : Int)]⟩ : PV) :: qs.drop t).length) := by
                    rw [List.length_append, List.length_cons, List.length_take, List.length_drop]
                    exact hid (by have := HN1.out; omega)
                  have S0i := hid (fun (W : World) (kW : Kept w2 W) => (show W.cell? ⟨B8, 0, none⟩ = some (.string Y1) ∧ W.cell? ⟨B8, 1, none⟩ = some (.string Y2) from ⟨cell_kept (hk2.out.trans kW (fun _ _ f => f)) z0, cell_kept (hk2.out.trans kW (fun _ _ f => f)) z1⟩))
                  generalize n1 - t = m3 at hs2 hr3 hr5
                  have sl2 := hs2.out
                  go_wp2_with (at_builtin; refine Lys.wpList_append_run rfl _ _ _ rfl rfl rfl hr3 ?_)
                  (try go_wp2_with fail)
                  clear sl2 z0 z1
                  have K0i := hid (show Kept w2 w2.drew from (Only.refl _ _).drew)
                  refine wp_region_noPanic ?_
                  refine wp_region_last (L := 1000) (S := fun w' => Kept w2 w') (by kernel_rfl) ?_
                  refine wpAnyN_take (i := 0) (v := .slice (some ⟨g, 0, none⟩) n1 c1) rfl (by kernel_rfl) (by kernel_rfl) (by kernel_rfl) (by decide) (by kernel_rfl) (fun _ _ _ h => h) (Or.inl ⟨by kernel_rfl, ?_⟩) K0i.out ?_
                  · (intro w' hSw; obtain ⟨s0, s1⟩ := S0i.out w' hSw; have sl := hs1.out; clear hSw; go_simp)
                  (try simp only [List.getElem_toArray, List.getElem_cons_succ, List.getElem_cons_zero])
                  go_frame
                  refine wpAnyN_take (i := 1) (v := .int .i64 (t : Int)) rfl (by kernel_rfl) (by kernel_rfl) (by kernel_rfl) (by decide) (by kernel_rfl) (fun _ _ _ h => h) (Or.inl ⟨by kernel_rfl, ?_⟩) K0i.out ?_
                  · (intro w' hSw; obtain ⟨s0, s1⟩ := S0i.out w' hSw; have sl := hs1.out; clear hSw; go_simp)
                  (try simp only [List.getElem_toArray, List.getElem_cons_succ, List.getElem_cons_zero])
                  go_frame
                  refine wpAnyN_take (i := 2) (v := .int .i64 (t : Int)) rfl (by kernel_rfl) (by kernel_rfl) (by kernel_rfl) (by decide) (by kernel_rfl) (fun _ _ _ h => h) (Or.inl ⟨by kernel_rfl, ?_⟩) K0i.out ?_
                  · (intro w' hSw; obtain ⟨s0, s1⟩ := S0i.out w' hSw; have sl := hs1.out; clear hSw; go_simp)
                  (try simp only [List.getElem_toArray, List.getElem_cons_succ, List.getElem_cons_zero])
                  go_frame
                  refine wpAnyN_take (i := 3) (v := .slice b1 t t) rfl (by kernel_rfl) (by kernel_rfl) (by kernel_rfl) (by decide) (by kernel_rfl) (fun _ _ _ h => h) (Or.inl ⟨by kernel_rfl, ?_⟩) K0i.out ?_
                  · (intro w' hSw; obtain ⟨s0, s1⟩ := S0i.out w' hSw; have sl := hs1.out; clear hSw; go_simp)
                  (try simp only [List.getElem_toArray, List.getElem_cons_succ, List.getElem_cons_zero])
                  go_frame
                  refine wpAnyN_take (i := 4) (v := .agg #[.string Y1, .string Y2]) rfl (by kernel_rfl) (by kernel_rfl) (by kernel_rfl) (by decide) (by kernel_rfl) (fun _ _ _ h => h) (Or.inl ⟨by kernel_rfl, ?_⟩) K0i.out ?_
                  · (intro w' hSw; obtain ⟨s0, s1⟩ := S0i.out w' hSw; have sl := hs1.out; clear hSw; go_simp)
                  (try simp only [List.getElem_toArray, List.getElem_cons_succ, List.getElem_cons_zero])
                  go_frame
                  refine wpAnyN_take (i := 5) (v := .int .i64 (i : Int)) rfl (by kernel_rfl) (by kernel_rfl) (by kernel_rfl) (by decide) (by kernel_rfl) (fun _ _ _ h => h) (Or.inl ⟨by kernel_rfl, ?_⟩) K0i.out ?_
                  · (intro w' hSw; obtain ⟨s0, s1⟩ := S0i.out w' hSw; have sl := hs1.out; clear hSw; go_simp)
                  (try simp only [List.getElem_toArray, List.getElem_cons_succ, List.getElem_cons_zero])
                  go_frame
                  refine wpAnyN_take (i := 10) (v := .slice b3 m3 c3) rfl (by kernel_rfl) (by kernel_rfl) (by kernel_rfl) (by decide) (by kernel_rfl) (fun _ _ _ h => h) (Or.inl ⟨by kernel_rfl, ?_⟩) K0i.out ?_
                  · (intro w' hSw; obtain ⟨s0, s1⟩ := S0i.out w' hSw; have sl := hs1.out; clear hSw; go_simp)
                  (try simp only [List.getElem_toArray, List.getElem_cons_succ, List.getElem_cons_zero])
                  go_frame
                  refine wpAnyL_one (i := 6) (by kernel_rfl) rfl (by kernel_rfl) ?_
                  go_simp
                  have KA := hid (show Kept w2 (w2.drew.alloc (.cells #[.int .i64 (i : Int)] 3)) from K0i.out.alloc _)
                  refine ⟨KA.out, ?_⟩
                  (try go_frame)
                  refine wpAnyL_one (i := 7) (by kernel_rfl) rfl (by kernel_rfl) ?_
                  go_simp
                  refine ⟨KA.out, ?_⟩
                  (try go_frame)
                  refine wpAnyL_one (i := 8) (by kernel_rfl) rfl (by kernel_rfl) ?_
                  go_simp
                  have KB := hid (show Kept w2 ((w2.drew.alloc (.cells #[.int .i64 (i : Int)] 3)).alloc (.cells #[.string Y1, .string Y2, .slice (some ⟨w2.heap.size, 0, none⟩) 1 1] 38)) from KA.out.alloc _)
                  refine ⟨KB.out, ?_⟩
                  (try go_frame)
                  refine wpAnyL_one (i := 9) (by kernel_rfl) rfl (by kernel_rfl) (oper_appendH _ _ _ rfl rfl rfl hr4 ?_)
                  refine ⟨hk23.out, ?_⟩
                  (try go_frame)
                  refine wpAnyL_one (i := 11) (by kernel_rfl) rfl (by kernel_rfl) (oper_appendH _ _ _ rfl rfl rfl hr5 ?_)
                  refine ⟨hk24.out, ?_⟩
                  (try go_frame)
                  refine wpAnyL_one (i := 12) (by kernel_rfl) rfl (by kernel_rfl) ?_
                  go_simp
                  refine ⟨hk24.out, ?_⟩
                  (try go_frame)
                  refine wpAnyN_done (by kernel_rfl) ?_
                  refine NoPanic.normal ?_
                  go_wp2_with fail
                  go_roundw
                  case rel => exact ⟨k + 1, _, b5, n1 + 1, c5, by omega, by go_num, rfl, HLQ.out, hp4, HQ, HK9.out⟩
                  case measure => simp [intOf]; omega
            · obtain rfl : t = n1 := by omega
              go_wp2_with fail
              go_quiet (fail)
              have K5 := hid (show Kept w8 (wr.drewN nq) from kept_drewN kr3 nq)
              generalize wr.drewN nq = X5 at K5 ⊢
              clear z0 z1 bx kr3
              have bx := K5.out.blk HBM.out (fun f => f)
              have z0 := bx.cell 0 rfl
              have z1 := bx.cell 1 rfl
              clear bx
              have HNE : Hid (∀ h : t < qs.length, labC qs[t].lab (Y1, Y2) = 1) := fun h => by have := HN1.out; omega
              go_wp2_with fail
              go_quiet (fail)
              have K6 := hid (show Kept w8 (X5.drewN nq) from kept_drewN K5.out nq)
              generalize X5.drewN nq = X6 at K6 ⊢
              clear z0 z1
              have bx6 := K6.out.blk HBM.out (fun f => f)
              have z0 := bx6.cell 0 rfl
              have z1 := bx6.cell 1 rfl
              clear bx6
              have hins := ins_rows (HPO.out.stay K6.out) (by have := K6.out.size; omega) (by have := HST.out.len; omega) t (by have := HN1.out; omega) (Y1, Y2) (i : Int)
              rw [← HN1.out] at hins
              obtain ⟨b1, b2, d2, b3, c3, w2, c4, w3, b5, c5, w4, hs1, hs2, hr3, hr4, hr5, hp4, hk4, hk2, hk23, hk24⟩ := hins
              have HQ := hid (HNEXT.out _ (HST.out.ins (k := t) (by have := HN1.out; omega) hlow.out HNE.out (.slice (some ⟨w2.heap.size, 0, none⟩) 1 1)))
              have HK9 := hid (show Kept w w4 from (HK8.out.trans K6.out (fun _ _ f => f)).trans hk4.out (fun _ _ f => f))
              have HLQ : Hid (t + 1 = (qs.take t ++ (⟨(Y1, Y2), .slice (some ⟨w2.heap.size, 0, none⟩) 1 1, [(i : Int)]⟩ : PV) :: qs.drop t).length) := by
                rw [List.length_append, List.length_cons, List.length_take, List.length_drop]
                exact hid (by have := HN1.out; omega)
              have S0i := hid (fun (W : World) (kW : Kept w2 W) => (show W.cell? ⟨B8, 0, none⟩ = some (.string Y1) ∧ W.cell? ⟨B8, 1, none⟩ = some (.string Y2) from ⟨cell_kept (hk2.out.trans kW (fun _ _ f => f)) z0, cell_kept (hk2.out.trans kW (fun _ _ f => f)) z1⟩))
              generalize t - t = m3 at hs2 hr3 hr5
              have sl2 := hs2.out
              go_wp2_with (at_builtin; refine Lys.wpList_append_run rfl _ _ _ rfl rfl rfl hr3 ?_)
              (try go_wp2_with fail)
              clear sl2 z0 z1
              have K0i := hid (show Kept w2 w2.drew from (Only.refl _ _).drew)
              refine wp_region_noPanic ?_
              refine wp_region_last (L := 1000) (S := fun w' => Kept w2 w') (by kernel_rfl) ?_
              refine wpAnyN_take (i := 0) (v := .slice a1 t c1) rfl (by kernel_rfl) (by kernel_rfl) (by kernel_rfl) (by decide) (by kernel_rfl) (fun _ _ _ h => h) (Or.inl ⟨by kernel_rfl, ?_⟩) K0i.out ?_
              · (intro w' hSw; obtain ⟨s0, s1⟩ := S0i.out w' hSw; have sl := hs1.out; clear hSw; go_simp)
              (try simp only [List.getElem_toArray, List.getElem_cons_succ, List.getElem_cons_zero])
              go_frame
              refine wpAnyN_take (i := 1) (v := .int .i64 (t : Int)) rfl (by kernel_rfl) (by kernel_rfl) (by kernel_rfl) (by decide) (by kernel_rfl) (fun _ _ _ h => h) (Or.inl ⟨by kernel_rfl, ?_⟩) K0i.out ?_
              · (intro w' hSw; obtain ⟨s0, s1⟩ := S0i.out w' hSw; have sl := hs1.out; clear hSw; go_simp)
              (try simp only [List.getElem_toArray, List.getElem_cons_succ, List.getElem_cons_zero])
              go_frame
              refine wpAnyN_take (i := 2) (v := .int .i64 (t : Int)) rfl (by kernel_rfl) (by kernel_rfl) (by kernel_rfl) (by decide) (by kernel_rfl) (fun _ _ _ h => h) (Or.inl ⟨by kernel_rfl, ?_⟩) K0i.out ?_
              · (intro w' hSw; obtain ⟨s0, s1⟩ := S0i.out w' hSw; have sl := hs1.out; clear hSw; go_simp)
              (try simp only [List.getElem_toArray, List.getElem_cons_succ, List.getElem_cons_zero])
              go_frame
              refine wpAnyN_take (i := 3) (v := .slice b1 t t) rfl (by kernel_rfl) (by kernel_rfl) (by kernel_rfl) (by decide) (by kernel_rfl) (fun _ _ _ h => h) (Or.inl ⟨by kernel_rfl, ?_⟩) K0i.out ?_
              · (intro w' hSw; obtain ⟨s0, s1⟩ := S0i.out w' hSw; have sl := hs1.out; clear hSw; go_simp)
              (try simp only [List.getElem_toArray, List.getElem_cons_succ, List.getElem_cons_zero])
              go_frame
              refine wpAnyN_take (i := 4) (v := .agg #[.string Y1, .string Y2]) rfl (by kernel_rfl) (by kernel_rfl) (by kernel_rfl) (by decide) (by kernel_rfl) (fun _ _ _ h => h) (Or.inl ⟨by kernel_rfl, ?_⟩) K0i.out ?_
              · (intro w' hSw; obtain ⟨s0, s1⟩ := S0i.out w' hSw; have sl := hs1.out; clear hSw; go_simp)
              (try simp only [List.getElem_toArray, List.getElem_cons_succ, List.getElem_cons_zero])
              go_frame
              refine wpAnyN_take (i := 5) (v := .int .i64 (i : Int)) rfl (by kernel_rfl) (by kernel_rfl) (by kernel_rfl) (by decide) (by kernel_rfl) (fun _ _ _ h => h) (Or.inl ⟨by kernel_rfl, ?_⟩) K0i.out ?_
              · (intro w' hSw; obtain ⟨s0, s1⟩ := S0i.out w' hSw; have sl := hs1.out; clear hSw; go_simp)
              (try simp only [List.getElem_toArray, List.getElem_cons_succ, List.getElem_cons_zero])
              go_frame
              refine wpAnyN_take (i := 10) (v := .slice b3 m3 c3) rfl (by kernel_rfl) (by kernel_rfl) (by kernel_rfl) (by decide) (by kernel_rfl) (fun _ _ _ h => h) (Or.inl ⟨by kernel_rfl, ?_⟩) K0i.out ?_
              · (intro w' hSw; obtain ⟨s0, s1⟩ := S0i.out w' hSw; have sl := hs1.out; clear hSw; go_simp)
              (try simp only [List.getElem_toArray, List.getElem_cons_succ, List.getElem_cons_zero])
              go_frame
              refine wpAnyL_one (i := 6) (by kernel_rfl) rfl (by kernel_rfl) ?_
              go_simp
              have KA := hid (show Kept w2 (w2.drew.alloc (.cells #[.int .i64 (i : Int)] 3)) from K0i.out.alloc _)
              refine ⟨KA.out, ?_⟩
              (try go_frame)
              refine wpAnyL_one (i := 7) (by kernel_rfl) rfl (by kernel_rfl) ?_
              go_simp
              refine ⟨KA.out, ?_⟩
              (try go_frame)
              refine wpAnyL_one (i := 8) (by kernel_rfl) rfl (by kernel_rfl) ?_
              go_simp
              have KB := hid (show Kept w2 ((w2.drew.alloc (.cells #[.int .i64 (i : Int)] 3)).alloc (.cells #[.string Y1, .string Y2, .slice (some ⟨w2.heap.size, 0, none⟩) 1 1] 38)) from KA.out.alloc _)
              refine ⟨KB.out, ?_⟩
              (try go_frame)
              refine wpAnyL_one (i := 9) (by kernel_rfl) rfl (by kernel_rfl) (oper_appendH _ _ _ rfl rfl rfl hr4 ?_)
              refine ⟨hk23.out, ?_⟩
              (try go_frame)
              refine wpAnyL_one (i := 11) (by kernel_rfl) rfl (by kernel_rfl) (oper_appendH _ _ _ rfl rfl rfl hr5 ?_)
              refine ⟨hk24.out, ?_⟩
              (try go_frame)
              refine wpAnyL_one (i := 12) (by kernel_rfl) rfl (by kernel_rfl) ?_
              go_simp
              refine ⟨hk24.out, ?_⟩
              (try go_frame)
              refine wpAnyN_done (by kernel_rfl) ?_
              refine NoPanic.normal ?_
              go_wp2_with fail
              go_roundw
              case rel => exact ⟨k + 1, _, b5, t + 1, c5, by omega, by go_num, rfl, HLQ.out, hp4, HQ, HK9.out⟩
              case measure => simp [intOf]; omega
        · obtain rfl : k = NL := by omega
          have HPP := hid (show qs.map postV = postsOf (L.take (i + 1)) from hqs.out.trans HTAKE.out)
          go_wp2_with fail
          go_roundw
          case rel => exact ⟨i + 1, qs, a1, n1, c1, by omega, by go_num, rfl, hn1, hpo, HPP, kr⟩
          case measure => simp [intOf]; omega
    · obtain rfl : i = N := by omega
      have HF := hid (HFIN.out (.slice a0 n0 c0) qs0 wr hpo0.out (by rw [hqs0.out, List.take_of_length_le (by have := HN.out; omega)]) kr0)
      clear hpo0 hqs0 kr0
      go_wp2
      go_ret
      exact HF.out
end Go.Proofs.YtdgkdgbdkhnpcaaGreat.X

/-
  Names and values of posts, in plain words.
-/
namespace Go.Proofs.YtdgkdgbdkhnpcaaGreat.X
open Go.Proofs.YtdgkdgbdkhnpcaaGreat.N Go.Proofs.YtdgkdgbdkhnpcaaGreat.Po
set_option linter.unusedVariables false

/-- A name stays if it is the first, or another one than that ahead of it. -/
def keepN (l : List ByteArray) (m : Nat) : Bool := decide (m = 0 ∨ l.getD m ⟨#[]⟩ ≠ l.getD (m - 1) ⟨#[]⟩)
def dedN (l : List ByteArray) : Nat → List ByteArray
  | 0 => []
  | m + 1 => dedN l m ++ (if keepN l m then [l.getD m ⟨#[]⟩] else [])
theorem dedN_len (l : List ByteArray) : ∀ m, (dedN l m).length ≤ m
  | 0 => Nat.le_refl _
  | m + 1 => by
    have := dedN_len l m
    rw [dedN, List.length_append]
    split
    · simp; omega
    · simp; omega
theorem getD_at {l : List ByteArray} {m : Nat} (h : m < l.length) : l.getD m ⟨#[]⟩ = l[m] := by
  rw [List.getD_eq_getElem?_getD, List.getElem?_eq_getElem h]
  rfl
theorem list_of_inj {a b : ByteArray} (h : a.data.toList = b.data.toList) : a = b := by
  obtain ⟨⟨x⟩⟩ := a
  obtain ⟨⟨y⟩⟩ := b
  simp at h
  rw [h]
theorem ded_compact (l : List ByteArray) : ∀ m, m ≤ l.length → Lib.compactUpTo (l.map (fun s => s.data.toList)).toArray m = (dedN l m).map (fun s => s.data.toList)
  | 0, _ => rfl
  | m + 1, hm => by
    have hm' : m < l.length := hm
    rw [Lib.compactUpTo_succ, dedN, List.map_append, ded_compact l m (by omega)]
    have e : ∀ j, j < l.length → (l.map (fun s : ByteArray => s.data.toList)).toArray[j]! = (l.getD j ⟨#[]⟩).data.toList := fun j hj => by
      rw [getD_at hj, getElem!_pos _ _ (by simpa using hj)]
      simp
    have hk : Lib.keeps (l.map (fun s : ByteArray => s.data.toList)).toArray m = keepN l m := by
      unfold Lib.keeps keepN
      rw [e m hm', e (m - 1) (by omega), decide_eq_decide]
      constructor
      · rintro (h | h)
        · exact .inl h
        · exact .inr (fun h2 => h (by rw [h2]))
      · rintro (h | h)
        · exact .inl h
        · exact .inr (fun h2 => h (list_of_inj h2))
    rw [hk]
    split
    · rw [e m hm']
      rfl
    · rfl
/-- Names that are one stand side by side. -/
def Runs (l : List ByteArray) : Prop := ∀ m (h : m + 1 < l.length), l[m] ≠ l[m + 1] → ∀ j (hj : j ≤ m), l[j] ≠ l[m + 1]
theorem name_le {a b : Lab} (h : labC a b = -1) : cmpB a.1 b.1 = -1 ∨ a.1 = b.1 := by
  have hf : labC a b = if cmpB a.1 b.1 ≠ 0 then cmpB a.1 b.1 else cmpB a.2 b.2 := rfl
  by_cases h0 : cmpB a.1 b.1 = 0
  · exact .inr (cmpB_good.zero _ _ h0)
  · rw [hf, if_pos h0] at h
    exact .inl h
theorem runs_of {P : Posts} (h : SortP P) : Runs (P.map (·.1.1)) := by
  intro m hm hne j hj e
  have hl : (P.map (·.1.1)).length = P.length := List.length_map _
  unfold SortP at h
  rw [List.pairwise_iff_getElem] at h
  simp only [List.getElem_map] at hne e
  have h1 : cmpB P[m].1.1 P[m + 1].1.1 = -1 := by
    rcases name_le (h m (m + 1) (by omega) (by omega) (by omega)) with e1 | e1
    · exact e1
    · exact absurd e1 hne
  by_cases hjm : j = m
  · subst hjm
    exact hne e
  · rcases name_le (h j m (by omega) (by omega) (by omega)) with e1 | e1
    · have := cmpB_good.trans _ _ _ e1 h1
      rw [e] at this
      have := cmpB_good.self P[m + 1].1.1
      omega
    · exact hne (by rw [← e1]; exact e)
theorem ded_last {l : List ByteArray} (hR : Runs l) : ∀ m (h : m < l.length), ∃ init, dedN l (m + 1) = init ++ [l[m]] ∧ ∀ n ∈ init, n ∈ l.take m ∧ n ≠ l[m]
  | 0, h => ⟨[], by simp [dedN, keepN, List.getD_eq_getElem?_getD, h], fun n hn => by cases hn⟩
  | m + 1, h => by
    obtain ⟨init, h1, h2⟩ := ded_last hR m (by omega)
    rw [dedN, h1]
    by_cases hk : l[m] = l[m + 1]
    · have : keepN l (m + 1) = false := by
        unfold keepN
        rw [getD_at h, show m + 1 - 1 = m by omega, getD_at (show m < l.length by omega), hk]
        simp
      rw [this]
      refine ⟨init, by rw [hk]; simp, fun n hn => ?_⟩
      obtain ⟨h3, h4⟩ := h2 n hn
      refine ⟨?_, by rw [← hk]; exact h4⟩
      obtain ⟨i, hi, e⟩ := List.mem_take_iff_getElem.1 h3
      exact List.mem_take_iff_getElem.2 ⟨i, by omega, e⟩
    · have : keepN l (m + 1) = true := by
        unfold keepN
        rw [getD_at h, show m + 1 - 1 = m by omega, getD_at (show m < l.length by omega)]
        exact decide_eq_true (.inr (fun e => hk e.symm))
      rw [this, if_pos rfl, getD_at h]
      refine ⟨init ++ [l[m]], rfl, fun n hn => ?_⟩
      have hmem : n ∈ l.take (m + 1) := by
        rcases List.mem_append.1 hn with e | e
        · obtain ⟨i, hi, e2⟩ := List.mem_take_iff_getElem.1 (h2 n e).1
          exact List.mem_take_iff_getElem.2 ⟨i, by omega, e2⟩
        · rw [List.mem_singleton.1 e]
          exact List.mem_take_iff_getElem.2 ⟨m, by omega, rfl⟩
      refine ⟨hmem, ?_⟩
      obtain ⟨i, hi, e⟩ := List.mem_take_iff_getElem.1 hmem
      rw [← e]
      exact hR m h hk i (by omega)
theorem flat_congr {α β : Type} {f g : α → List β} : ∀ {l : List α}, (∀ a ∈ l, f a = g a) → l.flatMap f = l.flatMap g
  | [], _ => rfl
  | a :: r, h => by
    rw [List.flatMap_cons, List.flatMap_cons, h a (List.mem_cons_self ..), flat_congr (fun b hb => h b (List.mem_cons_of_mem _ hb))]
/-- The posts of a name. -/
def ofN (P : Posts) (n : ByteArray) : Posts := P.filter (fun p => decide (p.1.1 = n))
theorem group_take {P : Posts} (hs : SortP P) : ∀ m, m < P.length → (dedN (P.map (·.1.1)) (m + 1)).flatMap (ofN (P.take (m + 1))) = P.take (m + 1)
  | 0, h => by
    have e : P.take 1 = [P[0]] := by rw [List.take_succ_eq_append_getElem h]; simp
    rw [e]
    have hd : dedN (P.map (·.1.1)) 1 = [P[0].1.1] := by simp [dedN, keepN, List.getD_eq_getElem?_getD, h]
    rw [hd]
    simp [ofN]
  | m + 1, h => by
    have ih := group_take hs m (by omega)
    have hl : (P.map (·.1.1)).length = P.length := List.length_map _
    obtain ⟨init, h1, h2⟩ := ded_last (runs_of hs) m (by rw [hl]; omega)
    have happ : ∀ n, ofN (P.take (m + 1 + 1)) n = ofN (P.take (m + 1)) n ++ (if P[m + 1].1.1 = n then [P[m + 1]] else []) := fun n => by
      unfold ofN
      rw [List.take_succ_eq_append_getElem h, List.filter_append]
      congr 1
      rw [List.filter_cons]
      split
      · rename_i e
        rw [if_pos (by simpa using e)]
        rfl
      · rename_i e
        rw [if_neg (by simpa using e)]
        rfl
    have hg1 : (P.map (·.1.1)).getD (m + 1) ⟨#[]⟩ = P[m + 1].1.1 := by rw [getD_at (by rw [hl]; exact h)]; simp
    have hg0 : (P.map (·.1.1)).getD m ⟨#[]⟩ = P[m].1.1 := by rw [getD_at (by rw [hl]; omega)]; simp
    by_cases hk : P[m].1.1 = P[m + 1].1.1
    · have hkn : keepN (P.map (·.1.1)) (m + 1) = false := by
        unfold keepN
        rw [hg1, show m + 1 - 1 = m by omega, hg0, hk]
        simp
      rw [dedN, hkn, if_neg (by decide), List.append_nil]
      rw [h1, List.flatMap_append] at ih ⊢
      have e1 : init.flatMap (ofN (P.take (m + 1 + 1))) = init.flatMap (ofN (P.take (m + 1))) := flat_congr (fun n hn => by
        rw [happ, if_neg, List.append_nil]
        intro e
        have := (h2 n hn).2
        simp only [List.getElem_map] at this
        exact this (by rw [← e, hk]))
      simp only [List.getElem_map, List.flatMap_cons, List.flatMap_nil, List.append_nil] at ih ⊢
      rw [e1, happ, if_pos hk.symm, ← List.append_assoc, ih, ← List.take_succ_eq_append_getElem h]
    · have hkn : keepN (P.map (·.1.1)) (m + 1) = true := by
        unfold keepN
        rw [hg1, show m + 1 - 1 = m by omega, hg0]
        exact decide_eq_true (.inr (fun e => hk e.symm))
      have hno : ∀ j (hj : j ≤ m), P[j].1.1 ≠ P[m + 1].1.1 := fun j hj => by
        have := runs_of hs m (by rw [hl]; exact h) (by simpa using hk) j hj
        simpa using this
      rw [dedN, hkn, if_pos rfl, hg1, List.flatMap_append]
      have e1 : (dedN (P.map (·.1.1)) (m + 1)).flatMap (ofN (P.take (m + 1 + 1))) = (dedN (P.map (·.1.1)) (m + 1)).flatMap (ofN (P.take (m + 1))) := flat_congr (fun n hn => by
        rw [happ, if_neg, List.append_nil]
        intro e
        rw [h1] at hn
        rcases List.mem_append.1 hn with h3 | h3
        · obtain ⟨i, hi, e2⟩ := List.mem_take_iff_getElem.1 (h2 n h3).1
          simp only [List.getElem_map] at e2
          exact hno i (by omega) (by rw [e2, e])
        · have h4 := List.mem_singleton.1 h3
          simp only [List.getElem_map] at h4
          exact hk (by rw [← h4, e]))
      rw [e1, ih]
      simp only [List.flatMap_cons, List.flatMap_nil, List.append_nil]
      rw [happ, if_pos rfl]
      have e2 : ofN (P.take (m + 1)) P[m + 1].1.1 = [] := by
        unfold ofN
        rw [List.filter_eq_nil_iff]
        intro p hp
        obtain ⟨i, hi, e⟩ := List.mem_take_iff_getElem.1 hp
        rw [← e]
        simpa using hno i (by omega)
      rw [e2, List.nil_append, ← List.take_succ_eq_append_getElem h]
/-- All names of posts. -/
def namesP (P : Posts) : List ByteArray := dedN (P.map (·.1.1)) P.length
theorem group_all {P : Posts} (hs : SortP P) : (namesP P).flatMap (ofN P) = P := by
  unfold namesP
  cases hP : P.length with
  | zero =>
    have : P = [] := List.length_eq_zero_iff.1 hP
    rw [this]
    rfl
  | succ m =>
    have := group_take hs m (by omega)
    rw [← hP, List.take_length] at this
    rw [hP] at this
    exact this
theorem names_len (P : Posts) : (namesP P).length ≤ P.length := dedN_len _ _
theorem names_mem {P : Posts} {n : ByteArray} (hn : n ∈ namesP P) : ∃ p ∈ P, p.1.1 = n := by
  have key : ∀ m, m ≤ P.length → ∀ n ∈ dedN (P.map (·.1.1)) m, ∃ p ∈ P, p.1.1 = n := by
    intro m
    induction m with
    | zero => intro _ n hn; cases hn
    | succ m ih =>
      intro hm n hn
      rw [dedN] at hn
      rcases List.mem_append.1 hn with e | e
      · exact ih (by omega) n e
      · split at e
        · rw [List.mem_singleton.1 e, getD_at (by rw [List.length_map]; exact hm)]
          exact ⟨P[m], List.getElem_mem _, by simp⟩
        · cases e
  exact key _ (Nat.le_refl _) n hn
/-- Where the posts of a name stand. -/
def atN (P : Posts) (i : Nat) : Nat := (((namesP P).take i).flatMap (ofN P)).length
theorem atN_succ {P : Posts} {i : Nat} (hi : i < (namesP P).length) : atN P (i + 1) = atN P i + (ofN P (namesP P)[i]).length := by
  unfold atN
  rw [List.take_succ_eq_append_getElem hi, List.flatMap_append, List.length_append]
  simp
theorem atN_all {P : Posts} (hs : SortP P) : atN P (namesP P).length = P.length := by
  unfold atN
  rw [List.take_length, group_all hs]
theorem atN_get {P : Posts} (hs : SortP P) {i : Nat} (hi : i < (namesP P).length) {k : Nat} (hk : k < (ofN P (namesP P)[i]).length) : ∃ h : atN P i + k < P.length, P[atN P i + k] = (ofN P (namesP P)[i])[k] := by
  have e : P = ((namesP P).take i).flatMap (ofN P) ++ (ofN P (namesP P)[i] ++ ((namesP P).drop (i + 1)).flatMap (ofN P)) := by
    have h1 := group_all hs
    conv at h1 => lhs; arg 2; rw [← List.take_append_drop i (namesP P), List.drop_eq_getElem_cons hi]
    rw [List.flatMap_append, List.flatMap_cons] at h1
    exact h1.symm
  have hl := congrArg List.length e
  rw [List.length_append, List.length_append] at hl
  have hlt : atN P i + k < P.length := by unfold atN; omega
  refine ⟨hlt, ?_⟩
  have h2 : P[atN P i + k]? = (ofN P (namesP P)[i])[k]? := by
    conv => lhs; arg 1; rw [e]
    unfold atN
    rw [List.getElem?_append_right (by omega), List.getElem?_append_left (by omega)]
    congr 1
    omega
  rw [List.getElem?_eq_getElem hlt, List.getElem?_eq_getElem hk] at h2
  exact Option.some.inj h2
end Go.Proofs.YtdgkdgbdkhnpcaaGreat.X

/-
  Names and Values.
-/
namespace Go.Proofs.YtdgkdgbdkhnpcaaGreat.X
open Go.RowKit Go.Proofs.Lys Go.Maps Go.Sort Go.Shelf Go.Proofs.YtdgkdgbdkhnpcaaGreat.N
set_option linter.unusedVariables false
set_option linter.unusedSimpArgs false

abbrev StrAt (w : World) (B : Nat) (v : Value) (ss : List ByteArray) : Prop := w.ownsRow B 9 1 v ss.length (ss.map Value.string)
theorem Tryz.infoStrX : (Tryz.prog.info? 9).map (fun i => (i.zero, i.size, i.bytes)) = some (some (.string ⟨#[]⟩), 1, 16) := by kernel_rfl
theorem str_lit (w : World) (s : ByteArray) : SrcOf (w.alloc (.cells #[.string s] 9)) (.slice (some ⟨w.heap.size, 0, none⟩) 1 1) [.string s] := by
  have hb := Blk.new w [.string s] 9
  refine .inr ⟨⟨w.heap.size, 0, none⟩, 1, rfl, fun j u hu => ?_⟩
  have : j = 0 := by have := (List.getElem?_eq_some_iff.1 hu).1; simpa using this
  subst this
  cases hu
  exact hb.cell 0 rfl
theorem str_step {w0 w : World} {v : Value} {ss : List ByteArray} (hown : StrAt w w0.heap.size v ss) (hk : Kept w0 w) (s : ByteArray) (hl : ss.length < 1000000) :
    ∃ a n c w', Hid ((Builtin.append_ #[66, 66] 0 #[v, .slice (some ⟨w.heap.size, 0, none⟩) 1 1]).run Tryz.prog (w.alloc (.cells #[.string s] 9)) = .ok (.slice a n c) w') ∧ n = (ss ++ [s]).length ∧ Hid (StrAt w' w0.heap.size (.slice a n c) (ss ++ [s])) ∧ Hid (Kept w0 w') := by
  have k1 : Kept w (w.alloc (.cells #[.string s] 9)) := (Only.refl _ w).alloc _
  obtain ⟨v', w', hr, h1, h2, h3⟩ := append_src (P := Tryz.prog) (base := w0.heap.size) Tryz.underlying66 Tryz.infoStrX rfl (by decide) (ownN_stay hown k1) (str_lit w s) (by intro u hu; rw [List.mem_singleton.1 hu]; rfl) (by simp; omega) (Nat.le_trans hk.size k1.size)
  have h1' : StrAt w' w0.heap.size v' (ss ++ [s]) := by
    unfold StrAt
    rw [List.length_append, List.map_append]
    exact h1
  obtain ⟨a, c, rfl⟩ := ownN_slice h1'
  refine ⟨a, _, c, w', hr, rfl, h1', ?_⟩
  exact (hk.trans k1 (fun _ _ f => f)).grown h2 (fun j hj hlt => by have := (ownN_lt hown hj).1; omega)
theorem only_putRow {α : Type} [Inhabited α] (enc : α → Value) (w : World) (blk off m : Nat) (d : Array α) : Only (fun j => j = blk) w (putRow enc (Go.Sort.ahead w m) blk off d) := by
  refine ⟨rfl, rfl, rfl, ?_, fun j hj hn => ?_⟩
  · show _ ≤ ((Go.Sort.ahead w m).heap.modify blk _).size
    rw [Array.size_modify]
    exact Nat.le_refl _
  · show ((Go.Sort.ahead w m).heap.modify blk _)[j]? = _
    rw [Array.getElem?_modify, if_neg (fun e => hn e.symm)]
    rfl
theorem encStr_of (s : ByteArray) : encStr s.data.toList = .string s := by
  obtain ⟨⟨x⟩⟩ := s
  rfl
/-- slices.Compact of texts that are owned. -/
theorem compact_any (w : World) (B : Nat) (v : Value) (l : List ByteArray) (h : StrAt w B v l) (hlen : l.length ≤ 1000000) :
    Calls Tryz.prog 59 #[v] w fun e w' => ∃ a c, e = .returned (.slice a (dedN l l.length).length c) ∧ SrcOf w' (.slice a (dedN l l.length).length c) ((dedN l l.length).map Value.string) ∧ Only (fun k => v.ownBlock = some k) w w' := by
  rcases h.2 with ⟨rfl, h0⟩ | ⟨g, cap, cur, rfl, hb, hg, hnc, hcm, hcs, htake⟩
  · have hx0 : l = [] := List.length_eq_zero_iff.1 h0
    subst hx0
    refine (Tryz.slices_Compact_string_empty none 0 w).mono ?_
    rintro e w' ⟨rfl, rfl⟩
    exact ⟨none, 0, rfl, .inl ⟨rfl, rfl⟩, Only.refl _ _⟩
  · have hglt := (Array.getElem?_eq_some_iff.1 hg).1
    have hzl : (l.map (fun s : ByteArray => s.data.toList)).length = l.length := List.length_map _
    have hH : Holds encStr w g 0 (l.map (fun s : ByteArray => s.data.toList)).toArray := by
      intro t ht
      have ht' : t < l.length := by simpa using ht
      refine ⟨?_, by simp [World.frozen?, hg]⟩
      have hj : cur.toList[t]? = some (Value.string l[t]) := by
        have h1 : (l.map Value.string)[t]? = some (Value.string l[t]) := by rw [List.getElem?_map, List.getElem?_eq_getElem ht']; rfl
        rw [← htake, List.getElem?_take, if_pos (by omega)] at h1
        exact h1
      simp only [World.cell?, hg, Nat.zero_add]
      rw [getElem!_pos _ _ (by simpa using ht')]
      simp only [List.getElem_toArray, List.getElem_map, encStr_of]
      simpa using hj
    have hcon := Tryz.slices_Compact_string g 0 cap (l.map (fun s : ByteArray => s.data.toList)) w hH (by rw [hzl]; omega) (by rw [hzl]; omega)
    have hcp : Lib.compact (l.map (fun s : ByteArray => s.data.toList)) = (dedN l l.length).map (fun s => s.data.toList) := by
      unfold Lib.compact
      rw [hzl]
      exact ded_compact l l.length (Nat.le_refl _)
    rw [hcp, hzl, List.length_map] at hcon
    refine hcon.mono ?_
    rintro e w' ⟨rfl, q, rfl⟩
    have hdl := dedN_len l l.length
    refine ⟨some ⟨g, 0, none⟩, cap, rfl, .inr ⟨⟨g, 0, none⟩, cap, by rw [List.length_map], fun j u hu => ?_⟩, (only_putRow encStr w g 0 q _).mono (fun k _ e => by rw [e]; rfl)⟩
    have hj : j < (dedN l l.length).length := by have := (List.getElem?_eq_some_iff.1 hu).1; simpa using this
    rw [List.getElem?_map, List.getElem?_eq_getElem hj] at hu
    cases hu
    have hblk : ∀ d : Array (List UInt8), (putRow encStr (Go.Sort.ahead w q) g 0 d).heap[g]? = some (.cells (putCells encStr 0 d cur) 9 (0, 0)) := fun d => by
      show ((Go.Sort.ahead w q).heap.modify g _)[g]? = _
      rw [Array.getElem?_modify, if_pos rfl]
      show Option.map _ (w.heap[g]?) = _
      rw [hg]
      rfl
    have hc : ∀ d : Array (List UInt8), (putRow encStr (Go.Sort.ahead w q) g 0 d).cell? ⟨g, j, none⟩ = (putCells encStr 0 d cur)[j]? := fun d => by simp [World.cell?, hblk]
    rw [add_none, Nat.zero_add, hc]
    simp only [putCells, Array.getElem?_mapIdx]
    rw [Array.getElem?_eq_getElem (by omega)]
    simp only [Option.map_some]
    rw [if_pos ⟨by omega, by simp; omega⟩, show j - 0 = j by omega, getElem!_pos _ _ (by simp; omega)]
    simp only [List.getElem_toArray]
    rw [List.getElem_append_left (by rw [List.length_map]; exact hj), List.getElem_map, encStr_of]

theorem ofN_snoc (P : Posts) (n : ByteArray) {k : Nat} (hk : k < P.length) : ofN (P.take (k + 1)) n = ofN (P.take k) n ++ (if P[k].1.1 = n then [P[k]] else []) := by
  unfold ofN
  rw [List.take_succ_eq_append_getElem hk, List.filter_append]
  congr 1
  rw [List.filter_cons]
  split
  · rename_i e
    rw [if_pos (by simpa using e)]
    rfl
  · rename_i e
    rw [if_neg (by simpa using e)]
    rfl

set_option maxRecDepth 100000 in
set_option maxHeartbeats 3200000 in
theorem values_any {w : World} {x : IxC} {O : Nat → Prop} {P : Posts} (hA : IxAt w x O) (hI : Is x P) (hl : P.length ≤ 100000) (n : ByteArray) :
    Calls Tryz.prog 30 #[.pointer (some ⟨x.xb, 0, none⟩), .string n] w fun e w' => ∃ v, e = .returned v ∧ StrAt w' w.heap.size v ((ofN P n).map (·.1.2)) ∧ Kept w w' := by
  have HP := hid (pairs_any hA hI (by rw [hI.len]; exact hl))
  clear hA hI
  generalize x.xb = XB at *
  go_enter Tryz.func30, Tryz.ntmps30
  go_wp2_with fail
  refine HP.out.mono ?_
  rintro e w1 ⟨v1, rfl, hat1, k1⟩
  have HK1 := hid k1
  have HL1 := hid (LabAt.src hat1)
  obtain ⟨a1, c1, e1⟩ := ownN_slice hat1
  rw [List.length_map] at e1
  subst e1
  have hs1 := k1.size
  clear hat1 k1 HP
  obtain ⟨N, hN⟩ : ∃ N, P.length = N := ⟨_, rfl⟩
  rw [hN] at hl HL1 ⊢
  have HN := hid hN
  have HN2 : Hid ((P.map (·.1)).length = N) := by rw [List.length_map]; exact HN.out
  clear hN
  go_wp2_with fail
  go_loopw [5, 11] (fun s5 s11 wr => ∃ (k : Nat) (ss : List ByteArray) (a : Option Addr) (m c : Nat), k ≤ N ∧ s11 = .int .i64 (k : Int) ∧ s5 = .slice a m c ∧ m ≤ k ∧ Hid (m = ss.length) ∧ Hid (StrAt wr w1.heap.size (.slice a m c) ss) ∧ Hid (ss = (ofN (P.take k) n).map (·.1.2)) ∧ Kept w1 wr) (fun _ s11 _ => N - (intOf s11).toNat)
  case atStart => exact ⟨0, [], none, 0, 0, by omega, rfl, rfl, by omega, hid rfl, hid (World.ownsRow_nil _ _ _ _), hid (by simp [ofN]), Only.refl _ _⟩
  case round =>
    obtain ⟨k, ss, a5, m5, c5, hk, rfl, rfl, hmk, hm5, hat, hss, kr⟩ := hrel
    have HK := hid kr
    have hsr := kr.size
    by_cases hlt : k < N
    · have hkP : k < P.length := by have := HN.out; omega
      obtain ⟨b, o, rfl, y1, y2⟩ := (HL1.out.stay kr).cell HN2.out k hlt
      simp only [List.getElem_map] at y1 y2
      have HSN := hid (ofN_snoc P n hkP)
      generalize P[k] = p at y1 y2 HSN
      obtain ⟨⟨Y1, Y2⟩, pl⟩ := p
      simp only at y1 y2 HSN
      have ka : Kept wr (wr.alloc (.cells #[.string Y1, .string Y2] 27)) := (Only.refl _ wr).alloc _
      have HAa := hid (show StrAt (wr.alloc (.cells #[.string Y1, .string Y2] 27)) w1.heap.size (.slice a5 m5 c5) ss from ownN_stay hat.out ka)
      have HKa := hid (HK.out.trans ka (fun _ _ f => f))
      clear ka kr
      by_cases hnm : Y1 = n
      · have hq1 : (Y1.toList == n.toList) = true := by rw [hnm]; simp
        obtain ⟨a9, n9, c9, w9, hr9, hn9, hat9, hk9⟩ := str_step HAa.out HKa.out Y2 (by have := hm5.out; omega)
        rw [show (wr.alloc (.cells #[.string Y1, .string Y2] 27)).heap.size = wr.heap.size + 1 by simp] at hr9
        have HN9 := hid hn9
        have HSS : Hid (ss ++ [Y2] = (ofN (P.take (k + 1)) n).map (·.1.2)) := by
          show ss ++ [Y2] = (ofN (P.take (k + 1)) n).map (·.1.2)
          rw [HSN.out, if_pos hnm, List.map_append, hss.out]
          rfl
        have hn9k : n9 ≤ k + 1 := by have := hm5.out; rw [hn9, List.length_append, List.length_singleton]; omega
        clear hn9 hnm
        go_wp2_with (at_builtin; refine Lys.wpList_append_run rfl _ _ _ rfl rfl rfl hr9 ?_)
        (try go_wp2_with fail)
        go_roundw
        case rel => exact ⟨k + 1, ss ++ [Y2], a9, n9, c9, by omega, by go_num, rfl, hn9k, HN9, hat9, HSS, hk9.out⟩
        case measure => simp [intOf]; omega
      · have hq1 : (Y1.toList == n.toList) = false := by
          simp only [beq_eq_false_iff_ne, ne_eq]
          intro e
          rw [ByteArray.toList_eq, ByteArray.toList_eq] at e
          exact hnm (bytes_inj e)
        have hq2 : ¬ Y1.toList = n.toList := by simpa using hq1
        have HSS : Hid (ss = (ofN (P.take (k + 1)) n).map (·.1.2)) := by
          show ss = (ofN (P.take (k + 1)) n).map (·.1.2)
          rw [HSN.out, if_neg hnm, List.append_nil]
          exact hss.out
        clear hnm
        go_wp2_with fail
        go_roundw
        case rel => exact ⟨k + 1, ss, a5, m5, c5, by omega, by go_num, rfl, by omega, hm5, HAa, HSS, HKa.out⟩
        case measure => simp [intOf]; omega
    · obtain rfl : k = N := by omega
      have HF := hid (show StrAt wr w.heap.size (.slice a5 m5 c5) ((ofN P n).map (·.1.2)) ∧ Kept w wr from by
        have h1 := hss.out
        rw [List.take_of_length_le (by have := HN.out; omega)] at h1
        rw [← h1]
        exact ⟨ownN_base hat.out (by omega), HK1.out.trans kr (fun _ _ f => f)⟩)
      clear kr
      go_wp2
      go_ret
      exact ⟨_, rfl, HF.out⟩

set_option maxRecDepth 100000 in
set_option maxHeartbeats 3200000 in
theorem names_any {w : World} {x : IxC} {O : Nat → Prop} {P : Posts} (hA : IxAt w x O) (hI : Is x P) (hl : P.length ≤ 100000) :
    Calls Tryz.prog 29 #[.pointer (some ⟨x.xb, 0, none⟩)] w fun e w' => ∃ a c, e = .returned (.slice a (namesP P).length c) ∧ SrcOf w' (.slice a (namesP P).length c) ((namesP P).map Value.string) ∧ Kept w w' := by
  have HP := hid (pairs_any hA hI (by rw [hI.len]; exact hl))
  clear hA hI
  generalize x.xb = XB at *
  go_enter Tryz.func29, Tryz.ntmps29
  go_wp2_with fail
  refine HP.out.mono ?_
  rintro e w1 ⟨v1, rfl, hat1, k1⟩
  have HK1 := hid k1
  have HL1 := hid (LabAt.src hat1)
  obtain ⟨a1, c1, e1⟩ := ownN_slice hat1
  rw [List.length_map] at e1
  subst e1
  have hs1 := k1.size
  clear hat1 k1 HP
  obtain ⟨N, hN⟩ : ∃ N, P.length = N := ⟨_, rfl⟩
  rw [hN] at hl HL1 ⊢
  have HN := hid hN
  have HN2 : Hid ((P.map (·.1)).length = N) := by rw [List.length_map]; exact HN.out
  clear hN
  go_wp2_with fail
  go_loopw [3, 9] (fun s3 s9 wr => ∃ (k : Nat) (ss : List ByteArray) (a : Option Addr) (m c : Nat), k ≤ N ∧ s9 = .int .i64 (k : Int) ∧ s3 = .slice a m c ∧ m ≤ k ∧ Hid (m = ss.length) ∧ Hid (StrAt wr w1.heap.size (.slice a m c) ss) ∧ Hid (ss = (P.take k).map (·.1.1)) ∧ Kept w1 wr) (fun _ s9 _ => N - (intOf s9).toNat)
  case atStart => exact ⟨0, [], none, 0, 0, by omega, rfl, rfl, by omega, hid rfl, hid (World.ownsRow_nil _ _ _ _), hid (by simp), Only.refl _ _⟩
  case round =>
    obtain ⟨k, ss, a5, m5, c5, hk, rfl, rfl, hmk, hm5, hat, hss, kr⟩ := hrel
    have HK := hid kr
    have hsr := kr.size
    by_cases hlt : k < N
    · have hkP : k < P.length := by have := HN.out; omega
      obtain ⟨b, o, rfl, y1, y2⟩ := (HL1.out.stay kr).cell HN2.out k hlt
      simp only [List.getElem_map] at y1 y2
      have HSN : Hid ((P.take (k + 1)).map (·.1.1) = (P.take k).map (·.1.1) ++ [P[k].1.1]) := by
        show (P.take (k + 1)).map (·.1.1) = (P.take k).map (·.1.1) ++ [P[k].1.1]
        rw [List.take_succ_eq_append_getElem hkP, List.map_append]
        rfl
      generalize P[k] = p at y1 y2 HSN
      obtain ⟨⟨Y1, Y2⟩, pl⟩ := p
      simp only at y1 y2 HSN
      have ka : Kept wr (wr.alloc (.cells #[.string Y1, .string Y2] 27)) := (Only.refl _ wr).alloc _
      have HAa := hid (show StrAt (wr.alloc (.cells #[.string Y1, .string Y2] 27)) w1.heap.size (.slice a5 m5 c5) ss from ownN_stay hat.out ka)
      have HKa := hid (HK.out.trans ka (fun _ _ f => f))
      clear ka kr
      obtain ⟨a9, n9, c9, w9, hr9, hn9, hat9, hk9⟩ := str_step HAa.out HKa.out Y1 (by have := hm5.out; omega)
      rw [show (wr.alloc (.cells #[.string Y1, .string Y2] 27)).heap.size = wr.heap.size + 1 by simp] at hr9
      have HN9 := hid hn9
      have HSS : Hid (ss ++ [Y1] = (P.take (k + 1)).map (·.1.1)) := by
        show ss ++ [Y1] = (P.take (k + 1)).map (·.1.1)
        rw [HSN.out, hss.out]
      have hn9k : n9 ≤ k + 1 := by have := hm5.out; rw [hn9, List.length_append, List.length_singleton]; omega
      clear hn9
      go_wp2_with (at_builtin; refine Lys.wpList_append_run rfl _ _ _ rfl rfl rfl hr9 ?_)
      (try go_wp2_with fail)
      go_roundw
      case rel => exact ⟨k + 1, ss ++ [Y1], a9, n9, c9, by omega, by go_num, rfl, hn9k, HN9, hat9, HSS, hk9.out⟩
      case measure => simp [intOf]; omega
    · obtain rfl : k = N := by omega
      have hss2 : ss = P.map (·.1.1) := by
        have h1 := hss.out
        rw [List.take_of_length_le (by have := HN.out; omega)] at h1
        exact h1
      have hsl : ss.length = P.length := by rw [hss2, List.length_map]
      have HC := hid (compact_any wr _ _ ss hat.out (by have := HN.out; omega))
      have hnp : dedN ss ss.length = namesP P := by unfold namesP; rw [hsl, hss2]
      rw [hnp] at HC
      have HLOW := hid (fun j (hj : (Value.slice a5 m5 c5).ownBlock = some j) => (ownN_lt hat.out hj).1)
      clear hss2 hsl hnp kr
      go_wp2_with fail
      refine HC.out.mono ?_
      rintro e w3 ⟨a3, c3, rfl, hsrc, ko⟩
      have HS3 := hid hsrc
      have K3 := hid (show Kept w w3 from (HK1.out.trans HK.out (fun _ _ f => f)).trans ko (fun j hj e => by have := HLOW.out j e; omega))
      clear hsrc ko HC
      go_wp2
      go_ret
      exact ⟨a3, c3, rfl, HS3.out, K3.out⟩
end Go.Proofs.YtdgkdgbdkhnpcaaGreat.X

/-
  The law's own looks: whether two lists of posts are one, and all that an index tells.
-/
namespace Go.Proofs.YtdgkdgbdkhnpcaaGreat.X
open Go.RowKit Go.Proofs.Lys Go.Maps Go.Proofs.YtdgkdgbdkhnpcaaGreat.N
set_option linter.unusedVariables false
set_option linter.unusedSimpArgs false

/-- Posts that are read. -/
structure PSrc (w : World) (v : Value) (P : Posts) (qs : List PV) : Prop where
  cells : PvCells w v qs
  nums : ∀ q ∈ qs, Po.ISrc w q.lv q.l
  eq : qs.map postV = P
theorem PSrc.stay {w W : World} {v : Value} {P : Posts} {qs : List PV} (h : PSrc w v P qs) (k : Kept w W) : PSrc W v P qs := ⟨h.cells.stay k, fun q hq => (h.nums q hq).stay k, h.eq⟩
theorem PostAt.psrc {w : World} {B : Nat} {v : Value} {qs : List PV} {P : Posts} (h : PostAt w B v qs) (e : qs.map postV = P) : PSrc w v P qs := ⟨pv_cells h.row, fun q hq => Po.own_isrc (h.num q hq), e⟩
theorem PSrc.len {w : World} {v : Value} {P : Posts} {qs : List PV} (h : PSrc w v P qs) : qs.length = P.length := by
  have := congrArg List.length h.eq
  rw [List.length_map] at this
  exact this
theorem PSrc.at_ {w : World} {v : Value} {P : Posts} {qs : List PV} (h : PSrc w v P qs) {k : Nat} (hk : k < qs.length) (hk2 : k < P.length) : qs[k].lab = P[k].1 ∧ qs[k].l = P[k].2 := by
  have : P[k]? = some (postV qs[k]) := by rw [← h.eq, List.getElem?_map, List.getElem?_eq_getElem hk]; rfl
  rw [List.getElem?_eq_getElem hk2] at this
  have := Option.some.inj this
  exact ⟨by rw [this]; rfl, by rw [this]; rfl⟩

set_option maxRecDepth 100000 in
set_option maxHeartbeats 3200000 in
theorem sameposts_any (w : World) (va vb : Value) (P : Posts) (qa qb : List PV) (ha : PSrc w va P qa) (hb : PSrc w vb P qb) (hl : P.length ≤ 1000000) (hll : ∀ p ∈ P, p.2.length ≤ 1000000) :
    Calls Tryz.prog 16 #[va, vb] w fun e w' => e = .returned (.bool true) ∧ Kept w w' := by
  obtain ⟨a1, c1, rfl⟩ := ha.cells.len
  obtain ⟨a2, c2, rfl⟩ := hb.cells.len
  obtain ⟨N, hN⟩ : ∃ N, P.length = N := ⟨_, rfl⟩
  have e1 := ha.len
  have e2 := hb.len
  rw [hN] at e1 e2 hl
  rw [e1] at ha ⊢
  rw [e2] at hb ⊢
  have HA := hid ha
  have HB := hid hb
  have HN := hid hN
  have HE1 := hid e1
  have HE2 := hid e2
  have HLL := hid hll
  clear ha hb hN e1 e2 hll
  go_enter Tryz.func16, Tryz.ntmps16
  go_wp2
  go_loopw [5] (fun s wr => ∃ (k : Nat), k ≤ N ∧ s = .int .i64 (k : Int) ∧ Kept w wr) (fun s _ => N - (intOf s).toNat)
  case atStart => exact ⟨0, by omega, rfl, Only.refl _ _⟩
  case round =>
    obtain ⟨k, hk, rfl, kr⟩ := hrel
    by_cases hlt : k < N
    · have hka : k < qa.length := by have := HE1.out; omega
      have hkb : k < qb.length := by have := HE2.out; omega
      have hkP : k < P.length := by have := HN.out; omega
      obtain ⟨b1, o1, rfl, x1, y1, z1⟩ := (HA.out.stay kr).cells.cell HE1.out k hlt
      obtain ⟨b2, o2, rfl, x2, y2, z2⟩ := (HB.out.stay kr).cells.cell HE2.out k hlt
      have pa := HA.out.at_ hka hkP
      have pb := HB.out.at_ hkb hkP
      have ia := (HA.out.stay kr).nums _ (List.getElem_mem hka)
      have ib := (HB.out.stay kr).nums _ (List.getElem_mem hkb)
      rw [pa.1] at x1 y1
      rw [pb.1] at x2 y2
      rw [pa.2] at ia
      rw [pb.2] at ib
      have hn := fun W => neq_lab P[k].1 P[k].1 W
      have hpl := HLL.out P[k] (List.getElem_mem hkP)
      rw [decide_eq_true rfl, Bool.not_true] at hn
      generalize qa[k].lv = LA at z1 ia
      generalize qb[k].lv = LB at z2 ib
      generalize P[k] = p at x1 y1 x2 y2 ia ib hn hpl
      obtain ⟨⟨Y1, Y2⟩, pl⟩ := p
      simp only at x1 y1 x2 y2 ia ib hn hpl
      have S0 := hid (fun (W : World) (kW : Kept wr W) => (show (W.cell? ⟨b1, o1 + k * 3, none⟩ = some (.string Y1) ∧ W.cell? ⟨b1, o1 + k * 3 + 1, none⟩ = some (.string Y2) ∧ W.cell? ⟨b1, o1 + k * 3 + 2, none⟩ = some LA) ∧ W.cell? ⟨b2, o2 + k * 3, none⟩ = some (.string Y1) ∧ W.cell? ⟨b2, o2 + k * 3 + 1, none⟩ = some (.string Y2) ∧ W.cell? ⟨b2, o2 + k * 3 + 2, none⟩ = some LB from ⟨⟨cell_kept kW x1, cell_kept kW y1, cell_kept kW z1⟩, cell_kept kW x2, cell_kept kW y2, cell_kept kW z2⟩))
      have HSM := hid (fun (W : World) (kW : Kept wr W) => Po.same_any W LA LB pl (ia.stay kW).1 (ib.stay kW).1 hpl)
      obtain ⟨sa, sc, ea, _⟩ := ia.2
      obtain ⟨sb, sd, eb, _⟩ := ib.2
      have KR := hid kr
      clear x1 y1 z1 x2 y2 z2 pa pb ia ib kr
      generalize pl.length = M at ea eb
      subst ea eb
      go_wp2_with fail
      have K0 := hid (show Kept wr wr.drew from (Only.refl _ _).drew)
      refine wp_region_noPanic ?_
      refine wp_region_last (L := 1000) (S := fun w' => Kept wr w') (by kernel_rfl) ?_
      refine wpAnyN_take (i := 0) (v := .slice (some ⟨b1, o1, none⟩) N c1) rfl (by kernel_rfl) (by kernel_rfl) (by kernel_rfl) (by decide) (by kernel_rfl) (fun _ _ _ h => h) (Or.inl ⟨by kernel_rfl, ?_⟩) K0.out ?_
      · (intro w' hSw; obtain ⟨⟨s0, s1, s2⟩, s3, s4, s5⟩ := S0.out w' hSw; clear hSw; go_simp)
      (try simp only [List.getElem_toArray, List.getElem_cons_succ, List.getElem_cons_zero])
      go_frame
      refine wpAnyN_take (i := 1) (v := .int .i64 (k : Int)) rfl (by kernel_rfl) (by kernel_rfl) (by kernel_rfl) (by decide) (by kernel_rfl) (fun _ _ _ h => h) (Or.inl ⟨by kernel_rfl, ?_⟩) K0.out ?_
      · (intro w' hSw; obtain ⟨⟨s0, s1, s2⟩, s3, s4, s5⟩ := S0.out w' hSw; clear hSw; go_simp)
      (try simp only [List.getElem_toArray, List.getElem_cons_succ, List.getElem_cons_zero])
      go_frame
      refine wpAnyN_take (i := 2) (v := .pointer (some ⟨b1, o1 + k * 3, none⟩)) rfl (by kernel_rfl) (by kernel_rfl) (by kernel_rfl) (by decide) (by kernel_rfl) (fun _ _ _ h => h) (Or.inl ⟨by kernel_rfl, ?_⟩) K0.out ?_
      · (intro w' hSw; obtain ⟨⟨s0, s1, s2⟩, s3, s4, s5⟩ := S0.out w' hSw; clear hSw; go_simp)
      (try simp only [List.getElem_toArray, List.getElem_cons_succ, List.getElem_cons_zero])
      go_frame
      refine wpAnyN_take (i := 3) (v := .pointer (some ⟨b1, o1 + k * 3, none⟩)) rfl (by kernel_rfl) (by kernel_rfl) (by kernel_rfl) (by decide) (by kernel_rfl) (fun _ _ _ h => h) (Or.inl ⟨by kernel_rfl, ?_⟩) K0.out ?_
      · (intro w' hSw; obtain ⟨⟨s0, s1, s2⟩, s3, s4, s5⟩ := S0.out w' hSw; clear hSw; go_simp)
      (try simp only [List.getElem_toArray, List.getElem_cons_succ, List.getElem_cons_zero])
      go_frame
      refine wpAnyN_take (i := 4) (v := .agg #[.string Y1, .string Y2]) rfl (by kernel_rfl) (by kernel_rfl) (by kernel_rfl) (by decide) (by kernel_rfl) (fun _ _ _ h => h) (Or.inl ⟨by kernel_rfl, ?_⟩) K0.out ?_
      · (intro w' hSw; obtain ⟨⟨s0, s1, s2⟩, s3, s4, s5⟩ := S0.out w' hSw; clear hSw; go_simp)
      (try simp only [List.getElem_toArray, List.getElem_cons_succ, List.getElem_cons_zero])
      go_frame
      refine wpAnyN_take (i := 5) (v := .slice (some ⟨b2, o2, none⟩) N c2) rfl (by kernel_rfl) (by kernel_rfl) (by kernel_rfl) (by decide) (by kernel_rfl) (fun _ _ _ h => h) (Or.inl ⟨by kernel_rfl, ?_⟩) K0.out ?_
      · (intro w' hSw; obtain ⟨⟨s0, s1, s2⟩, s3, s4, s5⟩ := S0.out w' hSw; clear hSw; go_simp)
      (try simp only [List.getElem_toArray, List.getElem_cons_succ, List.getElem_cons_zero])
      go_frame
      refine wpAnyN_take (i := 6) (v := .int .i64 (k : Int)) rfl (by kernel_rfl) (by kernel_rfl) (by kernel_rfl) (by decide) (by kernel_rfl) (fun _ _ _ h => h) (Or.inl ⟨by kernel_rfl, ?_⟩) K0.out ?_
      · (intro w' hSw; obtain ⟨⟨s0, s1, s2⟩, s3, s4, s5⟩ := S0.out w' hSw; clear hSw; go_simp)
      (try simp only [List.getElem_toArray, List.getElem_cons_succ, List.getElem_cons_zero])
      go_frame
      refine wpAnyN_take (i := 7) (v := .pointer (some ⟨b2, o2 + k * 3, none⟩)) rfl (by kernel_rfl) (by kernel_rfl) (by kernel_rfl) (by decide) (by kernel_rfl) (fun _ _ _ h => h) (Or.inl ⟨by kernel_rfl, ?_⟩) K0.out ?_
      · (intro w' hSw; obtain ⟨⟨s0, s1, s2⟩, s3, s4, s5⟩ := S0.out w' hSw; clear hSw; go_simp)
      (try simp only [List.getElem_toArray, List.getElem_cons_succ, List.getElem_cons_zero])
      go_frame
      refine wpAnyN_take (i := 8) (v := .pointer (some ⟨b2, o2 + k * 3, none⟩)) rfl (by kernel_rfl) (by kernel_rfl) (by kernel_rfl) (by decide) (by kernel_rfl) (fun _ _ _ h => h) (Or.inl ⟨by kernel_rfl, ?_⟩) K0.out ?_
      · (intro w' hSw; obtain ⟨⟨s0, s1, s2⟩, s3, s4, s5⟩ := S0.out w' hSw; clear hSw; go_simp)
      (try simp only [List.getElem_toArray, List.getElem_cons_succ, List.getElem_cons_zero])
      go_frame
      refine wpAnyN_take (i := 9) (v := .agg #[.string Y1, .string Y2]) rfl (by kernel_rfl) (by kernel_rfl) (by kernel_rfl) (by decide) (by kernel_rfl) (fun _ _ _ h => h) (Or.inl ⟨by kernel_rfl, ?_⟩) K0.out ?_
      · (intro w' hSw; obtain ⟨⟨s0, s1, s2⟩, s3, s4, s5⟩ := S0.out w' hSw; clear hSw; go_simp)
      (try simp only [List.getElem_toArray, List.getElem_cons_succ, List.getElem_cons_zero])
      go_frame
      refine wpAnyN_take (i := 10) (v := .bool false) rfl (by kernel_rfl) (by kernel_rfl) (by kernel_rfl) (by decide) (by kernel_rfl) (fun _ _ _ h => h) (Or.inl ⟨by kernel_rfl, ?_⟩) K0.out ?_
      · (intro w' hSw; obtain ⟨⟨s0, s1, s2⟩, s3, s4, s5⟩ := S0.out w' hSw; clear hSw; go_simp)
      (try simp only [List.getElem_toArray, List.getElem_cons_succ, List.getElem_cons_zero])
      go_frame
      refine wpAnyN_take (i := 11) (v := .bool false) rfl (by kernel_rfl) (by kernel_rfl) (by kernel_rfl) (by decide) (by kernel_rfl) (fun _ _ _ h => h) (Or.inl ⟨by kernel_rfl, ?_⟩) K0.out ?_
      · (intro w' hSw; obtain ⟨⟨s0, s1, s2⟩, s3, s4, s5⟩ := S0.out w' hSw; clear hSw; go_simp)
      (try simp only [List.getElem_toArray, List.getElem_cons_succ, List.getElem_cons_zero])
      go_frame
      refine wpAnyN_take (i := 12) (v := .slice (some ⟨b1, o1, none⟩) N c1) rfl (by kernel_rfl) (by kernel_rfl) (by kernel_rfl) (by decide) (by kernel_rfl) (fun _ _ _ h => h) (Or.inl ⟨by kernel_rfl, ?_⟩) K0.out ?_
      · (intro w' hSw; obtain ⟨⟨s0, s1, s2⟩, s3, s4, s5⟩ := S0.out w' hSw; clear hSw; go_simp)
      (try simp only [List.getElem_toArray, List.getElem_cons_succ, List.getElem_cons_zero])
      go_frame
      refine wpAnyN_take (i := 13) (v := .int .i64 (k : Int)) rfl (by kernel_rfl) (by kernel_rfl) (by kernel_rfl) (by decide) (by kernel_rfl) (fun _ _ _ h => h) (Or.inl ⟨by kernel_rfl, ?_⟩) K0.out ?_
      · (intro w' hSw; obtain ⟨⟨s0, s1, s2⟩, s3, s4, s5⟩ := S0.out w' hSw; clear hSw; go_simp)
      (try simp only [List.getElem_toArray, List.getElem_cons_succ, List.getElem_cons_zero])
      go_frame
      refine wpAnyN_take (i := 14) (v := .pointer (some ⟨b1, o1 + k * 3, none⟩)) rfl (by kernel_rfl) (by kernel_rfl) (by kernel_rfl) (by decide) (by kernel_rfl) (fun _ _ _ h => h) (Or.inl ⟨by kernel_rfl, ?_⟩) K0.out ?_
      · (intro w' hSw; obtain ⟨⟨s0, s1, s2⟩, s3, s4, s5⟩ := S0.out w' hSw; clear hSw; go_simp)
      (try simp only [List.getElem_toArray, List.getElem_cons_succ, List.getElem_cons_zero])
      go_frame
      refine wpAnyN_take (i := 15) (v := .pointer (some ⟨b1, o1 + k * 3 + 2, none⟩)) rfl (by kernel_rfl) (by kernel_rfl) (by kernel_rfl) (by decide) (by kernel_rfl) (fun _ _ _ h => h) (Or.inl ⟨by kernel_rfl, ?_⟩) K0.out ?_
      · (intro w' hSw; obtain ⟨⟨s0, s1, s2⟩, s3, s4, s5⟩ := S0.out w' hSw; clear hSw; go_simp)
      (try simp only [List.getElem_toArray, List.getElem_cons_succ, List.getElem_cons_zero])
      go_frame
      refine wpAnyN_take (i := 16) (v := .slice sa M sc) rfl (by kernel_rfl) (by kernel_rfl) (by kernel_rfl) (by decide) (by kernel_rfl) (fun _ _ _ h => h) (Or.inl ⟨by kernel_rfl, ?_⟩) K0.out ?_
      · (intro w' hSw; obtain ⟨⟨s0, s1, s2⟩, s3, s4, s5⟩ := S0.out w' hSw; clear hSw; go_simp)
      (try simp only [List.getElem_toArray, List.getElem_cons_succ, List.getElem_cons_zero])
      go_frame
      refine wpAnyN_take (i := 17) (v := .slice (some ⟨b2, o2, none⟩) N c2) rfl (by kernel_rfl) (by kernel_rfl) (by kernel_rfl) (by decide) (by kernel_rfl) (fun _ _ _ h => h) (Or.inl ⟨by kernel_rfl, ?_⟩) K0.out ?_
      · (intro w' hSw; obtain ⟨⟨s0, s1, s2⟩, s3, s4, s5⟩ := S0.out w' hSw; clear hSw; go_simp)
      (try simp only [List.getElem_toArray, List.getElem_cons_succ, List.getElem_cons_zero])
      go_frame
      refine wpAnyN_take (i := 18) (v := .int .i64 (k : Int)) rfl (by kernel_rfl) (by kernel_rfl) (by kernel_rfl) (by decide) (by kernel_rfl) (fun _ _ _ h => h) (Or.inl ⟨by kernel_rfl, ?_⟩) K0.out ?_
      · (intro w' hSw; obtain ⟨⟨s0, s1, s2⟩, s3, s4, s5⟩ := S0.out w' hSw; clear hSw; go_simp)
      (try simp only [List.getElem_toArray, List.getElem_cons_succ, List.getElem_cons_zero])
      go_frame
      refine wpAnyN_take (i := 19) (v := .pointer (some ⟨b2, o2 + k * 3, none⟩)) rfl (by kernel_rfl) (by kernel_rfl) (by kernel_rfl) (by decide) (by kernel_rfl) (fun _ _ _ h => h) (Or.inl ⟨by kernel_rfl, ?_⟩) K0.out ?_
      · (intro w' hSw; obtain ⟨⟨s0, s1, s2⟩, s3, s4, s5⟩ := S0.out w' hSw; clear hSw; go_simp)
      (try simp only [List.getElem_toArray, List.getElem_cons_succ, List.getElem_cons_zero])
      go_frame
      refine wpAnyN_take (i := 20) (v := .pointer (some ⟨b2, o2 + k * 3 + 2, none⟩)) rfl (by kernel_rfl) (by kernel_rfl) (by kernel_rfl) (by decide) (by kernel_rfl) (fun _ _ _ h => h) (Or.inl ⟨by kernel_rfl, ?_⟩) K0.out ?_
      · (intro w' hSw; obtain ⟨⟨s0, s1, s2⟩, s3, s4, s5⟩ := S0.out w' hSw; clear hSw; go_simp)
      (try simp only [List.getElem_toArray, List.getElem_cons_succ, List.getElem_cons_zero])
      go_frame
      refine wpAnyN_take (i := 21) (v := .slice sb M sd) rfl (by kernel_rfl) (by kernel_rfl) (by kernel_rfl) (by decide) (by kernel_rfl) (fun _ _ _ h => h) (Or.inl ⟨by kernel_rfl, ?_⟩) K0.out ?_
      · (intro w' hSw; obtain ⟨⟨s0, s1, s2⟩, s3, s4, s5⟩ := S0.out w' hSw; clear hSw; go_simp)
      (try simp only [List.getElem_toArray, List.getElem_cons_succ, List.getElem_cons_zero])
      go_frame
      refine wpAnyL_one (i := 22) (by kernel_rfl) rfl (by kernel_rfl) ?_
      go_simp
      refine (HSM.out _ K0.out).mono ?_
      rintro e w5 ⟨rfl, k5⟩
      have K5 := hid (show Kept wr w5 from K0.out.trans k5 (fun _ _ f => f))
      clear k5
      refine ⟨K5.out, ?_⟩
      (try go_frame)
      refine wpAnyL_one (i := 23) (by kernel_rfl) rfl (by kernel_rfl) ?_
      go_simp
      refine ⟨K5.out, ?_⟩
      (try go_frame)
      refine wpAnyL_one (i := 24) (by kernel_rfl) rfl (by kernel_rfl) ?_
      go_simp
      refine ⟨K5.out, ?_⟩
      (try go_frame)
      refine wpAnyN_done (by kernel_rfl) ?_
      refine NoPanic.normal ?_
      go_wp2_with fail
      go_roundw
      case rel => exact ⟨k + 1, by omega, by go_num, KR.out.trans K5.out (fun _ _ f => f)⟩
      case measure => simp [intOf]; omega
    · obtain rfl : k = N := by omega
      go_wp2
      go_ret
      exact ⟨rfl, kr⟩

theorem src_str {w : World} {a : Option Addr} {N c : Nat} {ss : List ByteArray} (h : SrcOf w (.slice a N c) (ss.map Value.string)) (hN : ss.length = N) (k : Nat) (hk : k < N) : ∃ b o, a = some ⟨b, o, none⟩ ∧ w.cell? ⟨b, o + k, none⟩ = some (.string (ss[k]'(by omega))) := by
  rcases h.shape with ⟨h2, _⟩ | ⟨_, b, o, c2, h2, h3⟩
  · exfalso
    have := List.map_eq_nil_iff.1 h2
    rw [this] at hN
    simp at hN
    omega
  · simp only [Value.slice.injEq] at h2
    refine ⟨b, o, h2.1, h3 k _ ?_⟩
    rw [List.getElem?_map, List.getElem?_eq_getElem (by omega)]
    rfl
theorem ded_step (l : List ByteArray) (m : Nat) : dedN l (m + 1) = dedN l m ++ (if keepN l m then [l.getD m ⟨#[]⟩] else []) := rfl
abbrev noName : ByteArray := ⟨#[110, 111, 95, 115, 117, 99, 104, 95, 110, 97, 109, 101]⟩

theorem up_mem' {P : Posts} {N : Nat} {L : List Labs} (hT : X.Tells P N (HasL L)) {p : Post} (hp : p ∈ P) {u : Int} (hu : u ∈ p.2) : ∃ i : Nat, u = (i : Int) ∧ HasL L p.1 i := by
  have h1 := (Po.up_mem (hT.up p hp) hu).1
  refine ⟨u.toNat, by omega, ?_⟩
  rw [← hT.iff, look_sorted hT.sort (x := p.1) (l := p.2) hp, show ((u.toNat : Nat) : Int) = u by omega]
  exact hu
set_option maxRecDepth 100000 in
set_option maxHeartbeats 12800000 in
theorem all_law (w : World) (v : Value) (x : IxC) (O : Nat → Prop) (L : List Labs) (hA : IxAt w x O) (hI : Is x (postsOf L)) (hs : LSrc w v L) (hf : Few L) (hT : X.Tells (postsOf L) L.length (HasL L)) (hnm : ∀ l ∈ L, ∀ y ∈ l, y.1 ≠ noName) :
    Calls Tryz.prog 12 #[.pointer (some ⟨x.xb, 0, none⟩), v] w fun e w' => e = .returned (.bool true) ∧ Kept w w' := by
  have hbd := bd_posts L L.length (Nat.le_refl _)
  rw [List.take_length] at hbd
  have hsum := hf.sum
  have hPl : (postsOf L).length ≤ 1500 := by have := hbd.1.1; omega
  have hPll : ∀ p ∈ postsOf L, p.2.length ≤ 1500 := fun p hp => by
    have h1 := hbd.1.2 p.1
    rw [look_sorted hbd.2 (x := p.1) (l := p.2) hp] at h1
    omega
  have hno : ofN (postsOf L) noName = [] := by
    unfold ofN
    rw [List.filter_eq_nil_iff]
    intro p hp
    simp only [decide_eq_true_eq]
    intro e
    obtain ⟨u, hu⟩ := List.exists_mem_of_ne_nil _ (hT.some p hp)
    have h1 := (up_mem' hT hp hu)
    obtain ⟨i, rfl, l, hl, hy⟩ := h1
    exact hnm l (List.mem_of_getElem? hl) p.1 hy e
  have HR := hid (rposts_any w v L hs (by omega) (by have := hf.len; omega) (fun l hl => by have := (bigN_small (hf.each l hl)).2; omega))
  have HX := hid (fun W (k : Kept w W) => hA.stay k)
  have HI := hid hI
  have HSO := hid hbd.2
  obtain ⟨av, cv, rfl⟩ := hs.len
  have HPO := hid (fun W (k : Kept w W) => posts_any (hA.stay k) hI (by omega) (fun p hp => by have := hPll p hp; omega))
  have HNA := hid (fun W (k : Kept w W) => names_any (hA.stay k) hI (by omega))
  have HVA := hid (fun W (k : Kept w W) n => values_any (hA.stay k) hI (by omega) n)
  have HPLL := hid hPll
  have HNO := hid hno
  clear hA hI hs hf hT hnm hbd hsum hPll hno
  generalize postsOf L = P at *
  generalize x.xb = XB at *
  generalize L.length = NLL at *
  obtain ⟨N, hN⟩ : ∃ N, P.length = N := ⟨_, rfl⟩
  have HN := hid hN
  rw [hN] at hPl
  have HNL := hid (show (P.map (·.1.1)).length = N by rw [List.length_map]; exact hN)
  have hNN : (namesP P).length ≤ N := by have := names_len P; omega
  clear hN
  go_enter Tryz.func12, Tryz.ntmps12
  go_wp2_with fail
  refine HR.out.mono ?_
  rintro e w1 ⟨v5, qs, rfl, hpo, hqe, k1⟩
  have HP5 := hid (hpo.psrc hqe)
  have K1 := hid k1
  obtain ⟨a5, c5, e5⟩ := (pv_cells hpo.row).len
  have hql : qs.length = N := by have h1 := HP5.out.len; have h2 := HN.out; omega
  rw [hql] at e5
  subst e5
  have HQL := hid hql
  clear hpo hqe k1 HR hql
  go_wp2_with fail
  refine (HPO.out w1 K1.out).mono ?_
  rintro e w2 ⟨v6, qs6, rfl, hpo6, hqe6, k2⟩
  have HP6 := hid (hpo6.psrc hqe6)
  have K2 := hid (K1.out.trans k2 (fun _ _ f => f))
  have HP52 := hid (HP5.out.stay k2)
  obtain ⟨a6, c6, e6⟩ := (pv_cells hpo6.row).len
  generalize qs6.length = N6 at e6
  subst e6
  have HSA := hid (sameposts_any w2 _ _ P qs6 qs HP6.out HP52.out (by have := HN.out; omega) (fun p hp => by have := HPLL.out p hp; omega))
  clear hpo6 hqe6 k2 HPO HP6
  go_wp2_with fail
  refine HSA.out.mono ?_
  rintro e w3 ⟨rfl, k3⟩
  have K3 := hid (K2.out.trans k3 (fun _ _ f => f))
  have HP := hid (HP52.out.stay k3)
  clear k3 HSA HP52 K2 K1 HP5
  go_wp2_with fail
  go_loopw [6, 7] (fun s6 s7 wr => ∃ (i : Nat) (ss : List ByteArray) (a : Option Addr) (m c : Nat), i ≤ N ∧ s7 = .int .i64 (i : Int) ∧ s6 = .slice a m c ∧ m ≤ i ∧ Hid (m = ss.length) ∧ Hid (StrAt wr w3.heap.size (.slice a m c) ss) ∧ Hid (ss = dedN (P.map (·.1.1)) i) ∧ Kept w3 wr) (fun _ s7 _ => N - (intOf s7).toNat)
  case atStart => exact ⟨0, [], none, 0, 0, by omega, rfl, rfl, by omega, hid rfl, hid (World.ownsRow_nil _ _ _ _), hid rfl, Only.refl _ _⟩
  case round =>
    obtain ⟨i, ss, a7, m7, c7, hi, rfl, rfl, hmi, hm7, hat, hss, kr⟩ := hrel
    by_cases hlt : i < N
    · have hiq : i < qs.length := by have := HQL.out; omega
      have hiP : i < P.length := by have := HN.out; omega
      obtain ⟨b, o, rfl, x1, y1, z1⟩ := (HP.out.stay kr).cells.cell HQL.out i hlt
      rw [(HP.out.at_ hiq hiP).1] at x1
      have hg1 : (P.map (·.1.1)).getD i ⟨#[]⟩ = P[i].1.1 := by rw [getD_at (by have := HNL.out; omega)]; simp
      by_cases hi0 : i = 0
      · subst hi0
        have HKEEP : Hid (dedN (P.map (·.1.1)) (0 + 1) = dedN (P.map (·.1.1)) 0 ++ [P[0].1.1]) := by
          show dedN (P.map (·.1.1)) (0 + 1) = dedN (P.map (·.1.1)) 0 ++ [P[0].1.1]
          rw [ded_step, if_pos (by simp [keepN]), hg1]
        clear y1 z1 hg1
        simp only [Nat.zero_mul, Nat.add_zero] at x1
        generalize P[0].1.1 = X1 at x1 HKEEP
        go_wp2_with fail
        go_quiet (fail)
        have K5 := hid (show Kept w3 (wr.drewN nq) from kept_drewN kr nq)
        have HAT5 := hid (show StrAt (wr.drewN nq) w3.heap.size (.slice a7 m7 c7) ss from ownN_stay hat.out (kept_drewN (Only.refl _ _) nq))
        have x5 := cell_kept (show Kept wr (wr.drewN nq) from kept_drewN (Only.refl _ _) nq) x1
        generalize wr.drewN nq = w5 at K5 HAT5 x5 ⊢
        clear x1
        obtain ⟨a9, n9, c9, w9, hr9, hn9, hat9, hk9⟩ := str_step HAT5.out K5.out X1 (by have := hm7.out; omega)
        have HN9 := hid hn9
        have hn9k : n9 ≤ 0 + 1 := by have := hm7.out; rw [hn9, List.length_append, List.length_singleton]; omega
        clear hn9
        go_wp2_with (at_builtin; refine Lys.wpList_append_run rfl _ _ _ rfl rfl rfl hr9 ?_)
        (try go_wp2_with fail)
        go_roundw
        case rel => exact ⟨0 + 1, ss ++ [X1], a9, n9, c9, by omega, by go_num, rfl, hn9k, HN9, hat9, hid (by rw [HKEEP.out, hss.out]), hk9.out⟩
        case measure => simp [intOf]; omega
      · obtain ⟨b', o', e', x2, _, _⟩ := (HP.out.stay kr).cells.cell HQL.out (i - 1) (by omega)
        cases e'
        have hiq1 : i - 1 < qs.length := by omega
        have hiP1 : i - 1 < P.length := by omega
        rw [(HP.out.at_ hiq1 hiP1).1] at x2
        have hg0 : (P.map (·.1.1)).getD (i - 1) ⟨#[]⟩ = P[i - 1].1.1 := by rw [getD_at (by have := HNL.out; omega)]; simp
        obtain ⟨j, hj⟩ : ∃ j, i - 1 = j := ⟨_, rfl⟩
        have hij : i = j + 1 := by omega
        have HIJ := hid hij
        have hjP : j < P.length := by omega
        have x2' : wr.cell? ⟨b, o + j * 3, none⟩ = some (.string P[j].1.1) := by simpa [hj] using x2
        have hg0' : (P.map (·.1.1)).getD j ⟨#[]⟩ = P[j].1.1 := by rw [getD_at (by have := HNL.out; omega)]; simp
        clear x2 hg0
        have hw1 : IntKind.i64.wrap ((i : Int) - 1) = (j : Int) := by rw [IntKind.wrap_i64]; omega
        have hz0 : ((i : Int) == 0) = false := by simp only [beq_eq_false_iff_ne, ne_eq]; omega
        have hz1 : ¬ (i : Int) = 0 := by omega
        have hjN : j < N := by omega
        clear hij
        by_cases hq : P[i].1.1 = P[j].1.1
        · have HKEEP : Hid (dedN (P.map (·.1.1)) (i + 1) = dedN (P.map (·.1.1)) i) := by
            show dedN (P.map (·.1.1)) (i + 1) = dedN (P.map (·.1.1)) i
            have hk : keepN (P.map (·.1.1)) i = false := by
              unfold keepN
              rw [hg1, hj, hg0', hq]
              simp [hi0]
            rw [ded_step, hk, if_neg (by decide), List.append_nil]
          rw [hq] at x1
          clear y1 z1 hg1 hg0' hq hi0 hj
          generalize P[j].1.1 = X1 at x1 x2'
          have KR := hid kr
          go_wp2_with fail
          go_quiet (fail)
          have K5 := hid (show Kept w3 (wr.drewN nq) from kept_drewN KR.out nq)
          have HAT5 := hid (show StrAt (wr.drewN nq) w3.heap.size (.slice a7 m7 c7) ss from ownN_stay hat.out (kept_drewN (Only.refl _ _) nq))
          generalize wr.drewN nq = w5 at K5 HAT5 ⊢
          go_wp2_with fail
          go_roundw
          case rel => exact ⟨i + 1, ss, a7, m7, c7, by omega, by go_num, rfl, by omega, hm7, HAT5, hid (by rw [HKEEP.out]; exact hss.out), K5.out⟩
          case measure => simp [intOf]; omega
        · have HKEEP : Hid (dedN (P.map (·.1.1)) (i + 1) = dedN (P.map (·.1.1)) i ++ [P[i].1.1]) := by
            show dedN (P.map (·.1.1)) (i + 1) = dedN (P.map (·.1.1)) i ++ [P[i].1.1]
            have hk : keepN (P.map (·.1.1)) i = true := by
              unfold keepN
              rw [hg1, hj, hg0']
              exact decide_eq_true (.inr hq)
            rw [ded_step, hk, if_pos rfl, hg1]
          clear y1 z1 hg1 hg0' hi0 hj
          generalize P[i].1.1 = X1 at x1 hq HKEEP
          generalize P[j].1.1 = X2 at x2' hq
          have hq1 : (X1.toList == X2.toList) = false := by
            simp only [beq_eq_false_iff_ne, ne_eq]
            intro e
            rw [ByteArray.toList_eq, ByteArray.toList_eq] at e
            exact hq (bytes_inj e)
          have hq2 : ¬ X1.toList = X2.toList := by simpa using hq1
          clear hq
          go_wp2_with fail
          go_quiet (fail)
          have K5 := hid (show Kept w3 (wr.drewN nq) from kept_drewN kr nq)
          have HAT5 := hid (show StrAt (wr.drewN nq) w3.heap.size (.slice a7 m7 c7) ss from ownN_stay hat.out (kept_drewN (Only.refl _ _) nq))
          have x5 := cell_kept (show Kept wr (wr.drewN nq) from kept_drewN (Only.refl _ _) nq) x1
          generalize wr.drewN nq = w5 at K5 HAT5 x5 ⊢
          clear x1 x2'
          obtain ⟨a9, n9, c9, w9, hr9, hn9, hat9, hk9⟩ := str_step HAT5.out K5.out X1 (by have := hm7.out; omega)
          have HN9 := hid hn9
          have hn9k : n9 ≤ i + 1 := by have := hm7.out; rw [hn9, List.length_append, List.length_singleton]; omega
          clear hn9
          go_wp2_with (at_builtin; refine Lys.wpList_append_run rfl _ _ _ rfl rfl rfl hr9 ?_)
          (try go_wp2_with fail)
          go_roundw
          case rel => exact ⟨i + 1, ss ++ [X1], a9, n9, c9, by omega, by go_num, rfl, hn9k, HN9, hat9, hid (by rw [HKEEP.out, hss.out]), hk9.out⟩
          case measure => simp [intOf]; omega
    · obtain rfl : N = i := by omega
      have hssN : ss = namesP P := by rw [hss.out]; unfold namesP; rw [HN.out]
      have HSS := hid hssN
      have hmN : m7 = (namesP P).length := by have h1 := hm7.out; rw [h1, hssN]
      have HAT := hid (own_src hat.out)
      rw [hssN] at HAT
      clear hssN
      obtain ⟨M, hM⟩ : ∃ M, (namesP P).length = M := ⟨_, rfl⟩
      rw [hM] at hmN hNN
      subst hmN
      have HM := hid hM
      have KR := hid (K3.out.trans kr (fun _ _ f => f))
      have K3r := hid kr
      have HPr := hid (HP.out.stay kr)
      clear hM kr hm7 hat hss HP K3
      go_wp2_with fail
      refine (HNA.out wr KR.out).mono ?_
      rintro e w4 ⟨a8, c8, rfl, hsrc8, k4⟩
      have HS8 := hid hsrc8
      have HS6 := hid (HAT.out.stay k4)
      have K4 := hid (KR.out.trans k4 (fun _ _ f => f))
      have HP4 := hid (HPr.out.stay k4)
      have e0 := HM.out
      rw [e0] at HS8 ⊢
      clear hsrc8 k4 e0 HAT HPr KR K3r HNA
      go_wp2_with fail
      go_loopw [9, 10] (fun s9 s10 wr => ∃ (i at_ : Nat), i ≤ m7 ∧ at_ ≤ 1500 ∧ s10 = .int .i64 (i : Int) ∧ s9 = .int .i64 (at_ : Int) ∧ Hid (at_ = atN P i) ∧ Kept w4 wr) (fun _ s10 _ => m7 - (intOf s10).toNat)
      case atStart => exact ⟨0, 0, by omega, by omega, rfl, rfl, hid (by simp [atN]), Only.refl _ _⟩
      case round =>
        obtain ⟨i2, t, hi2, ht15, rfl, rfl, hat2, kr⟩ := hrel
        have KR := hid kr
        have KW := hid (K4.out.trans kr (fun _ _ f => f))
        by_cases hlt2 : i2 < m7
        · have hin : i2 < (namesP P).length := by have := HM.out; omega
          obtain ⟨b6, o6, rfl, x6⟩ := src_str (HS6.out.stay kr) HM.out i2 hlt2
          obtain ⟨b8, o8, rfl, x8⟩ := src_str (HS8.out.stay kr) HM.out i2 hlt2
          have HX68 := hid (fun (W : World) (kW : Kept wr W) => (show W.cell? ⟨b6, o6 + i2, none⟩ = some (.string (namesP P)[i2]) ∧ W.cell? ⟨b8, o8 + i2, none⟩ = some (.string (namesP P)[i2]) from ⟨cell_kept kW x6, cell_kept kW x8⟩))
          have HGET := hid (fun k (hk : k < (ofN P (namesP P)[i2]).length) => atN_get HSO.out hin hk)
          have HSUC := hid (atN_succ (P := P) hin)
          have HOFN := hid (fun p (hp : p ∈ ofN P (namesP P)[i2]) => (show p.1.1 = (namesP P)[i2] from by have := (List.mem_filter.1 hp).2; simpa using this))
          have HVN := hid (HVA.out wr KW.out (namesP P)[i2])
          clear x8 kr
          generalize (namesP P)[i2] = NM at *
          go_wp2_with fail
          refine HVN.out.mono ?_
          rintro e w7 ⟨v11, rfl, hat11, k7⟩
          have HS11 := hid (own_src hat11)
          obtain ⟨a11, c11, e11⟩ := ownN_slice hat11
          rw [List.length_map] at e11
          have HV7 := hid (HP4.out.stay (KR.out.trans k7 (fun _ _ f => f)))
          have K7 := hid (KR.out.trans k7 (fun _ _ f => f))
          have H68 := hid (fun (W : World) (kW : Kept w7 W) => HX68.out W (k7.trans kW (fun _ _ f => f)))
          obtain ⟨G, hG⟩ : ∃ G, (ofN P NM).length = G := ⟨_, rfl⟩
          rw [hG] at e11
          have HG := hid hG
          have hG2 : t + G ≤ 1500 := by
            have h1 := HSUC.out
            have h2 := hat2.out
            by_cases g0 : G = 0
            · omega
            · obtain ⟨h3, _⟩ := HGET.out (G - 1) (by omega)
              have := HN.out
              omega
          subst e11
          clear hat11 k7 hG HVN HX68 x6
          go_wp2_with fail
          go_loopw [9, 12] (fun s9 s12 wr => ∃ (k : Nat), k ≤ G ∧ s12 = .int .i64 (k : Int) ∧ s9 = .int .i64 ((t + k : Nat) : Int) ∧ Kept w7 wr) (fun _ s12 _ => G - (intOf s12).toNat)
          case atStart => exact ⟨0, by omega, rfl, rfl, Only.refl _ _⟩
          case round =>
            obtain ⟨k, hk, rfl, rfl, kr⟩ := hrel
            by_cases hkl : k < G
            · have hkg : k < (ofN P NM).length := by have := HG.out; omega
              obtain ⟨h3, h4⟩ := HGET.out k hkg
              have hta : t + k < N := by have h1 := hat2.out; have h2 := HN.out; omega
              have htq : t + k < qs.length := by have := HQL.out; omega
              have htP : t + k < P.length := by have := HN.out; omega
              obtain ⟨b5, o5, rfl, x1, y1, _⟩ := (HV7.out.stay kr).cells.cell HQL.out (t + k) hta
              obtain ⟨b11, o11, rfl, z1⟩ := src_str (HS11.out.stay kr) (by rw [List.length_map]; exact HG.out) k hkl
              obtain ⟨x6, _⟩ := H68.out wr kr
              rw [(HV7.out.at_ htq htP).1] at x1 y1
              have hPe : P[t + k] = (ofN P NM)[k] := by
                rw [← h4]
                congr 1
                have := hat2.out
                omega
              rw [hPe] at x1 y1
              rw [HOFN.out _ (List.getElem_mem hkg)] at x1
              simp only [List.getElem_map] at z1
              generalize (ofN P NM)[k].1.2 = VV at y1 z1
              have hge : decide ((N : Int) ≤ ((t + k : Nat) : Int)) = false := decide_eq_false (by omega)
              have hge2 : ((N : Int) ≤ ((t + k : Nat) : Int)) = False := by simp; omega
              have KR3 := hid kr
              clear h3 h4 hPe kr
              obtain ⟨q, hq⟩ : ∃ q : Nat, t + k = q := ⟨_, rfl⟩
              rw [hq] at x1 y1 hge hge2 hta ⊢
              have HQ := hid hq
              have hq15 : q ≤ 1500 := by omega
              clear hq
              go_wp2_with fail
              go_quiet (fail)
              have K9 := hid (show Kept w7 (wr.drewN nq) from kept_drewN KR3.out nq)
              generalize wr.drewN nq = w9 at K9 ⊢
              clear x1 y1 z1 x6
              go_wp2_with fail
              go_roundw
              case rel => exact ⟨k + 1, by omega, by go_num, by have := HQ.out; go_num, K9.out⟩
              case measure => simp [intOf]; omega
            · obtain rfl : k = G := by omega
              obtain ⟨x6, x8⟩ := H68.out wr kr
              have KR3 := hid kr
              clear kr
              go_wp2_with fail
              go_quiet (fail)
              have K9 := hid (show Kept w4 (wr.drewN nq) from kept_drewN (K7.out.trans KR3.out (fun _ _ f => f)) nq)
              generalize wr.drewN nq = w9 at K9 ⊢
              clear x6 x8
              have HAT2 : Hid (t + k = atN P (i2 + 1)) := by
                show t + k = atN P (i2 + 1)
                have h1 := HSUC.out
                have h2 := hat2.out
                have h3 := HG.out
                omega
              go_wp2_with fail
              go_roundw
              case rel => exact ⟨i2 + 1, t + k, by omega, by omega, by go_num, rfl, HAT2, K9.out⟩
              case measure => simp [intOf]; omega
        · obtain rfl : i2 = m7 := by omega
          have htN : N = t := by
            have h1 := hat2.out
            have h2 := HM.out
            have h3 := atN_all HSO.out
            have h4 := HN.out
            rw [h2] at h3
            omega
          subst htN
          have HVN := hid (HVA.out wr KW.out noName)
          rw [HNO.out] at HVN
          clear kr
          go_wp2_with fail
          refine HVN.out.mono ?_
          rintro e w7 ⟨v11, rfl, hat11, k7⟩
          obtain ⟨a11, c11, e11⟩ := ownN_slice hat11
          have e12 : v11 = .slice a11 0 c11 := e11
          have K7 := hid (KW.out.trans k7 (fun _ _ f => f))
          clear hat11 k7 e11 HVN
          subst e12
          go_wp2
          go_ret
          exact ⟨rfl, K7.out⟩
end Go.Proofs.YtdgkdgbdkhnpcaaGreat.X

/-
  Labels that are copied, and what is written over: series and posts.
-/
namespace Go.Proofs.YtdgkdgbdkhnpcaaGreat.X
open Go.RowKit Go.Proofs.Lys Go.Maps Go.Proofs.YtdgkdgbdkhnpcaaGreat.N
set_option linter.unusedVariables false
set_option linter.unusedSimpArgs false

theorem Tryz.infoLabs : (Tryz.prog.info? 25).map (fun i => (i.zero, i.size, i.bytes)) = some (some (.slice none 0 0), 1, 24) := by kernel_rfl
/-- Series' labels in blocks of their own. -/
structure OwnR (w : World) (B : Nat) (v : Value) (vs : List Value) (L : List Labs) : Prop where
  row : w.ownsRow B 25 1 v vs.length vs
  len : vs.length = L.length
  each : ∀ j (h : j < vs.length) (h2 : j < L.length), LabAt w B vs[j] L[j]
  apart : vs.Pairwise (fun a b => ∀ k, a.ownBlock = some k → ¬ b.ownBlock = some k)
theorem OwnR.src {w : World} {B : Nat} {v : Value} {vs : List Value} {L : List Labs} (h : OwnR w B v vs L) : LSrc w v L := ⟨vs, own_src h.row, h.len, fun i a b => LabAt.src (h.each i a b)⟩
theorem OwnR.stay {w W : World} {B : Nat} {v : Value} {vs : List Value} {L : List Labs} (h : OwnR w B v vs L) (k : Kept w W) : OwnR W B v vs L := ⟨ownN_stay h.row k, h.len, fun j a b => ownN_stay (h.each j a b) k, h.apart⟩
/-- A series more. -/
theorem own_more {w0 w : World} {v xv : Value} {vs : List Value} {L : List Labs} {l : Labs} (h : OwnR w w0.heap.size v vs L) (hk : Kept w0 w) (hs : LabSrc w xv l) (hl : l.length ≤ 100000) (hL : L.length ≤ 100000) :
    ∃ a2 n2 c2 w2 a5 n5 c5 w5, Hid ((Builtin.append_ #[25, 25] 0 #[.slice none 0 0, xv]).run Tryz.prog w = .ok (.slice a2 n2 c2) w2) ∧
      Hid ((Builtin.append_ #[22, 22] 0 #[v, .slice (some ⟨w2.heap.size, 0, none⟩) 1 1]).run Tryz.prog (w2.alloc (.cells #[.slice a2 n2 c2] 25)) = .ok (.slice a5 n5 c5) w5) ∧ Hid (n5 = L.length + 1) ∧ Hid (OwnR w5 w0.heap.size (.slice a5 n5 c5) (vs ++ [.slice a2 n2 c2]) (L ++ [l])) ∧ Hid (Kept w0 w5) := by
  obtain ⟨a2, c2, w2, r2, o2, k2⟩ := lab_copy hs (by omega)
  have ka : Kept w2 (w2.alloc (.cells #[.slice a2 l.length c2] 25)) := (Only.refl _ w2).alloc _
  have h2 := h.stay (k2.trans ka (fun _ _ f => f))
  have hlit : SrcOf (w2.alloc (.cells #[.slice a2 l.length c2] 25)) (.slice (some ⟨w2.heap.size, 0, none⟩) 1 1) [.slice a2 l.length c2] := by
    have hb := Blk.new w2 [.slice a2 l.length c2] 25
    refine .inr ⟨⟨w2.heap.size, 0, none⟩, 1, rfl, fun j u hu => ?_⟩
    have : j = 0 := by have := (List.getElem?_eq_some_iff.1 hu).1; simpa using this
    subst this
    cases hu
    exact hb.cell 0 rfl
  have hsz := hk.size
  have hsz2 := k2.size
  have hsza := ka.size
  obtain ⟨v5, w5, r5, o5, g5, _⟩ := append_src (P := Tryz.prog) (base := w0.heap.size) Tryz.underlying22 Tryz.infoLabs rfl (by decide) h2.row hlit (by intro u hu; rw [List.mem_singleton.1 hu]; rfl) (by have := h.len; simp; omega) (by omega)
  have o5' : w5.ownsRow w0.heap.size 25 1 v5 (vs ++ [Value.slice a2 l.length c2]).length (vs ++ [Value.slice a2 l.length c2]) := by
    rw [List.length_append]
    exact o5
  obtain ⟨a5, c5, rfl⟩ := ownN_slice o5'
  have ko : Only (fun j => v.ownBlock = some j) (w2.alloc (.cells #[.slice a2 l.length c2] 25)) w5 := (Only.refl _ _).grown g5 (fun j e _ => e)
  have hlow : ∀ j, v.ownBlock = some j → w0.heap.size ≤ j := fun j hj => (ownN_lt h.row hj).1
  refine ⟨a2, l.length, c2, w2, a5, _, c5, w5, r2, r5, ?_, ⟨o5', ?_, fun j hj hj2 => ?_, ?_⟩, ?_⟩
  · show (vs ++ [Value.slice a2 l.length c2]).length = L.length + 1
    rw [List.length_append, h.len]
    rfl
  · rw [List.length_append, List.length_append, h.len]
    rfl
  · rw [List.length_append, List.length_singleton] at hj hj2
    by_cases e : j < vs.length
    · rw [List.getElem_append_left e, List.getElem_append_left (by rw [← h.len]; exact e)]
      exact ownN_only (h2.each j e (by rw [← h.len]; exact e)) ko (fun b hb e2 => ((ownN_typed (h2.each j e (by rw [← h.len]; exact e)) hb).ne (ownN_typed h2.row e2) (by decide)) rfl)
    · have e2 : j = vs.length := by omega
      have e3 : j = L.length := by rw [← h.len]; exact e2
      have g1 : (vs ++ [Value.slice a2 l.length c2])[j]'(by simp; omega) = .slice a2 l.length c2 := by simp [e2]
      have g2 : (L ++ [l])[j]'(by simp; omega) = l := by simp [e3]
      rw [g1, g2]
      refine ownN_base (ownN_only (ownN_stay o2 ka) ko (fun b hb e4 => ?_)) hsz
      have h6 := (ownN_lt o2 hb).1
      have h7 := (ownN_lt h.row e4).2
      omega
  · refine List.pairwise_append.2 ⟨h.apart, List.pairwise_singleton _ _, fun a ha b hb k h1 h3 => ?_⟩
    rw [List.mem_singleton.1 hb] at h3
    obtain ⟨j, hj, rfl⟩ := List.getElem_of_mem ha
    have h4 := (ownN_lt (h.each j hj (by rw [← h.len]; exact hj)) h1).2
    have h5 := (ownN_lt o2 h3).1
    omega
  · exact ((hk.trans k2 (fun _ _ f => f)).trans ka (fun _ _ f => f)).trans ko (fun j hj e => by have := hlow j e; omega)
/-- Blocks of labels that may be written over. -/
structure Rooms (w : World) (B : Nat) (v : Value) (us vs : List Value) (L : List Labs) : Prop where
  row : w.ownsRow B 25 1 v vs.length us
  len : vs.length = L.length
  each : ∀ j (h : j < vs.length) (h2 : j < L.length), ∃ xs, w.ownsRow B 27 2 vs[j] L[j].length xs
  apart : vs.Pairwise (fun a b => ∀ k, a.ownBlock = some k → ¬ b.ownBlock = some k)
theorem Rooms.stay {w W : World} {B : Nat} {v : Value} {us vs : List Value} {L : List Labs} (h : Rooms w B v us vs L) (k : Kept w W) : Rooms W B v us vs L :=
  ⟨ownN_stay h.row k, h.len, fun j a b => by obtain ⟨xs, hx⟩ := h.each j a b; exact ⟨xs, ownN_stay hx k⟩, h.apart⟩
theorem OwnR.rooms {w : World} {B : Nat} {v : Value} {vs : List Value} {L : List Labs} (h : OwnR w B v vs L) : Rooms w B v vs vs L := ⟨h.row, h.len, fun j a b => ⟨_, h.each j a b⟩, h.apart⟩
theorem pw_vs {vs : List Value} (h : vs.Pairwise (fun a b => ∀ k, a.ownBlock = some k → ¬ b.ownBlock = some k)) {i j : Nat} (hi : i < vs.length) (hj : j < vs.length) (hne : i ≠ j) {k : Nat} (h1 : vs[i].ownBlock = some k) : ¬ vs[j].ownBlock = some k := by
  rw [List.pairwise_iff_getElem] at h
  rcases Nat.lt_or_ge i j with e | e
  · exact h i j hi hj e k h1
  · exact fun h2 => h j i hj hi (by omega) k h2 h1
/-- A label is written over. -/
theorem Rooms.wipe {w : World} {B : Nat} {v : Value} {us vs : List Value} {L : List Labs} (h : Rooms w B v us vs L) {i : Nat} (hi : i < vs.length) (hi2 : i < L.length) {k : Nat} (hk : k < L[i].length) :
    ∃ g cap, vs[i] = .slice (some ⟨g, 0, none⟩) L[i].length cap ∧ B ≤ g ∧ g < w.heap.size ∧ w.frozen? ⟨g, k * 2, none⟩ = false ∧ w.frozen? ⟨g, k * 2 + 1, none⟩ = false ∧ (∃ u, w.cell? ⟨g, k * 2, none⟩ = some u) ∧ (∃ u, w.cell? ⟨g, k * 2 + 1, none⟩ = some u) ∧ (w.setCell ⟨g, k * 2, none⟩ (.string ⟨#[]⟩)).frozen? ⟨g, k * 2 + 1, none⟩ = false ∧
      Rooms ((w.setCell ⟨g, k * 2, none⟩ (.string ⟨#[]⟩)).setCell ⟨g, k * 2 + 1, none⟩ (.string ⟨#[]⟩)) B v us vs L ∧ Only (fun j => j = g) w ((w.setCell ⟨g, k * 2, none⟩ (.string ⟨#[]⟩)).setCell ⟨g, k * 2 + 1, none⟩ (.string ⟨#[]⟩)) := by
  obtain ⟨xs, hx⟩ := h.each i hi hi2
  obtain ⟨g, cap, e⟩ := ownN_some hx (by omega)
  rw [e] at hx
  have hgb : (Value.slice (some ⟨g, 0, none⟩) L[i].length cap).ownBlock = some g := rfl
  have hgv : vs[i].ownBlock = some g := by rw [e]; rfl
  have hlt := ownN_lt hx hgb
  have hxl : xs.length = L[i].length * 2 := hx.1
  have h1 := (hx.stored (k * 2) (.string ⟨#[]⟩)).1
  have h2 := (h1.stored (k * 2 + 1) (.string ⟨#[]⟩)).1
  have hS : Only (fun j => j = g) w ((w.setCell ⟨g, k * 2, none⟩ (.string ⟨#[]⟩)).setCell ⟨g, k * 2 + 1, none⟩ (.string ⟨#[]⟩)) := ((Only.refl (fun j => j = g) w).setCell (p := ⟨g, k * 2, none⟩) (fun _ => rfl) _).setCell (p := ⟨g, k * 2 + 1, none⟩) (fun _ => rfl) _
  refine ⟨g, cap, e, hlt.1, hlt.2, hx.frozenAt _, hx.frozenAt _, ⟨_, by rw [hx.cellAt (k * 2) (by omega)]; exact List.getElem?_eq_getElem (by omega)⟩, ⟨_, by rw [hx.cellAt (k * 2 + 1) (by omega)]; exact List.getElem?_eq_getElem (by omega)⟩, h1.frozenAt _, ⟨?_, h.len, fun j hj hj2 => ?_, h.apart⟩, hS⟩
  · exact ownN_only h.row hS (fun b hb e2 => ((ownN_typed hx hgb).ne (ownN_typed h.row (by rw [← e2]; exact hb)) (by decide)) rfl)
  · by_cases ej : j = i
    · subst ej
      exact ⟨_, by rw [e]; exact h2⟩
    · obtain ⟨ys, hy⟩ := h.each j hj hj2
      exact ⟨ys, ownN_only hy hS (fun b hb e2 => pw_vs h.apart hi hj (fun e3 => ej e3.symm) hgv (by rw [← e2]; exact hb))⟩
/-- A series is put away. -/
theorem Rooms.drop {w : World} {B : Nat} {v : Value} {us vs : List Value} {L : List Labs} (h : Rooms w B v us vs L) {i : Nat} (hi : i < vs.length) :
    ∃ g cap, v = .slice (some ⟨g, 0, none⟩) vs.length cap ∧ B ≤ g ∧ g < w.heap.size ∧ w.frozen? ⟨g, i, none⟩ = false ∧ (∃ u, w.cell? ⟨g, i, none⟩ = some u) ∧
      Rooms (w.setCell ⟨g, i, none⟩ (.slice none 0 0)) B v (us.set i (.slice none 0 0)) vs L ∧ Only (fun j => j = g) w (w.setCell ⟨g, i, none⟩ (.slice none 0 0)) := by
  have hr := h.row
  obtain ⟨g, cap, e⟩ := ownN_some hr (by omega)
  rw [e] at hr
  have hgb : (Value.slice (some ⟨g, 0, none⟩) vs.length cap).ownBlock = some g := rfl
  have hlt := ownN_lt hr hgb
  have hul : us.length = vs.length * 1 := hr.1
  have h1 := (hr.stored i (.slice none 0 0)).1
  have hS : Only (fun j => j = g) w (w.setCell ⟨g, i, none⟩ (.slice none 0 0)) := (Only.refl (fun j => j = g) w).setCell (p := ⟨g, i, none⟩) (fun _ => rfl) _
  refine ⟨g, cap, e, hlt.1, hlt.2, hr.frozenAt _, ⟨_, by rw [hr.cellAt i (by omega)]; exact List.getElem?_eq_getElem (by omega)⟩, ⟨by rw [e]; exact h1, h.len, fun j hj hj2 => ?_, h.apart⟩, hS⟩
  obtain ⟨ys, hy⟩ := h.each j hj hj2
  exact ⟨ys, ownN_only hy hS (fun b hb e2 => ((ownN_typed hr hgb).ne (ownN_typed hy (by rw [← e2]; exact hb)) (by decide)) rfl)⟩
/-- Lists that may be written over. -/
structure RoomP (w : World) (B : Nat) (v : Value) (qs : List PV) : Prop where
  row : PvAt w B v qs
  each : ∀ j (h : j < qs.length), ∃ xs, w.ownsRow B 3 1 qs[j].lv qs[j].l.length xs
  apart : qs.Pairwise (fun a b => ∀ k, a.has k → ¬ b.has k)
theorem PostAt.rooms {w : World} {B : Nat} {v : Value} {qs : List PV} (h : PostAt w B v qs) : RoomP w B v qs := ⟨h.row, fun j hj => ⟨_, h.num _ (List.getElem_mem hj)⟩, h.apart⟩
theorem RoomP.wipe {w : World} {B : Nat} {v : Value} {qs : List PV} (h : RoomP w B v qs) {i : Nat} (hi : i < qs.length) {k : Nat} (hk : k < qs[i].l.length) :
    ∃ g cap, qs[i].lv = .slice (some ⟨g, 0, none⟩) qs[i].l.length cap ∧ B ≤ g ∧ g < w.heap.size ∧ w.frozen? ⟨g, k, none⟩ = false ∧ (∃ u, w.cell? ⟨g, k, none⟩ = some u) ∧
      RoomP (w.setCell ⟨g, k, none⟩ (.int .i64 (-1))) B v qs ∧ Only (fun j => j = g) w (w.setCell ⟨g, k, none⟩ (.int .i64 (-1))) := by
  obtain ⟨xs, hx⟩ := h.each i hi
  obtain ⟨g, cap, e⟩ := ownN_some hx (by omega)
  rw [e] at hx
  have hgb : (Value.slice (some ⟨g, 0, none⟩) qs[i].l.length cap).ownBlock = some g := rfl
  have hgv : qs[i].has g := by unfold PV.has; rw [e]; rfl
  have hlt := ownN_lt hx hgb
  have hxl : xs.length = qs[i].l.length * 1 := hx.1
  have h1 := (hx.stored k (.int .i64 (-1))).1
  have hS : Only (fun j => j = g) w (w.setCell ⟨g, k, none⟩ (.int .i64 (-1))) := (Only.refl (fun j => j = g) w).setCell (p := ⟨g, k, none⟩) (fun _ => rfl) _
  refine ⟨g, cap, e, hlt.1, hlt.2, hx.frozenAt _, ⟨_, by rw [hx.cellAt k (by omega)]; exact List.getElem?_eq_getElem (by omega)⟩, ⟨?_, fun j hj => ?_, h.apart⟩, hS⟩
  · exact ownN_only h.row hS (fun b hb e2 => ((ownN_typed hx hgb).ne (ownN_typed h.row (by rw [← e2]; exact hb)) (by decide)) rfl)
  · by_cases ej : j = i
    · subst ej
      exact ⟨_, by rw [e]; exact h1⟩
    · obtain ⟨ys, hy⟩ := h.each j hj
      exact ⟨ys, ownN_only hy hS (fun b hb e2 => pw_at h.apart hi hj (fun e3 => ej e3.symm) hgv (by unfold PV.has; rw [← e2]; exact hb))⟩
end Go.Proofs.YtdgkdgbdkhnpcaaGreat.X

/-
  What the law IndexMakes walks through.
-/
namespace Go.Proofs.YtdgkdgbdkhnpcaaGreat.X
open Go.RowKit Go.Proofs.Lys Go.Maps Go.Proofs.YtdgkdgbdkhnpcaaGreat.N
set_option linter.unusedVariables false
set_option linter.unusedSimpArgs false

set_option maxRecDepth 100000 in
set_option maxHeartbeats 12800000 in
/-- From the call of Make on. -/
theorem makes15_walk (w : World) (v : Value) (L : List Labs) (hs : LIn w v L) :
    Calls Tryz.prog 3 #[v] w fun e w' => e = .returned (.bool true) ∧ Kept w w' := by
  have HA := hid (xalive_any w)
  have HBX := hid (fun W (k : Kept w W) => bigx_any W v L ⟨by
    obtain ⟨vs, h1, h2, h3⟩ := hs.in_
    exact ⟨vs, h1.stay k, h2, fun i a b => ⟨((h3 i a b).src).stay k, (h3 i a b).came, (h3 i a b).len⟩⟩, hs.len⟩)
  have HLS := hid hs.src
  obtain ⟨av, cv, rfl⟩ := hs.src.len
  have hlN := hs.len
  have HNUM := hid num15_any
  clear hs
  obtain ⟨N, hN⟩ : ∃ N, L.length = N := ⟨_, rfl⟩
  rw [hN] at HBX HLS hlN ⊢
  have HN := hid hN
  clear hN
  go_enter Tryz.func3, Tryz.ntmps3
  go_wp2_with fail
  refine HA.out.mono ?_
  rintro e w1 ⟨rfl, k1⟩
  have K1 := hid k1
  clear k1 HA
  go_wp2_with fail
  refine (HBX.out w1 K1.out).mono ?_
  rintro e w2 ⟨b, rfl, hfew, k2⟩
  have K2 := hid (K1.out.trans k2 (fun _ _ f => f))
  clear k2 K1 HBX
  cases b with
  | true =>
    clear hfew
    go_wp2
    go_ret
    exact ⟨rfl, K2.out⟩
  | false =>
    have HFEW := hid (hfew rfl)
    clear hfew
    have hN3 : N ≤ 300 := by have h1 := HFEW.out.len; have h2 := HN.out; omega
    have HEACH := hid (fun l (hl : l ∈ L) => (show l.length ≤ 4000 from (bigN_small (HFEW.out.each l hl)).2))
    go_wp2_with fail
    go_loopw [5] (fun s5 wr => ∃ (i : Nat), i ≤ N ∧ s5 = .int .i64 (i : Int) ∧ Hid (∀ l ∈ L.take i, ∀ y ∈ l, y.1 ≠ noName) ∧ Kept w2 wr) (fun s5 _ => N - (intOf s5).toNat)
    case atStart => exact ⟨0, by omega, rfl, hid (fun l hl => by simp at hl), Only.refl _ _⟩
    case round =>
      obtain ⟨i, hi, rfl, hno, kr0⟩ := hrel
      have KA := hid (K2.out.trans kr0 (fun _ _ f => f))
      by_cases hlt : i < N
      · have hiL : i < L.length := by have := HN.out; omega
        obtain ⟨b, o, a', c', rfl, x0, hls⟩ := HLS.out.cell HN.out i hlt
        have HLI := hid hls
        have HX0 := hid (fun W (k : Kept w W) => cell_kept k x0)
        have hNLl := HEACH.out L[i] (List.getElem_mem hiL)
        obtain ⟨NL, hNL⟩ : ∃ NL, L[i].length = NL := ⟨_, rfl⟩
        rw [hNL] at HX0 HLI hNLl
        have HNL := hid hNL
        clear hls hNL x0
        go_wp2_with fail
        go_loopw [6] (fun s6 wr2 => ∃ (k : Nat), k ≤ NL ∧ s6 = .int .i64 (k : Int) ∧ Hid (∀ y ∈ L[i].take k, y.1 ≠ noName) ∧ Kept w2 wr2) (fun s6 _ => NL - (intOf s6).toNat)
        case atStart => exact ⟨0, by omega, rfl, hid (fun y hy => by simp at hy), kr0⟩
        case round =>
          obtain ⟨k, hk, rfl, hnk, kr⟩ := hrel
          have KB := hid (K2.out.trans kr (fun _ _ f => f))
          have x0 := HX0.out _ KB.out
          by_cases hkl : k < NL
          · have hkL : k < L[i].length := by have := HNL.out; omega
            obtain ⟨b2, o2, rfl, y1, y2⟩ := (HLI.out.stay KB.out).cell HNL.out k hkl
            have HNX : Hid (L[i][k].1 ≠ noName → ∀ y ∈ L[i].take (k + 1), y.1 ≠ noName) := fun h y hy => by
              rw [List.take_succ_eq_append_getElem hkL] at hy
              rcases List.mem_append.1 hy with e | e
              · exact hnk.out y e
              · rw [List.mem_singleton.1 e]
                exact h
            generalize L[i][k].1 = Y1 at y1 HNX
            by_cases hq : Y1 = noName
            · have hq1 : (Y1.toList == ByteArray.toList ⟨#[110, 111, 95, 115, 117, 99, 104, 95, 110, 97, 109, 101]⟩) = true := by rw [hq]; simp
              clear HNX
              subst hq
              go_wp2
              go_ret
              exact ⟨rfl, KB.out⟩
            · have hq1 : (Y1.toList == ByteArray.toList ⟨#[110, 111, 95, 115, 117, 99, 104, 95, 110, 97, 109, 101]⟩) = false := by
                simp only [beq_eq_false_iff_ne, ne_eq]
                intro e
                rw [ByteArray.toList_eq, ByteArray.toList_eq] at e
                exact hq (bytes_inj e)
              have hq2 : ¬ Y1.toList = ByteArray.toList ⟨#[110, 111, 95, 115, 117, 99, 104, 95, 110, 97, 109, 101]⟩ := by simpa using hq1
              have HNY := hid (HNX.out hq)
              clear hq HNX
              go_wp2_with fail
              · go_ret
                exact ⟨rfl, KB.out⟩
              · refine ⟨⟨k + 1, by omega, by go_num, HNY, kr⟩, ?_⟩
                simp [intOf]
                omega
          · obtain rfl : NL = k := by omega
            have HNO2 : Hid (∀ l ∈ L.take (i + 1), ∀ y ∈ l, y.1 ≠ noName) := fun l hl y hy => by
              rw [List.take_succ_eq_append_getElem hiL] at hl
              rcases List.mem_append.1 hl with e | e
              · exact hno.out l e y hy
              · have h1 := hnk.out
                rw [List.take_of_length_le (by have := HNL.out; omega)] at h1
                rw [List.mem_singleton.1 e] at hy
                exact h1 y hy
            go_wp2_with fail
            go_roundw
            case rel => exact ⟨i + 1, by omega, by go_num, HNO2, kr⟩
            case measure => simp [intOf]; omega
      · obtain rfl : N = i := by omega
        have HNM : Hid (∀ l ∈ L, ∀ y ∈ l, y.1 ≠ noName) := fun l hl => by
          have h1 := hno.out
          rw [List.take_of_length_le (by have := HN.out; omega)] at h1
          exact h1 l hl
        clear hno kr0
        have hsz0 := KA.out.size
        go_wp2_with fail
        generalize hW0 : wr = wA at KA hsz0 ⊢
        clear hW0
        go_loopw [7, 8] (fun s7 s8 wr => ∃ (i : Nat) (vs : List Value) (a : Option Addr) (m c : Nat), i ≤ N ∧ s8 = .int .i64 (i : Int) ∧ s7 = .slice a m c ∧ m = i ∧ Hid (OwnR wr wA.heap.size (.slice a m c) vs (L.take i)) ∧ Kept wA wr) (fun _ s8 _ => N - (intOf s8).toNat)
        case atStart => exact ⟨0, [], none, 0, 0, by omega, rfl, rfl, rfl, hid ⟨World.ownsRow_nil _ _ _ _, rfl, fun j h => by simp at h, .nil⟩, Only.refl _ _⟩
        case round =>
          obtain ⟨i, vs, a7, m7, c7, hi, rfl, rfl, hm7, hown, kr⟩ := hrel
          replace hm7 := hm7.symm
          subst hm7
          have KB := hid (KA.out.trans kr (fun _ _ f => f))
          by_cases hlt2 : i < N
          · have hiL : i < L.length := by have := HN.out; omega
            obtain ⟨b, o, a', c', rfl, x0, hls⟩ := (HLS.out.stay KB.out).cell HN.out i hlt2
            obtain ⟨a2, n2, c2, w5, a5, n5, c5, w6, r2, r5, hn5, hown5, hk5⟩ := own_more hown.out kr hls (by have := HEACH.out L[i] (List.getElem_mem hiL); omega) (by rw [List.length_take]; omega)
            have hn5' : n5 = i + 1 := by have := hn5.out; rw [List.length_take] at this; omega
            subst hn5'
            have HOW : Hid (OwnR w6 wA.heap.size (.slice a5 (i + 1) c5) (vs ++ [.slice a2 n2 c2]) (L.take (i + 1))) := by
              rw [List.take_succ_eq_append_getElem hiL]
              exact hown5
            generalize L[i].length = NL at x0 r2
            clear hls hown5 hn5
            go_wp2_with (at_builtin; first | refine Lys.wpList_append_run rfl _ _ _ rfl rfl rfl r2 ?_ | refine Lys.wpList_append_run rfl _ _ _ rfl rfl rfl r5 ?_)
            (try go_wp2_with fail)
            go_roundw
            case rel => exact ⟨i + 1, _, a5, i + 1, c5, by omega, by go_num, rfl, rfl, HOW, hk5.out⟩
            case measure => simp [intOf]; omega
          · obtain rfl : N = i := by omega
            have HOWN : Hid (OwnR wr wA.heap.size (.slice a7 N c7) vs L) := by
              have h1 := hown.out
              rw [List.take_of_length_le (by have := HN.out; omega)] at h1
              exact h1
            have HMK := hid (make_ix wr _ L HOWN.out.src (by have := HN.out; omega) HFEW.out.ok)
            have hVL : vs.length = N := by have h1 := HOWN.out.len; have h2 := HN.out; omega
            have HVL := hid hVL
            have hszr := kr.size
            clear hown kr hVL
            generalize hWr : wr = wB at HMK HOWN KB hszr ⊢
            clear hWr
            have hML : (postsOf L).length ≤ 16000 ∧ ∀ p ∈ postsOf L, p.2.length ≤ 16000 := by
              have hbd := bd_posts L L.length (Nat.le_refl _)
              rw [List.take_length] at hbd
              have hsum := HFEW.out.sum
              refine ⟨by have := hbd.1.1; omega, fun p hp => ?_⟩
              have h1 := hbd.1.2 p.1
              rw [look_sorted hbd.2 (x := p.1) (l := p.2) hp] at h1
              omega
            have HML := hid hML
            clear hML
            go_wp2_with fail
            refine HMK.out.mono ?_
            intro e wC hC
            have HRC := hid (fun W (k : Kept w W) => rcheckI_any W _ L (HLS.out.stay k) (by have := HN.out; omega) HFEW.out.ok)
            by_cases hck : checkI L = 0
            · obtain ⟨x, rfl, hmd, k4⟩ := make_ok hC hck
              have HIX := hid (hmd.ixl hck)
              have HCK := hid hck
              rw [hck] at HRC
              have KC := hid (KB.out.trans k4 (fun _ _ f => f))
              have HOC := hid (HOWN.out.stay k4)
              have HOB := hid HOWN.out
              have hszC := k4.size
              clear hC hmd k4 HMK hck HOWN
              go_wp2_with fail
              refine (HRC.out wC KC.out).mono ?_
              rintro e wD ⟨rfl, kD⟩
              have KD := hid (KC.out.trans kD (fun _ _ f => f))
              have HIXD := hid (HIX.out.stay kD)
              have HRD := hid ((HOC.out.stay kD).rooms)
              have hszD := kD.size
              clear kD HRC HIX HOC KC
              obtain ⟨XB, hXB⟩ : ∃ XB, x.xb = XB := ⟨_, rfl⟩
              have HXB := hid hXB
              rw [hXB]
              clear hXB
              go_wp2_with fail
              refine (HNUM.out _ _).mono ?_
              rintro e w' ⟨rfl, hw⟩
              replace hw := hw.symm
              subst hw
              go_wp2_with fail
              go_loopw [12] (fun s12 wr => ∃ (i : Nat) (us : List Value), i ≤ N ∧ s12 = .int .i64 (i : Int) ∧ Hid (Rooms wr wA.heap.size (.slice a7 N c7) us vs L) ∧ Hid (∀ j, i ≤ j → us[j]? = vs[j]?) ∧ Hid (Only (fun j => wA.heap.size ≤ j ∧ j < wB.heap.size) wD wr)) (fun s12 _ => N - (intOf s12).toNat)
              case atStart => exact ⟨0, vs, by omega, rfl, HRD, hid (fun j _ => rfl), hid (Only.refl _ _)⟩
              case round =>
                obtain ⟨i, us, hi, rfl, hro, hus, hon⟩ := hrel
                by_cases hlt2 : i < N
                · have hiv : i < vs.length := by have := HVL.out; omega
                  have hiL : i < L.length := by have := HN.out; omega
                  obtain ⟨gr, capr, er, hgr1, hgr2, _, _, _, _⟩ := hro.out.drop hiv
                  have er1 : a7 = some ⟨gr, 0, none⟩ := by simp only [Value.slice.injEq] at er; exact er.1
                  subst er1
                  have HUS : Hid (∀ (W : World), Rooms W wA.heap.size (.slice (some ⟨gr, 0, none⟩) N c7) us vs L → W.cell? ⟨gr, i, none⟩ = some vs[i]) := fun W hW => by
                    have h1 := hW.row
                    rw [HVL.out] at h1
                    rw [h1.cellAt i (by omega), hus.out i (Nat.le_refl _)]
                    exact List.getElem?_eq_getElem hiv
                  have hLi := HEACH.out L[i] (List.getElem_mem hiL)
                  obtain ⟨xs0, hx0⟩ := hro.out.each i hiv hiL
                  obtain ⟨ai, ci, ei⟩ := ownN_slice hx0
                  have HEI := hid ei
                  rw [ei] at HUS
                  obtain ⟨NL, hNL⟩ : ∃ NL, L[i].length = NL := ⟨_, rfl⟩
                  rw [hNL] at HUS hLi HEI
                  have HNL := hid hNL
                  clear er ei hx0 hNL
                  go_wp2_with fail
                  go_loopw [13] (fun s13 wr2 => ∃ (k : Nat), k ≤ NL ∧ s13 = .int .i64 (k : Int) ∧ Hid (Rooms wr2 wA.heap.size (.slice (some ⟨gr, 0, none⟩) N c7) us vs L) ∧ Hid (Only (fun j => wA.heap.size ≤ j ∧ j < wB.heap.size) wD wr2)) (fun s13 _ => NL - (intOf s13).toNat)
                  case atStart => exact ⟨0, by omega, rfl, hro, hon⟩
                  case round =>
                    obtain ⟨k, hk, rfl, hro2, hon2⟩ := hrel
                    have x0 := HUS.out _ hro2.out
                    by_cases hkl : k < NL
                    · have hkL : k < L[i].length := by have := HNL.out; omega
                      obtain ⟨g, cap, eg, hg1, hg2, f0, f1, ⟨u0, q0⟩, ⟨u1, q1⟩, f2, hro3, hS⟩ := hro2.out.wipe hiv hiL hkL
                      have eg1 : ai = some ⟨g, 0, none⟩ := by
                        have := HEI.out
                        rw [eg] at this
                        simp only [Value.slice.injEq] at this
                        exact this.1.symm
                      subst eg1
                      have hgB : g < wB.heap.size := by
                        obtain ⟨ys, hy⟩ := HRD.out.each i hiv hiL
                        have h1 := HOB.out.each i hiv hiL
                        exact (ownN_lt h1 (by rw [eg]; rfl)).2
                      have HRO3 := hid hro3
                      have HON3 := hid (hon2.out.trans hS (fun j _ e => by rw [e]; exact ⟨hg1, hgB⟩))
                      clear hro3 hS eg
                      go_wp2_with fail
                      go_roundw
                      case rel => exact ⟨k + 1, by omega, by go_num, HRO3, HON3⟩
                      case measure => simp [intOf]; omega
                    · obtain rfl : NL = k := by omega
                      obtain ⟨g, cap, eg, hg1, hg2, f0, ⟨u0, q0⟩, hro3, hS⟩ := hro2.out.drop hiv
                      have eg1 : gr = g := by simp only [Value.slice.injEq, Option.some.injEq, Addr.mk.injEq] at eg; exact eg.1.1
                      subst eg1
                      have hgB : gr < wB.heap.size := (ownN_lt HOB.out.row rfl).2
                      have HRO3 := hid hro3
                      have HON3 := hid (hon2.out.trans hS (fun j _ e => by rw [e]; exact ⟨hg1, hgB⟩))
                      have HUS3 : Hid (∀ j, i + 1 ≤ j → (us.set i (.slice none 0 0))[j]? = vs[j]?) := fun j hj => by
                        rw [List.getElem?_set_ne (by omega)]
                        exact hus.out j (by omega)
                      clear hro3 hS eg
                      go_wp2_with fail
                      go_roundw
                      case rel => exact ⟨i + 1, _, by omega, by go_num, HRO3, HUS3, HON3⟩
                      case measure => simp [intOf]; omega
                · obtain rfl : N = i := by omega
                  have HIXE := hid (HIXD.out.only hon.out (fun j hj e => by omega))
                  have KE := hid (show Kept w wr from KD.out.trans hon.out (fun j hj e => by omega))
                  have HPO := hid (posts_any HIXE.out.at_ HIXE.out.is (by have := HML.out.1; omega) (fun p hp => by have := HML.out.2 p hp; omega))
                  rw [HXB.out] at HPO
                  clear hro hus hon
                  generalize hWr : wr = wE at HIXE KE HPO ⊢
                  clear hWr
                  go_wp2_with fail
                  refine HPO.out.mono ?_
                  rintro e wF ⟨v14, qs, rfl, hpo, hqe, kF⟩
                  have HRP := hid hpo.rooms
                  have HQE := hid hqe
                  have KF := hid (KE.out.trans kF (fun _ _ f => f))
                  have HIXF := hid (HIXE.out.stay kF)
                  have hszF := kF.size
                  obtain ⟨a14, c14, e14⟩ := (pv_cells hpo.row).len
                  obtain ⟨M, hM⟩ : ∃ M, qs.length = M := ⟨_, rfl⟩
                  have hMb : M ≤ 16000 := by
                    have h1 := congrArg List.length hqe
                    rw [List.length_map] at h1
                    have := HML.out.1
                    omega
                  have hQb : ∀ q ∈ qs, q.l.length ≤ 16000 := fun q hq => HML.out.2 (postV q) (by rw [← hqe]; exact List.mem_map.2 ⟨q, hq, rfl⟩)
                  have HQB := hid hQb
                  rw [hM] at e14
                  have HM := hid hM
                  subst e14
                  clear hpo hqe kF HPO hM hQb
                  go_wp2_with fail
                  go_loopw [15] (fun s15 wr => ∃ (i : Nat), i ≤ M ∧ s15 = .int .i64 (i : Int) ∧ Hid (RoomP wr wE.heap.size (.slice a14 M c14) qs) ∧ Hid (Only (fun j => wE.heap.size ≤ j) wF wr)) (fun s15 _ => M - (intOf s15).toNat)
                  case atStart => exact ⟨0, by omega, rfl, HRP, hid (Only.refl _ _)⟩
                  case round =>
                    obtain ⟨i, hi, rfl, hro, hon⟩ := hrel
                    by_cases hlt3 : i < M
                    · have hiq : i < qs.length := by have := HM.out; omega
                      have hQi := HQB.out qs[i] (List.getElem_mem hiq)
                      obtain ⟨gr, capr, er⟩ := ownN_some hro.out.row (by omega)
                      have er1 : a14 = some ⟨gr, 0, none⟩ := by simp only [Value.slice.injEq] at er; exact er.1
                      subst er1
                      have HUS : Hid (∀ (W : World), RoomP W wE.heap.size (.slice (some ⟨gr, 0, none⟩) M c14) qs → W.cell? ⟨gr, i * 3 + 2, none⟩ = some qs[i].lv) := fun W hW => (pv_at hW.row i hiq).2.2
                      obtain ⟨xs0, hx0⟩ := hro.out.each i hiq
                      obtain ⟨ai, ci, ei⟩ := ownN_slice hx0
                      have HEI := hid ei
                      rw [ei] at HUS
                      obtain ⟨NL, hNL⟩ : ∃ NL, qs[i].l.length = NL := ⟨_, rfl⟩
                      rw [hNL] at HUS hQi HEI
                      have HNL := hid hNL
                      clear er ei hx0 hNL
                      go_wp2_with fail
                      go_loopw [16] (fun s16 wr2 => ∃ (k : Nat), k ≤ NL ∧ s16 = .int .i64 (k : Int) ∧ Hid (RoomP wr2 wE.heap.size (.slice (some ⟨gr, 0, none⟩) M c14) qs) ∧ Hid (Only (fun j => wE.heap.size ≤ j) wF wr2)) (fun s16 _ => NL - (intOf s16).toNat)
                      case atStart => exact ⟨0, by omega, rfl, hro, hon⟩
                      case round =>
                        obtain ⟨k, hk, rfl, hro2, hon2⟩ := hrel
                        have x0 := HUS.out _ hro2.out
                        by_cases hkl : k < NL
                        · have hkL : k < qs[i].l.length := by have := HNL.out; omega
                          obtain ⟨g, cap, eg, hg1, hg2, f0, ⟨u0, q0⟩, hro3, hS⟩ := hro2.out.wipe hiq hkL
                          have eg1 : ai = some ⟨g, 0, none⟩ := by
                            have := HEI.out
                            rw [eg] at this
                            simp only [Value.slice.injEq] at this
                            exact this.1.symm
                          subst eg1
                          have HRO3 := hid hro3
                          have HON3 := hid (hon2.out.trans hS (fun j _ e => by rw [e]; exact hg1))
                          clear hro3 hS eg
                          go_wp2_with fail
                          go_roundw
                          case rel => exact ⟨k + 1, by omega, by go_num, HRO3, HON3⟩
                          case measure => simp [intOf]; omega
                        · obtain rfl : NL = k := by omega
                          go_wp2_with fail
                          go_roundw
                          case rel => exact ⟨i + 1, by omega, by go_num, hro2, hon2⟩
                          case measure => simp [intOf]; omega
                    · obtain rfl : M = i := by omega
                      have HIXG := hid (HIXF.out.only hon.out (fun j hj e => by have := HIXE.out.at_.lt j hj; omega))
                      have KG := hid (show Kept w wr from KF.out.trans hon.out (fun j hj e => by have := KE.out.size; omega))
                      have HALL := hid (all_law wr _ x _ L HIXG.out.at_ HIXG.out.is (HLS.out.stay KG.out) HFEW.out HIXG.out.tells HNM.out)
                      rw [HXB.out] at HALL
                      clear hro hon
                      go_wp2_with fail
                      refine HALL.out.mono ?_
                      rintro e wH ⟨rfl, kH⟩
                      have KH := hid (KG.out.trans kH (fun _ _ f => f))
                      clear kH
                      go_wp2
                      go_ret
                      exact ⟨rfl, KH.out⟩
            · obtain ⟨rfl, k4⟩ := make_no hC hck
              have KC := hid (KB.out.trans k4 (fun _ _ f => f))
              generalize checkI L = C at HRC hck ⊢
              have hC1 : (C != 0) = true := by simpa using hck
              have hC2 : (C != C) = false := by simp
              clear hC k4 HMK
              go_wp2_with fail
              refine (HRC.out wC KC.out).mono ?_
              rintro e wD ⟨rfl, kD⟩
              have KD := hid (KC.out.trans kD (fun _ _ f => f))
              clear kD HRC
              go_wp2_with fail
              refine (HNUM.out _ _).mono ?_
              rintro e w' ⟨rfl, hw⟩
              replace hw := hw.symm
              subst hw
              go_wp2
              go_ret
              exact ⟨rfl, KD.out⟩
end Go.Proofs.YtdgkdgbdkhnpcaaGreat.X
