/-
  Xkeys.
-/
import Derived.Test.YteknpfldemgmnaaGreatQ23
import Derived.Test.YteknpfldemgmnaaGreatQ24
import Derived.RangeFuncNested
import Derived.RangeFuncBound
import Derived.RangeFuncBox
import Derived.RangeFuncCalls
import Derived.RangeFuncLeaves
import Derived.Shelf.Abstract
import Derived.Shelf.RegionOpen
import Derived.Sort.MapsRangeIn
import Derived.OwnWalkIn
import Derived.TacticsInMore
import Derived.LoopNIn
import Derived.LoopIn

/-
  maps.Keys of an index' map: its iterator.
-/
namespace Go.Proofs.YteknpfldemgmnaaGreat.X
open Go.RowKit Go.Proofs.Lys Go.Maps Go.Proofs.YteknpfldemgmnaaGreat.N Go.Shelf
set_option linter.unusedVariables false
set_option linter.unusedSimpArgs false
attribute [local go_sem] Oper.semAt_some

theorem done_len {es : List EntC} {left : Lit → Bool} : (doneE es left).length ≤ es.length := List.length_filter_le _ _
set_option maxRecDepth 100000 in
set_option maxHeartbeats 1600000 in
theorem keys1_in (n : Nat) (hn : 1 ≤ n) (l Bm : Nat) {w : World} {x : IxC} {O : Nat → Prop} {P : Posts} (hA : IxAt w x O) (hI : Is x P) (J Jx : List Lab → World → Prop)
    (hY : ∀ pre y W, J pre W → pre.length < x.es.length → YieldAt Fence.wide (n - 1) Tryz.prog l #[labV y] W fun e W' =>
      (e = .returned (.bool true) ∧ J (pre ++ [y]) W' ∧ KeepsWalks W W') ∨ (e = .returned (.bool false) ∧ Jx (pre ++ [y]) W'))
    (W : World) (hJ : AbidesFrom W.heap.size J) (hm : W.cell? ⟨Bm, 0, none⟩ = some (.map (some x.mb))) (hown : W.ownsMap Tryz.prog 43 slE x.mb x.kv.length (kvD x.kv)) (h0 : J [] W) :
    CallsIn Fence.wide n Tryz.prog 85 #[.func (.yield l) #[] #[], .pointer (some ⟨Bm, 0, none⟩)] W fun e W' => (∃ v, e = .returned v) ∧
      ((∃ ys : List Lab, ys.Perm (x.es.map (·.lab)) ∧ J ys W') ∨ (∃ pre : List Lab, True ∧ Jx pre W')) := by
  have HA := hid hA
  have HI := hid hI
  have HY := hid hY
  have HJ := hid hJ
  have hmbl := hown.lt
  clear hA hI hY hJ
  refine callsIn_of_wp Tryz.func85 rfl trivial ?_ rfl
  simp only [Tryz.ntmps85, List.size_toArray, List.length_cons, List.length_nil, Nat.reduceAdd, Nat.reduceSub, Array.replicate_succ, Array.replicate_zero, List.push_toArray, List.append_toArray, List.nil_append, List.cons_append]
  gi_wp2_with (first
    | (gi_at_range; refine wpListIn_range_own _ rfl _ 57 rfl 43 45 law Tryz.underlying57 _ x.mb x.kv.length (kvD x.kv) rfl hown ?_; intro w0 hrg0 hg0 hs0)
    | gi_in)
  go_frame
  gi_loopw [3] (fun _ wr => ∃ (left : Lit → Bool) (cnt : Nat) (ss : List Lab), wr.ranges Tryz.prog 43 slE x.mb W.heap.size x.kv.length (kvD x.kv) left cnt ∧ Hid (ss.Perm ((doneE x.es left).map (·.lab))) ∧ Hid (J ss wr) ∧ W.heap.size + 1 ≤ wr.heap.size)
    (fun _ wr => wr.rangeLeft x.mb W.heap.size)
  case atStart =>
    refine ⟨_, _, [], hrg0, hid ?_, hid (HJ.out [] W w0 none h0 hg0 (fun r e => by cases e)), by omega⟩
    rw [done_start HA.out]
    exact .refl _
  case round =>
    obtain ⟨left, cnt, ss, hrg, hperm, hJs, hsz⟩ := hrel
    gi_wp2_with (first
      | (gi_at_next; refine wpListIn_next_ranges _ rfl _ rfl 43 law slE labV slV (fun key kl hk => (key_inv key kl hk).imp (fun x hx => hx.1)) slE_inv x.mb W.heap.size x.kv.length _ _ _ rfl hrg ?_ ?_)
      | gi_in)
    · intro hc0 hl0
      have HP := hid (show ss.Perm (x.es.map (·.lab)) from by
        have h1 := hperm.out
        rw [done_end hl0] at h1
        exact h1)
      clear hl0 hc0
      gi_wp2
      go_end0
      exact ⟨⟨_, rfl⟩, .inl ⟨ss, HP.out, hJs.out⟩⟩
    · intro y1 y2 c kl yd yp w2 cnt2 hkey hlk hv hat hrg2 hlt hg2 hs2 hen
      obtain ⟨s, hs, rfl, hy, rfl⟩ := key_came (y := (y1, y2)) (c := c) HA.out HI.out hkey hv hat
      have hst := done_step HA.out hs hlk
      have hJ2 : J ss w2 := HJ.out ss wr w2 (some W.heap.size) hJs.out hg2 (fun r e => by cases e; exact ⟨Nat.le_refl _, hrg.iter_walk⟩)
      have hJ3 : J ss (w2.alloc (.cells #[.string y1, .string y2] 43)) := HJ.out ss w2 _ none hJ2 (World.grownBy_alloc w2 _ none) (fun r e => by cases e)
      have hlen : ss.length < x.es.length := by
        have h1 := hst.length_eq
        have h2 := hperm.out.length_eq
        have h3 := done_len (es := x.es) (left := fun z => left z && !z.sameKey (keyL s))
        rw [List.length_map] at h2
        rw [List.length_cons] at h1
        omega
      obtain ⟨fn, tmps, assign, body, hy2, hR⟩ := HY.out ss (y1, y2) _ hJ3 hlen
      have HP1 : Hid ((ss ++ [(y1, y2)]).Perm ((doneE x.es (fun z => left z && !z.sameKey (keyL s))).map (·.lab))) := by
        refine hid (List.Perm.trans ?_ (hst.map (·.lab)).symm)
        rw [List.map_cons, ← hy]
        exact List.perm_append_comm.trans (hperm.out.cons _)
      have kA : Kept w2 (w2.alloc (.cells #[.string y1, .string y2] 43)) := (Only.refl _ w2).alloc _
      have hrgA : (w2.alloc (.cells #[.string y1, .string y2] 43)).ranges Tryz.prog 43 slE x.mb W.heap.size x.kv.length (kvD x.kv) (fun z => left z && !z.sameKey (keyL s)) cnt2 :=
        ranges_block hrg2 (kA.block _ (by omega) (fun f => f)) (kA.block _ (by omega) (fun f => f))
      have HRA := hid hrgA
      have HRG := hid hrg
      have HLT := hid hlt
      have HR := hid hR
      have hsz2 : W.heap.size + 1 ≤ (w2.alloc (.cells #[.string y1, .string y2] 43)).heap.size := by simp; omega
      obtain ⟨a8, n8, c8, e8⟩ : ∃ a n8 c8, slV s.c = .slice a n8 c8 := by
        cases s.c with
        | none => exact ⟨_, _, _, rfl⟩
        | some q => exact ⟨_, _, _, rfl⟩
      rw [e8] at hen ⊢
      clear hrg2 hrgA kA hlt hrg hst hkey hv hat hlk hg2 hJ2 hJ3 hlen hR hs2 e8 hy
      gi_wp2
      refine HR.out.mono ?_
      rintro e W3 (⟨rfl, hJ4, hk4⟩ | ⟨rfl, hJx4⟩)
      · have HJ4 := hid hJ4
        have HR4 := hid (HRA.out.of_walks hk4)
        have hsz4 := hk4.size
        clear hJ4 hk4
        gi_wp2
        go_roundw
        case rel => exact ⟨_, cnt2, ss ++ [(y1, y2)], HR4.out, HP1, hid HJ4.out, by omega⟩
        case measure => rw [HR4.out.left_eq, HRG.out.left_eq]; exact HLT.out
      · have HX4 := hid hJx4
        clear hJx4
        gi_wp2
        refine bodyPost_ret (results_none rfl _ _ _) rfl ?_
        exact ⟨⟨_, rfl⟩, .inr ⟨_, trivial, HX4.out⟩⟩
end Go.Proofs.YteknpfldemgmnaaGreat.X
