/-
  Cu3, Cu4, Cu5, Cu6.
-/
import Derived.Test.YtllfanlhgnkcfaaGreatDoorQ15
import Derived.Test.YtllfanlhgnkcfaaGreatDoorQ32
import Derived.RangeFuncNested
import Derived.RangeFuncBound
import Derived.RangeFuncBox
import Derived.RangeFuncCalls
import Derived.RangeFuncLeaves
import Derived.Shelf.Abstract
import Derived.Shelf.RegionOpen
import Derived.OwnWalkIn
import Derived.TacticsInMore
import Derived.LoopNIn
import Derived.LoopIn
import Derived.Test.YtllfanlhgnkcfaaGreatDoorQ10
namespace Go.Proofs.YtllfanlhgnkcfaaGreatDoor.C
open Go.RowKit Go.Proofs.Lys Go.Shelf
set_option linter.unusedVariables false
attribute [local go_sem] Oper.semAt_some
set_option maxHeartbeats 400000 in
theorem sclone_some (w : World) (a : Addr) (c : Nat) (l : Smps) (hc : SmpSrc w (.slice (some a) l.length c) l) (hl : l.length ≤ 100000) :
  Calls Tryz.prog 99 #[.slice (some a) l.length c] w fun e w' => ∃ v, e = .returned v ∧ SmpAt w' w.heap.size v l ∧ Kept w w' := by
 have hb : ∀ w : World, (Instr.buildSlice 46 0 #[]).run Tryz.prog w = .ok (.slice (some ⟨w.heap.size, 0, none⟩) 0 0) (w.alloc (.cells #[] 53)) := fun w => by kernel_rfl
 have h0 : SmpAt (w.alloc (.cells #[] 53)) w.heap.size (.slice (some ⟨w.heap.size, 0, none⟩) 0 0) [] := World.ownsRow_lit w #[] 0 (Nat.le_refl _) (by decide) rfl
 obtain ⟨v', w1, hrun, hown, hgrow, _⟩ := smp_append h0 (hc.stay ((Only.refl _ w).alloc _)) (by simp; omega) (by simp)
 rw [List.nil_append] at hown
 have Hr := hid hrun
 have hk : Hid (Kept w w1) := hid (((Only.refl _ w).alloc _).grown hgrow (fun k hk hlt => by simp [Value.ownBlock] at hk; omega))
 have ho := hid hown
 clear hrun hown hgrow h0 hc
 have he : ∀ (x : Option Addr) (n k : Nat) (w : World), (Go.binOp .eql 46 (.slice x n k) (.slice none 0 0)).run Tryz.prog w = .ok (.bool x.isNone) w := fun x n k w => Lib.run_eql_slice_nil w _ _ x n k 0 0 Tryz.underlying46
 go_enter Tryz.func99, Tryz.ntmps99
 go_wp2_with (at_builtin; refine wpList_append_run rfl _ _ _ rfl rfl rfl Hr ?_)
 go_ret
 exact ⟨_, rfl, ho.out, hk.out⟩
abbrev CutI (L : Nat) := { x : Nat × Nat // x.1 < x.2 ∧ x.2 ≤ L }
def cutV (b o : Nat) {L : Nat} (x : CutI L) : Value := .slice (some ⟨b, o + x.1.1 * 2, none⟩) (x.1.2 - x.1.1) (x.1.2 - x.1.1)
def endC {L : Nat} : List (CutI L) → Nat
 | [] => 0
 | x :: r => match r with
  | [] => x.1.2
  | _ => endC r
def Cuts {L : Nat} (at_ : Nat) : List (CutI L) → Prop
 | [] => True
 | x :: r => x.1.1 = at_ ∧ x.1.2 = at_ + min 120 (L - at_) ∧ Cuts x.1.2 r
theorem endC_snoc {L : Nat} (pre : List (CutI L)) (x : CutI L) : endC (pre ++ [x]) = x.1.2 := by
 induction pre with
 | nil => rfl
 | cons y r ih =>
  cases r with
  | nil => rfl
  | cons z r => exact ih
theorem Cuts_snoc {L : Nat} (x : CutI L) : ∀ (pre : List (CutI L)) (at_ : Nat), Cuts at_ pre → x.1.1 = (if pre = [] then at_ else endC pre) → x.1.2 = x.1.1 + min 120 (L - x.1.1) → Cuts at_ (pre ++ [x])
 | [], at_, _, h1, h2 => by
  rw [if_pos rfl] at h1
  exact ⟨h1, by rw [← h1]; exact h2, trivial⟩
 | y :: r, at_, h, h1, h2 => by
  obtain ⟨a, b, c⟩ := h
  refine ⟨a, b, Cuts_snoc x r _ c ?_ h2⟩
  rw [if_neg (by simp)] at h1
  cases r with
  | nil => exact h1
  | cons z r => rw [if_neg (by simp)]; exact h1
def KpB (n₀ Bn : Nat) (W W' : World) : Prop := Below n₀ W W' ∧ W'.heap[Bn]? = W.heap[Bn]?
theorem KpB.t {n₀ Bn : Nat} {A B C : World} (h : KpB n₀ Bn A B) (k : KpB n₀ Bn B C) : KpB n₀ Bn A C := ⟨h.1.trans k.1, k.2.trans h.2⟩
theorem KpB.b {n₀ Bn : Nat} {w : World} (hn : n₀ ≤ w.heap.size) (hB : Bn < w.heap.size) (W : World) (l : Nat) (o o' : Obj) (hl : w.heap.size ≤ l) (h : W.heap[l]? = some o) (h1 : o.isCells = false) (h2 : o.isWalk = false) : KpB n₀ Bn W (W.putObj l o') :=
 ⟨belowK_b hn W l o o' hl h h1 h2, World.putObj_heap_other (by omega)⟩
theorem KpB.cell {n₀ Bn : Nat} {W W' : World} (h : KpB n₀ Bn W W') {v : Value} (hc : W.cell? ⟨Bn, 0, none⟩ = some v) : W'.cell? ⟨Bn, 0, none⟩ = some v := by
 rw [World.cell?_of_block (w := W) (w' := W') (a := ⟨Bn, 0, none⟩) h.2]
 exact hc
theorem slice3 (b o L c lo hi : Nat) (h1 : lo < hi) (h2 : hi ≤ L) (h3 : L ≤ c) (W : World) : (Instr.sliceAt 46 (.slice (some ⟨b, o, none⟩) L c) (some (.int .i64 (lo : Int))) (some (.int .i64 (hi : Int))) (some (.int .i64 (hi : Int)))).run Tryz.prog W = .ok (.slice (some ⟨b, o + lo * 2, none⟩) (hi - lo) (hi - lo)) W := by
 have hz : ∀ W, (sizeOf 53).run Tryz.prog W = .ok 2 W := fun W => by kernel_rfl
 have e1 : lo ≤ hi := by omega
 have e2 : hi ≤ c := by omega
 have e3 : hi ≠ lo := by omega
 simp [Instr.sliceAt, Instr.slice, Instr.sliceBounds, Instr.sliceBound, run_underlying Tryz.underlying46, asIntOf, e1, e2, e3, hz, Result.andThen, add_none]
set_option maxRecDepth 100000 in
set_option maxHeartbeats 1600000 in
theorem cuts1_in (n : Nat) (hn : 1 ≤ n) (l Bn n₀ b o L c : Nat) (hL : L ≤ 100000) (hc : L ≤ c) (a : Option Addr) (ha : 0 < L → a = some ⟨b, o, none⟩) (J Jx : List (CutI L) → World → Prop)
  (hY : ∀ pre x W, J pre W → pre.length < L + 1 → YieldAt Fence.wide (n - 1) Tryz.prog l #[cutV b o x] W fun e W' =>
   (e = .returned (.bool true) ∧ J (pre ++ [x]) W' ∧ KpB n₀ Bn W W') ∨ (e = .returned (.bool false) ∧ Jx (pre ++ [x]) W'))
  (W : World) (hBn : W.cell? ⟨Bn, 0, none⟩ = some (.slice a L c)) (h0 : J [] W) :
  CallsIn Fence.wide n Tryz.prog 115 #[.func (.yield l) #[] #[], .pointer (some ⟨Bn, 0, none⟩)] W fun e W' => (∃ v, e = .returned v) ∧
   ((∃ ys, (Cuts 0 ys ∧ endC ys = L) ∧ J ys W') ∨ (∃ pre, True ∧ Jx pre W')) := by
 refine callsIn_of_wp Tryz.func115 rfl trivial ?_ rfl
 simp only [Tryz.ntmps115, List.size_toArray, List.length_cons, List.length_nil, Nat.reduceAdd, Nat.reduceSub, Array.replicate_succ, Array.replicate_zero, List.push_toArray, List.append_toArray, List.nil_append, List.cons_append]
 have hnot : ∀ (x : Bool) (w : World), (Op.unary .not (.bool x)).run Tryz.prog w = .ok (.bool (!x)) w := fun _ _ => rfl
 gi_wp2
 gi_loopw [3, 4] (fun p _ wr => ∃ (pre : List (CutI L)) (k : Nat), p = .int .i64 (k : Int) ∧ Cuts 0 pre ∧ endC pre = k ∧ pre.length ≤ k ∧ k ≤ L ∧ J pre wr ∧ wr.cell? ⟨Bn, 0, none⟩ = some (.slice a L c)) (fun p _ _ => L - (intOf p).toNat)
 case atStart => exact ⟨[], 0, rfl, trivial, rfl, Nat.le_refl _, Nat.zero_le _, h0, hBn⟩
 case round =>
  obtain ⟨pre, k, rfl, hC, hE, hp, hk, hJ, hcell⟩ := hrel
  by_cases hlt : k < L
  ·obtain rfl := ha (by omega)
   by_cases h120 : k + 120 ≤ L
   ·have hsl := slice3 b o L c k (k + 120) (by omega) h120 hc
    obtain ⟨fn, tmps, assign, body, hy, hR⟩ := hY pre ⟨(k, k + 120), by omega, h120⟩ wr hJ (by omega)
    simp only [cutV, show k + 120 - k = 120 by omega] at hy hsl
    rw [show ((k + 120 : Nat) : Int) = (k : Int) + 120 by omega] at hsl
    have hm : ¬ ((L : Int) - (k : Int) < 120) := by omega
    have hCs : Cuts 0 (pre ++ [(⟨(k, k + 120), by omega, h120⟩ : CutI L)]) := Cuts_snoc _ pre 0 hC (by by_cases e : pre = [] <;> simp [e, hE]; subst e; exact hE.symm) (by show k + 120 = k + min 120 (L - k); omega)
    have hEs := endC_snoc pre (⟨(k, k + 120), by omega, h120⟩ : CutI L)
    have HC : Hid (Cuts 0 (pre ++ [(⟨(k, k + 120), by omega, h120⟩ : CutI L)]) ∧ endC (pre ++ [(⟨(k, k + 120), by omega, h120⟩ : CutI L)]) = k + 120) := ⟨hCs, hEs⟩
    clear hCs hEs hC hE hJ
    gi_wp2
    refine hR.mono ?_
    rintro e W3 (⟨rfl, hJ3, hk3⟩ | ⟨rfl, hJx3⟩)
    ·have hc3 := hk3.cell hcell
     clear hR hy
     gi_wp2
     go_roundw
     case rel => exact ⟨_, k + 120, by go_num, HC.out.1, HC.out.2, by simp; omega, by omega, hJ3, hc3⟩
     case measure => simp [intOf]; omega
    ·clear hR hy
     gi_wp2
     refine bodyPost_ret (results_none rfl _ _ _) rfl ?_
     exact ⟨⟨_, rfl⟩, .inr ⟨_, trivial, hJx3⟩⟩
   ·have hsl := slice3 b o L c k L (by omega) (Nat.le_refl _) hc
    obtain ⟨fn, tmps, assign, body, hy, hR⟩ := hY pre ⟨(k, L), by omega, Nat.le_refl _⟩ wr hJ (by omega)
    simp only [cutV] at hy
    have hm : (L : Int) - (k : Int) < 120 := by omega
    have hm2 : (k : Int) + ((L : Int) - (k : Int)) = (L : Int) := by omega
    have hCs : Cuts 0 (pre ++ [(⟨(k, L), by omega, Nat.le_refl _⟩ : CutI L)]) := Cuts_snoc _ pre 0 hC (by by_cases e : pre = [] <;> simp [e, hE]; subst e; exact hE.symm) (by show L = k + min 120 (L - k); omega)
    have hEs := endC_snoc pre (⟨(k, L), by omega, Nat.le_refl _⟩ : CutI L)
    have HC : Hid (Cuts 0 (pre ++ [(⟨(k, L), by omega, Nat.le_refl _⟩ : CutI L)]) ∧ endC (pre ++ [(⟨(k, L), by omega, Nat.le_refl _⟩ : CutI L)]) = L) := ⟨hCs, hEs⟩
    clear hCs hEs hC hE hJ
    gi_wp2
    refine hR.mono ?_
    rintro e W3 (⟨rfl, hJ3, hk3⟩ | ⟨rfl, hJx3⟩)
    ·have hc3 := hk3.cell hcell
     clear hR hy
     gi_wp2
     go_roundw
     case rel => exact ⟨_, L, by go_num, HC.out.1, HC.out.2, by simp; omega, by omega, hJ3, hc3⟩
     case measure => simp [intOf]; omega
    ·clear hR hy
     gi_wp2
     refine bodyPost_ret (results_none rfl _ _ _) rfl ?_
     exact ⟨⟨_, rfl⟩, .inr ⟨_, trivial, hJx3⟩⟩
  ·have HC : Hid (Cuts 0 pre ∧ endC pre = L) := ⟨hC, by omega⟩
   clear hC hE
   gi_wp2
   go_end0
   exact ⟨⟨_, rfl⟩, .inl ⟨_, HC.out, hJ⟩⟩
end Go.Proofs.YtllfanlhgnkcfaaGreatDoor.C
namespace Go.Proofs.YtllfanlhgnkcfaaGreatDoor.C
open Go.RowKit Go.Proofs.Lys Go.Shelf
set_option linter.unusedVariables false
attribute [local go_sem] Oper.semAt_some
theorem OutAt.more {base : Nat} {w1 w2 : World} {v u : Value} {ls : List Smps} {vs : List Value} {q : Smps} (h : OutAt w1 base v ls vs) (hk : base ≤ w1.heap.size) (k2 : Kept w1 w2) (hu : SmpAt w2 w1.heap.size u q) (hl : ls.length ≤ 100000) :
  ∃ g cap w3, Hid ((Builtin.append_ #[55, 55] 0 #[v, .slice (some ⟨w2.heap.size, 0, none⟩) 1 1]).run Tryz.prog (w2.alloc (.cells #[u] 46)) = .ok (.slice (some ⟨g, 0, none⟩) (ls.length + 1) cap) w3) ∧ OutAt w3 base (.slice (some ⟨g, 0, none⟩) (ls.length + 1) cap) (ls ++ [q]) (vs ++ [u]) ∧ Only (fun j => v.ownBlock = some j) w2 w3 := by
 have hs1 := hk
 have hs2 := k2.size
 have hrow2 := own_only h.row k2 (fun _ _ f => f)
 obtain ⟨ua, uc, rfl⟩ := ownN_slice hu
 obtain ⟨v', w3, hrun, hown1, hgrow, hat⟩ := append_src (P := Tryz.prog) (xv := .slice (some ⟨w2.heap.size, 0, none⟩) 1 1) (ys := [.slice ua q.length uc]) Tryz.underlying55 Tryz.infoL rfl (by decide) (hrow2.alloc (.cells #[.slice ua q.length uc] 46)) (own_src (World.ownsRow_lit w2 #[.slice ua q.length uc] 1 (Nat.zero_le _) (by decide) rfl)) (by intro u hu; simp at hu; subst hu; rfl) (by have := h.len; simp; omega) (by simp; omega)
 obtain ⟨g, cap, rfl⟩ := own_some hown1 (by simp)
 have hO : Only (fun j => v.ownBlock = some j) w2 w3 := ((Only.refl _ w2).alloc _).grown hgrow (fun j hj _ => hj)
 refine ⟨g, cap, w3, ?_, ⟨by simp [h.len], ?_, ?_, ?_, ?_⟩, hO⟩
 ·have e : vs.length + [Value.slice ua q.length uc].length = ls.length + 1 := by simp [h.len]
  rw [← e]
  exact hrun
 ·have e : (vs ++ [Value.slice ua q.length uc]).length = ls.length + 1 := by simp [h.len]
  have e2 : vs.length + [Value.slice ua q.length uc].length = ls.length + 1 := by simp [h.len]
  rw [e, ← e2]
  exact hown1
 ·intro i hi hi'
  rw [List.length_append, List.length_singleton] at hi hi'
  by_cases e : i < ls.length
  ·have hv : i < vs.length := by have := h.len; omega
   rw [List.getElem_append_left hv, List.getElem_append_left e]
   have h1 := h.each i e hv
   refine ownN_only (ownN_stay h1 k2) hO (fun b hb hvb => ?_)
   exact (ownN_typed h1 hb).ne (own_typed h.row hvb) (by decide) rfl
  ·have e1 : i = ls.length := by omega
   subst e1
   have e2 : ls.length = vs.length := h.len.symm
   rw [List.getElem_append_right (by omega), List.getElem_append_right (Nat.le_refl _)]
   simp only [e2, Nat.sub_self, List.getElem_singleton]
   refine ownN_base (ownN_only hu hO (fun b hb hvb => ?_)) hs1
   have h1 := (ownN_lt hu hb).1
   have h2 := (h.row.lt b hvb).2
   omega
 ·intro i j hi hj hne p hp hq
  rw [List.length_append, List.length_singleton] at hi hj
  have low : ∀ k (hk : k < vs.length) b, vs[k].ownBlock = some b → b < w1.heap.size := fun k hk b hb => (ownN_lt (h.each k (by have := h.len; omega) hk) hb).2
  by_cases ei : i < vs.length
  ·by_cases ej : j < vs.length
   ·rw [List.getElem_append_left ei] at hp
    rw [List.getElem_append_left ej] at hq
    exact h.apart i j ei ej hne p hp hq
   ·have e1 : j = vs.length := by omega
    subst e1
    rw [List.getElem_append_left ei] at hp
    rw [List.getElem_append_right (Nat.le_refl _)] at hq
    simp only [Nat.sub_self, List.getElem_singleton] at hq
    have h1 := low i ei p hp
    have h2 := (ownN_lt hu hq).1
    omega
  ·have e1 : i = vs.length := by omega
   subst e1
   have ej : j < vs.length := by omega
   rw [List.getElem_append_left ej] at hq
   rw [List.getElem_append_right (Nat.le_refl _)] at hp
   simp only [Nat.sub_self, List.getElem_singleton] at hp
   have h1 := low j ej p hq
   have h2 := (ownN_lt hu hp).1
   omega
 ·intro x hx
  rcases List.mem_append.1 hx with hx | hx
  ·exact h.plain x hx
  ·exact ⟨_, _, _, List.mem_singleton.1 hx⟩
def partS (l : Smps) (x : CutI l.length) : Smps := (l.take x.1.2).drop x.1.1
theorem partS_len (l : Smps) (x : CutI l.length) : (partS l x).length = x.1.2 - x.1.1 := by
 have := x.2
 unfold partS
 rw [List.length_drop, List.length_take]
 omega
theorem cuts_split (l : Smps) : ∀ (ys : List (CutI l.length)) (at_ : Nat), Cuts at_ ys → (ys ≠ [] → endC ys = l.length) → (ys = [] → l.length ≤ at_) → ys.map (partS l) = splitL (l.drop at_)
 | [], at_, _, _, h => by rw [List.drop_of_length_le (h rfl)]; rfl
 | x :: r, at_, ⟨h1, h2, h3⟩, he, _ => by
  have hx := x.2
  have hne : l.drop at_ ≠ [] := fun e => by
   have := congrArg List.length e
   rw [List.length_drop] at this
   simp at this
   omega
  rw [splitL_cons hne, List.map_cons, List.drop_drop]
  have e1 : partS l x = (l.drop at_).take 120 := by
   unfold partS
   rw [h1, h2, List.drop_take, show at_ + min 120 (l.length - at_) - at_ = min 120 (l.length - at_) by omega]
   rcases Nat.le_total 120 (l.length - at_) with h | h
   ·rw [Nat.min_eq_left h]
   ·rw [Nat.min_eq_right h, List.take_of_length_le (by rw [List.length_drop]; omega), List.take_of_length_le (by rw [List.length_drop]; omega)]
  have e2 : r.map (partS l) = splitL (l.drop (at_ + 120)) := by
   have h4 := cuts_split l r x.1.2 h3 (fun hr => by
    have := he (by simp)
    cases r with
    | nil => exact absurd rfl hr
    | cons z r => exact this) (fun hr => by
    subst hr
    have := he (by simp)
    have e : endC [x] = x.1.2 := rfl
    omega)
   rw [h4]
   rcases Nat.le_total 120 (l.length - at_) with h | h
   ·rw [h2, Nat.min_eq_left h]
   ·rw [h2, Nat.min_eq_right h, List.drop_of_length_le (by omega), List.drop_of_length_le (by omega)]
  rw [e1, e2]
set_option maxHeartbeats 400000 in
theorem cuts_in (n : Nat) (a : Option Addr) (L c : Nat) (w : World) :
  CallsIn Fence.wide n Tryz.prog 98 #[.slice a L c] w fun e w' => e = .returned (.func (.func 115) #[] #[.pointer (some ⟨w.heap.size, 0, none⟩)]) ∧ w' = w.alloc (.cells #[.slice a L c] 46) := by
 have hmf : ∀ (fn : Fn) (first cap : Array Value) (w : World), (Instr.makeFunc fn first cap).run Tryz.prog w = .ok (.func fn first cap) w := fun _ _ _ _ => rfl
 refine callsIn_of_wp Tryz.func98 rfl trivial ?_ rfl
 simp only [Tryz.ntmps98, List.size_toArray, List.length_cons, List.length_nil, Nat.reduceAdd, Nat.reduceSub, Array.replicate_succ, Array.replicate_zero, List.push_toArray, List.append_toArray, List.nil_append, List.cons_append]
 gi_wp2
 go_ret
 exact ⟨rfl, rfl⟩
theorem cuts_stops (n : Nat) (hn : 1 ≤ n) (Bn n₀ b o L c : Nat) (hL : L ≤ 100000) (hc : L ≤ c) (a : Option Addr) (ha : 0 < L → a = some ⟨b, o, none⟩) (w : World) (hlt : Bn < w.heap.size) (hBn : w.cell? ⟨Bn, 0, none⟩ = some (.slice a L c)) :
  SeqStopsK Fence.wide n Tryz.prog 115 #[.pointer (some ⟨Bn, 0, none⟩)] (fun x : CutI L => #[cutV b o x]) (KpB n₀ Bn) (fun ys => Cuts 0 ys ∧ endC ys = L) (fun _ => True) (L + 1) w := fun l J Jx W hW _ _ hY h0 =>
 cuts1_in n hn l Bn n₀ b o L c hL hc a ha J Jx hY W ((hW.cell (p := ⟨Bn, 0, none⟩) hlt).trans hBn) h0
def SplI (w : World) (l : Smps) (pre : List (CutI l.length)) (W : World) : Prop :=
 (∃ v vs, Boxed W w.heap.size 55 v ∧ OutAt W (w.heap.size + 2) v (pre.map (partS l)) vs) ∧ Below w.heap.size w W ∧ w.heap.size + 2 ≤ W.heap.size
theorem OutAt.cells {w w' : World} {row : Option Nat} (hg : w.grownBy w' row) (hr : ∀ r, row = some r → ∃ o : Obj, w.heap[r]? = some o ∧ o.isCells = false) {base : Nat} {v : Value} {ls : List Smps} {vs : List Value} (h : OutAt w base v ls vs) : OutAt w' base v ls vs :=
 ⟨h.len, row_cells hg hr h.row, fun i h1 h2 => row_cells hg hr (h.each i h1 h2), h.apart, h.plain⟩
theorem splI_own (w : World) (l : Smps) {B : Nat} (hB : w.heap.size ≤ B) : OwnFrom B (SplI w l) :=
 OwnFrom.and (Own.from (fun s X Y row ⟨v, vs, hb, ho⟩ hg hr => ⟨v, vs, (grown_cells hg hr ⟨_, _, hb⟩).trans hb, ho.cells hg hr⟩) _) (OwnFrom.and (ownFrom_below (Nat.le_refl _) hB) (fun _ _ _ _ hs hg _ => Nat.le_trans hs hg.size))
theorem splI_step {w W w2 : World} {l : Smps} {pre : List (CutI l.length)} {x : CutI l.length} {v u : Value} {vs : List Value} (hb : Boxed W w.heap.size 55 v) (ho : OutAt W (w.heap.size + 2) v (pre.map (partS l)) vs) (hB : Below w.heap.size w W) (hs : w.heap.size + 2 ≤ W.heap.size)
  (hu : SmpAt w2 W.heap.size u (partS l x)) (k2 : Kept W w2) (hl : pre.length ≤ 100000) :
  ∃ g cap w3, Hid ((Builtin.append_ #[55, 55] 0 #[v, .slice (some ⟨w2.heap.size, 0, none⟩) 1 1]).run Tryz.prog (w2.alloc (.cells #[u] 46)) = .ok (.slice (some ⟨g, 0, none⟩) (pre.length + 1) cap) w3) ∧
   Boxed w2 w.heap.size 55 v ∧ Boxed w3 w.heap.size 55 v ∧
   KeepsOthers W (w3.setCell ⟨w.heap.size, 0, none⟩ (.slice (some ⟨g, 0, none⟩) (pre.length + 1) cap)) ∧ KpB w.heap.size (w.heap.size + 1) W (w3.setCell ⟨w.heap.size, 0, none⟩ (.slice (some ⟨g, 0, none⟩) (pre.length + 1) cap)) ∧
   SplI w l (pre ++ [x]) (w3.setCell ⟨w.heap.size, 0, none⟩ (.slice (some ⟨g, 0, none⟩) (pre.length + 1) cap)) := by
 obtain ⟨g, cap, w3, Hr, hO3, hon⟩ := ho.more hs k2 hu (by rw [List.length_map]; exact hl)
 rw [List.length_map] at Hr hO3
 have hb2 : Boxed w2 w.heap.size 55 v := (k2.block _ hb.lt (fun f => f)).trans hb
 have hrow2 := own_only ho.row k2 (fun _ _ f => f)
 have hb3 : Boxed w3 w.heap.size 55 v := (hon.block _ hb2.lt (fun e => (own_typed hrow2 e).ne ⟨_, _, hb2⟩ (by decide) rfl)).trans hb2
 have hz2 := k2.size
 have hz3 := hon.size
 obtain ⟨V, hV⟩ : ∃ V, Value.slice (some ⟨g, 0, none⟩) (pre.length + 1) cap = V := ⟨_, rfl⟩
 rw [hV] at hO3
 have hS : Only (fun k => k = w.heap.size) w3 (w3.setCell ⟨w.heap.size, 0, none⟩ V) := (Only.refl (fun k => k = w.heap.size) w3).setCell (p := ⟨w.heap.size, 0, none⟩) (fun _ => rfl) _
 have hb4 : Boxed (w3.setCell ⟨w.heap.size, 0, none⟩ V) w.heap.size 55 V := hb3.set V
 have hO4 : OutAt (w3.setCell ⟨w.heap.size, 0, none⟩ V) (w.heap.size + 2) V ((pre.map (partS l)) ++ [partS l x]) (vs ++ [u]) :=
  ⟨hO3.len, own_only hO3.row hS (fun b hb e => by have := (hO3.row.lt b hb).1; omega), fun i h1 h2 => ownN_only (hO3.each i h1 h2) hS (fun b hb e => by have := (ownN_lt (hO3.each i h1 h2) hb).1; omega), hO3.apart, hO3.plain⟩
 have hlow : ∀ j, v.ownBlock = some j → w.heap.size + 2 ≤ j := fun j hj => (ho.row.lt j hj).1
 have hk3 : Only (fun j => v.ownBlock = some j) W w3 := (k2.mono (O' := fun j => v.ownBlock = some j) (fun _ _ f => f.elim)).trans hon (fun _ _ h => h)
 have hk4 : Only (fun j => v.ownBlock = some j ∨ j = w.heap.size) W (w3.setCell ⟨w.heap.size, 0, none⟩ V) := (hk3.mono (O' := fun j => v.ownBlock = some j ∨ j = w.heap.size) (fun _ _ h => .inl h)).trans hS (fun _ _ h => .inr h)
 have hbel : Below w.heap.size W (w3.setCell ⟨w.heap.size, 0, none⟩ V) := hk4.toBelow (fun k hk => hk.elim (fun h => by have := hlow k h; omega) (fun h => by omega)) (by omega)
 subst hV
 refine ⟨g, cap, w3, Hr, hb2, hb3, ?_, ⟨hbel, ?_⟩, ⟨_, vs ++ [u], hb4, ?_⟩, hB.trans hbel, Nat.le_trans hs hk4.size⟩
 ·exact hk4.others (fun k hk hlt => by
   rcases hk with hk | hk
   ·exact ⟨_, own_typed ho.row hk⟩
   ·subst hk
    exact ⟨_, _, _, hb⟩)
 ·exact hk4.block _ (by omega) (fun h => h.elim (fun h => by have := hlow _ h; omega) (fun h => by omega))
 ·rw [List.map_append]
  exact hO4
theorem part_src {w : World} {b o c : Nat} {l : Smps} (h : SmpSrc w (.slice (some ⟨b, o, none⟩) l.length c) l) (x : CutI l.length) : SmpSrc w (cutV b o x) (partS l x) := by
 have hx := x.2
 have hlen := partS_len l x
 rcases h with ⟨a, c', e, h0⟩ | ⟨hp, b', o', c', e, hc⟩
 ·have h1 : l.length = 0 := by rw [h0]; rfl
  omega
 ·cases e
  refine .inr ⟨by omega, b, o + x.1.1 * 2, x.1.2 - x.1.1, by rw [hlen]; rfl, fun i hi => ?_⟩
  have := hc (x.1.1 + i) (by omega)
  have e5 : (partS l x)[i] = l[x.1.1 + i]'(by omega) := by
   simp [partS, List.getElem_drop, List.getElem_take]
  rw [e5, show o + x.1.1 * 2 + i * 2 = o + (x.1.1 + i) * 2 by omega]
  exact this
set_option maxRecDepth 100000 in
set_option maxHeartbeats 3200000 in
theorem split_any (w : World) (v : Value) (l : Smps) (hs : SSrc w v l) (hl : l.length ≤ 80000) :
  Calls Tryz.prog 77 #[v] w fun e w' => ∃ u vs, e = .returned u ∧ OutAt w' w.heap.size u (splitL l) vs ∧ Kept w w' := by
 have hmx : Tryz.prog.follows .mixedOrders = true := by kernel_rfl
 obtain ⟨hsrc, a, c, rfl, hlc⟩ := hs
 obtain ⟨b, o, hab⟩ : ∃ b o, 0 < l.length → a = some ⟨b, o, none⟩ := by
  rcases hsrc with ⟨x, y, hv, hn⟩ | ⟨hp, b, o, c2, hv, hcell⟩
  ·exact ⟨0, 0, fun h => by rw [hn] at h; simp at h⟩
  ·cases hv
   exact ⟨b, o, fun _ => rfl⟩
 have HS := hid hsrc
 clear hsrc
 refine (callsIn_wide (n := 3)).1 ?_
 refine callsIn_of_wp_marks Tryz.func77 rfl trivial ?_ rfl
 simp only [Tryz.ntmps77, List.size_toArray, List.length_cons, List.length_nil, Nat.reduceAdd, Nat.reduceSub, Array.replicate_succ, Array.replicate_zero, List.push_toArray, List.append_toArray, List.nil_append, List.cons_append]
 gi_wp2_with (refine ⟨trivial, ?_⟩; gi_at_call 98; refine (cuts_in _ a l.length c _).mono ?_; rintro e w' ⟨rfl, rfl⟩)
 have bO := Boxed.new w 55 (.slice none 0 0)
 have bN := Boxed.new (w.alloc (.cells #[.slice none 0 0] 55)) 46 (.slice a l.length c)
 rw [World.size_alloc] at bN
 have hB0 : Below w.heap.size w ((w.alloc (.cells #[.slice none 0 0] 55)).alloc (.cells #[.slice a l.length c] 46)) := ((Below.refl _ w).alloc (Nat.le_refl _) _).alloc (by simp) _
 refine wpIn_rangeFunc_ownG rfl (by omega) (gf := 115) (lb := #[.pointer (some ⟨w.heap.size + 1, 0, none⟩)]) rfl trivial (enters_of Tryz.func115 (by kernel_rfl) rfl)
  (cuts_stops _ (by omega) (w.heap.size + 1) w.heap.size b o l.length c (by omega) hlc a hab _ (by simp) bN.cell) KpB.t (KpB.b (by simp; omega) (by simp)) (Below.refl _ _) (fun _ => rfl)
  (SplI w l) (fun _ _ _ => False) (splI_own w l (by simp; omega)) (fun _ _ _ _ _ hs _ _ => hs)
  ⟨⟨_, [], bO.alloc _, rfl, World.ownsRow_nil _ _ _ _, fun i h => absurd h (Nat.not_lt_zero _), fun i j h => absurd h (Nat.not_lt_zero _), fun u hu => by cases hu⟩, hB0, by simp⟩
  (fun x => { tmps := #[.slice a l.length c, undef, .slice none 0 0, .pointer (some ⟨w.heap.size, 0, none⟩), cutV b o x, .slice a l.length c, .func (.func 115) #[] #[.pointer (some ⟨w.heap.size + 1, 0, none⟩)], cutV b o x, undef, undef, undef, undef, undef, undef], defers := [] }) ?assign ?body ?done ?stop
 case assign =>
  intro l x W K hK
  gi_wp2
  exact hK
 case body =>
  rintro q pre x W ⟨⟨v, vs, hb, ho⟩, hB, hs2⟩ hlt
  have hx := x.2
  obtain rfl := hab (by omega)
  have hlen := partS_len l x
  have hpart : SmpSrc W.drew (cutV b o x) (partS l x) := part_src (HS.out.stay (Only.below hB)) x
  have hcl := sclone_some W.drew ⟨b, o + x.1.1 * 2, none⟩ (x.1.2 - x.1.1) (partS l x) (by rw [hlen]; exact hpart) (by omega)
  rw [hlen] at hcl
  change Calls Tryz.prog 99 #[cutV b o x] W.drew _ at hcl
  have hc0 := hb.cell
  have HB := hid hb
  have HO := hid ho
  have HBel := hid hB
  clear bO bN hB0 hab hpart hb ho hB hlen
  gi_wp2
  refine region_round (L := 5) (S := fun w' => w'.cell? ⟨w.heap.size, 0, none⟩ = some v) hmx (by rintro ⟨_, _, h⟩; exact h) (by kernel_rfl) ?_
  have hS : (fun w' : World => w'.cell? ⟨w.heap.size, 0, none⟩ = some v) W.drew := hc0
  refine wpAnyL_take (i := 0) (v := v) rfl (by kernel_rfl) (by kernel_rfl) (by kernel_rfl) (by kernel_rfl) (by kernel_rfl) (fun _ _ _ h => h) (Or.inl ⟨by rfl, ?_⟩) hS ?_
  ·(intro w' hSw; go_simp)
  go_frame
  refine wpAnyL_take (i := 1) (v := cutV b o x) rfl (by kernel_rfl) (by kernel_rfl) (by kernel_rfl) (by kernel_rfl) (by kernel_rfl) (fun _ _ _ h => h) (Or.inl ⟨by rfl, ?_⟩) hS ?_
  ·(intro w' hSw; go_simp)
  go_frame
  refine wpAnyL_one (i := 2) (by kernel_rfl) rfl rfl ?_
  go_simp
  refine hcl.mono ?_
  rintro e w2 ⟨u, rfl, hu, k2⟩
  have hk2 : Kept W w2 := (Only.refl (fun _ => False) W).drew.trans k2 (fun _ _ f => f)
  obtain ⟨g, cap, w3, Hr, hb2, hb3, hko, hkp, hI⟩ := splI_step HB.out HO.out HBel.out hs2 hu hk2 (by omega)
  obtain ⟨ua, uc, hue⟩ := ownN_slice hu
  subst hue
  have hc2 := hb2.cell
  have hc3 := hb3.cell
  have hf3 := hb3.frozen
  have hc2a := (hb2.alloc (.cells #[.slice ua (partS l x).length uc] 46)).cell
  have HE : Hid (KeepsOthers W (w3.setCell ⟨w.heap.size, 0, none⟩ (.slice (some ⟨g, 0, none⟩) (pre.length + 1) cap)) ∧ KpB w.heap.size (w.heap.size + 1) W (w3.setCell ⟨w.heap.size, 0, none⟩ (.slice (some ⟨g, 0, none⟩) (pre.length + 1) cap)) ∧
   SplI w l (pre ++ [x]) (w3.setCell ⟨w.heap.size, 0, none⟩ (.slice (some ⟨g, 0, none⟩) (pre.length + 1) cap))) := ⟨hko, hkp, hI⟩
  clear hko hkp hI hcl hu k2 hk2
  refine ⟨hc2, ?_⟩
  refine wpAnyL_one (i := 3) (by kernel_rfl) rfl rfl ?_
  go_simp
  refine wpAnyL_one (i := 4) (by kernel_rfl) rfl rfl (oper_append_run _ _ _ rfl rfl rfl Hr ?_)
  refine ⟨hc3, ?_⟩
  go_frame
  refine wpAnyL_last (by kernel_rfl) (by kernel_rfl) rfl rfl ?_
  go_simp
  exact ⟨HE.out.1.from _, HE.out.2.1, HE.out.2.2⟩
 case done =>
  rintro D ys W hD ⟨hC, hE⟩ ⟨⟨v, vs, hb, ho⟩, hB, hs2⟩ hK
  have hc := hb.cell
  have e := cuts_split l ys 0 hC (fun _ => hE) (fun h => by rw [h] at hE; have : endC ([] : List (CutI l.length)) = 0 := rfl; omega)
  rw [List.drop_zero] at e
  rw [e] at ho
  have HO : Hid (OutAt (W.putObj D (.deferred none)) w.heap.size v (splitL l) vs ∧ Kept w (W.putObj D (.deferred none))) := by
   refine ⟨?_, Only.below (hB.trans (belowK_b (w := w) (Nat.le_refl _) W D _ _ (by simp at hD; omega) hK rfl rfl))⟩
   have h1 := ho.cells (grownBy_putObj' W D (.deferred none)) (fun r e => by cases e; exact ⟨_, hK, rfl⟩)
   exact ⟨h1.len, own_base h1.row (by omega), fun i a b => ownN_base (h1.each i a b) (by omega), h1.apart, h1.plain⟩
  clear e ho hC hE
  gi_wp2
  refine ⟨by simp, .inl ⟨_, _, rfl, run_takeDeferred hK, ?_⟩⟩
  exact ⟨_, results_tmp rfl _ _ _, v, vs, rfl, HO.out⟩
 case stop =>
  rintro D c pre W _ _ h _
  exact h.elim
end Go.Proofs.YtllfanlhgnkcfaaGreatDoor.C
namespace Go.Proofs.YtllfanlhgnkcfaaGreatDoor.C
open Go.RowKit Go.Proofs.Lys Go.Shelf
set_option linter.unusedVariables false
attribute [local go_sem] Oper.semAt_some
abbrev PartI (L : Nat) := { x : Nat × Nat // x.1 ≤ x.2 ∧ x.2 ≤ L }
def partV (b o : Nat) {L : Nat} (x : PartI L) : Value := .slice (some ⟨b, if x.1.2 = x.1.1 then o else o + x.1.1, none⟩) (x.1.2 - x.1.1) (x.1.2 - x.1.1)
def partB (bs : List UInt8) (x : PartI bs.length) : List UInt8 := (bs.take x.1.2).drop x.1.1
theorem partB_len (bs : List UInt8) (x : PartI bs.length) : (partB bs x).length = x.1.2 - x.1.1 := by
 have := x.2
 unfold partB
 rw [List.length_drop, List.length_take]
 omega
def endP {L : Nat} (pre : List (PartI L)) : Nat := (pre.getLast?.map (fun x => x.1.2)).getD 0
theorem endP_snoc {L : Nat} (pre : List (PartI L)) (x : PartI L) : endP (pre ++ [x]) = x.1.2 := by simp [endP]
def PartsC (bs : List UInt8) (at_ : Nat) : List (PartI bs.length) → Prop
 | [] => True
 | x :: r => cutR (bs.drop at_) = some (partB bs x, bs.drop x.1.2) ∧ at_ < x.1.2 ∧ PartsC bs x.1.2 r
theorem PartsC_snoc (bs : List UInt8) (x : PartI bs.length) : ∀ (pre : List (PartI bs.length)) (at_ e : Nat), PartsC bs at_ pre → e = (pre.getLast?.map (fun x => x.1.2)).getD at_ → cutR (bs.drop e) = some (partB bs x, bs.drop x.1.2) → e < x.1.2 → PartsC bs at_ (pre ++ [x])
 | [], at_, e, _, h1, h2, h3 => by
  have e1 : e = at_ := by simpa using h1
  subst e1
  exact ⟨h2, h3, trivial⟩
 | y :: r, at_, e, ⟨a, b, c⟩, h1, h2, h3 => by
  refine ⟨a, b, PartsC_snoc bs x r y.1.2 e c ?_ h2 h3⟩
  rw [h1]
  cases r with
  | nil => simp
  | cons z r => simp [List.getLast?_cons]
theorem getA_pos (l : List UInt8) : ∀ i n, (getA l i n).2.2 = 0 → i < (getA l i n).2.1 := by
 induction l with
 | nil => intro i n h; simp [getA] at h
 | cons c t ih =>
  intro i n
  unfold getA
  have := ih (i + 1) (n + c.toNat % 128 * 2 ^ (7 * i))
  split
  ·intro h; simp at h
  ·split
   ·intro h
    have := this h
    omega
   ·split
    ·intro h; simp at h
    ·intro _
     show i < i + 1
     omega
theorem bslice3 (b o L c lo hi : Nat) (h1 : lo ≤ hi) (h2 : hi ≤ L) (h3 : L ≤ c) (W : World) : (Instr.sliceAt 28 (.slice (some ⟨b, o, none⟩) L c) (some (.int .i64 (lo : Int))) (some (.int .i64 (hi : Int))) (some (.int .i64 (hi : Int)))).run Tryz.prog W = .ok (partV b o (⟨(lo, hi), h1, h2⟩ : PartI L)) W := by
 have hz : ∀ W, (sizeOf 5).run Tryz.prog W = .ok 1 W := fun W => by kernel_rfl
 have e2 : hi ≤ c := by omega
 unfold partV
 by_cases e3 : hi = lo
 ·subst e3
  simp [Instr.sliceAt, Instr.slice, Instr.sliceBounds, Instr.sliceBound, run_underlying Tryz.underlying28, asIntOf, e2, hz, Result.andThen]
 ·simp [Instr.sliceAt, Instr.slice, Instr.sliceBounds, Instr.sliceBound, run_underlying Tryz.underlying28, asIntOf, h1, e2, e3, hz, Result.andThen, add_none]
theorem part_bsrc {w : World} {b o c : Nat} {bs : List UInt8} (h : BSrc w (.slice (some ⟨b, o, none⟩) bs.length c) bs) (x : PartI bs.length) : BSrc w (partV b o x) (partB bs x) := by
 have hx := x.2
 have hlen := partB_len bs x
 refine ⟨?_, _, _, by rw [hlen]; rfl, by rw [hlen]; exact Nat.le_refl _⟩
 refine .inr ⟨_, _, by rw [List.length_map, hlen]; rfl, fun j u hu => ?_⟩
 have hj : j < (partB bs x).length := by
  have := (List.getElem?_eq_some_iff.1 hu).1
  rwa [List.length_map] at this
 rw [hlen] at hj
 rw [if_neg (by omega), add_none]
 rcases h.1 with ⟨e, _⟩ | ⟨a, c', e, hc⟩
 ·cases e
 ·rw [List.length_map] at e
  cases e
  have := hc (x.1.1 + j) u (by
   rw [List.getElem?_map] at hu ⊢
   unfold partB at hu
   rw [List.getElem?_drop, List.getElem?_take, if_pos (by omega)] at hu
   exact hu)
  rw [add_none] at this
  rw [Nat.add_assoc]
  exact this
set_option maxRecDepth 100000 in
set_option maxHeartbeats 3200000 in
theorem parts1_in (n : Nat) (hn : 1 ≤ n) (l Bn b o c : Nat) (bs : List UInt8) (hL : bs.length ≤ 10000000) (a : Option Addr) (w : World) (hs : BSrc w (.slice a bs.length c) bs) (ha : 0 < bs.length → a = some ⟨b, o, none⟩) (J Jx : List (PartI bs.length) → World → Prop)
  (hY : ∀ pre x W, J pre W → pre.length < bs.length + 1 → YieldAt Fence.wide (n - 1) Tryz.prog l #[.int .i64 (x.1.2 : Int), partV b o x] W fun e W' =>
   (e = .returned (.bool true) ∧ J (pre ++ [x]) W' ∧ KpB w.heap.size Bn W W') ∨ (e = .returned (.bool false) ∧ Jx (pre ++ [x]) W'))
  (W : World) (hBn : W.cell? ⟨Bn, 0, none⟩ = some (.slice a bs.length c)) (hbel : Below w.heap.size w W) (h0 : J [] W) :
  CallsIn Fence.wide n Tryz.prog 145 #[.func (.yield l) #[] #[], .pointer (some ⟨Bn, 0, none⟩)] W fun e W' => (∃ v, e = .returned v) ∧
   ((∃ ys, (PartsC bs 0 ys ∧ cutR (bs.drop (endP ys)) = none) ∧ J ys W') ∨ (∃ pre, PartsC bs 0 pre ∧ Jx pre W')) := by
 refine callsIn_of_wp Tryz.func145 rfl trivial ?_ rfl
 simp only [Tryz.ntmps145, List.size_toArray, List.length_cons, List.length_nil, Nat.reduceAdd, Nat.reduceSub, Array.replicate_succ, Array.replicate_zero, List.push_toArray, List.append_toArray, List.nil_append, List.cons_append]
 have hnot : ∀ (x : Bool) (w : World), (Op.unary .not (.bool x)).run Tryz.prog w = .ok (.bool (!x)) w := fun _ _ => rfl
 obtain ⟨L, hLe⟩ : ∃ L, bs.length = L := ⟨_, rfl⟩
 have HLe := hid hLe
 have hlc : L ≤ c := by obtain ⟨_, x, y, e, h⟩ := hs; cases e; omega
 have HS := hid hs
 have HY := hid hY
 rw [hLe] at ha hBn hL
 clear hs hY hLe
 gi_wp2
 gi_loopw [3] (fun p wr => ∃ (pre : List (PartI bs.length)) (k : Nat), p = .int .i64 (k : Int) ∧ PartsC bs 0 pre ∧ endP pre = k ∧ pre.length ≤ k ∧ k ≤ L ∧ J pre wr ∧ wr.cell? ⟨Bn, 0, none⟩ = some (.slice a L c) ∧ Below w.heap.size w wr) (fun p _ => L - (intOf p).toNat)
 case atStart => exact ⟨[], 0, rfl, trivial, rfl, Nat.le_refl _, Nat.zero_le _, h0, hBn, hbel⟩
 case round =>
  obtain ⟨pre, k, rfl, hC, hE, hp, hk, hJ, hcell, hbr⟩ := hrel
  have hBS := HS.out.stay (Only.below hbr)
  obtain ⟨a1, c1, hr1, hb1⟩ := hBS.tail (lo := k) (by have := HLe.out; omega)
  have hg := U.get_any wr _ (bs.drop k) hb1.1 (by rw [List.length_drop]; have := HLe.out; omega)
  have hle := getA_le (bs.drop k) 0 0
  have hpos := getA_pos (bs.drop k) 0 0
  rw [List.length_drop, Nat.zero_add, HLe.out] at hle
  obtain ⟨⟨u, kk, er⟩, hG⟩ : ∃ x, getA (bs.drop k) 0 0 = x := ⟨_, rfl⟩
  rw [hG] at hg hle hpos
  simp only at hle hpos
  unfold U.got at hg
  simp only at hg
  obtain ⟨Z, hZ⟩ : ∃ Z, wrap64 (u : Int) = Z := ⟨_, rfl⟩
  rw [hZ] at hg
  obtain ⟨F, hF⟩ : ∃ F : Nat, k + kk = F := ⟨_, rfl⟩
  have hFi : (k : Int) + (kk : Int) = (F : Int) := by omega
  have HCR : Hid (cutR (bs.drop k) = if er ≠ 0 ∨ Z < 0 ∨ (L : Int) - (F : Int) < Z then none else some (((bs.drop k).drop kk).take Z.toNat, ((bs.drop k).drop kk).drop Z.toNat)) := by
   show _ = _
   unfold cutR
   rw [hG]
   simp only
   rw [hZ, List.length_drop, show ((bs.length - k : Nat) : Int) - (kk : Int) = (L : Int) - (F : Int) by have := HLe.out; omega]
  rw [HLe.out] at hr1 hg
  have HC := hid hC
  have HE := hid hE
  have HBel := hid hbr
  clear hBS hb1 hG hZ hC hE hbr
  have HFk := hid hF
  clear hF
  by_cases he : er = 0
  ·subst he
   have hkk := hpos rfl
   by_cases hz0 : Z < 0
   ·rw [if_pos (.inr (.inl hz0))] at HCR
    gi_wp2_with (refine ⟨trivial, ?_⟩; gi_at_call 84; refine (callsIn_wide.2 hg).mono ?_; rintro e w' ⟨rfl, hw⟩; replace hw := hw.symm; subst hw)
    refine bodyPost_ret (results_none rfl _ _ _) rfl ?_
    exact ⟨⟨_, rfl⟩, .inl ⟨_, ⟨HC.out, by rw [HE.out]; exact HCR.out⟩, hJ⟩⟩
   ·by_cases hz1 : (L : Int) - (F : Int) < Z
    ·rw [if_pos (.inr (.inr hz1))] at HCR
     gi_wp2_with (refine ⟨trivial, ?_⟩; gi_at_call 84; refine (callsIn_wide.2 hg).mono ?_; rintro e w' ⟨rfl, hw⟩; replace hw := hw.symm; subst hw)
     refine bodyPost_ret (results_none rfl _ _ _) rfl ?_
     exact ⟨⟨_, rfl⟩, .inl ⟨_, ⟨HC.out, by rw [HE.out]; exact HCR.out⟩, hJ⟩⟩
    ·rw [if_neg (fun h => h.elim (fun h => h rfl) (fun h => h.elim hz0 hz1))] at HCR
     obtain ⟨z, rfl⟩ : ∃ z : Nat, Z = (z : Int) := ⟨Z.toNat, by omega⟩
     rw [Int.toNat_natCast] at HCR
     obtain ⟨T, hT⟩ : ∃ T : Nat, F + z = T := ⟨_, rfl⟩
     have hTi : (F : Int) + (z : Int) = (T : Int) := by omega
     have HT := hid hT
     have hTl : T ≤ L := by omega
     have hFT : F ≤ T := by omega
     have hTb : T ≤ bs.length := by have := HLe.out; omega
     have hkT : k < T := by have := HFk.out; omega
     obtain rfl := ha (by omega)
     have HX : Hid (cutR (bs.drop k) = some (partB bs ⟨(F, T), hFT, hTb⟩, bs.drop T)) := by
      have := HFk.out
      show _ = _
      rw [HCR.out]
      unfold partB
      simp only
      rw [List.drop_take, List.drop_drop, List.drop_drop, show T - F = z by omega, show k + kk = F by omega, hT]
     have hsl := bslice3 b o bs.length c F T hFT hTb (by have := HLe.out; omega)
     obtain ⟨fn, tmps, assign, body, hy, hR⟩ := HY.out pre ⟨(F, T), hFT, hTb⟩ wr hJ (by have := HLe.out; omega)
     simp only at hy
     have HN : Hid (PartsC bs 0 (pre ++ [(⟨(F, T), hFT, hTb⟩ : PartI bs.length)]) ∧ endP (pre ++ [(⟨(F, T), hFT, hTb⟩ : PartI bs.length)]) = T) :=
      ⟨PartsC_snoc bs _ pre 0 k HC.out HE.out.symm HX.out hkT, endP_snoc _ _⟩
     obtain ⟨PV, hPV⟩ : ∃ v, partV b o (⟨(F, T), hFT, hTb⟩ : PartI bs.length) = v := ⟨_, rfl⟩
     rw [hPV] at hy hsl
     rw [HLe.out] at hsl
     have hd0 : decide ((z : Int) < 0) = false := by simp
     have hd1 : decide ((L : Int) - (F : Int) < (z : Int)) = false := by simp; omega
     clear hPV hT hz0 hz1
     gi_wp2_with (refine ⟨trivial, ?_⟩; gi_at_call 84; refine (callsIn_wide.2 hg).mono ?_; rintro e w' ⟨rfl, hw⟩; replace hw := hw.symm; subst hw)
     refine hR.mono ?_
     rintro e W3 (⟨rfl, hJ3, hk3⟩ | ⟨rfl, hJx3⟩)
     ·have hc3 := hk3.cell hcell
      have HB3 : Hid (Below w.heap.size w W3) := HBel.out.trans hk3.1
      clear hR hy hg hk3
      gi_wp2
      go_roundw
      case rel => exact ⟨_, T, by go_num, HN.out.1, HN.out.2, by simp; omega, hTl, hJ3, hc3, HB3.out⟩
      case measure => simp [intOf]; omega
     ·clear hR hy hg
      gi_wp2
      refine bodyPost_ret (results_none rfl _ _ _) rfl ?_
      exact ⟨⟨_, rfl⟩, .inr ⟨_, HN.out.1, hJx3⟩⟩
  ·rw [if_pos (.inl he)] at HCR
   have he' : ((er : Int) == 0) = false := by simp [he]
   have he2 : ((er : Int) != 0) = true := by simp [he]
   gi_wp2_with (refine ⟨trivial, ?_⟩; gi_at_call 84; refine (callsIn_wide.2 hg).mono ?_; rintro e w' ⟨rfl, hw⟩; replace hw := hw.symm; subst hw)
   refine bodyPost_ret (results_none rfl _ _ _) rfl ?_
   exact ⟨⟨_, rfl⟩, .inl ⟨_, ⟨HC.out, by rw [HE.out]; exact HCR.out⟩, hJ⟩⟩
set_option maxHeartbeats 400000 in
theorem parts_in (n : Nat) (a : Option Addr) (L c : Nat) (w : World) :
  CallsIn Fence.wide n Tryz.prog 135 #[.slice a L c] w fun e w' => e = .returned (.func (.func 145) #[] #[.pointer (some ⟨w.heap.size, 0, none⟩)]) ∧ w' = w.alloc (.cells #[.slice a L c] 28) := by
 have hmf : ∀ (fn : Fn) (first cap : Array Value) (w : World), (Instr.makeFunc fn first cap).run Tryz.prog w = .ok (.func fn first cap) w := fun _ _ _ _ => rfl
 refine callsIn_of_wp Tryz.func135 rfl trivial ?_ rfl
 simp only [Tryz.ntmps135, List.size_toArray, List.length_cons, List.length_nil, Nat.reduceAdd, Nat.reduceSub, Array.replicate_succ, Array.replicate_zero, List.push_toArray, List.append_toArray, List.nil_append, List.cons_append]
 gi_wp2
 go_ret
 exact ⟨rfl, rfl⟩
theorem parts_stops (n : Nat) (hn : 1 ≤ n) (Bn b o c : Nat) (bs : List UInt8) (hL : bs.length ≤ 10000000) (a : Option Addr) (w W0 : World) (hs : BSrc w (.slice a bs.length c) bs) (ha : 0 < bs.length → a = some ⟨b, o, none⟩) (hlt : Bn < W0.heap.size) (hBn : W0.cell? ⟨Bn, 0, none⟩ = some (.slice a bs.length c)) (hb0 : Below w.heap.size w W0) :
  SeqStopsK Fence.wide n Tryz.prog 145 #[.pointer (some ⟨Bn, 0, none⟩)] (fun x : PartI bs.length => #[.int .i64 (x.1.2 : Int), partV b o x]) (KpB w.heap.size Bn) (fun ys => PartsC bs 0 ys ∧ cutR (bs.drop (endP ys)) = none) (fun pre => PartsC bs 0 pre) (bs.length + 1) W0 := fun l J Jx W hW _ _ hY h0 =>
 parts1_in n hn l Bn b o c bs hL a w hs ha J Jx hY W ((hW.cell (p := ⟨Bn, 0, none⟩) hlt).trans hBn) (hb0.trans (hW.mono hb0.size)) h0
end Go.Proofs.YtllfanlhgnkcfaaGreatDoor.C
namespace Go.Proofs.YtllfanlhgnkcfaaGreatDoor.C
open Go.RowKit Go.Proofs.Lys Go.Shelf
set_option linter.unusedVariables false
attribute [local go_sem] Oper.semAt_some
theorem Tryz.infoBS : (Tryz.prog.info? 28).map (fun i => (i.zero, i.size, i.bytes)) = some (some (.slice none 0 0), 1, 24) := by kernel_rfl
theorem parts_app {w : World} {base : Nat} {v u : Value} {xs : List Value} (h : w.ownsRow base 28 1 v xs.length xs) (hb : base ≤ w.heap.size) (hl : xs.length ≤ 100000) (hu : ∃ a n c, u = .slice a n c) :
  ∃ g cap w1, Hid ((Builtin.append_ #[109, 109] 0 #[v, .slice (some ⟨w.heap.size, 0, none⟩) 1 1]).run Tryz.prog (w.alloc (.cells #[u] 28)) = .ok (.slice (some ⟨g, 0, none⟩) (xs.length + 1) cap) w1) ∧
   w1.ownsRow base 28 1 (.slice (some ⟨g, 0, none⟩) (xs.length + 1) cap) (xs.length + 1) (xs ++ [u]) ∧ Only (fun j => v.ownBlock = some j) w w1 := by
 obtain ⟨a, n, c, rfl⟩ := hu
 obtain ⟨v', w3, hrun, hown1, hgrow, hat⟩ := append_src (P := Tryz.prog) (xv := .slice (some ⟨w.heap.size, 0, none⟩) 1 1) (ys := [.slice a n c]) Tryz.underlying109 Tryz.infoBS rfl (by decide) (h.alloc (.cells #[.slice a n c] 28)) (own_src (World.ownsRow_lit w #[.slice a n c] 1 (Nat.zero_le _) (by decide) rfl)) (by intro u hu; simp at hu; subst hu; rfl) (by simp; omega) (by simp; omega)
 obtain ⟨g, cap, rfl⟩ := own_some hown1 (by simp)
 exact ⟨g, cap, w3, hrun, hown1, ((Only.refl _ w).alloc _).grown hgrow (fun j hj _ => hj)⟩
def BthI (w : World) (b o : Nat) (bs : List UInt8) (pre : List (PartI bs.length)) (W : World) : Prop :=
 (∃ v, Boxed W w.heap.size 109 v ∧ W.ownsRow (w.heap.size + 3) 28 1 v pre.length (pre.map (partV b o))) ∧ Boxed W (w.heap.size + 1) 3 (.int .i64 (endP pre : Int)) ∧ Below w.heap.size w W ∧ w.heap.size + 3 ≤ W.heap.size
theorem bthI_own (w : World) (b o : Nat) (bs : List UInt8) {B : Nat} (hB : w.heap.size ≤ B) : OwnFrom B (BthI w b o bs) :=
 OwnFrom.and (Own.from (fun s X Y row ⟨v, hb, ho⟩ hg hr => ⟨v, (grown_cells hg hr ⟨_, _, hb⟩).trans hb, row_cells hg hr ho⟩) _)
  (OwnFrom.and (Own.from (boxed_own _ _ _) _) (OwnFrom.and (ownFrom_below (Nat.le_refl _) hB) (fun _ _ _ _ hs hg _ => Nat.le_trans hs hg.size)))
theorem bthI_step {w W : World} {b o : Nat} {bs : List UInt8} {pre : List (PartI bs.length)} {v : Value} (x : PartI bs.length) (hb : Boxed W w.heap.size 109 v) (hr : W.ownsRow (w.heap.size + 3) 28 1 v pre.length (pre.map (partV b o))) (hb1 : Boxed W (w.heap.size + 1) 3 (.int .i64 (endP pre : Int))) (hB : Below w.heap.size w W) (hs : w.heap.size + 3 ≤ W.heap.size) (hl : pre.length ≤ 1000) :
  ∃ g cap w3, Hid ((Builtin.append_ #[109, 109] 0 #[v, .slice (some ⟨W.heap.size, 0, none⟩) 1 1]).run Tryz.prog (W.alloc (.cells #[partV b o x] 28)) = .ok (.slice (some ⟨g, 0, none⟩) (pre.length + 1) cap) w3) ∧
   Boxed w3 w.heap.size 109 v ∧ Boxed w3 (w.heap.size + 1) 3 (.int .i64 (endP pre : Int)) ∧
   ∀ w4, w4 = (w3.setCell ⟨w.heap.size, 0, none⟩ (.slice (some ⟨g, 0, none⟩) (pre.length + 1) cap)).setCell ⟨w.heap.size + 1, 0, none⟩ (.int .i64 (x.1.2 : Int)) →
    KeepsOthers W w4 ∧ KpB w.heap.size (w.heap.size + 2) W w4 ∧ BthI w b o bs (pre ++ [x]) w4 ∧ Boxed w4 w.heap.size 109 (.slice (some ⟨g, 0, none⟩) (pre.length + 1) cap) := by
 have hlm : (pre.map (partV b o)).length = pre.length := List.length_map _
 obtain ⟨g, cap, w3, Hr, ho3, hon⟩ := parts_app (u := partV b o x) (by rw [hlm]; exact hr) hs (by rw [hlm]; omega) ⟨_, _, _, rfl⟩
 rw [hlm] at Hr ho3
 have hlow : ∀ j, v.ownBlock = some j → w.heap.size + 3 ≤ j := fun j hj => (hr.lt j hj).1
 have hb3 : Boxed w3 w.heap.size 109 v := (hon.block _ hb.lt (fun e => by have := hlow _ e; omega)).trans hb
 have hb13 : Boxed w3 (w.heap.size + 1) 3 (.int .i64 (endP pre : Int)) := (hon.block _ hb1.lt (fun e => by have := hlow _ e; omega)).trans hb1
 obtain ⟨V, hV⟩ : ∃ V, Value.slice (some ⟨g, 0, none⟩) (pre.length + 1) cap = V := ⟨_, rfl⟩
 refine ⟨g, cap, w3, Hr, hb3, hb13, ?_⟩
 rw [hV] at ho3 ⊢
 clear Hr hV
 intro w4 e4
 subst e4
 have hS : Only (fun k => k = w.heap.size ∨ k = w.heap.size + 1) w3 ((w3.setCell ⟨w.heap.size, 0, none⟩ V).setCell ⟨w.heap.size + 1, 0, none⟩ (.int .i64 (x.1.2 : Int))) :=
  ((Only.refl (fun k => k = w.heap.size ∨ k = w.heap.size + 1) w3).setCell (p := ⟨w.heap.size, 0, none⟩) (fun _ => .inl rfl) _).setCell (p := ⟨w.heap.size + 1, 0, none⟩) (fun _ => .inr rfl) _
 have hk4 : Only (fun j => v.ownBlock = some j ∨ j = w.heap.size ∨ j = w.heap.size + 1) W ((w3.setCell ⟨w.heap.size, 0, none⟩ V).setCell ⟨w.heap.size + 1, 0, none⟩ (.int .i64 (x.1.2 : Int))) :=
  (hon.mono (O' := fun j => v.ownBlock = some j ∨ j = w.heap.size ∨ j = w.heap.size + 1) (fun _ _ h => .inl h)).trans hS (fun _ _ h => .inr h)
 have hbel : Below w.heap.size W ((w3.setCell ⟨w.heap.size, 0, none⟩ V).setCell ⟨w.heap.size + 1, 0, none⟩ (.int .i64 (x.1.2 : Int))) :=
  hk4.toBelow (fun k hk => hk.elim (fun h => by have := hlow k h; omega) (fun h => by omega)) (by omega)
 have hb4 : Boxed ((w3.setCell ⟨w.heap.size, 0, none⟩ V).setCell ⟨w.heap.size + 1, 0, none⟩ (.int .i64 (x.1.2 : Int))) w.heap.size 109 V := (hb3.set V).other (by omega) _
 have hrow4 := own_only ho3 hS (fun j hj e => by have := (ho3.lt j hj).1; omega)
 refine ⟨hk4.others (fun k hk hlt => ?_), ⟨hbel, hk4.block _ (by omega) (fun h => h.elim (fun h => by have := hlow _ h; omega) (fun h => by omega))⟩, ⟨⟨V, hb4, ?_⟩, ?_, hB.trans hbel, Nat.le_trans hs hk4.size⟩, hb4⟩
 ·rcases hk with hk | hk | hk
  ·exact ⟨_, own_typed hr hk⟩
  ·subst hk; exact ⟨_, _, _, hb⟩
  ·subst hk; exact ⟨_, _, _, hb1⟩
 ·rw [List.map_append, List.length_append]
  exact hrow4
 ·rw [endP_snoc]
  exact (hb13.other (by omega) _).set _
def BothPost (w : World) (bs : List UInt8) (e : Ending) (w' : World) : Prop :=
  Kept w w' ∧ ∃ a n c t, e = .returned (.tuple #[.slice a n c, .int .i64 t]) ∧
    ((n < 2 ∧ (∀ a1 R1, cutR bs = some (a1, R1) → cutR R1 = none)) ∨
     ∃ a1 R1 a2 R2 g v1 v2, cutR bs = some (a1, R1) ∧ cutR R1 = some (a2, R2) ∧ R2.length ≤ bs.length ∧ a1.length ≤ bs.length ∧ a2.length ≤ bs.length ∧ n = 2 ∧ a = some ⟨g, 0, none⟩ ∧ w'.cell? ⟨g, 0, none⟩ = some v1 ∧ w'.cell? ⟨g, 1, none⟩ = some v2 ∧ BSrc w' v1 a1 ∧ BSrc w' v2 a2 ∧ t = ((bs.length - R2.length : Nat) : Int))
theorem both_end {w W W8 : World} {v E : Value} {n D : Nat} {xs : List Value} (e8 : W8 = ((W.setCell ⟨w.heap.size, 0, none⟩ v).setCell ⟨w.heap.size + 1, 0, none⟩ E).drew) (hb : Boxed W w.heap.size 109 v) (hb1 : Boxed W (w.heap.size + 1) 3 E) (hr : W.ownsRow (w.heap.size + 3) 28 1 v n xs) (hB : Below w.heap.size w W) (hs3 : w.heap.size + 3 ≤ W.heap.size) (hD : w.heap.size + 3 ≤ D) (hK : W.heap[D]? = some (.deferred (some []))) :
  W8.heap[D]? = some (.deferred (some [])) ∧ Kept w (W8.putObj D (.deferred none)) ∧ (W8.putObj D (.deferred none)).cell? ⟨w.heap.size, 0, none⟩ = some v ∧ (W8.putObj D (.deferred none)).cell? ⟨w.heap.size + 1, 0, none⟩ = some E ∧ (W8.putObj D (.deferred none)).ownsRow (w.heap.size + 3) 28 1 v n xs := by
 have hS : Only (fun k => k = w.heap.size ∨ k = w.heap.size + 1) W W8 := by
  rw [e8]
  exact (((Only.refl (fun k => k = w.heap.size ∨ k = w.heap.size + 1) W).setCell (p := ⟨w.heap.size, 0, none⟩) (fun _ => .inl rfl) _).setCell (p := ⟨w.heap.size + 1, 0, none⟩) (fun _ => .inr rfl) _).drew
 have h0 : Boxed W8 w.heap.size 109 v := by
  rw [e8]
  exact (hb.set v).other (by omega) _
 have h1 : Boxed W8 (w.heap.size + 1) 3 E := by
  rw [e8]
  exact (hb1.other (by omega) _).set _
 have hr8 := own_only hr hS (fun j hj e => by have := (hr.lt j hj).1; omega)
 have hK8 : W8.heap[D]? = some (.deferred (some [])) := (hS.block D (Array.getElem?_eq_some_iff.1 hK).1 (fun e => by omega)).trans hK
 have hB8 : Below w.heap.size w W8 := hB.trans (hS.toBelow (fun k hk => by omega) (by omega))
 refine ⟨hK8, Only.below (hB8.trans (belowK_b (w := w) (Nat.le_refl _) W8 D _ _ (by omega) hK8 rfl rfl)), ?_, ?_, ownsRow_putObj hr8 _ hK8 rfl⟩
 ·exact Boxed.cell (t := 109) ((World.putObj_heap_other (by omega)).trans h0)
 ·exact Boxed.cell (t := 3) ((World.putObj_heap_other (by omega)).trans h1)
set_option maxRecDepth 100000 in
set_option maxHeartbeats 3200000 in
theorem both_any (w : World) (v : Value) (bs : List UInt8) (hs : BSrc w v bs) (hl : bs.length ≤ 10000000) : Calls Tryz.prog 122 #[v] w (BothPost w bs) := by
 have hmx : Tryz.prog.follows .mixedOrders = true := by kernel_rfl
 obtain ⟨a, c, rfl, hlc⟩ := hs.2
 obtain ⟨b, o, hab⟩ : ∃ b o, 0 < bs.length → a = some ⟨b, o, none⟩ := by
  rcases hs.1.shape with ⟨h0, _⟩ | ⟨hp, b, o, c2, hv, hcell⟩
  ·have : bs = [] := List.map_eq_nil_iff.1 h0
   exact ⟨0, 0, fun h => by rw [this] at h; simp at h⟩
  ·rw [List.length_map] at hv
   cases hv
   exact ⟨b, o, fun _ => rfl⟩
 have HS := hid hs
 clear hs
 refine (callsIn_wide (n := 3)).1 ?_
 refine callsIn_of_wp_marks Tryz.func122 rfl trivial ?_ rfl
 simp only [Tryz.ntmps122, List.size_toArray, List.length_cons, List.length_nil, Nat.reduceAdd, Nat.reduceSub, Array.replicate_succ, Array.replicate_zero, List.push_toArray, List.append_toArray, List.nil_append, List.cons_append]
 gi_wp2_with (refine ⟨trivial, ?_⟩; gi_at_call 135; refine (parts_in _ a bs.length c _).mono ?_; rintro e w' ⟨rfl, rfl⟩)
 have b0 := Boxed.new w 109 (.slice none 0 0)
 have b1 := Boxed.new (w.alloc (.cells #[.slice none 0 0] 109)) 3 (.int .i64 0)
 have bN := Boxed.new ((w.alloc (.cells #[.slice none 0 0] 109)).alloc (.cells #[.int .i64 0] 3)) 28 (.slice a bs.length c)
 simp only [World.size_alloc] at b1 bN
 have hB0 : Below w.heap.size w (((w.alloc (.cells #[.slice none 0 0] 109)).alloc (.cells #[.int .i64 0] 3)).alloc (.cells #[.slice a bs.length c] 28)) := (((Below.refl _ w).alloc (Nat.le_refl _) _).alloc (by simp) _).alloc (by simp; omega) _
 refine wpIn_rangeFunc_ownG rfl (by omega) (gf := 145) (lb := #[.pointer (some ⟨w.heap.size + 1 + 1, 0, none⟩)]) rfl trivial (enters_of Tryz.func145 (by kernel_rfl) rfl)
  (parts_stops _ (by omega) (w.heap.size + 1 + 1) b o c bs hl a w _ HS.out hab (by simp) bN.cell hB0) KpB.t (KpB.b (by simp; omega) (by simp)) (Below.refl _ _) (fun _ => rfl)
  (fun pre W => BthI w b o bs pre W ∧ pre.length < 2) (fun c pre W => BthI w b o bs pre W ∧ pre.length = 2 ∧ c = .exit 0)
  (OwnFrom.and (bthI_own w b o bs (by simp; omega)) (ownFrom_pure _ _)) (fun c => OwnFrom.and (bthI_own w b o bs (by simp; omega)) (ownFrom_pure _ _))
  ⟨⟨⟨_, (b0.alloc _).alloc _, World.ownsRow_nil _ _ _ _⟩, b1.alloc _, hB0, by simp⟩, by simp⟩
  (fun x => { tmps := #[.slice a bs.length c, undef, .pointer (some ⟨w.heap.size, 0, none⟩), .pointer (some ⟨w.heap.size + 1, 0, none⟩), .int .i64 (x.1.2 : Int), partV b o x, .slice a bs.length c, .func (.func 145) #[] #[.pointer (some ⟨w.heap.size + 1 + 1, 0, none⟩)], .int .i64 (x.1.2 : Int), partV b o x, undef, undef, undef, undef, undef, undef, undef, undef, undef, undef], defers := [] }) ?assign ?body ?done ?stop
 case assign =>
  intro l x W K hK
  gi_wp2
  exact hK
 case body =>
  rintro q pre x W ⟨⟨⟨v, hb, hr⟩, hb1, hB, hs3⟩, hp2⟩ hlt
  obtain ⟨g, cap, w3, Hr, hb3, hb13, hend⟩ := bthI_step x hb hr hb1 hB hs3 (by omega)
  have hc0 := hb.cell
  have hc3 := hb3.cell
  have hf3 := hb3.frozen
  have hc13 := hb13.cell
  have hf13 := hb13.frozen
  obtain ⟨hko, hkp, hI, hb4⟩ := hend _ rfl
  have hc4 := hb4.cell
  have hPV : ∃ ad ln, partV b o x = .slice (some ad) ln ln := ⟨_, _, rfl⟩
  obtain ⟨ad, ln, hPV⟩ := hPV
  rw [hPV] at Hr ⊢
  obtain ⟨E, hE⟩ : ∃ E, x.1.2 = E := ⟨_, rfl⟩
  rw [hE] at hko hkp hI hc4 ⊢
  obtain ⟨M, hM⟩ : ∃ M, pre.length = M := ⟨_, rfl⟩
  rw [hM] at Hr hko hkp hI hc4 hp2
  have HM := hid hM
  have HE : Hid (KeepsOthers W ((w3.setCell ⟨w.heap.size, 0, none⟩ (.slice (some ⟨g, 0, none⟩) (M + 1) cap)).setCell ⟨w.heap.size + 1, 0, none⟩ (.int .i64 (E : Int))) ∧ KpB w.heap.size (w.heap.size + 2) W ((w3.setCell ⟨w.heap.size, 0, none⟩ (.slice (some ⟨g, 0, none⟩) (M + 1) cap)).setCell ⟨w.heap.size + 1, 0, none⟩ (.int .i64 (E : Int))) ∧ BthI w b o bs (pre ++ [x]) ((w3.setCell ⟨w.heap.size, 0, none⟩ (.slice (some ⟨g, 0, none⟩) (M + 1) cap)).setCell ⟨w.heap.size + 1, 0, none⟩ (.int .i64 (E : Int)))) := ⟨hko, hkp, hI⟩
  clear hko hkp hI hend hb hr hb1 hB hb3 hb13 hb4 hPV hE hM b0 b1 bN hB0
  have hM2 : M = 0 ∨ M = 1 := by omega
  rcases hM2 with rfl | rfl
  ·gi_wp2_with (gi_at_builtin; refine wpListIn_append_run rfl _ _ _ rfl rfl rfl Hr ?_)
   exact ⟨HE.out.1.from _, HE.out.2.1, HE.out.2.2, by rw [List.length_append, HM.out]; simp⟩
  ·gi_wp2_with (gi_at_builtin; refine wpListIn_append_run rfl _ _ _ rfl rfl rfl Hr ?_)
   exact ⟨HE.out.1.from _, HE.out.2.2, by rw [List.length_append, HM.out]; simp, rfl⟩
 case done =>
  rintro D pre W hD ⟨hSp, hno⟩ ⟨⟨⟨v, hb, hr⟩, hb1, hB, hs3⟩, hp2⟩ hK
  obtain ⟨M, hM⟩ : ∃ M, pre.length = M := ⟨_, rfl⟩
  rw [hM] at hr hp2
  obtain ⟨g, cap, rfl⟩ := own_slice hr
  obtain ⟨E, hE⟩ : ∃ E, endP pre = E := ⟨_, rfl⟩
  rw [hE] at hb1
  have hc0 := hb.cell
  have hf0 := hb.frozen
  have hc1 := hb1.cell
  have hf1 := hb1.frozen
  have HH : Hid (∀ a1 R1, cutR bs = some (a1, R1) → cutR R1 = none) := by
   intro a1 R1 hc
   cases pre with
   | nil =>
    rw [show endP ([] : List (PartI bs.length)) = 0 from rfl, List.drop_zero, hc] at hno
    cases hno
   | cons x r =>
    have hr0 : r = [] := List.length_eq_zero_iff.1 (by rw [List.length_cons] at hM; omega)
    subst hr0
    have h1 := hSp.1
    rw [List.drop_zero, hc] at h1
    cases h1
    exact hno
  have HD : Hid (w.heap.size + 3 ≤ D) := by simp at hD; exact hD
  clear b0 b1 bN hB0 hSp hno hM
  gi_wp2
  refine wpIn_wide.2 ?_
  go_region
  obtain ⟨W8, e8⟩ : ∃ W8, ((W.setCell ⟨w.heap.size, 0, none⟩ (.slice g M cap)).setCell ⟨w.heap.size + 1, 0, none⟩ (.int .i64 (E : Int))).drew = W8 := ⟨_, rfl⟩
  obtain ⟨hK8, hkept, x0, x1, hrow⟩ := both_end e8.symm hb hb1 hr hB hs3 HD.out hK
  rw [e8]
  clear hb hb1 hr hK e8
  gi_wp2
  refine ⟨by simp, .inl ⟨_, _, rfl, run_takeDeferred hK8, ?_⟩⟩
  refine ⟨.tuple #[.slice g M cap, .int .i64 (E : Int)], by simp [results, Tryz.results122, go_sem, x0, x1], ?_⟩
  exact ⟨hkept, _, _, _, _, rfl, .inl ⟨hp2, HH.out⟩⟩
 case stop =>
  rintro D c pre W hD hSp ⟨⟨⟨v, hb, hr⟩, hb1, hB, hs3⟩, hp2, rfl⟩ hK
  rw [hp2] at hr
  obtain ⟨g, cap, rfl⟩ := own_some hr (by omega)
  obtain ⟨E, hE⟩ : ∃ E, endP pre = E := ⟨_, rfl⟩
  rw [hE] at hb1
  have hc0 := hb.cell
  have hf0 := hb.frozen
  have hc1 := hb1.cell
  have hf1 := hb1.frozen
  obtain ⟨x, y, hxy⟩ : ∃ x y, pre = [x, y] := by
   match pre, hp2 with
   | [x, y], _ => exact ⟨x, y, rfl⟩
  subst hxy
  have HD : Hid (w.heap.size + 3 ≤ D) := by simp at hD; exact hD
  obtain ⟨h1, hx0, h2, hxy, _⟩ := hSp
  rw [List.drop_zero] at h1
  have hx := x.2
  have hy := y.2
  have hE' : y.1.2 = E := hE
  obtain rfl := hab (by omega)
  have HX : Hid (cutR bs = some (partB bs x, bs.drop x.1.2) ∧ cutR (bs.drop x.1.2) = some (partB bs y, bs.drop y.1.2)) := ⟨h1, h2⟩
  have HR := hid hr
  clear b0 b1 bN hB0 h1 h2 hr
  gi_wp2
  refine wpIn_wide.2 ?_
  go_region
  obtain ⟨W8, e8⟩ : ∃ W8, ((W.setCell ⟨w.heap.size, 0, none⟩ (.slice (some ⟨g, 0, none⟩) 2 cap)).setCell ⟨w.heap.size + 1, 0, none⟩ (.int .i64 (E : Int))).drew = W8 := ⟨_, rfl⟩
  obtain ⟨hK8, hkept, x0, x1, hrow⟩ := both_end e8.symm hb hb1 HR.out hB hs3 HD.out hK
  rw [e8]
  clear hb hb1 hK e8
  gi_wp2
  refine ⟨by simp, .inl ⟨_, _, rfl, run_takeDeferred hK8, ?_⟩⟩
  refine ⟨.tuple #[.slice (some ⟨g, 0, none⟩) 2 cap, .int .i64 (E : Int)], by simp [results, Tryz.results122, go_sem, x0, x1], ?_⟩
  refine ⟨hkept, _, _, _, _, rfl, .inr ⟨_, _, _, _, g, partV b o x, partV b o y, HX.out.1, HX.out.2, by rw [List.length_drop]; omega, by rw [partB_len]; omega, by rw [partB_len]; omega, rfl, rfl, hrow.cellAt 0 (by omega), hrow.cellAt 1 (by omega), part_bsrc (HS.out.stay hkept) x, part_bsrc (HS.out.stay hkept) y, ?_⟩⟩
  rw [List.length_drop]
  omega
end Go.Proofs.YtllfanlhgnkcfaaGreatDoor.C
