/-
  Cu3.
-/
import Derived.Test.YtbhpmeeknbbmmaaQ27
import Derived.Test.YtbhpmeeknbbmmaaQ28
import Derived.RangeFuncNested
import Derived.RangeFuncBound
import Derived.RangeFuncBox
import Derived.RangeFuncCalls
import Derived.RangeFuncLeaves
import Derived.Shelf.Abstract
import Derived.Shelf.RegionOpen
import Derived.OwnWalkIn
import Derived.TacticsInMore
import Derived.LoopNIn
import Derived.LoopIn

/-
  Package chunk: Split, by an iterator that is ranged over.
-/
namespace Go.Proofs.Ytbhpmeeknbbmmaa.C
open Go.RowKit Go.Proofs.Lys Go.Shelf
set_option linter.unusedVariables false
attribute [local go_sem] Oper.semAt_some

/-- slices.Clone of samples. -/
theorem sclone_nil (w : World) : Calls Try.prog 35 #[.slice none 0 0] w fun e w' => e = .returned (.slice none 0 0) ∧ w' = w := by
  have he : ∀ (x : Option Addr) (n k : Nat) (w : World), (Go.binOp .eql 22 (.slice x n k) (.slice none 0 0)).run Try.prog w = .ok (.bool x.isNone) w := fun x n k w => Lib.run_eql_slice_nil w _ _ x n k 0 0 Try.underlying22
  go_enter Try.func35, Try.ntmps35
  go_wp2
  go_ret
  exact ⟨rfl, rfl⟩
set_option maxHeartbeats 400000 in
theorem sclone_some (w : World) (a : Addr) (c : Nat) (l : Smps) (hc : SmpSrc w (.slice (some a) l.length c) l) (hl : l.length ≤ 100000) :
    Calls Try.prog 35 #[.slice (some a) l.length c] w fun e w' => ∃ v, e = .returned v ∧ SmpAt w' w.heap.size v l ∧ Kept w w' := by
  have hb : ∀ w : World, (Instr.buildSlice 22 0 #[]).run Try.prog w = .ok (.slice (some ⟨w.heap.size, 0, none⟩) 0 0) (w.alloc (.cells #[] 42)) := fun w => by kernel_rfl
  have h0 : SmpAt (w.alloc (.cells #[] 42)) w.heap.size (.slice (some ⟨w.heap.size, 0, none⟩) 0 0) [] := World.ownsRow_lit w #[] 0 (Nat.le_refl _) (by decide) rfl
  obtain ⟨v', w1, hrun, hown, hgrow, _⟩ := smp_append h0 (hc.stay ((Only.refl _ w).alloc _)) (by simp; omega) (by simp)
  rw [List.nil_append] at hown
  have Hr := hid hrun
  have hk : Hid (Kept w w1) := hid (((Only.refl _ w).alloc _).grown hgrow (fun k hk hlt => by simp [Value.ownBlock] at hk; omega))
  have ho := hid hown
  clear hrun hown hgrow h0 hc
  have he : ∀ (x : Option Addr) (n k : Nat) (w : World), (Go.binOp .eql 22 (.slice x n k) (.slice none 0 0)).run Try.prog w = .ok (.bool x.isNone) w := fun x n k w => Lib.run_eql_slice_nil w _ _ x n k 0 0 Try.underlying22
  go_enter Try.func35, Try.ntmps35
  go_wp2_with (at_builtin; refine wpList_append_run rfl _ _ _ rfl rfl rfl Hr ?_)
  go_ret
  exact ⟨_, rfl, ho.out, hk.out⟩

/-- A part of samples: from where, up to where. -/
abbrev CutI (L : Nat) := { x : Nat × Nat // x.1 < x.2 ∧ x.2 ≤ L }
def cutV (b o : Nat) {L : Nat} (x : CutI L) : Value := .slice (some ⟨b, o + x.1.1 * 2, none⟩) (x.1.2 - x.1.1) (x.1.2 - x.1.1)
/-- Where the parts end that have come. -/
def endC {L : Nat} : List (CutI L) → Nat
  | [] => 0
  | x :: r => match r with
    | [] => x.1.2
    | _ => endC r
def Cuts {L : Nat} (at_ : Nat) : List (CutI L) → Prop
  | [] => True
  | x :: r => x.1.1 = at_ ∧ x.1.2 = at_ + min 120 (L - at_) ∧ Cuts x.1.2 r
theorem endC_snoc {L : Nat} (pre : List (CutI L)) (x : CutI L) : endC (pre ++ [x]) = x.1.2 := by
  induction pre with
  | nil => rfl
  | cons y r ih =>
    cases r with
    | nil => rfl
    | cons z r => exact ih
theorem Cuts_snoc {L : Nat} (x : CutI L) : ∀ (pre : List (CutI L)) (at_ : Nat), Cuts at_ pre → x.1.1 = (if pre = [] then at_ else endC pre) → x.1.2 = x.1.1 + min 120 (L - x.1.1) → Cuts at_ (pre ++ [x])
  | [], at_, _, h1, h2 => by
    rw [if_pos rfl] at h1
    exact ⟨h1, by rw [← h1]; exact h2, trivial⟩
  | y :: r, at_, h, h1, h2 => by
    obtain ⟨a, b, c⟩ := h
    refine ⟨a, b, Cuts_snoc x r _ c ?_ h2⟩
    rw [if_neg (by simp)] at h1
    cases r with
    | nil => exact h1
    | cons z r => rw [if_neg (by simp)]; exact h1

/-- What a round must keep: what lay below n₀, and the box of what is gone over. -/
def KpB (n₀ Bn : Nat) (W W' : World) : Prop := Below n₀ W W' ∧ W'.heap[Bn]? = W.heap[Bn]?
theorem KpB.t {n₀ Bn : Nat} {A B C : World} (h : KpB n₀ Bn A B) (k : KpB n₀ Bn B C) : KpB n₀ Bn A C := ⟨h.1.trans k.1, k.2.trans h.2⟩
theorem KpB.b {n₀ Bn : Nat} {w : World} (hn : n₀ ≤ w.heap.size) (hB : Bn < w.heap.size) (W : World) (l : Nat) (o o' : Obj) (hl : w.heap.size ≤ l) (h : W.heap[l]? = some o) (h1 : o.isCells = false) (h2 : o.isWalk = false) : KpB n₀ Bn W (W.putObj l o') :=
  ⟨belowK_b hn W l o o' hl h h1 h2, World.putObj_heap_other (by omega)⟩
theorem KpB.cell {n₀ Bn : Nat} {W W' : World} (h : KpB n₀ Bn W W') {v : Value} (hc : W.cell? ⟨Bn, 0, none⟩ = some v) : W'.cell? ⟨Bn, 0, none⟩ = some v := by
  rw [World.cell?_of_block (w := W) (w' := W') (a := ⟨Bn, 0, none⟩) h.2]
  exact hc

theorem slice3 (b o L c lo hi : Nat) (h1 : lo < hi) (h2 : hi ≤ L) (h3 : L ≤ c) (W : World) : (Instr.sliceAt 22 (.slice (some ⟨b, o, none⟩) L c) (some (.int .i64 (lo : Int))) (some (.int .i64 (hi : Int))) (some (.int .i64 (hi : Int)))).run Try.prog W = .ok (.slice (some ⟨b, o + lo * 2, none⟩) (hi - lo) (hi - lo)) W := by
  have hz : ∀ W, (sizeOf 42).run Try.prog W = .ok 2 W := fun W => by kernel_rfl
  have e1 : lo ≤ hi := by omega
  have e2 : hi ≤ c := by omega
  have e3 : hi ≠ lo := by omega
  simp [Instr.sliceAt, Instr.slice, Instr.sliceBounds, Instr.sliceBound, run_underlying Try.underlying22, asIntOf, e1, e2, e3, hz, Result.andThen, add_none]

set_option maxRecDepth 100000 in
set_option maxHeartbeats 1600000 in
theorem cuts1_in (n : Nat) (hn : 1 ≤ n) (l Bn n₀ b o L c : Nat) (hL : L ≤ 100000) (hc : L ≤ c) (a : Option Addr) (ha : 0 < L → a = some ⟨b, o, none⟩) (J Jx : List (CutI L) → World → Prop)
    (hY : ∀ pre x W, J pre W → pre.length < L + 1 → YieldAt Fence.wide (n - 1) Try.prog l #[cutV b o x] W fun e W' =>
      (e = .returned (.bool true) ∧ J (pre ++ [x]) W' ∧ KpB n₀ Bn W W') ∨ (e = .returned (.bool false) ∧ Jx (pre ++ [x]) W'))
    (W : World) (hBn : W.cell? ⟨Bn, 0, none⟩ = some (.slice a L c)) (h0 : J [] W) :
    CallsIn Fence.wide n Try.prog 52 #[.func (.yield l) #[] #[], .pointer (some ⟨Bn, 0, none⟩)] W fun e W' => (∃ v, e = .returned v) ∧
      ((∃ ys, (Cuts 0 ys ∧ endC ys = L) ∧ J ys W') ∨ (∃ pre, True ∧ Jx pre W')) := by
  refine callsIn_of_wp Try.func52 rfl trivial ?_ rfl
  simp only [Try.ntmps52, List.size_toArray, List.length_cons, List.length_nil, Nat.reduceAdd, Nat.reduceSub, Array.replicate_succ, Array.replicate_zero, List.push_toArray, List.append_toArray, List.nil_append, List.cons_append]
  have hnot : ∀ (x : Bool) (w : World), (Op.unary .not (.bool x)).run Try.prog w = .ok (.bool (!x)) w := fun _ _ => rfl
  gi_wp2
  gi_loopw [3, 4] (fun p _ wr => ∃ (pre : List (CutI L)) (k : Nat), p = .int .i64 (k : Int) ∧ Cuts 0 pre ∧ endC pre = k ∧ pre.length ≤ k ∧ k ≤ L ∧ J pre wr ∧ wr.cell? ⟨Bn, 0, none⟩ = some (.slice a L c)) (fun p _ _ => L - (intOf p).toNat)
  case atStart => exact ⟨[], 0, rfl, trivial, rfl, Nat.le_refl _, Nat.zero_le _, h0, hBn⟩
  case round =>
    obtain ⟨pre, k, rfl, hC, hE, hp, hk, hJ, hcell⟩ := hrel
    by_cases hlt : k < L
    · obtain rfl := ha (by omega)
      by_cases h120 : k + 120 ≤ L
      · have hsl := slice3 b o L c k (k + 120) (by omega) h120 hc
        obtain ⟨fn, tmps, assign, body, hy, hR⟩ := hY pre ⟨(k, k + 120), by omega, h120⟩ wr hJ (by omega)
        simp only [cutV, show k + 120 - k = 120 by omega] at hy hsl
        rw [show ((k + 120 : Nat) : Int) = (k : Int) + 120 by omega] at hsl
        have hm : ¬ ((L : Int) - (k : Int) < 120) := by omega
        have hCs : Cuts 0 (pre ++ [(⟨(k, k + 120), by omega, h120⟩ : CutI L)]) := Cuts_snoc _ pre 0 hC (by by_cases e : pre = [] <;> simp [e, hE]; subst e; exact hE.symm) (by show k + 120 = k + min 120 (L - k); omega)
        have hEs := endC_snoc pre (⟨(k, k + 120), by omega, h120⟩ : CutI L)
        have HC : Hid (Cuts 0 (pre ++ [(⟨(k, k + 120), by omega, h120⟩ : CutI L)]) ∧ endC (pre ++ [(⟨(k, k + 120), by omega, h120⟩ : CutI L)]) = k + 120) := ⟨hCs, hEs⟩
        clear hCs hEs hC hE hJ
        gi_wp2
        refine hR.mono ?_
        rintro e W3 (⟨rfl, hJ3, hk3⟩ | ⟨rfl, hJx3⟩)
        · have hc3 := hk3.cell hcell
          clear hR hy
          gi_wp2
          go_roundw
          case rel => exact ⟨_, k + 120, by go_num, HC.out.1, HC.out.2, by simp; omega, by omega, hJ3, hc3⟩
          case measure => simp [intOf]; omega
        · clear hR hy
          gi_wp2
          refine bodyPost_ret (results_none rfl _ _ _) rfl ?_
          exact ⟨⟨_, rfl⟩, .inr ⟨_, trivial, hJx3⟩⟩
      · have hsl := slice3 b o L c k L (by omega) (Nat.le_refl _) hc
        obtain ⟨fn, tmps, assign, body, hy, hR⟩ := hY pre ⟨(k, L), by omega, Nat.le_refl _⟩ wr hJ (by omega)
        simp only [cutV] at hy
        have hm : (L : Int) - (k : Int) < 120 := by omega
        have hm2 : (k : Int) + ((L : Int) - (k : Int)) = (L : Int) := by omega
        have hCs : Cuts 0 (pre ++ [(⟨(k, L), by omega, Nat.le_refl _⟩ : CutI L)]) := Cuts_snoc _ pre 0 hC (by by_cases e : pre = [] <;> simp [e, hE]; subst e; exact hE.symm) (by show L = k + min 120 (L - k); omega)
        have hEs := endC_snoc pre (⟨(k, L), by omega, Nat.le_refl _⟩ : CutI L)
        have HC : Hid (Cuts 0 (pre ++ [(⟨(k, L), by omega, Nat.le_refl _⟩ : CutI L)]) ∧ endC (pre ++ [(⟨(k, L), by omega, Nat.le_refl _⟩ : CutI L)]) = L) := ⟨hCs, hEs⟩
        clear hCs hEs hC hE hJ
        gi_wp2
        refine hR.mono ?_
        rintro e W3 (⟨rfl, hJ3, hk3⟩ | ⟨rfl, hJx3⟩)
        · have hc3 := hk3.cell hcell
          clear hR hy
          gi_wp2
          go_roundw
          case rel => exact ⟨_, L, by go_num, HC.out.1, HC.out.2, by simp; omega, by omega, hJ3, hc3⟩
          case measure => simp [intOf]; omega
        · clear hR hy
          gi_wp2
          refine bodyPost_ret (results_none rfl _ _ _) rfl ?_
          exact ⟨⟨_, rfl⟩, .inr ⟨_, trivial, hJx3⟩⟩
    · have HC : Hid (Cuts 0 pre ∧ endC pre = L) := ⟨hC, by omega⟩
      clear hC hE
      gi_wp2
      go_end0
      exact ⟨⟨_, rfl⟩, .inl ⟨_, HC.out, hJ⟩⟩
end Go.Proofs.Ytbhpmeeknbbmmaa.C
