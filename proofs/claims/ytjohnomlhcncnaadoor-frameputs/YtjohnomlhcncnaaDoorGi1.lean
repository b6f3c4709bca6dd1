/-
  Package frame: the frames of bytes, by an iterator that is ranged over.
-/
import Derived.Test.YtjohnomlhcncnaaDoorGframes
import Derived.Test.YtjohnomlhcncnaaDoorRnd
import Derived.RangeFuncNested
import Derived.RangeFuncBound
import Derived.RangeFuncBox
import Derived.RangeFuncCalls
import Derived.RangeFuncLeaves
import Derived.Shelf.Abstract
import Derived.Shelf.RegionOpen
import Derived.OwnWalkIn
import Derived.TacticsInMore
import Derived.LoopNIn
import Derived.LoopIn
import Derived.Deep.RegionWith
import Derived.Stop.RegionWithIn
namespace Go.Proofs.YtjohnomlhcncnaaDoor.G
open Go.RowKit Go.Proofs.Lys Go.Shelf
set_option linter.unusedVariables false
attribute [local go_sem] Oper.semAt_some

/-- A frame: where it begins, how many bytes it holds. -/
abbrev FrmI (L : Nat) := { x : Nat × Nat // x.1 + (9 + x.2) ≤ L }
def frmV (b o c : Nat) {L : Nat} (x : FrmI L) : Value := .slice (some ⟨b, if c - x.1.1 = 9 then o + x.1.1 else o + x.1.1 + 9, none⟩) x.1.2 (c - x.1.1 - 9)
def frmB (bs : List UInt8) (x : FrmI bs.length) : List UInt8 := (bs.drop (x.1.1 + 9)).take x.1.2
def frmK (bs : List UInt8) (x : FrmI bs.length) : Nat := (bs.getD x.1.1 0).toNat
def recI (bs : List UInt8) (x : FrmI bs.length) : Nat × List UInt8 := (frmK bs x, frmB bs x)
theorem frmB_len (bs : List UInt8) (x : FrmI bs.length) : (frmB bs x).length = x.1.2 := by
  have := x.2
  unfold frmB
  rw [List.length_take, List.length_drop]
  omega
/-- Where the frames end that have come. -/
def endI {L : Nat} (pre : List (FrmI L)) : Nat := (pre.getLast?.map (fun x => x.1.1 + (9 + x.1.2))).getD 0
theorem endI_snoc {L : Nat} (pre : List (FrmI L)) (x : FrmI L) : endI (pre ++ [x]) = x.1.1 + (9 + x.1.2) := by simp [endI]
/-- The frames, one behind the other. -/
def ChainI (bs : List UInt8) (pre : List (FrmI bs.length)) : Prop := Chain bs 0 (pre.map (recI bs)) ∧ endF 0 (pre.map (recI bs)) = endI pre
theorem ChainI_snoc {bs : List UInt8} {pre : List (FrmI bs.length)} {x : FrmI bs.length} (h : ChainI bs pre) (hx : x.1.1 = endI pre) (hr : readF (bs.drop x.1.1) = some (frmK bs x, frmB bs x, 9 + x.1.2)) : ChainI bs (pre ++ [x]) := by
  obtain ⟨h1, h2⟩ := h
  refine ⟨?_, ?_⟩
  · rw [List.map_append]
    refine Chain_snoc _ _ _ h1 ?_
    rw [h2, ← hx, hr]
    show _ = some (frmK bs x, frmB bs x, 9 + (frmB bs x).length)
    rw [frmB_len]
  · rw [List.map_append, List.map_cons, List.map_nil, endF_snoc, endI_snoc, h2]
    show endI pre + (9 + (frmB bs x).length) = _
    rw [frmB_len, hx]

/-- What a round must keep: what lay below n₀, and the box of what is gone over. -/
def KpB (n₀ Bn : Nat) (W W' : World) : Prop := Below n₀ W W' ∧ W'.heap[Bn]? = W.heap[Bn]?
theorem KpB.t {n₀ Bn : Nat} {A B C : World} (h : KpB n₀ Bn A B) (k : KpB n₀ Bn B C) : KpB n₀ Bn A C := ⟨h.1.trans k.1, k.2.trans h.2⟩
theorem KpB.b {n₀ Bn : Nat} {w : World} (hn : n₀ ≤ w.heap.size) (hB : Bn < w.heap.size) (W : World) (l : Nat) (o o' : Obj) (hl : w.heap.size ≤ l) (h : W.heap[l]? = some o) (h1 : o.isCells = false) (h2 : o.isWalk = false) : KpB n₀ Bn W (W.putObj l o') :=
  ⟨belowK_b hn W l o o' hl h h1 h2, World.putObj_heap_other (by omega)⟩
theorem KpB.cell {n₀ Bn : Nat} {W W' : World} (h : KpB n₀ Bn W W') {v : Value} (hc : W.cell? ⟨Bn, 0, none⟩ = some v) : W'.cell? ⟨Bn, 0, none⟩ = some v := by
  rw [World.cell?_of_block (w := W) (w' := W') (a := ⟨Bn, 0, none⟩) h.2]
  exact hc
theorem kept_cell {w w' : World} (k : Kept w w') {a : Addr} {v : Value} (h : w.cell? a = some v) : w'.cell? a = some v := by
  rw [World.cell?_of_block (w := w) (w' := w') (a := a) (k.block a.block (World.block_lt_of_cell? w a h) (fun f => f))]
  exact h
theorem kept_grown {w w' : World} (k : Kept w w') : w.grownBy w' none := ⟨k.os, k.tape, k.output, k.size, fun j hj _ => k.block j hj (fun f => f)⟩

theorem bslice2 (b o L c lo hi : Nat) (h1 : lo ≤ hi) (h2 : hi ≤ L) (h3 : L ≤ c) (W : World) : (Instr.sliceAt 22 (.slice (some ⟨b, o, none⟩) L c) (some (.int .i64 (lo : Int))) (some (.int .i64 (hi : Int))) none).run Tryd.prog W = .ok (.slice (some ⟨b, if c = lo then o else o + lo, none⟩) (hi - lo) (c - lo)) W := by
  have hz : ∀ W, (sizeOf 5).run Tryd.prog W = .ok 1 W := fun W => by kernel_rfl
  have e2 : hi ≤ c := by omega
  by_cases e3 : c = lo
  · have e4 : hi = lo := by omega
    subst e3
    simp [Instr.sliceAt, Instr.slice, Instr.sliceBounds, Instr.sliceBound, run_underlying Tryd.underlying22, asIntOf, h1, e2, hz, Result.andThen]
  · simp [Instr.sliceAt, Instr.slice, Instr.sliceBounds, Instr.sliceBound, run_underlying Tryd.underlying22, asIntOf, h1, e2, e3, hz, Result.andThen, add_none]
theorem bslice1 (b o L c lo : Nat) (h1 : lo ≤ L) (h3 : L ≤ c) (h4 : lo < c) (W : World) : (Instr.sliceAt 22 (.slice (some ⟨b, o, none⟩) L c) (some (.int .i64 (lo : Int))) none none).run Tryd.prog W = .ok (.slice (some ⟨b, o + lo, none⟩) (L - lo) (c - lo)) W := by
  have hz : ∀ W, (sizeOf 5).run Tryd.prog W = .ok 1 W := fun W => by kernel_rfl
  have e3 : c ≠ lo := by omega
  simp [Instr.sliceAt, Instr.slice, Instr.sliceBounds, Instr.sliceBound, run_underlying Tryd.underlying22, asIntOf, h1, e3, hz, Result.andThen, add_none]

theorem getD_drop (rs : List UInt8) (i j : Nat) : (rs.drop i).getD j 0 = rs.getD (i + j) 0 := by
  rw [List.getD_eq_getElem?_getD, List.getD_eq_getElem?_getD, List.getElem?_drop]
theorem lenF_word (rs : List UInt8) : lenF rs = le4 ((rs.drop 1).getD 0 0) ((rs.drop 1).getD 1 0) ((rs.drop 1).getD 2 0) ((rs.drop 1).getD 3 0) := by
  simp only [getD_drop]
  rfl
theorem take_four {rs : List UInt8} (h : 4 ≤ rs.length) : rs.take 4 = [rs.getD 0 0, rs.getD 1 0, rs.getD 2 0, rs.getD 3 0] := by
  obtain ⟨a, l1, e1, h1⟩ := cons_of h
  obtain ⟨b, l2, e2, h2⟩ := cons_of h1
  obtain ⟨c, l3, e3, h3⟩ := cons_of h2
  obtain ⟨d, l4, e4, h4⟩ := cons_of h3
  subst e4; subst e3; subst e2; subst e1
  rfl
/-- A frame is one by the number that stands for its sum. -/
theorem readF_word {rs : List UInt8} (h9 : 9 ≤ rs.length) (hl : lenF rs ≤ 1048576) (hb : lenF rs ≤ rs.length - 9) :
    readF rs = if le4 ((rs.drop 5).getD 0 0) ((rs.drop 5).getD 1 0) ((rs.drop 5).getD 2 0) ((rs.drop 5).getD 3 0) = sumL (rs.take 5 ++ (rs.drop 9).take (lenF rs)) then some ((rs.getD 0 0).toNat, (rs.drop 9).take (lenF rs), 9 + lenF rs) else none := by
  rw [readF_sum h9 hl hb]
  refine ite_iff ?_ _ _
  rw [take_four (by rw [List.length_drop]; omega), ← four_le4]
  constructor
  · intro h
    exact (four_inj (sumL_lt _) (le4_lt _ _ _ _) h).symm
  · intro h
    rw [h]

/-- The bytes of a frame. -/
theorem frm_bsrc {w : World} {b o c : Nat} {bs : List UInt8} (h : BSrc w (.slice (some ⟨b, o, none⟩) bs.length c) bs) (x : FrmI bs.length) : BSrc w (frmV b o c x) (frmB bs x) := by
  have hx := x.2
  have hlen := frmB_len bs x
  obtain ⟨_, _, _, e, hc⟩ := id h
  cases e
  refine ⟨?_, _, _, by rw [hlen]; rfl, by rw [hlen]; omega⟩
  refine .inr ⟨_, _, by rw [List.length_map, hlen]; rfl, fun j u hu => ?_⟩
  have hj : j < (frmB bs x).length := by
    have := (List.getElem?_eq_some_iff.1 hu).1
    rwa [List.length_map] at this
  rw [hlen] at hj
  rw [if_neg (by omega), add_none]
  rcases h.1 with ⟨e, _⟩ | ⟨a, c', e, hcc⟩
  · cases e
  · rw [List.length_map] at e
    cases e
    have := hcc (x.1.1 + 9 + j) u (by
      rw [List.getElem?_map] at hu ⊢
      unfold frmB at hu
      rw [List.getElem?_take, if_pos (by omega), List.getElem?_drop] at hu
      exact hu)
    rw [add_none] at this
    rw [Nat.add_assoc, Nat.add_assoc, ← Nat.add_assoc x.1.1]
    exact this
end Go.Proofs.YtjohnomlhcncnaaDoor.G
