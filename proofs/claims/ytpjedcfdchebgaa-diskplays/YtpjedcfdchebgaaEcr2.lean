/-
  The document's own disk: a crash, the files.
-/
import Derived.Test.YtpjedcfdchebgaaEcr
import Derived.Test.YtpjedcfdchebgaaDspoil
import Derived.Test.YtpjedcfdchebgaaDfset2
namespace Go.Proofs.Ytpjedcfdchebgaa
open Go.RowKit Go.Proofs.Lys Go.Maps Go.Shelf
set_option linter.unusedVariables false

section
variable {w w5 w6 : World} {c5 : RConc} {O : Nat → Prop} {m5 : DModel}
/-- A row of marks turns. -/
theorem Cr.other {b : Nat} (N : Cr w O w5 c5 m5) (k : Only (· = b) w5 w6) (hb : Typed w5 b 4) (hge : w.heap.size ≤ b) : Cr w O w6 c5 m5 := by
  have h := N.at5
  refine ⟨RAt.mono (O := Grow O w w5) { h with
    cells := k.blk h.cells (fun e => h.cells.typed.ne hb (by decide) e)
    files := ownN_only h.files k (fun j hj e => (ownN_typed h.files hj).ne hb (by decide) e)
    bytes := fun p hp => ownN_only (h.bytes p hp) k (fun j hj e => (ownN_typed (h.bytes p hp) hj).ne hb (by decide) e)
    dir := ownN_only h.dir k (fun j hj e => (ownN_typed h.dir hj).ne hb (by decide) e)
    sure := ownN_only h.sure k (fun j hj e => (ownN_typed h.sure hj).ne hb (by decide) e)
    acts := ownN_only h.acts k (fun j hj e => (ownN_typed h.acts hj).ne hb (by decide) e)
    top := fun j hj => Nat.lt_of_lt_of_le (h.top j hj) k.size } (fun j hj => hj.elim .inl (fun h => .inr ⟨h.1, Nat.lt_of_lt_of_le h.2 k.size⟩)) (fun j hj => ?_), N.only.trans k (fun j hj e => by omega), N.top⟩
  rcases hj with hj | hj
  · have := N.top j hj
    have := N.only.size
    have := k.size
    omega
  · exact hj.2
end

theorem turn_skip (bs : List UInt8) (s k : Nat) (h : k < s) : turnTo bs s (k + 1) = turnTo bs s k := by
  unfold turnTo
  apply List.ext_getElem
  · simp
  · intro i h1 h2
    simp
    by_cases e : s ≤ i
    · rw [if_neg (by omega), if_neg (by omega)]
    · rw [if_neg (by omega), if_neg (by omega)]
theorem turn_low (bs : List UInt8) (s k : Nat) (h : k ≤ s) : turnTo bs s k = bs := by
  unfold turnTo
  apply List.ext_getElem
  · simp
  · intro i h1 h2
    simp
    omega
theorem spoil_none (b : List UInt8) (su : Nat) (h : b.length ≤ su) : DModel.spoil b su = b := by
  unfold DModel.spoil
  apply List.ext_getElem
  · simp
  · intro i h1 h2
    simp at h1 ⊢
    omega
theorem made_marks (K : Nat) : (madeCells #[Value.bool false] K).toList = (List.replicate K false).map tV := by
  apply List.ext_getElem?
  intro i
  by_cases h : i < K
  · simp [madeCells, h, tV, Nat.mod_one]
  · rw [List.getElem?_eq_none (by simp [size_madeCells]; omega), List.getElem?_eq_none (by simp; omega)]
theorem rem_two' (x : Int) : (x.tmod 2 != 0) = DModel.oddB x := by
  have := rem_two x
  rw [bne, this, Bool.not_not]
theorem settle_step {F : Nat} {r : List Nat} {fl : List DFile} {l : List Int} {fin : List DFile} (h : DModel.settleAll (F :: r) fl l = fin) : DModel.settleAll r (fl.set F (DModel.settleF (fl.getD F ⟨[], 0⟩) l).1) (DModel.settleF (fl.getD F ⟨[], 0⟩) l).2 = fin := h
theorem settle_same {f : DFile} {l : List Int} (h : f.b.length = f.sure) : DModel.settleF f l = (f, l) := by
  unfold DModel.settleF
  rw [if_pos h]
theorem settle_turn {f : DFile} {l : List Int} (h : f.b.length ≠ f.sure) : DModel.settleF f l = (⟨if DModel.oddB (l.tail.headD 0) then DModel.spoil (f.b.take (f.sure + DModel.stays (l.headD 0) (f.b.length - f.sure))) f.sure else f.b.take (f.sure + DModel.stays (l.headD 0) (f.b.length - f.sure)), (if DModel.oddB (l.tail.headD 0) then DModel.spoil (f.b.take (f.sure + DModel.stays (l.headD 0) (f.b.length - f.sure))) f.sure else f.b.take (f.sure + DModel.stays (l.headD 0) (f.b.length - f.sure))).length⟩, l.tail.tail) := by
  unfold DModel.settleF
  rw [if_neg h]
theorem spoil_len (b : List UInt8) (su : Nat) : (DModel.spoil b su).length = b.length := by simp [DModel.spoil]
theorem set_getD (l : List DFile) (i : Nat) : l.set i (l.getD i ⟨[], 0⟩) = l := by
  apply List.ext_getElem?
  intro j
  rw [List.getElem?_set]
  split
  · rename_i e
    subst e
    split
    · rename_i h
      rw [List.getD_eq_getElem?_getD, List.getElem?_eq_getElem h]
      rfl
    · rename_i h
      rw [List.getElem?_eq_none (by omega)]
  · rfl
end Go.Proofs.Ytpjedcfdchebgaa
