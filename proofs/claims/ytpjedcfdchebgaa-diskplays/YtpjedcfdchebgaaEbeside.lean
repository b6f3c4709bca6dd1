/-
  The three disks and blocks beside them, which no call of a disk turns.
-/
import Derived.Test.YtpjedcfdchebgaaEsame
namespace Go.Proofs.Ytpjedcfdchebgaa
open Go.RowKit Go.Proofs.Lys Go.Maps Go.Shelf
set_option linter.unusedVariables false

/-- The blocks Z are as they were. -/
def Same (Z : Nat → Prop) (W W' : World) : Prop := ∀ k, Z k → W'.heap[k]? = W.heap[k]?
def TriZ (w0 W : World) (A B R : Nat) (ma mb mr : DModel) (Z : Nat → Prop) : Prop :=
  ∃ ca Oa cb Ob cr Or, ca.d = A ∧ cb.d = B ∧ cr.d = R ∧ DiskAt W ca Oa ma ∧ DiskAt W cb Ob mb ∧ RAt W cr Or mr ∧ Kept w0 W ∧ (∀ k, Oa k → w0.heap.size ≤ k) ∧ (∀ k, Ob k → w0.heap.size ≤ k) ∧ (∀ k, Or k → w0.heap.size ≤ k ∧ k < W.heap.size) ∧ (∀ k, Oa k → ¬ Ob k) ∧ (∀ k, Oa k → ¬ Or k) ∧ (∀ k, Ob k → ¬ Or k) ∧ ∀ k, Z k → k < W.heap.size ∧ ¬ Oa k ∧ ¬ Ob k ∧ ¬ Or k

section
variable {w0 W W' : World} {A B R : Nat} {ma mb mr : DModel} {Z Z' : Nat → Prop}
theorem Same.blk (h : Same Z W W') {b : Nat} {vs : List Value} {T : TypeId} (hb : Blk W b vs T) (hz : Z b) : Blk W' b vs T := hb.of_block (h b hz)
theorem Same.row (h : Same Z W W') {base : Nat} {v : Value} {n : Nat} {xs : List Value} {e : TypeId} (hr : W.ownsRow base e 1 v n xs) (hz : ∀ k, v.ownBlock = some k → Z k) : W'.ownsRow base e 1 v n xs := own_block hr (fun k hk => h k (hz k hk))
theorem TriZ.tri (h : TriZ w0 W A B R ma mb mr Z) : Tri w0 W A B R ma mb mr := by
  obtain ⟨ca, Oa, cb, Ob, cr, Or, h1, h2, h3, h4, h5, h6, h7, h8, h9, h10, h11, h12, h13, _⟩ := h
  exact ⟨ca, Oa, cb, Ob, cr, Or, h1, h2, h3, h4, h5, h6, h7, h8, h9, h10, h11, h12, h13⟩
theorem Tri.none (h : Tri w0 W A B R ma mb mr) : TriZ w0 W A B R ma mb mr (fun _ => False) := by
  obtain ⟨ca, Oa, cb, Ob, cr, Or, h1, h2, h3, h4, h5, h6, h7, h8, h9, h10, h11, h12, h13⟩ := h
  exact ⟨ca, Oa, cb, Ob, cr, Or, h1, h2, h3, h4, h5, h6, h7, h8, h9, h10, h11, h12, h13, fun _ f => f.elim⟩
theorem TriZ.kept (h : TriZ w0 W A B R ma mb mr Z) : Kept w0 W := h.tri.kept
/-- What is made beside them lies beside them. -/
theorem TriZ.grow (h : TriZ w0 W A B R ma mb mr Z) (hw : ∀ j, Z j → w0.heap.size ≤ j) (k : Only (fun j => Z j) W W') (hZ : ∀ j, Z' j → Z j ∨ (W.heap.size ≤ j ∧ j < W'.heap.size)) : TriZ w0 W' A B R ma mb mr Z' := by
  obtain ⟨ca, Oa, cb, Ob, cr, Or, h1, h2, h3, h4, h5, h6, h7, h8, h9, h10, h11, h12, h13, h14⟩ := h
  refine ⟨ca, Oa, cb, Ob, cr, Or, h1, h2, h3, h4.only k (fun j ho hz => (h14 j hz).2.1 ho), h5.only k (fun j ho hz => (h14 j hz).2.2.1 ho), h6.only k (fun j ho hz => (h14 j hz).2.2.2 ho), ?_, h8, h9, fun j hj => ⟨(h10 j hj).1, Nat.lt_of_lt_of_le (h10 j hj).2 k.size⟩, h11, h12, h13, fun j hj => ?_⟩
  · exact h7.trans k (fun j hj hz => by have := hw j hz; omega)
  · rcases hZ j hj with hz | hz
    · have := h14 j hz
      exact ⟨Nat.lt_of_lt_of_le this.1 k.size, this.2⟩
    · refine ⟨hz.2, fun ho => ?_, fun ho => ?_, fun ho => ?_⟩
      · have := h4.top j ho
        omega
      · have := h5.top j ho
        omega
      · have := (h10 j ho).2
        omega
/-- A call that turns the first disk alone. -/
theorem triz_d (h : TriZ w0 W A B R ma mb mr Z) {f : FuncId} {args : Array Value} {v : Value} {m' : DModel}
    (hc : ∀ c O, c.d = A → DiskAt W c O ma → (∀ k, O k → w0.heap.size ≤ k) → (∀ k, Z k → ¬ O k) → Calls Try.prog f args W fun e w' => e = .returned v ∧ Only O W w' ∧ ∃ c', c'.d = c.d ∧ DiskAt w' c' (Grow O W w') m') :
    Calls Try.prog f args W fun e w' => e = .returned v ∧ TriZ w0 w' A B R m' mb mr Z ∧ Same Z W w' := by
  obtain ⟨ca, Oa, cb, Ob, cr, Or, h1, h2, h3, h4, h5, h6, h7, h8, h9, h10, h11, h12, h13, h14⟩ := h
  refine (hc ca Oa h1 h4 h8 (fun k hk => (h14 k hk).2.1)).mono ?_
  rintro e w' ⟨rfl, hk, c', hc', hD⟩
  refine ⟨rfl, ⟨c', Grow Oa W w', cb, Ob, cr, Or, hc'.trans h1, h2, h3, hD, h5.only hk (fun j hb ha => h11 j ha hb), h6.only hk (fun j hb ha => h12 j ha hb), h7.trans hk (fun j hj ho => by have := h8 j ho; omega), ?_, h9, fun j hj => ⟨(h10 j hj).1, Nat.lt_of_lt_of_le (h10 j hj).2 hk.size⟩, ?_, ?_, h13, ?_⟩, fun k hz => hk.block k (h14 k hz).1 (h14 k hz).2.1⟩
  · rintro k (ho | ho)
    · exact h8 k ho
    · exact Nat.le_trans h7.size ho.1
  · rintro k (ho | ho) hb
    · exact h11 k ho hb
    · have := h5.top k hb
      omega
  · rintro k (ho | ho) hb
    · exact h12 k ho hb
    · have := (h10 k hb).2
      omega
  · intro k hz
    have := h14 k hz
    refine ⟨Nat.lt_of_lt_of_le this.1 hk.size, ?_, this.2.2⟩
    rintro (ho | ho)
    · exact this.2.1 ho
    · omega
theorem TriZ.swap (h : TriZ w0 W A B R ma mb mr Z) : TriZ w0 W B A R mb ma mr Z := by
  obtain ⟨ca, Oa, cb, Ob, cr, Or, h1, h2, h3, h4, h5, h6, h7, h8, h9, h10, h11, h12, h13, h14⟩ := h
  exact ⟨cb, Ob, ca, Oa, cr, Or, h2, h1, h3, h5, h4, h6, h7, h9, h8, h10, fun k a b => h11 k b a, h13, h12, fun k hz => ⟨(h14 k hz).1, (h14 k hz).2.2.1, (h14 k hz).2.1, (h14 k hz).2.2.2⟩⟩
/-- A call that turns the second one alone. -/
theorem triz_o (h : TriZ w0 W A B R ma mb mr Z) {f : FuncId} {args : Array Value} {v : Value} {m' : DModel}
    (hc : ∀ c O, c.d = B → DiskAt W c O mb → (∀ k, O k → w0.heap.size ≤ k) → (∀ k, Z k → ¬ O k) → Calls Try.prog f args W fun e w' => e = .returned v ∧ Only O W w' ∧ ∃ c', c'.d = c.d ∧ DiskAt w' c' (Grow O W w') m') :
    Calls Try.prog f args W fun e w' => e = .returned v ∧ TriZ w0 w' A B R ma m' mr Z ∧ Same Z W w' :=
  (triz_d h.swap hc).mono (fun e w' h => ⟨h.1, h.2.1.swap, h.2.2⟩)
/-- A call that turns the document's own one alone. -/
theorem triz_r (h : TriZ w0 W A B R ma mb mr Z) {f : FuncId} {args : Array Value} {v : Value} {m' : DModel}
    (hc : ∀ c O, c.d = R → RAt W c O mr → (∀ k, O k → w0.heap.size ≤ k) → (∀ k, Z k → ¬ O k) → Calls Try.prog f args W fun e w' => e = .returned v ∧ Only O W w' ∧ ∃ c' : RConc, c'.d = c.d ∧ RAt w' c' (Grow O W w') m') :
    Calls Try.prog f args W fun e w' => e = .returned v ∧ TriZ w0 w' A B R ma mb m' Z ∧ Same Z W w' := by
  obtain ⟨ca, Oa, cb, Ob, cr, Or, h1, h2, h3, h4, h5, h6, h7, h8, h9, h10, h11, h12, h13, h14⟩ := h
  refine (hc cr Or h3 h6 (fun k hk => (h10 k hk).1) (fun k hk => (h14 k hk).2.2.2)).mono ?_
  rintro e w' ⟨rfl, hk, c', hc', hD⟩
  refine ⟨rfl, ⟨ca, Oa, cb, Ob, c', Grow Or W w', h1, h2, hc'.trans h3, h4.only hk (fun j ha hb => h12 j ha hb), h5.only hk (fun j ha hb => h13 j ha hb), hD, h7.trans hk (fun j hj ho => by have := (h10 j ho).1; omega), h8, h9, ?_, h11, ?_, ?_, ?_⟩, fun k hz => hk.block k (h14 k hz).1 (h14 k hz).2.2.2⟩
  · rintro k (ho | ho)
    · exact ⟨(h10 k ho).1, Nat.lt_of_lt_of_le (h10 k ho).2 hk.size⟩
    · exact ⟨Nat.le_trans h7.size ho.1, ho.2⟩
  · rintro k ha (ho | ho)
    · exact h12 k ha ho
    · have := h4.top k ha
      omega
  · rintro k ha (ho | ho)
    · exact h13 k ha ho
    · have := h5.top k ha
      omega
  · intro k hz
    have := h14 k hz
    refine ⟨Nat.lt_of_lt_of_le this.1 hk.size, this.2.1, this.2.2.1, ?_⟩
    rintro (ho | ho)
    · exact this.2.2.2 ho
    · omega
end

/-- The disks as they begin. -/
theorem tri_start {w1 wA wB wR : World} {q : Int} {ca cb : Conc} {cr : RConc} (kA : Kept w1 wA) (hA : ca.d = w1.heap.size ∧ DiskAt wA ca (Since w1 wA) (DModel.start q)) (kB : Kept wA wB) (hB : cb.d = wA.heap.size ∧ DiskAt wB cb (Since wA wB) (DModel.start q)) (kR : Kept wB wR) (hR : cr.d = wB.heap.size ∧ RAt wR cr (Since wB wR) (DModel.start q)) :
    Tri w1 wR w1.heap.size wA.heap.size wB.heap.size (DModel.start q) (DModel.start q) (DModel.start q) := by
  have s1 := kA.size
  have s2 := kB.size
  have s3 := kR.size
  refine ⟨ca, Since w1 wA, cb, Since wA wB, cr, Since wB wR, hA.1, hB.1, hR.1, (hA.2.stay kB).stay kR, hB.2.stay kR, hR.2, (kA.trans kB (fun _ _ f => f)).trans kR (fun _ _ f => f), fun k h => h.1, fun k h => Nat.le_trans s1 h.1, fun k h => ⟨by have := h.1; omega, h.2⟩, fun k a b => ?_, fun k a b => ?_, fun k a b => ?_⟩
  · have := a.2
    have := b.1
    omega
  · have := a.2
    have := b.1
    omega
  · have := a.2
    have := b.1
    omega
end Go.Proofs.Ytpjedcfdchebgaa
