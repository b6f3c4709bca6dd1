/-
  Two disks of the code and the document's own one beside them, with nothing in common.
-/
import Derived.Test.YtpjedcfdchebgaaLcalls
import Derived.Test.YtpjedcfdchebgaaEall
import Derived.Test.YtpjedcfdchebgaaEmod
namespace Go.Proofs.Ytpjedcfdchebgaa
open Go.RowKit Go.Proofs.Lys Go.Maps Go.Shelf
set_option linter.unusedVariables false

def Tri (w0 W : World) (A B R : Nat) (ma mb mr : DModel) : Prop :=
  ∃ ca Oa cb Ob cr Or, ca.d = A ∧ cb.d = B ∧ cr.d = R ∧ DiskAt W ca Oa ma ∧ DiskAt W cb Ob mb ∧ RAt W cr Or mr ∧ Kept w0 W ∧ (∀ k, Oa k → w0.heap.size ≤ k) ∧ (∀ k, Ob k → w0.heap.size ≤ k) ∧ (∀ k, Or k → w0.heap.size ≤ k ∧ k < W.heap.size) ∧ (∀ k, Oa k → ¬ Ob k) ∧ (∀ k, Oa k → ¬ Or k) ∧ (∀ k, Ob k → ¬ Or k)

section
variable {w0 W W' : World} {A B R : Nat} {ma mb mr : DModel}
theorem Tri.kept (h : Tri w0 W A B R ma mb mr) : Kept w0 W := by
  obtain ⟨ca, Oa, cb, Ob, cr, Or, h1, h2, h3, h4, h5, h6, h7, _⟩ := h
  exact h7
theorem Tri.stay (h : Tri w0 W A B R ma mb mr) (k : Kept W W') : Tri w0 W' A B R ma mb mr := by
  obtain ⟨ca, Oa, cb, Ob, cr, Or, h1, h2, h3, h4, h5, h6, h7, h8, h9, h10, h11, h12, h13⟩ := h
  exact ⟨ca, Oa, cb, Ob, cr, Or, h1, h2, h3, h4.stay k, h5.stay k, h6.stay k, h7.trans k (fun _ _ f => f), h8, h9, fun j hj => ⟨(h10 j hj).1, Nat.lt_of_lt_of_le (h10 j hj).2 k.size⟩, h11, h12, h13⟩
theorem Tri.swap (h : Tri w0 W A B R ma mb mr) : Tri w0 W B A R mb ma mr := by
  obtain ⟨ca, Oa, cb, Ob, cr, Or, h1, h2, h3, h4, h5, h6, h7, h8, h9, h10, h11, h12, h13⟩ := h
  exact ⟨cb, Ob, ca, Oa, cr, Or, h2, h1, h3, h5, h4, h6, h7, h9, h8, h10, fun k a b => h11 k b a, h13, h12⟩
/-- A call that turns the first disk alone. -/
theorem tri_d (h : Tri w0 W A B R ma mb mr) {f : FuncId} {args : Array Value} {v : Value} {m' : DModel}
    (hc : ∀ c O, c.d = A → DiskAt W c O ma → (∀ k, O k → w0.heap.size ≤ k) → Calls Try.prog f args W fun e w' => e = .returned v ∧ Only O W w' ∧ ∃ c', c'.d = c.d ∧ DiskAt w' c' (Grow O W w') m') :
    Calls Try.prog f args W fun e w' => e = .returned v ∧ Tri w0 w' A B R m' mb mr := by
  obtain ⟨ca, Oa, cb, Ob, cr, Or, h1, h2, h3, h4, h5, h6, h7, h8, h9, h10, h11, h12, h13⟩ := h
  refine (hc ca Oa h1 h4 h8).mono ?_
  rintro e w' ⟨rfl, hk, c', hc', hD⟩
  refine ⟨rfl, c', Grow Oa W w', cb, Ob, cr, Or, hc'.trans h1, h2, h3, hD, h5.only hk (fun j hb ha => h11 j ha hb), h6.only hk (fun j hb ha => h12 j ha hb), h7.trans hk (fun j hj ho => by have := h8 j ho; omega), ?_, h9, fun j hj => ⟨(h10 j hj).1, Nat.lt_of_lt_of_le (h10 j hj).2 hk.size⟩, ?_, ?_, h13⟩
  · rintro k (ho | ho)
    · exact h8 k ho
    · exact Nat.le_trans h7.size ho.1
  · rintro k (ho | ho) hb
    · exact h11 k ho hb
    · have := h5.top k hb
      omega
  · rintro k (ho | ho) hb
    · exact h12 k ho hb
    · have := (h10 k hb).2
      omega
/-- A call that turns the second one alone. -/
theorem tri_o (h : Tri w0 W A B R ma mb mr) {f : FuncId} {args : Array Value} {v : Value} {m' : DModel}
    (hc : ∀ c O, c.d = B → DiskAt W c O mb → (∀ k, O k → w0.heap.size ≤ k) → Calls Try.prog f args W fun e w' => e = .returned v ∧ Only O W w' ∧ ∃ c', c'.d = c.d ∧ DiskAt w' c' (Grow O W w') m') :
    Calls Try.prog f args W fun e w' => e = .returned v ∧ Tri w0 w' A B R ma m' mr :=
  (tri_d h.swap hc).mono (fun e w' h => ⟨h.1, h.2.swap⟩)
/-- A call that turns the document's own one alone. -/
theorem tri_r (h : Tri w0 W A B R ma mb mr) {f : FuncId} {args : Array Value} {v : Value} {m' : DModel}
    (hc : ∀ c O, c.d = R → RAt W c O mr → (∀ k, O k → w0.heap.size ≤ k) → Calls Try.prog f args W fun e w' => e = .returned v ∧ Only O W w' ∧ ∃ c' : RConc, c'.d = c.d ∧ RAt w' c' (Grow O W w') m') :
    Calls Try.prog f args W fun e w' => e = .returned v ∧ Tri w0 w' A B R ma mb m' := by
  obtain ⟨ca, Oa, cb, Ob, cr, Or, h1, h2, h3, h4, h5, h6, h7, h8, h9, h10, h11, h12, h13⟩ := h
  refine (hc cr Or h3 h6 (fun k hk => (h10 k hk).1)).mono ?_
  rintro e w' ⟨rfl, hk, c', hc', hD⟩
  refine ⟨rfl, ca, Oa, cb, Ob, c', Grow Or W w', h1, h2, hc'.trans h3, h4.only hk (fun j ha hb => h12 j ha hb), h5.only hk (fun j ha hb => h13 j ha hb), hD, h7.trans hk (fun j hj ho => by have := (h10 j ho).1; omega), h8, h9, ?_, h11, ?_, ?_⟩
  · rintro k (ho | ho)
    · exact ⟨(h10 k ho).1, Nat.lt_of_lt_of_le (h10 k ho).2 hk.size⟩
    · exact ⟨Nat.le_trans h7.size ho.1, ho.2⟩
  · rintro k ha (ho | ho)
    · exact h12 k ha ho
    · have := h4.top k ha
      omega
  · rintro k ha (ho | ho)
    · exact h13 k ha ho
    · have := h5.top k ha
      omega
end
end Go.Proofs.Ytpjedcfdchebgaa
