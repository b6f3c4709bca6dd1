/-
  A sample that came in.
-/
import Derived.Test.YtijaicncggehaaaZopen
import Derived.WideShapes
namespace Go.Proofs.Ytijaicncggehaaa.Mg
open Go Go.RowKit Go.Proofs.Lys Go.WideShapes
set_option linter.unusedVariables false

structure SmpC where
  t : Int
  s : Int
abbrev SmpC.v (x : SmpC) : Value := .agg #[.int .i64 x.t, .int .i64 x.s]
set_option maxRecDepth 100000 in
theorem open_smpC {H : Type} {enc : TypeId × Value → H} {w : World} {spare : Nat → Bool} {held : Bool} {base : Nat} {v : Value} {x : DataW H × List MemPlace} (hv : Value.okWide Try.prog w .any base 30 v)
    (h : ∃ m, DataW.trod enc Try.prog w 0 spare held m 30 v.cells.toList = some x) : ∃ q : SmpC, v = q.v ∧ True := by
  obtain ⟨fuel, h⟩ := h
  obtain ⟨cs, rfl, _⟩ := okWide_struct Try.underlying30 hv
  have h' : DataW.trod enc Try.prog w 0 spare held fuel 30 cs.toList = some x := h
  obtain ⟨q, hq⟩ := open_smpZ h'
  obtain ⟨L⟩ := cs
  simp only at hq
  subst hq
  exact ⟨⟨q.1, q.2⟩, rfl, trivial⟩
end Go.Proofs.Ytijaicncggehaaa.Mg
