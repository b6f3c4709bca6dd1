/-
  No cell of these rows narrows 'for every input' (looked for: loops, veiled, ifaces, maps, wideKeys, modest, calm, conditions, laid).
  DERIVED. THE GIVEN ROWS OF THIS SEAT. 4 by the template 'for every input the law returns true; each argument reads behind the call as it read before'; 0 by the template 'total and deterministic' (their statements: YtnagkbdnondklabTotals.lean).
  GIVEN WITH THE SEED: the statements are not yours to turn. If you find one false, say at which input.
  Laid BY PROGRAM, IN A SANDBOX (cutbox-rows.mjs): the forced cells as the released guide's own fill.sh prints them over the translation 5c3ec1ce1b2f77dd… (all of the seat's roots in one cut). By AI agents, Wed Nov 11 2026. No macro, syntax, notation, axiom, sorry.
-/
import Derived.Test.YtnagkbdnondklabChecked
import GoSem.Claim
import GoSem.ClaimJoined
import GoSem.ClaimMapViews
import Derived.JoinedTies
import Derived.KernelRfl
namespace Go.Proofs.Ytnagkbdnondklab
/- THE CELL 'sum', in the pinned program and in every row, IS THE sha256 OF THE DUMP (.gsa) THAT YtnagkbdnondklabProg.lean LOADS. Nothing in Lean hashes anything: it is a label: what it is worth is what the hold of that sum in a sandbox is worth. -/
noncomputable def Try.pinned : Pinned := { name := "ytnagkbdnondklab", sum := "5c3ec1ce1b2f77dd20443855e6e969c24769d76849a4f2c24b915b17e6b76e32", checked := Try.checked }
namespace Rows
def none {H : Type} : Left H := { results := [], args := [] }

/-- 'lysimeterlaw1.FixedTurns': WHATEVER THE INPUT: true; the input reads as it did. -/
def fixedTurnsSpec : ChangeSpec := { name := "fixedTurns", fn := fun _ => fun
  | [d1, d2] => { results := [.lit (.bool true)], args := [d1, d2] }
  | _ => none }
def fixedTurnsRow : OpenClaim := { program := "ytnagkbdnondklab", sum := "5c3ec1ce1b2f77dd20443855e6e969c24769d76849a4f2c24b915b17e6b76e32", func := "lysimeter/lysimeterlaw1.FixedTurns", spec := "fixedTurns", unfollowed := true, recurses := true, named := ["math/bits.divideError", "math/bits.overflowError"], apart := false }
def FixedTurnsSaid : Prop := fixedTurnsRow.holds Try.pinned (OpenSpec.ofChange fixedTurnsSpec)

/-- ITS FALSE NEIGHBOUR: 'it returns false'. Refute it at one input. -/
def fixedTurnsWrong : ChangeSpec := { name := "fixedTurns", fn := fun _ => fun
  | [d1, d2] => { results := [.lit (.bool false)], args := [d1, d2] }
  | _ => none }
def FixedTurnsWrongFalsely : Prop := fixedTurnsRow.holds Try.pinned (OpenSpec.ofChange fixedTurnsWrong)

/-- 'lysimeterlaw1.FixedCeils': WHATEVER THE INPUT: true; the input reads as it did. -/
def fixedCeilsSpec : ChangeSpec := { name := "fixedCeils", fn := fun _ => fun
  | [d1, d2] => { results := [.lit (.bool true)], args := [d1, d2] }
  | _ => none }
def fixedCeilsRow : OpenClaim := { program := "ytnagkbdnondklab", sum := "5c3ec1ce1b2f77dd20443855e6e969c24769d76849a4f2c24b915b17e6b76e32", func := "lysimeter/lysimeterlaw1.FixedCeils", spec := "fixedCeils", unfollowed := true, recurses := true, named := ["math/bits.divideError", "math/bits.overflowError"], apart := false }
def FixedCeilsSaid : Prop := fixedCeilsRow.holds Try.pinned (OpenSpec.ofChange fixedCeilsSpec)

/-- ITS FALSE NEIGHBOUR: 'it returns false'. Refute it at one input. -/
def fixedCeilsWrong : ChangeSpec := { name := "fixedCeils", fn := fun _ => fun
  | [d1, d2] => { results := [.lit (.bool false)], args := [d1, d2] }
  | _ => none }
def FixedCeilsWrongFalsely : Prop := fixedCeilsRow.holds Try.pinned (OpenSpec.ofChange fixedCeilsWrong)

/-- 'lysimeterlaw1.FixedChains': WHATEVER THE INPUT: true; the input reads as it did. -/
def fixedChainsSpec : ChangeSpec := { name := "fixedChains", fn := fun _ => fun
  | [d1, d2] => { results := [.lit (.bool true)], args := [d1, d2] }
  | _ => none }
def fixedChainsRow : OpenClaim := { program := "ytnagkbdnondklab", sum := "5c3ec1ce1b2f77dd20443855e6e969c24769d76849a4f2c24b915b17e6b76e32", func := "lysimeter/lysimeterlaw1.FixedChains", spec := "fixedChains", unfollowed := true, recurses := true, named := ["math/bits.divideError", "math/bits.overflowError"], apart := false }
def FixedChainsSaid : Prop := fixedChainsRow.holds Try.pinned (OpenSpec.ofChange fixedChainsSpec)

/-- ITS FALSE NEIGHBOUR: 'it returns false'. Refute it at one input. -/
def fixedChainsWrong : ChangeSpec := { name := "fixedChains", fn := fun _ => fun
  | [d1, d2] => { results := [.lit (.bool false)], args := [d1, d2] }
  | _ => none }
def FixedChainsWrongFalsely : Prop := fixedChainsRow.holds Try.pinned (OpenSpec.ofChange fixedChainsWrong)

/-- 'lysimeterlaw1.FixedHalves': WHATEVER THE INPUT: true; the input reads as it did. -/
def fixedHalvesSpec : ChangeSpec := { name := "fixedHalves", fn := fun _ => fun
  | [d] => { results := [.lit (.bool true)], args := [d] }
  | _ => none }
def fixedHalvesRow : OpenClaim := { program := "ytnagkbdnondklab", sum := "5c3ec1ce1b2f77dd20443855e6e969c24769d76849a4f2c24b915b17e6b76e32", func := "lysimeter/lysimeterlaw1.FixedHalves", spec := "fixedHalves", unfollowed := true, recurses := true, named := ["math/bits.divideError", "math/bits.overflowError"], apart := false }
def FixedHalvesSaid : Prop := fixedHalvesRow.holds Try.pinned (OpenSpec.ofChange fixedHalvesSpec)

/-- ITS FALSE NEIGHBOUR: 'it returns false'. Refute it at one input. -/
def fixedHalvesWrong : ChangeSpec := { name := "fixedHalves", fn := fun _ => fun
  | [d] => { results := [.lit (.bool false)], args := [d] }
  | _ => none }
def FixedHalvesWrongFalsely : Prop := fixedHalvesRow.holds Try.pinned (OpenSpec.ofChange fixedHalvesWrong)

/- THE SECOND FORM. 'bulk': how many values and letters a reading holds, each counted each time it is reached (what is shared counts as often as it is met; a slice's spare places count too). A statement '..UptoSaid' is the law's where the arguments, and the package variables that the reading takes, are together of bulk at most 1048576: NARROWER than '..Said'. Prove '..Said' where nothing that the law and all that it calls make is longer than what came in: it says more and counts as full. Else prove '..UptoSaid'. A law counts once. -/
mutual
def uptoBulk {H : Type} : DataW H → Nat
  | .lit (.string bytes) => bytes.length + 1
  | .lit _ => 1
  | .nil => 1
  | .ptr d => uptoBulk d + 1
  | .slice elems spare => uptoBulkAll elems + uptoBulkAll spare + 1
  | .agg parts => uptoBulkAll parts + 1
  | .iface _ d => uptoBulk d + 1
  | .map entries => uptoBulkEntries entries + 1
  | .held _ => 1
def uptoBulkAll {H : Type} : List (DataW H) → Nat
  | [] => 0
  | d :: r => uptoBulk d + uptoBulkAll r
def uptoBulkEntries {H : Type} : List (Lit × DataW H) → Nat
  | [] => 0
  | x :: r => uptoBulkEntry x + uptoBulkEntries r
def uptoBulkEntry {H : Type} : Lit × DataW H → Nat
  | (.string bytes, d) => bytes.length + uptoBulk d + 1
  | (_, d) => uptoBulk d + 1
 end
def uptoSmall : (H : Type) → List (DataW H) → Bool := fun _ ds => decide (uptoBulkAll ds ≤ 1048576)
def OpenSpec.upto (s : _root_.Go.ChangeSpec) : _root_.Go.OpenSpec := { _root_.Go.OpenSpec.ofChange s with cond := some uptoSmall }

/-- 'lysimeterlaw1.FixedTurns', WHERE WHAT IT READS IS OF BULK AT MOST 1048576: true; the input reads as it did. -/
def fixedTurnsUptoRow : OpenClaim := { program := "ytnagkbdnondklab", sum := "5c3ec1ce1b2f77dd20443855e6e969c24769d76849a4f2c24b915b17e6b76e32", func := "lysimeter/lysimeterlaw1.FixedTurns", spec := "fixedTurns", unfollowed := true, recurses := true, named := ["math/bits.divideError", "math/bits.overflowError"], apart := false, narrowed := true }
def FixedTurnsUptoSaid : Prop := fixedTurnsUptoRow.holds Try.pinned (OpenSpec.upto fixedTurnsSpec)

/-- 'lysimeterlaw1.FixedCeils', WHERE WHAT IT READS IS OF BULK AT MOST 1048576: true; the input reads as it did. -/
def fixedCeilsUptoRow : OpenClaim := { program := "ytnagkbdnondklab", sum := "5c3ec1ce1b2f77dd20443855e6e969c24769d76849a4f2c24b915b17e6b76e32", func := "lysimeter/lysimeterlaw1.FixedCeils", spec := "fixedCeils", unfollowed := true, recurses := true, named := ["math/bits.divideError", "math/bits.overflowError"], apart := false, narrowed := true }
def FixedCeilsUptoSaid : Prop := fixedCeilsUptoRow.holds Try.pinned (OpenSpec.upto fixedCeilsSpec)

/-- 'lysimeterlaw1.FixedChains', WHERE WHAT IT READS IS OF BULK AT MOST 1048576: true; the input reads as it did. -/
def fixedChainsUptoRow : OpenClaim := { program := "ytnagkbdnondklab", sum := "5c3ec1ce1b2f77dd20443855e6e969c24769d76849a4f2c24b915b17e6b76e32", func := "lysimeter/lysimeterlaw1.FixedChains", spec := "fixedChains", unfollowed := true, recurses := true, named := ["math/bits.divideError", "math/bits.overflowError"], apart := false, narrowed := true }
def FixedChainsUptoSaid : Prop := fixedChainsUptoRow.holds Try.pinned (OpenSpec.upto fixedChainsSpec)

/-- 'lysimeterlaw1.FixedHalves', WHERE WHAT IT READS IS OF BULK AT MOST 1048576: true; the input reads as it did. -/
def fixedHalvesUptoRow : OpenClaim := { program := "ytnagkbdnondklab", sum := "5c3ec1ce1b2f77dd20443855e6e969c24769d76849a4f2c24b915b17e6b76e32", func := "lysimeter/lysimeterlaw1.FixedHalves", spec := "fixedHalves", unfollowed := true, recurses := true, named := ["math/bits.divideError", "math/bits.overflowError"], apart := false, narrowed := true }
def FixedHalvesUptoSaid : Prop := fixedHalvesUptoRow.holds Try.pinned (OpenSpec.upto fixedHalvesSpec)

end Rows
end Go.Proofs.Ytnagkbdnondklab
