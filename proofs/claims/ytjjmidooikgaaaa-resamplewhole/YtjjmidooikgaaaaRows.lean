/-
  No cell of these rows narrows 'for every input' (looked for: loops, veiled, ifaces, maps, wideKeys, modest, calm, conditions, laid).
  DERIVED. THE GIVEN ROWS OF THIS SEAT. 3 by the template 'for every input the law returns true; each argument reads behind the call as it read before'; 0 by the template 'total and deterministic' (their statements: YtjjmidooikgaaaaTotals.lean).
  GIVEN WITH THE SEED: the statements are not yours to turn. If you find one false, say at which input.
  Laid BY PROGRAM, IN A SANDBOX (cutbox-rows.mjs): the forced cells as the released guide's own fill.sh prints them over the translation f3927951ab679012… (all of the seat's roots in one cut). By AI agents, Wed Nov 11 2026. No macro, syntax, notation, axiom, sorry.
-/
import Derived.Test.YtjjmidooikgaaaaChecked
import GoSem.Claim
import GoSem.ClaimJoined
import GoSem.ClaimMapViews
import Derived.JoinedTies
import Derived.KernelRfl
namespace Go.Proofs.Ytjjmidooikgaaaa
/- THE CELL 'sum', in the pinned program and in every row, IS THE sha256 OF THE DUMP (.gsa) THAT YtjjmidooikgaaaaProg.lean LOADS. Nothing in Lean hashes anything: it is a label: what it is worth is what the hold of that sum in a sandbox is worth. -/
noncomputable def Try.pinned : Pinned := { name := "ytjjmidooikgaaaa", sum := "f3927951ab6790128cdd43cd3989e095473746bdc3fee993caf0a752379a9114", checked := Try.checked }
namespace Rows
def none {H : Type} : Left H := { results := [], args := [] }

/-- 'lysimeterlaw21.ResamplePoints': WHATEVER THE INPUT: true; the input reads as it did. -/
def resamplePointsSpec : ChangeSpec := { name := "resamplePoints", fn := fun _ => fun
  | [d1, d2, d3, d4] => { results := [.lit (.bool true)], args := [d1, d2, d3, d4] }
  | _ => none }
def resamplePointsRow : OpenClaim := { program := "ytjjmidooikgaaaa", sum := "f3927951ab6790128cdd43cd3989e095473746bdc3fee993caf0a752379a9114", func := "lysimeter/lysimeterlaw21.ResamplePoints", spec := "resamplePoints", unfollowed := true, recurses := true, apart := false }
def ResamplePointsSaid : Prop := resamplePointsRow.holds Try.pinned (OpenSpec.ofChange resamplePointsSpec)

/-- ITS FALSE NEIGHBOUR: 'it returns false'. Refute it at one input. -/
def resamplePointsWrong : ChangeSpec := { name := "resamplePoints", fn := fun _ => fun
  | [d1, d2, d3, d4] => { results := [.lit (.bool false)], args := [d1, d2, d3, d4] }
  | _ => none }
def ResamplePointsWrongFalsely : Prop := resamplePointsRow.holds Try.pinned (OpenSpec.ofChange resamplePointsWrong)

/-- 'lysimeterlaw21.ResampleWhole': WHATEVER THE INPUT: true; the input reads as it did. -/
def resampleWholeSpec : ChangeSpec := { name := "resampleWhole", fn := fun _ => fun
  | [d1, d2, d3] => { results := [.lit (.bool true)], args := [d1, d2, d3] }
  | _ => none }
def resampleWholeRow : OpenClaim := { program := "ytjjmidooikgaaaa", sum := "f3927951ab6790128cdd43cd3989e095473746bdc3fee993caf0a752379a9114", func := "lysimeter/lysimeterlaw21.ResampleWhole", spec := "resampleWhole", unfollowed := true, recurses := true, apart := false }
def ResampleWholeSaid : Prop := resampleWholeRow.holds Try.pinned (OpenSpec.ofChange resampleWholeSpec)

/-- ITS FALSE NEIGHBOUR: 'it returns false'. Refute it at one input. -/
def resampleWholeWrong : ChangeSpec := { name := "resampleWhole", fn := fun _ => fun
  | [d1, d2, d3] => { results := [.lit (.bool false)], args := [d1, d2, d3] }
  | _ => none }
def ResampleWholeWrongFalsely : Prop := resampleWholeRow.holds Try.pinned (OpenSpec.ofChange resampleWholeWrong)

/-- 'lysimeterlaw21.ResampleHolds': WHATEVER THE INPUT: true; the input reads as it did. -/
def resampleHoldsSpec : ChangeSpec := { name := "resampleHolds", fn := fun _ => fun
  | [d1, d2, d3, d4] => { results := [.lit (.bool true)], args := [d1, d2, d3, d4] }
  | _ => none }
def resampleHoldsRow : OpenClaim := { program := "ytjjmidooikgaaaa", sum := "f3927951ab6790128cdd43cd3989e095473746bdc3fee993caf0a752379a9114", func := "lysimeter/lysimeterlaw21.ResampleHolds", spec := "resampleHolds", unfollowed := true, recurses := true, apart := false }
def ResampleHoldsSaid : Prop := resampleHoldsRow.holds Try.pinned (OpenSpec.ofChange resampleHoldsSpec)

/-- ITS FALSE NEIGHBOUR: 'it returns false'. Refute it at one input. -/
def resampleHoldsWrong : ChangeSpec := { name := "resampleHolds", fn := fun _ => fun
  | [d1, d2, d3, d4] => { results := [.lit (.bool false)], args := [d1, d2, d3, d4] }
  | _ => none }
def ResampleHoldsWrongFalsely : Prop := resampleHoldsRow.holds Try.pinned (OpenSpec.ofChange resampleHoldsWrong)

/- THE SECOND FORM. 'bulk': how many values and letters a reading holds, each counted each time it is reached (what is shared counts as often as it is met; a slice's spare places count too). A statement '..UptoSaid' is the law's where the arguments, and the package variables that the reading takes, are together of bulk at most 1048576: NARROWER than '..Said'. Prove '..Said' where nothing that the law and all that it calls make is longer than what came in: it says more and counts as full. Else prove '..UptoSaid'. A law counts once. -/
mutual
def uptoBulk {H : Type} : DataW H → Nat
  | .lit (.string bytes) => bytes.length + 1
  | .lit _ => 1
  | .nil => 1
  | .ptr d => uptoBulk d + 1
  | .slice elems spare => uptoBulkAll elems + uptoBulkAll spare + 1
  | .agg parts => uptoBulkAll parts + 1
  | .iface _ d => uptoBulk d + 1
  | .map entries => uptoBulkEntries entries + 1
  | .held _ => 1
def uptoBulkAll {H : Type} : List (DataW H) → Nat
  | [] => 0
  | d :: r => uptoBulk d + uptoBulkAll r
def uptoBulkEntries {H : Type} : List (Lit × DataW H) → Nat
  | [] => 0
  | x :: r => uptoBulkEntry x + uptoBulkEntries r
def uptoBulkEntry {H : Type} : Lit × DataW H → Nat
  | (.string bytes, d) => bytes.length + uptoBulk d + 1
  | (_, d) => uptoBulk d + 1
 end
def uptoSmall : (H : Type) → List (DataW H) → Bool := fun _ ds => decide (uptoBulkAll ds ≤ 1048576)
def OpenSpec.upto (s : _root_.Go.ChangeSpec) : _root_.Go.OpenSpec := { _root_.Go.OpenSpec.ofChange s with cond := some uptoSmall }

/-- 'lysimeterlaw21.ResamplePoints', WHERE WHAT IT READS IS OF BULK AT MOST 1048576: true; the input reads as it did. -/
def resamplePointsUptoRow : OpenClaim := { program := "ytjjmidooikgaaaa", sum := "f3927951ab6790128cdd43cd3989e095473746bdc3fee993caf0a752379a9114", func := "lysimeter/lysimeterlaw21.ResamplePoints", spec := "resamplePoints", unfollowed := true, recurses := true, apart := false, narrowed := true }
def ResamplePointsUptoSaid : Prop := resamplePointsUptoRow.holds Try.pinned (OpenSpec.upto resamplePointsSpec)

/-- 'lysimeterlaw21.ResampleWhole', WHERE WHAT IT READS IS OF BULK AT MOST 1048576: true; the input reads as it did. -/
def resampleWholeUptoRow : OpenClaim := { program := "ytjjmidooikgaaaa", sum := "f3927951ab6790128cdd43cd3989e095473746bdc3fee993caf0a752379a9114", func := "lysimeter/lysimeterlaw21.ResampleWhole", spec := "resampleWhole", unfollowed := true, recurses := true, apart := false, narrowed := true }
def ResampleWholeUptoSaid : Prop := resampleWholeUptoRow.holds Try.pinned (OpenSpec.upto resampleWholeSpec)

/-- 'lysimeterlaw21.ResampleHolds', WHERE WHAT IT READS IS OF BULK AT MOST 1048576: true; the input reads as it did. -/
def resampleHoldsUptoRow : OpenClaim := { program := "ytjjmidooikgaaaa", sum := "f3927951ab6790128cdd43cd3989e095473746bdc3fee993caf0a752379a9114", func := "lysimeter/lysimeterlaw21.ResampleHolds", spec := "resampleHolds", unfollowed := true, recurses := true, apart := false, narrowed := true }
def ResampleHoldsUptoSaid : Prop := resampleHoldsUptoRow.holds Try.pinned (OpenSpec.upto resampleHoldsSpec)

end Rows
end Go.Proofs.Ytjjmidooikgaaaa
