/-
  No cell of these rows narrows 'for every input' (looked for: loops, veiled, ifaces, maps, wideKeys, modest, calm, conditions, laid).
  DERIVED. THE GIVEN ROWS OF THIS SEAT. 3 by the template 'for every input the law returns true; each argument reads behind the call as it read before'; 0 by the template 'total and deterministic' (their statements: YtpajpnjkgojafaaTotals.lean).
  GIVEN WITH THE SEED: the statements are not yours to turn. If you find one false, say at which input.
  Laid BY PROGRAM, IN A SANDBOX (cutbox-rows.mjs): the forced cells as the released guide's own fill.sh prints them over the translation 8153567ff3bc3043… (all of the seat's roots in one cut). By AI agents, Wed Nov 11 2026. No macro, syntax, notation, axiom, sorry.
-/
import Derived.Test.YtpajpnjkgojafaaChecked
import GoSem.Claim
import GoSem.ClaimJoined
import GoSem.ClaimMapViews
import Derived.JoinedTies
import Derived.KernelRfl
namespace Go.Proofs.Ytpajpnjkgojafaa
/- THE CELL 'sum', in the pinned program and in every row, IS THE sha256 OF THE DUMP (.gsa) THAT YtpajpnjkgojafaaProg.lean LOADS. Nothing in Lean hashes anything: it is a label: what it is worth is what the hold of that sum in a sandbox is worth. -/
noncomputable def Try.pinned : Pinned := { name := "ytpajpnjkgojafaa", sum := "8153567ff3bc3043303694cfa40ff529b6da9af0da50ac6c568582fc81badc1c", checked := Try.checked }
namespace Rows
def none {H : Type} : Left H := { results := [], args := [] }

/-- 'lysimeterlaw7.ValuesPacks': WHATEVER THE INPUT: true; the input reads as it did. -/
def valuesPacksSpec : ChangeSpec := { name := "valuesPacks", fn := fun _ => fun
  | [d1, d2] => { results := [.lit (.bool true)], args := [d1, d2] }
  | _ => none }
def valuesPacksRow : OpenClaim := { program := "ytpajpnjkgojafaa", sum := "8153567ff3bc3043303694cfa40ff529b6da9af0da50ac6c568582fc81badc1c", func := "lysimeter/lysimeterlaw7.ValuesPacks", spec := "valuesPacks", unfollowed := true, recurses := true, apart := false }
def ValuesPacksSaid : Prop := valuesPacksRow.holds Try.pinned (OpenSpec.ofChange valuesPacksSpec)

/-- ITS FALSE NEIGHBOUR: 'it returns false'. Refute it at one input. -/
def valuesPacksWrong : ChangeSpec := { name := "valuesPacks", fn := fun _ => fun
  | [d1, d2] => { results := [.lit (.bool false)], args := [d1, d2] }
  | _ => none }
def ValuesPacksWrongFalsely : Prop := valuesPacksRow.holds Try.pinned (OpenSpec.ofChange valuesPacksWrong)

/-- 'lysimeterlaw7.ValuesReads': WHATEVER THE INPUT: true; the input reads as it did. -/
def valuesReadsSpec : ChangeSpec := { name := "valuesReads", fn := fun _ => fun
  | [d1, d2] => { results := [.lit (.bool true)], args := [d1, d2] }
  | _ => none }
def valuesReadsRow : OpenClaim := { program := "ytpajpnjkgojafaa", sum := "8153567ff3bc3043303694cfa40ff529b6da9af0da50ac6c568582fc81badc1c", func := "lysimeter/lysimeterlaw7.ValuesReads", spec := "valuesReads", unfollowed := true, recurses := true, apart := false }
def ValuesReadsSaid : Prop := valuesReadsRow.holds Try.pinned (OpenSpec.ofChange valuesReadsSpec)

/-- ITS FALSE NEIGHBOUR: 'it returns false'. Refute it at one input. -/
def valuesReadsWrong : ChangeSpec := { name := "valuesReads", fn := fun _ => fun
  | [d1, d2] => { results := [.lit (.bool false)], args := [d1, d2] }
  | _ => none }
def ValuesReadsWrongFalsely : Prop := valuesReadsRow.holds Try.pinned (OpenSpec.ofChange valuesReadsWrong)

/-- 'lysimeterlaw7.ValuesStill': WHATEVER THE INPUT: true; the input reads as it did. -/
def valuesStillSpec : ChangeSpec := { name := "valuesStill", fn := fun _ => fun
  | [d1, d2, d3] => { results := [.lit (.bool true)], args := [d1, d2, d3] }
  | _ => none }
def valuesStillRow : OpenClaim := { program := "ytpajpnjkgojafaa", sum := "8153567ff3bc3043303694cfa40ff529b6da9af0da50ac6c568582fc81badc1c", func := "lysimeter/lysimeterlaw7.ValuesStill", spec := "valuesStill", apart := false }
def ValuesStillSaid : Prop := valuesStillRow.holds Try.pinned (OpenSpec.ofChange valuesStillSpec)

/-- ITS FALSE NEIGHBOUR: 'it returns false'. Refute it at one input. -/
def valuesStillWrong : ChangeSpec := { name := "valuesStill", fn := fun _ => fun
  | [d1, d2, d3] => { results := [.lit (.bool false)], args := [d1, d2, d3] }
  | _ => none }
def ValuesStillWrongFalsely : Prop := valuesStillRow.holds Try.pinned (OpenSpec.ofChange valuesStillWrong)

/- THE SECOND FORM. 'bulk': how many values and letters a reading holds, each counted each time it is reached (what is shared counts as often as it is met; a slice's spare places count too). A statement '..UptoSaid' is the law's where the arguments, and the package variables that the reading takes, are together of bulk at most 1048576: NARROWER than '..Said'. Prove '..Said' where nothing that the law and all that it calls make is longer than what came in: it says more and counts as full. Else prove '..UptoSaid'. A law counts once. -/
mutual
def uptoBulk {H : Type} : DataW H → Nat
  | .lit (.string bytes) => bytes.length + 1
  | .lit _ => 1
  | .nil => 1
  | .ptr d => uptoBulk d + 1
  | .slice elems spare => uptoBulkAll elems + uptoBulkAll spare + 1
  | .agg parts => uptoBulkAll parts + 1
  | .iface _ d => uptoBulk d + 1
  | .map entries => uptoBulkEntries entries + 1
  | .held _ => 1
def uptoBulkAll {H : Type} : List (DataW H) → Nat
  | [] => 0
  | d :: r => uptoBulk d + uptoBulkAll r
def uptoBulkEntries {H : Type} : List (Lit × DataW H) → Nat
  | [] => 0
  | x :: r => uptoBulkEntry x + uptoBulkEntries r
def uptoBulkEntry {H : Type} : Lit × DataW H → Nat
  | (.string bytes, d) => bytes.length + uptoBulk d + 1
  | (_, d) => uptoBulk d + 1
 end
def uptoSmall : (H : Type) → List (DataW H) → Bool := fun _ ds => decide (uptoBulkAll ds ≤ 1048576)
def OpenSpec.upto (s : _root_.Go.ChangeSpec) : _root_.Go.OpenSpec := { _root_.Go.OpenSpec.ofChange s with cond := some uptoSmall }

/-- 'lysimeterlaw7.ValuesPacks', WHERE WHAT IT READS IS OF BULK AT MOST 1048576: true; the input reads as it did. -/
def valuesPacksUptoRow : OpenClaim := { program := "ytpajpnjkgojafaa", sum := "8153567ff3bc3043303694cfa40ff529b6da9af0da50ac6c568582fc81badc1c", func := "lysimeter/lysimeterlaw7.ValuesPacks", spec := "valuesPacks", unfollowed := true, recurses := true, apart := false, narrowed := true }
def ValuesPacksUptoSaid : Prop := valuesPacksUptoRow.holds Try.pinned (OpenSpec.upto valuesPacksSpec)

/-- 'lysimeterlaw7.ValuesReads', WHERE WHAT IT READS IS OF BULK AT MOST 1048576: true; the input reads as it did. -/
def valuesReadsUptoRow : OpenClaim := { program := "ytpajpnjkgojafaa", sum := "8153567ff3bc3043303694cfa40ff529b6da9af0da50ac6c568582fc81badc1c", func := "lysimeter/lysimeterlaw7.ValuesReads", spec := "valuesReads", unfollowed := true, recurses := true, apart := false, narrowed := true }
def ValuesReadsUptoSaid : Prop := valuesReadsUptoRow.holds Try.pinned (OpenSpec.upto valuesReadsSpec)

/-- 'lysimeterlaw7.ValuesStill', WHERE WHAT IT READS IS OF BULK AT MOST 1048576: true; the input reads as it did. -/
def valuesStillUptoRow : OpenClaim := { program := "ytpajpnjkgojafaa", sum := "8153567ff3bc3043303694cfa40ff529b6da9af0da50ac6c568582fc81badc1c", func := "lysimeter/lysimeterlaw7.ValuesStill", spec := "valuesStill", apart := false, narrowed := true }
def ValuesStillUptoSaid : Prop := valuesStillUptoRow.holds Try.pinned (OpenSpec.upto valuesStillSpec)

end Rows
end Go.Proofs.Ytpajpnjkgojafaa
