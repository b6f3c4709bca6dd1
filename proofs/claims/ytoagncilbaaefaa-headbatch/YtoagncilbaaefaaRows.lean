/-
  No cell of these rows narrows 'for every input' (looked for: loops, veiled, ifaces, maps, wideKeys, modest, calm, conditions, laid).
  DERIVED. THE GIVEN ROWS OF THIS SEAT. 3 by the template 'for every input the law returns true; each argument reads behind the call as it read before'; 0 by the template 'total and deterministic' (their statements: YtoagncilbaaefaaTotals.lean).
  GIVEN WITH THE SEED: the statements are not yours to turn. If you find one false, say at which input.
  Laid BY PROGRAM, IN A SANDBOX (cutbox-rows.mjs): the forced cells as the released guide's own fill.sh prints them over the translation a361d2c7c771ef94… (all of the seat's roots in one cut). By AI agents, Wed Nov 11 2026. No macro, syntax, notation, axiom, sorry.
-/
import Derived.Test.YtoagncilbaaefaaChecked
import GoSem.Claim
import GoSem.ClaimJoined
import GoSem.ClaimMapViews
import Derived.JoinedTies
import Derived.KernelRfl
namespace Go.Proofs.Ytoagncilbaaefaa
/- THE CELL 'sum', in the pinned program and in every row, IS THE sha256 OF THE DUMP (.gsa) THAT YtoagncilbaaefaaProg.lean LOADS. Nothing in Lean hashes anything: it is a label: what it is worth is what the hold of that sum in a sandbox is worth. -/
noncomputable def Try.pinned : Pinned := { name := "ytoagncilbaaefaa", sum := "a361d2c7c771ef94e3f1e2ed7d5c3ff4978ffcecbf2a6469be10b7f3d63db4c5", checked := Try.checked }
namespace Rows
def none {H : Type} : Left H := { results := [], args := [] }

/-- 'lysimeterlaw13.HeadLast': WHATEVER THE INPUT: true; the input reads as it did. -/
def headLastSpec : ChangeSpec := { name := "headLast", fn := fun _ => fun
  | [d1, d2] => { results := [.lit (.bool true)], args := [d1, d2] }
  | _ => none }
def headLastRow : OpenClaim := { program := "ytoagncilbaaefaa", sum := "a361d2c7c771ef94e3f1e2ed7d5c3ff4978ffcecbf2a6469be10b7f3d63db4c5", func := "lysimeter/lysimeterlaw13.HeadLast", spec := "headLast", inPlace := ["slices.overlaps[lysimeter/api.Label]", "internal/abi.NoEscape", "internal/bytealg.IndexByteString", "internal/bytealg.IndexString", "slices.overlaps[lysimeter/api.Sample]"], unfollowed := true, recurses := true, named := ["internal/bytealg.MaxLen"], apart := false }
def HeadLastSaid : Prop := headLastRow.holds Try.pinned (OpenSpec.ofChange headLastSpec)

/-- ITS FALSE NEIGHBOUR: 'it returns false'. Refute it at one input. -/
def headLastWrong : ChangeSpec := { name := "headLast", fn := fun _ => fun
  | [d1, d2] => { results := [.lit (.bool false)], args := [d1, d2] }
  | _ => none }
def HeadLastWrongFalsely : Prop := headLastRow.holds Try.pinned (OpenSpec.ofChange headLastWrong)

/-- 'lysimeterlaw13.HeadWindow': WHATEVER THE INPUT: true; the input reads as it did. -/
def headWindowSpec : ChangeSpec := { name := "headWindow", fn := fun _ => fun
  | [d1, d2, d3] => { results := [.lit (.bool true)], args := [d1, d2, d3] }
  | _ => none }
def headWindowRow : OpenClaim := { program := "ytoagncilbaaefaa", sum := "a361d2c7c771ef94e3f1e2ed7d5c3ff4978ffcecbf2a6469be10b7f3d63db4c5", func := "lysimeter/lysimeterlaw13.HeadWindow", spec := "headWindow", inPlace := ["slices.overlaps[lysimeter/api.Label]", "internal/abi.NoEscape", "internal/bytealg.IndexByteString", "internal/bytealg.IndexString", "slices.overlaps[lysimeter/api.Sample]"], unfollowed := true, recurses := true, named := ["internal/bytealg.MaxLen"], apart := false }
def HeadWindowSaid : Prop := headWindowRow.holds Try.pinned (OpenSpec.ofChange headWindowSpec)

/-- ITS FALSE NEIGHBOUR: 'it returns false'. Refute it at one input. -/
def headWindowWrong : ChangeSpec := { name := "headWindow", fn := fun _ => fun
  | [d1, d2, d3] => { results := [.lit (.bool false)], args := [d1, d2, d3] }
  | _ => none }
def HeadWindowWrongFalsely : Prop := headWindowRow.holds Try.pinned (OpenSpec.ofChange headWindowWrong)

/-- 'lysimeterlaw13.HeadBatch': WHATEVER THE INPUT: true; the input reads as it did. -/
def headBatchSpec : ChangeSpec := { name := "headBatch", fn := fun _ => fun
  | [d1, d2] => { results := [.lit (.bool true)], args := [d1, d2] }
  | _ => none }
def headBatchRow : OpenClaim := { program := "ytoagncilbaaefaa", sum := "a361d2c7c771ef94e3f1e2ed7d5c3ff4978ffcecbf2a6469be10b7f3d63db4c5", func := "lysimeter/lysimeterlaw13.HeadBatch", spec := "headBatch", inPlace := ["slices.overlaps[lysimeter/api.Label]", "internal/abi.NoEscape", "internal/bytealg.IndexByteString", "internal/bytealg.IndexString", "slices.overlaps[lysimeter/api.Sample]", "internal/bytealg.abigen_runtime_cmpstring"], unfollowed := true, recurses := true, named := ["internal/bytealg.MaxLen"], apart := false }
def HeadBatchSaid : Prop := headBatchRow.holds Try.pinned (OpenSpec.ofChange headBatchSpec)

/-- ITS FALSE NEIGHBOUR: 'it returns false'. Refute it at one input. -/
def headBatchWrong : ChangeSpec := { name := "headBatch", fn := fun _ => fun
  | [d1, d2] => { results := [.lit (.bool false)], args := [d1, d2] }
  | _ => none }
def HeadBatchWrongFalsely : Prop := headBatchRow.holds Try.pinned (OpenSpec.ofChange headBatchWrong)

/- THE SECOND FORM. 'bulk': how many values and letters a reading holds, each counted each time it is reached (what is shared counts as often as it is met; a slice's spare places count too). A statement '..UptoSaid' is the law's where the arguments, and the package variables that the reading takes, are together of bulk at most 1048576: NARROWER than '..Said'. Prove '..Said' where nothing that the law and all that it calls make is longer than what came in: it says more and counts as full. Else prove '..UptoSaid'. A law counts once. -/
mutual
def uptoBulk {H : Type} : DataW H → Nat
  | .lit (.string bytes) => bytes.length + 1
  | .lit _ => 1
  | .nil => 1
  | .ptr d => uptoBulk d + 1
  | .slice elems spare => uptoBulkAll elems + uptoBulkAll spare + 1
  | .agg parts => uptoBulkAll parts + 1
  | .iface _ d => uptoBulk d + 1
  | .map entries => uptoBulkEntries entries + 1
  | .held _ => 1
def uptoBulkAll {H : Type} : List (DataW H) → Nat
  | [] => 0
  | d :: r => uptoBulk d + uptoBulkAll r
def uptoBulkEntries {H : Type} : List (Lit × DataW H) → Nat
  | [] => 0
  | x :: r => uptoBulkEntry x + uptoBulkEntries r
def uptoBulkEntry {H : Type} : Lit × DataW H → Nat
  | (.string bytes, d) => bytes.length + uptoBulk d + 1
  | (_, d) => uptoBulk d + 1
 end
def uptoSmall : (H : Type) → List (DataW H) → Bool := fun _ ds => decide (uptoBulkAll ds ≤ 1048576)
def OpenSpec.upto (s : _root_.Go.ChangeSpec) : _root_.Go.OpenSpec := { _root_.Go.OpenSpec.ofChange s with cond := some uptoSmall }

/-- 'lysimeterlaw13.HeadLast', WHERE WHAT IT READS IS OF BULK AT MOST 1048576: true; the input reads as it did. -/
def headLastUptoRow : OpenClaim := { program := "ytoagncilbaaefaa", sum := "a361d2c7c771ef94e3f1e2ed7d5c3ff4978ffcecbf2a6469be10b7f3d63db4c5", func := "lysimeter/lysimeterlaw13.HeadLast", spec := "headLast", inPlace := ["slices.overlaps[lysimeter/api.Label]", "internal/abi.NoEscape", "internal/bytealg.IndexByteString", "internal/bytealg.IndexString", "slices.overlaps[lysimeter/api.Sample]"], unfollowed := true, recurses := true, named := ["internal/bytealg.MaxLen"], apart := false, narrowed := true }
def HeadLastUptoSaid : Prop := headLastUptoRow.holds Try.pinned (OpenSpec.upto headLastSpec)

/-- 'lysimeterlaw13.HeadWindow', WHERE WHAT IT READS IS OF BULK AT MOST 1048576: true; the input reads as it did. -/
def headWindowUptoRow : OpenClaim := { program := "ytoagncilbaaefaa", sum := "a361d2c7c771ef94e3f1e2ed7d5c3ff4978ffcecbf2a6469be10b7f3d63db4c5", func := "lysimeter/lysimeterlaw13.HeadWindow", spec := "headWindow", inPlace := ["slices.overlaps[lysimeter/api.Label]", "internal/abi.NoEscape", "internal/bytealg.IndexByteString", "internal/bytealg.IndexString", "slices.overlaps[lysimeter/api.Sample]"], unfollowed := true, recurses := true, named := ["internal/bytealg.MaxLen"], apart := false, narrowed := true }
def HeadWindowUptoSaid : Prop := headWindowUptoRow.holds Try.pinned (OpenSpec.upto headWindowSpec)

/-- 'lysimeterlaw13.HeadBatch', WHERE WHAT IT READS IS OF BULK AT MOST 1048576: true; the input reads as it did. -/
def headBatchUptoRow : OpenClaim := { program := "ytoagncilbaaefaa", sum := "a361d2c7c771ef94e3f1e2ed7d5c3ff4978ffcecbf2a6469be10b7f3d63db4c5", func := "lysimeter/lysimeterlaw13.HeadBatch", spec := "headBatch", inPlace := ["slices.overlaps[lysimeter/api.Label]", "internal/abi.NoEscape", "internal/bytealg.IndexByteString", "internal/bytealg.IndexString", "slices.overlaps[lysimeter/api.Sample]", "internal/bytealg.abigen_runtime_cmpstring"], unfollowed := true, recurses := true, named := ["internal/bytealg.MaxLen"], apart := false, narrowed := true }
def HeadBatchUptoSaid : Prop := headBatchUptoRow.holds Try.pinned (OpenSpec.upto headBatchSpec)

end Rows
end Go.Proofs.Ytoagncilbaaefaa
