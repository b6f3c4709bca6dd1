/-
  No cell of these rows narrows 'for every input' (looked for: loops, veiled, ifaces, maps, wideKeys, modest, calm, conditions, laid).
  DERIVED. THE GIVEN ROWS OF THIS SEAT. 5 by the template 'for every input the law returns true; each argument reads behind the call as it read before'; 0 by the template 'total and deterministic' (their statements: YtfpncddoaenffaaTotals.lean).
  GIVEN WITH THE SEED: the statements are not yours to turn. If you find one false, say at which input.
  Laid BY PROGRAM, IN A SANDBOX (cutbox-rows.mjs): the forced cells as the released guide's own fill.sh prints them over the translation 114bdc6655214c68… (all of the seat's roots in one cut). By AI agents, Wed Nov 11 2026. No macro, syntax, notation, axiom, sorry.
-/
import Derived.Test.YtfpncddoaenffaaChecked
import GoSem.Claim
import GoSem.ClaimJoined
import GoSem.ClaimMapViews
import Derived.JoinedTies
import Derived.KernelRfl
namespace Go.Proofs.Ytfpncddoaenffaa
/- THE CELL 'sum', in the pinned program and in every row, IS THE sha256 OF THE DUMP (.gsa) THAT YtfpncddoaenffaaProg.lean LOADS. Nothing in Lean hashes anything: it is a label: what it is worth is what the hold of that sum in a sandbox is worth. -/
noncomputable def Try.pinned : Pinned := { name := "ytfpncddoaenffaa", sum := "114bdc6655214c687040775cc3014827616289607ef0a492a159c5ce1d34a604", checked := Try.checked }
namespace Rows
def none {H : Type} : Left H := { results := [], args := [] }

/-- 'lysimeterlaw11.LabelsMake': WHATEVER THE INPUT: true; the input reads as it did. -/
def labelsMakeSpec : ChangeSpec := { name := "labelsMake", fn := fun _ => fun
  | [d1, d2] => { results := [.lit (.bool true)], args := [d1, d2] }
  | _ => none }
def labelsMakeRow : OpenClaim := { program := "ytfpncddoaenffaa", sum := "114bdc6655214c687040775cc3014827616289607ef0a492a159c5ce1d34a604", func := "lysimeter/lysimeterlaw11.LabelsMake", spec := "labelsMake", inPlace := ["slices.overlaps[lysimeter/api.Label]", "internal/abi.NoEscape"], apart := false }
def LabelsMakeSaid : Prop := labelsMakeRow.holds Try.pinned (OpenSpec.ofChange labelsMakeSpec)

/-- ITS FALSE NEIGHBOUR: 'it returns false'. Refute it at one input. -/
def labelsMakeWrong : ChangeSpec := { name := "labelsMake", fn := fun _ => fun
  | [d1, d2] => { results := [.lit (.bool false)], args := [d1, d2] }
  | _ => none }
def LabelsMakeWrongFalsely : Prop := labelsMakeRow.holds Try.pinned (OpenSpec.ofChange labelsMakeWrong)

/-- 'lysimeterlaw11.LabelsText': WHATEVER THE INPUT: true; the input reads as it did. -/
def labelsTextSpec : ChangeSpec := { name := "labelsText", fn := fun _ => fun
  | [d] => { results := [.lit (.bool true)], args := [d] }
  | _ => none }
def labelsTextRow : OpenClaim := { program := "ytfpncddoaenffaa", sum := "114bdc6655214c687040775cc3014827616289607ef0a492a159c5ce1d34a604", func := "lysimeter/lysimeterlaw11.LabelsText", spec := "labelsText", inPlace := ["slices.overlaps[lysimeter/api.Label]", "internal/abi.NoEscape", "internal/bytealg.IndexByteString", "internal/bytealg.IndexString"], named := ["internal/bytealg.MaxLen"], apart := false }
def LabelsTextSaid : Prop := labelsTextRow.holds Try.pinned (OpenSpec.ofChange labelsTextSpec)

/-- ITS FALSE NEIGHBOUR: 'it returns false'. Refute it at one input. -/
def labelsTextWrong : ChangeSpec := { name := "labelsText", fn := fun _ => fun
  | [d] => { results := [.lit (.bool false)], args := [d] }
  | _ => none }
def LabelsTextWrongFalsely : Prop := labelsTextRow.holds Try.pinned (OpenSpec.ofChange labelsTextWrong)

/-- 'lysimeterlaw11.LabelsParse': WHATEVER THE INPUT: true; the input reads as it did. -/
def labelsParseSpec : ChangeSpec := { name := "labelsParse", fn := fun _ => fun
  | [d] => { results := [.lit (.bool true)], args := [d] }
  | _ => none }
def labelsParseRow : OpenClaim := { program := "ytfpncddoaenffaa", sum := "114bdc6655214c687040775cc3014827616289607ef0a492a159c5ce1d34a604", func := "lysimeter/lysimeterlaw11.LabelsParse", spec := "labelsParse", inPlace := ["slices.overlaps[lysimeter/api.Label]", "internal/abi.NoEscape", "internal/bytealg.IndexByteString", "internal/bytealg.IndexString"], named := ["internal/bytealg.MaxLen"], apart := false }
def LabelsParseSaid : Prop := labelsParseRow.holds Try.pinned (OpenSpec.ofChange labelsParseSpec)

/-- ITS FALSE NEIGHBOUR: 'it returns false'. Refute it at one input. -/
def labelsParseWrong : ChangeSpec := { name := "labelsParse", fn := fun _ => fun
  | [d] => { results := [.lit (.bool false)], args := [d] }
  | _ => none }
def LabelsParseWrongFalsely : Prop := labelsParseRow.holds Try.pinned (OpenSpec.ofChange labelsParseWrong)

/-- 'lysimeterlaw11.LabelsCmp': WHATEVER THE INPUT: true; the input reads as it did. -/
def labelsCmpSpec : ChangeSpec := { name := "labelsCmp", fn := fun _ => fun
  | [d1, d2, d3] => { results := [.lit (.bool true)], args := [d1, d2, d3] }
  | _ => none }
def labelsCmpRow : OpenClaim := { program := "ytfpncddoaenffaa", sum := "114bdc6655214c687040775cc3014827616289607ef0a492a159c5ce1d34a604", func := "lysimeter/lysimeterlaw11.LabelsCmp", spec := "labelsCmp", inPlace := ["slices.overlaps[lysimeter/api.Label]", "internal/abi.NoEscape", "internal/bytealg.abigen_runtime_cmpstring"], unfollowed := true, recurses := true, apart := false }
def LabelsCmpSaid : Prop := labelsCmpRow.holds Try.pinned (OpenSpec.ofChange labelsCmpSpec)

/-- ITS FALSE NEIGHBOUR: 'it returns false'. Refute it at one input. -/
def labelsCmpWrong : ChangeSpec := { name := "labelsCmp", fn := fun _ => fun
  | [d1, d2, d3] => { results := [.lit (.bool false)], args := [d1, d2, d3] }
  | _ => none }
def LabelsCmpWrongFalsely : Prop := labelsCmpRow.holds Try.pinned (OpenSpec.ofChange labelsCmpWrong)

/-- 'lysimeterlaw11.LabelsBytes': WHATEVER THE INPUT: true; the input reads as it did. -/
def labelsBytesSpec : ChangeSpec := { name := "labelsBytes", fn := fun _ => fun
  | [d] => { results := [.lit (.bool true)], args := [d] }
  | _ => none }
def labelsBytesRow : OpenClaim := { program := "ytfpncddoaenffaa", sum := "114bdc6655214c687040775cc3014827616289607ef0a492a159c5ce1d34a604", func := "lysimeter/lysimeterlaw11.LabelsBytes", spec := "labelsBytes", inPlace := ["slices.overlaps[lysimeter/api.Label]", "internal/abi.NoEscape", "internal/bytealg.IndexByteString", "internal/bytealg.IndexString"], named := ["internal/bytealg.MaxLen"], apart := false }
def LabelsBytesSaid : Prop := labelsBytesRow.holds Try.pinned (OpenSpec.ofChange labelsBytesSpec)

/-- ITS FALSE NEIGHBOUR: 'it returns false'. Refute it at one input. -/
def labelsBytesWrong : ChangeSpec := { name := "labelsBytes", fn := fun _ => fun
  | [d] => { results := [.lit (.bool false)], args := [d] }
  | _ => none }
def LabelsBytesWrongFalsely : Prop := labelsBytesRow.holds Try.pinned (OpenSpec.ofChange labelsBytesWrong)

/- THE SECOND FORM. 'bulk': how many values and letters a reading holds, each counted each time it is reached (what is shared counts as often as it is met; a slice's spare places count too). A statement '..UptoSaid' is the law's where the arguments, and the package variables that the reading takes, are together of bulk at most 1048576: NARROWER than '..Said'. Prove '..Said' where nothing that the law and all that it calls make is longer than what came in: it says more and counts as full. Else prove '..UptoSaid'. A law counts once. -/
mutual
def uptoBulk {H : Type} : DataW H → Nat
  | .lit (.string bytes) => bytes.length + 1
  | .lit _ => 1
  | .nil => 1
  | .ptr d => uptoBulk d + 1
  | .slice elems spare => uptoBulkAll elems + uptoBulkAll spare + 1
  | .agg parts => uptoBulkAll parts + 1
  | .iface _ d => uptoBulk d + 1
  | .map entries => uptoBulkEntries entries + 1
  | .held _ => 1
def uptoBulkAll {H : Type} : List (DataW H) → Nat
  | [] => 0
  | d :: r => uptoBulk d + uptoBulkAll r
def uptoBulkEntries {H : Type} : List (Lit × DataW H) → Nat
  | [] => 0
  | x :: r => uptoBulkEntry x + uptoBulkEntries r
def uptoBulkEntry {H : Type} : Lit × DataW H → Nat
  | (.string bytes, d) => bytes.length + uptoBulk d + 1
  | (_, d) => uptoBulk d + 1
 end
def uptoSmall : (H : Type) → List (DataW H) → Bool := fun _ ds => decide (uptoBulkAll ds ≤ 1048576)
def OpenSpec.upto (s : _root_.Go.ChangeSpec) : _root_.Go.OpenSpec := { _root_.Go.OpenSpec.ofChange s with cond := some uptoSmall }

/-- 'lysimeterlaw11.LabelsMake', WHERE WHAT IT READS IS OF BULK AT MOST 1048576: true; the input reads as it did. -/
def labelsMakeUptoRow : OpenClaim := { program := "ytfpncddoaenffaa", sum := "114bdc6655214c687040775cc3014827616289607ef0a492a159c5ce1d34a604", func := "lysimeter/lysimeterlaw11.LabelsMake", spec := "labelsMake", inPlace := ["slices.overlaps[lysimeter/api.Label]", "internal/abi.NoEscape"], apart := false, narrowed := true }
def LabelsMakeUptoSaid : Prop := labelsMakeUptoRow.holds Try.pinned (OpenSpec.upto labelsMakeSpec)

/-- 'lysimeterlaw11.LabelsText', WHERE WHAT IT READS IS OF BULK AT MOST 1048576: true; the input reads as it did. -/
def labelsTextUptoRow : OpenClaim := { program := "ytfpncddoaenffaa", sum := "114bdc6655214c687040775cc3014827616289607ef0a492a159c5ce1d34a604", func := "lysimeter/lysimeterlaw11.LabelsText", spec := "labelsText", inPlace := ["slices.overlaps[lysimeter/api.Label]", "internal/abi.NoEscape", "internal/bytealg.IndexByteString", "internal/bytealg.IndexString"], named := ["internal/bytealg.MaxLen"], apart := false, narrowed := true }
def LabelsTextUptoSaid : Prop := labelsTextUptoRow.holds Try.pinned (OpenSpec.upto labelsTextSpec)

/-- 'lysimeterlaw11.LabelsParse', WHERE WHAT IT READS IS OF BULK AT MOST 1048576: true; the input reads as it did. -/
def labelsParseUptoRow : OpenClaim := { program := "ytfpncddoaenffaa", sum := "114bdc6655214c687040775cc3014827616289607ef0a492a159c5ce1d34a604", func := "lysimeter/lysimeterlaw11.LabelsParse", spec := "labelsParse", inPlace := ["slices.overlaps[lysimeter/api.Label]", "internal/abi.NoEscape", "internal/bytealg.IndexByteString", "internal/bytealg.IndexString"], named := ["internal/bytealg.MaxLen"], apart := false, narrowed := true }
def LabelsParseUptoSaid : Prop := labelsParseUptoRow.holds Try.pinned (OpenSpec.upto labelsParseSpec)

/-- 'lysimeterlaw11.LabelsCmp', WHERE WHAT IT READS IS OF BULK AT MOST 1048576: true; the input reads as it did. -/
def labelsCmpUptoRow : OpenClaim := { program := "ytfpncddoaenffaa", sum := "114bdc6655214c687040775cc3014827616289607ef0a492a159c5ce1d34a604", func := "lysimeter/lysimeterlaw11.LabelsCmp", spec := "labelsCmp", inPlace := ["slices.overlaps[lysimeter/api.Label]", "internal/abi.NoEscape", "internal/bytealg.abigen_runtime_cmpstring"], unfollowed := true, recurses := true, apart := false, narrowed := true }
def LabelsCmpUptoSaid : Prop := labelsCmpUptoRow.holds Try.pinned (OpenSpec.upto labelsCmpSpec)

/-- 'lysimeterlaw11.LabelsBytes', WHERE WHAT IT READS IS OF BULK AT MOST 1048576: true; the input reads as it did. -/
def labelsBytesUptoRow : OpenClaim := { program := "ytfpncddoaenffaa", sum := "114bdc6655214c687040775cc3014827616289607ef0a492a159c5ce1d34a604", func := "lysimeter/lysimeterlaw11.LabelsBytes", spec := "labelsBytes", inPlace := ["slices.overlaps[lysimeter/api.Label]", "internal/abi.NoEscape", "internal/bytealg.IndexByteString", "internal/bytealg.IndexString"], named := ["internal/bytealg.MaxLen"], apart := false, narrowed := true }
def LabelsBytesUptoSaid : Prop := labelsBytesUptoRow.holds Try.pinned (OpenSpec.upto labelsBytesSpec)

end Rows
end Go.Proofs.Ytfpncddoaenffaa
