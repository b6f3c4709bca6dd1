/-
  No cell of these rows narrows 'for every input' (looked for: loops, veiled, ifaces, maps, wideKeys, modest, calm, conditions, laid).
  DERIVED. THE GIVEN ROWS OF THIS SEAT. 4 by the template 'for every input the law returns true; each argument reads behind the call as it read before'; 0 by the template 'total and deterministic' (their statements: YtghofnopdcklnaaTotals.lean).
  GIVEN WITH THE SEED: the statements are not yours to turn. If you find one false, say at which input.
  Laid BY PROGRAM, IN A SANDBOX (cutbox-rows.mjs): the forced cells as the released guide's own fill.sh prints them over the translation c9bb5b44cac3c1a5… (all of the seat's roots in one cut). By AI agents, Wed Nov 11 2026. No macro, syntax, notation, axiom, sorry.
-/
import Derived.Test.YtghofnopdcklnaaChecked
import GoSem.Claim
import GoSem.ClaimJoined
import GoSem.ClaimMapViews
import Derived.JoinedTies
import Derived.KernelRfl
namespace Go.Proofs.Ytghofnopdcklnaa
/- THE CELL 'sum', in the pinned program and in every row, IS THE sha256 OF THE DUMP (.gsa) THAT YtghofnopdcklnaaProg.lean LOADS. Nothing in Lean hashes anything: it is a label: what it is worth is what the hold of that sum in a sandbox is worth. -/
noncomputable def Try.pinned : Pinned := { name := "ytghofnopdcklnaa", sum := "c9bb5b44cac3c1a57c335a7b44f0318ef7807a7ddaedbb80f9195c1c21b93dbd", checked := Try.checked }
namespace Rows
def none {H : Type} : Left H := { results := [], args := [] }

/-- 'lysimeterlaw3.DiskPlays': WHATEVER THE INPUT: true; the input reads as it did. -/
def diskPlaysSpec : ChangeSpec := { name := "diskPlays", fn := fun _ => fun
  | [d1, d2] => { results := [.lit (.bool true)], args := [d1, d2] }
  | _ => none }
def diskPlaysRow : OpenClaim := { program := "ytghofnopdcklnaa", sum := "c9bb5b44cac3c1a57c335a7b44f0318ef7807a7ddaedbb80f9195c1c21b93dbd", func := "lysimeter/lysimeterlaw3.DiskPlays", spec := "diskPlays", unfollowed := true, recurses := true, apart := false }
def DiskPlaysSaid : Prop := diskPlaysRow.holds Try.pinned (OpenSpec.ofChange diskPlaysSpec)

/-- ITS FALSE NEIGHBOUR: 'it returns false'. Refute it at one input. -/
def diskPlaysWrong : ChangeSpec := { name := "diskPlays", fn := fun _ => fun
  | [d1, d2] => { results := [.lit (.bool false)], args := [d1, d2] }
  | _ => none }
def DiskPlaysWrongFalsely : Prop := diskPlaysRow.holds Try.pinned (OpenSpec.ofChange diskPlaysWrong)

/-- 'lysimeterlaw6.StampsPacks': WHATEVER THE INPUT: true; the input reads as it did. -/
def stampsPacksSpec : ChangeSpec := { name := "stampsPacks", fn := fun _ => fun
  | [d1, d2] => { results := [.lit (.bool true)], args := [d1, d2] }
  | _ => none }
def stampsPacksRow : OpenClaim := { program := "ytghofnopdcklnaa", sum := "c9bb5b44cac3c1a57c335a7b44f0318ef7807a7ddaedbb80f9195c1c21b93dbd", func := "lysimeter/lysimeterlaw6.StampsPacks", spec := "stampsPacks", unfollowed := true, recurses := true, apart := false }
def StampsPacksSaid : Prop := stampsPacksRow.holds Try.pinned (OpenSpec.ofChange stampsPacksSpec)

/-- ITS FALSE NEIGHBOUR: 'it returns false'. Refute it at one input. -/
def stampsPacksWrong : ChangeSpec := { name := "stampsPacks", fn := fun _ => fun
  | [d1, d2] => { results := [.lit (.bool false)], args := [d1, d2] }
  | _ => none }
def StampsPacksWrongFalsely : Prop := stampsPacksRow.holds Try.pinned (OpenSpec.ofChange stampsPacksWrong)

/-- 'lysimeterlaw6.StampsReads': WHATEVER THE INPUT: true; the input reads as it did. -/
def stampsReadsSpec : ChangeSpec := { name := "stampsReads", fn := fun _ => fun
  | [d1, d2] => { results := [.lit (.bool true)], args := [d1, d2] }
  | _ => none }
def stampsReadsRow : OpenClaim := { program := "ytghofnopdcklnaa", sum := "c9bb5b44cac3c1a57c335a7b44f0318ef7807a7ddaedbb80f9195c1c21b93dbd", func := "lysimeter/lysimeterlaw6.StampsReads", spec := "stampsReads", unfollowed := true, recurses := true, apart := false }
def StampsReadsSaid : Prop := stampsReadsRow.holds Try.pinned (OpenSpec.ofChange stampsReadsSpec)

/-- ITS FALSE NEIGHBOUR: 'it returns false'. Refute it at one input. -/
def stampsReadsWrong : ChangeSpec := { name := "stampsReads", fn := fun _ => fun
  | [d1, d2] => { results := [.lit (.bool false)], args := [d1, d2] }
  | _ => none }
def StampsReadsWrongFalsely : Prop := stampsReadsRow.holds Try.pinned (OpenSpec.ofChange stampsReadsWrong)

/-- 'lysimeterlaw6.StampsSteady': WHATEVER THE INPUT: true; the input reads as it did. -/
def stampsSteadySpec : ChangeSpec := { name := "stampsSteady", fn := fun _ => fun
  | [d1, d2, d3] => { results := [.lit (.bool true)], args := [d1, d2, d3] }
  | _ => none }
def stampsSteadyRow : OpenClaim := { program := "ytghofnopdcklnaa", sum := "c9bb5b44cac3c1a57c335a7b44f0318ef7807a7ddaedbb80f9195c1c21b93dbd", func := "lysimeter/lysimeterlaw6.StampsSteady", spec := "stampsSteady", apart := false }
def StampsSteadySaid : Prop := stampsSteadyRow.holds Try.pinned (OpenSpec.ofChange stampsSteadySpec)

/-- ITS FALSE NEIGHBOUR: 'it returns false'. Refute it at one input. -/
def stampsSteadyWrong : ChangeSpec := { name := "stampsSteady", fn := fun _ => fun
  | [d1, d2, d3] => { results := [.lit (.bool false)], args := [d1, d2, d3] }
  | _ => none }
def StampsSteadyWrongFalsely : Prop := stampsSteadyRow.holds Try.pinned (OpenSpec.ofChange stampsSteadyWrong)

/- THE SECOND FORM. 'bulk': how many values and letters a reading holds, each counted each time it is reached (what is shared counts as often as it is met; a slice's spare places count too). A statement '..UptoSaid' is the law's where the arguments, and the package variables that the reading takes, are together of bulk at most 1048576: NARROWER than '..Said'. Prove '..Said' where nothing that the law and all that it calls make is longer than what came in: it says more and counts as full. Else prove '..UptoSaid'. A law counts once. -/
mutual
def uptoBulk {H : Type} : DataW H → Nat
  | .lit (.string bytes) => bytes.length + 1
  | .lit _ => 1
  | .nil => 1
  | .ptr d => uptoBulk d + 1
  | .slice elems spare => uptoBulkAll elems + uptoBulkAll spare + 1
  | .agg parts => uptoBulkAll parts + 1
  | .iface _ d => uptoBulk d + 1
  | .map entries => uptoBulkEntries entries + 1
  | .held _ => 1
def uptoBulkAll {H : Type} : List (DataW H) → Nat
  | [] => 0
  | d :: r => uptoBulk d + uptoBulkAll r
def uptoBulkEntries {H : Type} : List (Lit × DataW H) → Nat
  | [] => 0
  | x :: r => uptoBulkEntry x + uptoBulkEntries r
def uptoBulkEntry {H : Type} : Lit × DataW H → Nat
  | (.string bytes, d) => bytes.length + uptoBulk d + 1
  | (_, d) => uptoBulk d + 1
 end
def uptoSmall : (H : Type) → List (DataW H) → Bool := fun _ ds => decide (uptoBulkAll ds ≤ 1048576)
def OpenSpec.upto (s : _root_.Go.ChangeSpec) : _root_.Go.OpenSpec := { _root_.Go.OpenSpec.ofChange s with cond := some uptoSmall }

/-- 'lysimeterlaw3.DiskPlays', WHERE WHAT IT READS IS OF BULK AT MOST 1048576: true; the input reads as it did. -/
def diskPlaysUptoRow : OpenClaim := { program := "ytghofnopdcklnaa", sum := "c9bb5b44cac3c1a57c335a7b44f0318ef7807a7ddaedbb80f9195c1c21b93dbd", func := "lysimeter/lysimeterlaw3.DiskPlays", spec := "diskPlays", unfollowed := true, recurses := true, apart := false, narrowed := true }
def DiskPlaysUptoSaid : Prop := diskPlaysUptoRow.holds Try.pinned (OpenSpec.upto diskPlaysSpec)

/-- 'lysimeterlaw6.StampsPacks', WHERE WHAT IT READS IS OF BULK AT MOST 1048576: true; the input reads as it did. -/
def stampsPacksUptoRow : OpenClaim := { program := "ytghofnopdcklnaa", sum := "c9bb5b44cac3c1a57c335a7b44f0318ef7807a7ddaedbb80f9195c1c21b93dbd", func := "lysimeter/lysimeterlaw6.StampsPacks", spec := "stampsPacks", unfollowed := true, recurses := true, apart := false, narrowed := true }
def StampsPacksUptoSaid : Prop := stampsPacksUptoRow.holds Try.pinned (OpenSpec.upto stampsPacksSpec)

/-- 'lysimeterlaw6.StampsReads', WHERE WHAT IT READS IS OF BULK AT MOST 1048576: true; the input reads as it did. -/
def stampsReadsUptoRow : OpenClaim := { program := "ytghofnopdcklnaa", sum := "c9bb5b44cac3c1a57c335a7b44f0318ef7807a7ddaedbb80f9195c1c21b93dbd", func := "lysimeter/lysimeterlaw6.StampsReads", spec := "stampsReads", unfollowed := true, recurses := true, apart := false, narrowed := true }
def StampsReadsUptoSaid : Prop := stampsReadsUptoRow.holds Try.pinned (OpenSpec.upto stampsReadsSpec)

/-- 'lysimeterlaw6.StampsSteady', WHERE WHAT IT READS IS OF BULK AT MOST 1048576: true; the input reads as it did. -/
def stampsSteadyUptoRow : OpenClaim := { program := "ytghofnopdcklnaa", sum := "c9bb5b44cac3c1a57c335a7b44f0318ef7807a7ddaedbb80f9195c1c21b93dbd", func := "lysimeter/lysimeterlaw6.StampsSteady", spec := "stampsSteady", apart := false, narrowed := true }
def StampsSteadyUptoSaid : Prop := stampsSteadyUptoRow.holds Try.pinned (OpenSpec.upto stampsSteadySpec)

end Rows
end Go.Proofs.Ytghofnopdcklnaa
