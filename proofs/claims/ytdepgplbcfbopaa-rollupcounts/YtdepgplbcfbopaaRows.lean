/-
  No cell of these rows narrows 'for every input' (looked for: loops, veiled, ifaces, maps, wideKeys, modest, calm, conditions, laid).
  DERIVED. THE GIVEN ROWS OF THIS SEAT. 4 by the template 'for every input the law returns true; each argument reads behind the call as it read before'; 0 by the template 'total and deterministic' (their statements: YtdepgplbcfbopaaTotals.lean).
  GIVEN WITH THE SEED: the statements are not yours to turn. If you find one false, say at which input.
  Laid BY PROGRAM, IN A SANDBOX (cutbox-rows.mjs): the forced cells as the released guide's own fill.sh prints them over the translation 932e556e802f8fb1… (all of the seat's roots in one cut). By AI agents, Wed Nov 11 2026. No macro, syntax, notation, axiom, sorry.
-/
import Derived.Test.YtdepgplbcfbopaaChecked
import GoSem.Claim
import GoSem.ClaimJoined
import GoSem.ClaimMapViews
import Derived.JoinedTies
import Derived.KernelRfl
namespace Go.Proofs.Ytdepgplbcfbopaa
/- THE CELL 'sum', in the pinned program and in every row, IS THE sha256 OF THE DUMP (.gsa) THAT YtdepgplbcfbopaaProg.lean LOADS. Nothing in Lean hashes anything: it is a label: what it is worth is what the hold of that sum in a sandbox is worth. -/
noncomputable def Try.pinned : Pinned := { name := "ytdepgplbcfbopaa", sum := "932e556e802f8fb1bd0131efd5e581e69b1cebcff1bbf6960e0fa685f965beb0", checked := Try.checked }
namespace Rows
def none {H : Type} : Left H := { results := [], args := [] }

/-- 'lysimeterlaw19.RollupBuckets': WHATEVER THE INPUT: true; the input reads as it did. -/
def rollupBucketsSpec : ChangeSpec := { name := "rollupBuckets", fn := fun _ => fun
  | [d1, d2] => { results := [.lit (.bool true)], args := [d1, d2] }
  | _ => none }
def rollupBucketsRow : OpenClaim := { program := "ytdepgplbcfbopaa", sum := "932e556e802f8fb1bd0131efd5e581e69b1cebcff1bbf6960e0fa685f965beb0", func := "lysimeter/lysimeterlaw19.RollupBuckets", spec := "rollupBuckets", unfollowed := true, recurses := true, apart := false }
def RollupBucketsSaid : Prop := rollupBucketsRow.holds Try.pinned (OpenSpec.ofChange rollupBucketsSpec)

/-- ITS FALSE NEIGHBOUR: 'it returns false'. Refute it at one input. -/
def rollupBucketsWrong : ChangeSpec := { name := "rollupBuckets", fn := fun _ => fun
  | [d1, d2] => { results := [.lit (.bool false)], args := [d1, d2] }
  | _ => none }
def RollupBucketsWrongFalsely : Prop := rollupBucketsRow.holds Try.pinned (OpenSpec.ofChange rollupBucketsWrong)

/-- 'lysimeterlaw19.RollupFloor': WHATEVER THE INPUT: true; the input reads as it did. -/
def rollupFloorSpec : ChangeSpec := { name := "rollupFloor", fn := fun _ => fun
  | [d1, d2] => { results := [.lit (.bool true)], args := [d1, d2] }
  | _ => none }
def rollupFloorRow : OpenClaim := { program := "ytdepgplbcfbopaa", sum := "932e556e802f8fb1bd0131efd5e581e69b1cebcff1bbf6960e0fa685f965beb0", func := "lysimeter/lysimeterlaw19.RollupFloor", spec := "rollupFloor", unfollowed := true, recurses := true, apart := false }
def RollupFloorSaid : Prop := rollupFloorRow.holds Try.pinned (OpenSpec.ofChange rollupFloorSpec)

/-- ITS FALSE NEIGHBOUR: 'it returns false'. Refute it at one input. -/
def rollupFloorWrong : ChangeSpec := { name := "rollupFloor", fn := fun _ => fun
  | [d1, d2] => { results := [.lit (.bool false)], args := [d1, d2] }
  | _ => none }
def RollupFloorWrongFalsely : Prop := rollupFloorRow.holds Try.pinned (OpenSpec.ofChange rollupFloorWrong)

/-- 'lysimeterlaw19.RollupTwice': WHATEVER THE INPUT: true; the input reads as it did. -/
def rollupTwiceSpec : ChangeSpec := { name := "rollupTwice", fn := fun _ => fun
  | [d1, d2, d3] => { results := [.lit (.bool true)], args := [d1, d2, d3] }
  | _ => none }
def rollupTwiceRow : OpenClaim := { program := "ytdepgplbcfbopaa", sum := "932e556e802f8fb1bd0131efd5e581e69b1cebcff1bbf6960e0fa685f965beb0", func := "lysimeter/lysimeterlaw19.RollupTwice", spec := "rollupTwice", unfollowed := true, recurses := true, apart := false }
def RollupTwiceSaid : Prop := rollupTwiceRow.holds Try.pinned (OpenSpec.ofChange rollupTwiceSpec)

/-- ITS FALSE NEIGHBOUR: 'it returns false'. Refute it at one input. -/
def rollupTwiceWrong : ChangeSpec := { name := "rollupTwice", fn := fun _ => fun
  | [d1, d2, d3] => { results := [.lit (.bool false)], args := [d1, d2, d3] }
  | _ => none }
def RollupTwiceWrongFalsely : Prop := rollupTwiceRow.holds Try.pinned (OpenSpec.ofChange rollupTwiceWrong)

/-- 'lysimeterlaw19.RollupCounts': WHATEVER THE INPUT: true; the input reads as it did. -/
def rollupCountsSpec : ChangeSpec := { name := "rollupCounts", fn := fun _ => fun
  | [d1, d2] => { results := [.lit (.bool true)], args := [d1, d2] }
  | _ => none }
def rollupCountsRow : OpenClaim := { program := "ytdepgplbcfbopaa", sum := "932e556e802f8fb1bd0131efd5e581e69b1cebcff1bbf6960e0fa685f965beb0", func := "lysimeter/lysimeterlaw19.RollupCounts", spec := "rollupCounts", unfollowed := true, recurses := true, apart := false }
def RollupCountsSaid : Prop := rollupCountsRow.holds Try.pinned (OpenSpec.ofChange rollupCountsSpec)

/-- ITS FALSE NEIGHBOUR: 'it returns false'. Refute it at one input. -/
def rollupCountsWrong : ChangeSpec := { name := "rollupCounts", fn := fun _ => fun
  | [d1, d2] => { results := [.lit (.bool false)], args := [d1, d2] }
  | _ => none }
def RollupCountsWrongFalsely : Prop := rollupCountsRow.holds Try.pinned (OpenSpec.ofChange rollupCountsWrong)

/- THE SECOND FORM. 'bulk': how many values and letters a reading holds, each counted each time it is reached (what is shared counts as often as it is met; a slice's spare places count too). A statement '..UptoSaid' is the law's where the arguments, and the package variables that the reading takes, are together of bulk at most 1048576: NARROWER than '..Said'. Prove '..Said' where nothing that the law and all that it calls make is longer than what came in: it says more and counts as full. Else prove '..UptoSaid'. A law counts once. -/
mutual
def uptoBulk {H : Type} : DataW H → Nat
  | .lit (.string bytes) => bytes.length + 1
  | .lit _ => 1
  | .nil => 1
  | .ptr d => uptoBulk d + 1
  | .slice elems spare => uptoBulkAll elems + uptoBulkAll spare + 1
  | .agg parts => uptoBulkAll parts + 1
  | .iface _ d => uptoBulk d + 1
  | .map entries => uptoBulkEntries entries + 1
  | .held _ => 1
def uptoBulkAll {H : Type} : List (DataW H) → Nat
  | [] => 0
  | d :: r => uptoBulk d + uptoBulkAll r
def uptoBulkEntries {H : Type} : List (Lit × DataW H) → Nat
  | [] => 0
  | x :: r => uptoBulkEntry x + uptoBulkEntries r
def uptoBulkEntry {H : Type} : Lit × DataW H → Nat
  | (.string bytes, d) => bytes.length + uptoBulk d + 1
  | (_, d) => uptoBulk d + 1
 end
def uptoSmall : (H : Type) → List (DataW H) → Bool := fun _ ds => decide (uptoBulkAll ds ≤ 1048576)
def OpenSpec.upto (s : _root_.Go.ChangeSpec) : _root_.Go.OpenSpec := { _root_.Go.OpenSpec.ofChange s with cond := some uptoSmall }

/-- 'lysimeterlaw19.RollupBuckets', WHERE WHAT IT READS IS OF BULK AT MOST 1048576: true; the input reads as it did. -/
def rollupBucketsUptoRow : OpenClaim := { program := "ytdepgplbcfbopaa", sum := "932e556e802f8fb1bd0131efd5e581e69b1cebcff1bbf6960e0fa685f965beb0", func := "lysimeter/lysimeterlaw19.RollupBuckets", spec := "rollupBuckets", unfollowed := true, recurses := true, apart := false, narrowed := true }
def RollupBucketsUptoSaid : Prop := rollupBucketsUptoRow.holds Try.pinned (OpenSpec.upto rollupBucketsSpec)

/-- 'lysimeterlaw19.RollupFloor', WHERE WHAT IT READS IS OF BULK AT MOST 1048576: true; the input reads as it did. -/
def rollupFloorUptoRow : OpenClaim := { program := "ytdepgplbcfbopaa", sum := "932e556e802f8fb1bd0131efd5e581e69b1cebcff1bbf6960e0fa685f965beb0", func := "lysimeter/lysimeterlaw19.RollupFloor", spec := "rollupFloor", unfollowed := true, recurses := true, apart := false, narrowed := true }
def RollupFloorUptoSaid : Prop := rollupFloorUptoRow.holds Try.pinned (OpenSpec.upto rollupFloorSpec)

/-- 'lysimeterlaw19.RollupTwice', WHERE WHAT IT READS IS OF BULK AT MOST 1048576: true; the input reads as it did. -/
def rollupTwiceUptoRow : OpenClaim := { program := "ytdepgplbcfbopaa", sum := "932e556e802f8fb1bd0131efd5e581e69b1cebcff1bbf6960e0fa685f965beb0", func := "lysimeter/lysimeterlaw19.RollupTwice", spec := "rollupTwice", unfollowed := true, recurses := true, apart := false, narrowed := true }
def RollupTwiceUptoSaid : Prop := rollupTwiceUptoRow.holds Try.pinned (OpenSpec.upto rollupTwiceSpec)

/-- 'lysimeterlaw19.RollupCounts', WHERE WHAT IT READS IS OF BULK AT MOST 1048576: true; the input reads as it did. -/
def rollupCountsUptoRow : OpenClaim := { program := "ytdepgplbcfbopaa", sum := "932e556e802f8fb1bd0131efd5e581e69b1cebcff1bbf6960e0fa685f965beb0", func := "lysimeter/lysimeterlaw19.RollupCounts", spec := "rollupCounts", unfollowed := true, recurses := true, apart := false, narrowed := true }
def RollupCountsUptoSaid : Prop := rollupCountsUptoRow.holds Try.pinned (OpenSpec.upto rollupCountsSpec)

end Rows
end Go.Proofs.Ytdepgplbcfbopaa
