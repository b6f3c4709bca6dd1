/-
  No cell of these rows narrows 'for every input' (looked for: loops, veiled, ifaces, maps, wideKeys, modest, calm, conditions, laid).
  DERIVED. THE GIVEN ROWS OF THIS SEAT. 3 by the template 'for every input the law returns true; each argument reads behind the call as it read before'; 0 by the template 'total and deterministic' (their statements: YtmpkafmkkkpdeaaTotals.lean).
  GIVEN WITH THE SEED: the statements are not yours to turn. If you find one false, say at which input.
  Laid BY PROGRAM, IN A SANDBOX (cutbox-rows.mjs): the forced cells as the released guide's own fill.sh prints them over the translation d6188a058d1fa0ca… (all of the seat's roots in one cut). By AI agents, Wed Nov 11 2026. No macro, syntax, notation, axiom, sorry.
-/
import Derived.Test.YtmpkafmkkkpdeaaChecked
import GoSem.Claim
import GoSem.ClaimJoined
import GoSem.ClaimMapViews
import Derived.JoinedTies
import Derived.KernelRfl
namespace Go.Proofs.Ytmpkafmkkkpdeaa
/- THE CELL 'sum', in the pinned program and in every row, IS THE sha256 OF THE DUMP (.gsa) THAT YtmpkafmkkkpdeaaProg.lean LOADS. Nothing in Lean hashes anything: it is a label: what it is worth is what the hold of that sum in a sandbox is worth. -/
noncomputable def Try.pinned : Pinned := { name := "ytmpkafmkkkpdeaa", sum := "d6188a058d1fa0ca0e54c6e6fe31863a076f9f7573b120a2504a4fc701e1bdb8", checked := Try.checked }
namespace Rows
def none {H : Type} : Left H := { results := [], args := [] }

/-- 'lysimeterlaw17.ManifestTurns': WHATEVER THE INPUT: true; the input reads as it did. -/
def manifestTurnsSpec : ChangeSpec := { name := "manifestTurns", fn := fun _ => fun
  | [d1, d2, d3, d4, d5] => { results := [.lit (.bool true)], args := [d1, d2, d3, d4, d5] }
  | _ => none }
def manifestTurnsRow : OpenClaim := { program := "ytmpkafmkkkpdeaa", sum := "d6188a058d1fa0ca0e54c6e6fe31863a076f9f7573b120a2504a4fc701e1bdb8", func := "lysimeter/lysimeterlaw17.ManifestTurns", spec := "manifestTurns", unfollowed := true, recurses := true, apart := false }
def ManifestTurnsSaid : Prop := manifestTurnsRow.holds Try.pinned (OpenSpec.ofChange manifestTurnsSpec)

/-- ITS FALSE NEIGHBOUR: 'it returns false'. Refute it at one input. -/
def manifestTurnsWrong : ChangeSpec := { name := "manifestTurns", fn := fun _ => fun
  | [d1, d2, d3, d4, d5] => { results := [.lit (.bool false)], args := [d1, d2, d3, d4, d5] }
  | _ => none }
def ManifestTurnsWrongFalsely : Prop := manifestTurnsRow.holds Try.pinned (OpenSpec.ofChange manifestTurnsWrong)

/-- 'lysimeterlaw17.ManifestPicks': WHATEVER THE INPUT: true; the input reads as it did. -/
def manifestPicksSpec : ChangeSpec := { name := "manifestPicks", fn := fun _ => fun
  | [d1, d2] => { results := [.lit (.bool true)], args := [d1, d2] }
  | _ => none }
def manifestPicksRow : OpenClaim := { program := "ytmpkafmkkkpdeaa", sum := "d6188a058d1fa0ca0e54c6e6fe31863a076f9f7573b120a2504a4fc701e1bdb8", func := "lysimeter/lysimeterlaw17.ManifestPicks", spec := "manifestPicks", apart := false }
def ManifestPicksSaid : Prop := manifestPicksRow.holds Try.pinned (OpenSpec.ofChange manifestPicksSpec)

/-- ITS FALSE NEIGHBOUR: 'it returns false'. Refute it at one input. -/
def manifestPicksWrong : ChangeSpec := { name := "manifestPicks", fn := fun _ => fun
  | [d1, d2] => { results := [.lit (.bool false)], args := [d1, d2] }
  | _ => none }
def ManifestPicksWrongFalsely : Prop := manifestPicksRow.holds Try.pinned (OpenSpec.ofChange manifestPicksWrong)

/-- 'lysimeterlaw17.ManifestGrows': WHATEVER THE INPUT: true; the input reads as it did. -/
def manifestGrowsSpec : ChangeSpec := { name := "manifestGrows", fn := fun _ => fun
  | [d] => { results := [.lit (.bool true)], args := [d] }
  | _ => none }
def manifestGrowsRow : OpenClaim := { program := "ytmpkafmkkkpdeaa", sum := "d6188a058d1fa0ca0e54c6e6fe31863a076f9f7573b120a2504a4fc701e1bdb8", func := "lysimeter/lysimeterlaw17.ManifestGrows", spec := "manifestGrows", unfollowed := true, recurses := true, apart := false }
def ManifestGrowsSaid : Prop := manifestGrowsRow.holds Try.pinned (OpenSpec.ofChange manifestGrowsSpec)

/-- ITS FALSE NEIGHBOUR: 'it returns false'. Refute it at one input. -/
def manifestGrowsWrong : ChangeSpec := { name := "manifestGrows", fn := fun _ => fun
  | [d] => { results := [.lit (.bool false)], args := [d] }
  | _ => none }
def ManifestGrowsWrongFalsely : Prop := manifestGrowsRow.holds Try.pinned (OpenSpec.ofChange manifestGrowsWrong)

/- THE SECOND FORM. 'bulk': how many values and letters a reading holds, each counted each time it is reached (what is shared counts as often as it is met; a slice's spare places count too). A statement '..UptoSaid' is the law's where the arguments, and the package variables that the reading takes, are together of bulk at most 1048576: NARROWER than '..Said'. Prove '..Said' where nothing that the law and all that it calls make is longer than what came in: it says more and counts as full. Else prove '..UptoSaid'. A law counts once. -/
mutual
def uptoBulk {H : Type} : DataW H → Nat
  | .lit (.string bytes) => bytes.length + 1
  | .lit _ => 1
  | .nil => 1
  | .ptr d => uptoBulk d + 1
  | .slice elems spare => uptoBulkAll elems + uptoBulkAll spare + 1
  | .agg parts => uptoBulkAll parts + 1
  | .iface _ d => uptoBulk d + 1
  | .map entries => uptoBulkEntries entries + 1
  | .held _ => 1
def uptoBulkAll {H : Type} : List (DataW H) → Nat
  | [] => 0
  | d :: r => uptoBulk d + uptoBulkAll r
def uptoBulkEntries {H : Type} : List (Lit × DataW H) → Nat
  | [] => 0
  | x :: r => uptoBulkEntry x + uptoBulkEntries r
def uptoBulkEntry {H : Type} : Lit × DataW H → Nat
  | (.string bytes, d) => bytes.length + uptoBulk d + 1
  | (_, d) => uptoBulk d + 1
 end
def uptoSmall : (H : Type) → List (DataW H) → Bool := fun _ ds => decide (uptoBulkAll ds ≤ 1048576)
def OpenSpec.upto (s : _root_.Go.ChangeSpec) : _root_.Go.OpenSpec := { _root_.Go.OpenSpec.ofChange s with cond := some uptoSmall }

/-- 'lysimeterlaw17.ManifestTurns', WHERE WHAT IT READS IS OF BULK AT MOST 1048576: true; the input reads as it did. -/
def manifestTurnsUptoRow : OpenClaim := { program := "ytmpkafmkkkpdeaa", sum := "d6188a058d1fa0ca0e54c6e6fe31863a076f9f7573b120a2504a4fc701e1bdb8", func := "lysimeter/lysimeterlaw17.ManifestTurns", spec := "manifestTurns", unfollowed := true, recurses := true, apart := false, narrowed := true }
def ManifestTurnsUptoSaid : Prop := manifestTurnsUptoRow.holds Try.pinned (OpenSpec.upto manifestTurnsSpec)

/-- 'lysimeterlaw17.ManifestPicks', WHERE WHAT IT READS IS OF BULK AT MOST 1048576: true; the input reads as it did. -/
def manifestPicksUptoRow : OpenClaim := { program := "ytmpkafmkkkpdeaa", sum := "d6188a058d1fa0ca0e54c6e6fe31863a076f9f7573b120a2504a4fc701e1bdb8", func := "lysimeter/lysimeterlaw17.ManifestPicks", spec := "manifestPicks", apart := false, narrowed := true }
def ManifestPicksUptoSaid : Prop := manifestPicksUptoRow.holds Try.pinned (OpenSpec.upto manifestPicksSpec)

/-- 'lysimeterlaw17.ManifestGrows', WHERE WHAT IT READS IS OF BULK AT MOST 1048576: true; the input reads as it did. -/
def manifestGrowsUptoRow : OpenClaim := { program := "ytmpkafmkkkpdeaa", sum := "d6188a058d1fa0ca0e54c6e6fe31863a076f9f7573b120a2504a4fc701e1bdb8", func := "lysimeter/lysimeterlaw17.ManifestGrows", spec := "manifestGrows", unfollowed := true, recurses := true, apart := false, narrowed := true }
def ManifestGrowsUptoSaid : Prop := manifestGrowsUptoRow.holds Try.pinned (OpenSpec.upto manifestGrowsSpec)

end Rows
end Go.Proofs.Ytmpkafmkkkpdeaa
