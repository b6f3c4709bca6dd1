/-
  Bclone.
-/
import Derived.Test.YteknpfldemgmnaaGreatProg
import Derived.Test.YteknpfldemgmnaaGreatQ03
import Derived.WalkSpells

/-
  bytes.Clone: a copy in new memory.
-/
namespace Go.Proofs.YteknpfldemgmnaaGreat
open Go.RowKit Go.Proofs.Lys
set_option linter.unusedVariables false

theorem Tryz.infoB : (Tryz.prog.info? 5).map (fun i => (i.zero, i.size, i.bytes)) = some (some (.int .u8 0), 1, 1) := by kernel_rfl

end Go.Proofs.YteknpfldemgmnaaGreat
