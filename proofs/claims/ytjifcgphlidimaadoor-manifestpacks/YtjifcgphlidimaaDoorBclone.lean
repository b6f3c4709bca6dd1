/-
  bytes.Clone: a copy in new memory.
-/
import Derived.Test.YtjifcgphlidimaaDoorProg
import Derived.Test.YtjifcgphlidimaaDoorBase
import Derived.WalkSpells
namespace Go.Proofs.YtjifcgphlidimaaDoor
open Go.RowKit Go.Proofs.Lys
set_option linter.unusedVariables false

theorem Tryd.infoB : (Tryd.prog.info? 5).map (fun i => (i.zero, i.size, i.bytes)) = some (some (.int .u8 0), 1, 1) := by kernel_rfl

end Go.Proofs.YtjifcgphlidimaaDoor
