/-
  Range, the program's.
-/
import Derived.Test.YtcacoanhiphbiaaZrng
namespace Go.Proofs.Ytcacoanhiphbiaa.Mg
open Go Go.RowKit Go.Proofs.Lys
set_option linter.unusedVariables false
set_option linter.unusedSimpArgs false

end Go.Proofs.Ytcacoanhiphbiaa.Mg
