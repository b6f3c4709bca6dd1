/-
  Cup.
-/
import Derived.Test.YtbhpmeeknbbmmaaQ26
import Derived.Test.YtbhpmeeknbbmmaaQ30
import Derived.Test.YtbhpmeeknbbmmaaQ33

/-
  Package chunk: Pack, Unpack and Split give what the laws ask.
-/
namespace Go.Proofs.Ytbhpmeeknbbmmaa.C
open Go.RowKit Go.Proofs.Lys

theorem packC : PackC := fun w v l h hl => pack_any w v l h.1 hl
theorem unpackC : UnpackC := fun w v bs h hl => unpack_any w v bs h hl
theorem splitC : SplitC := fun w v l h hl => split_any w v l h hl
end Go.Proofs.Ytbhpmeeknbbmmaa.C
