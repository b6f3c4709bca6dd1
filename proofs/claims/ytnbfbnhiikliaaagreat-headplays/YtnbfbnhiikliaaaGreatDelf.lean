/-
  The library contract on maps.DeleteFunc, laid at this program: the facts that a theorem of the given library asks.
-/
import Derived.Shelf.SlGeneric
import Derived.Shelf.SlMaps.DeleteFunc
import Derived.Ground.SlmdProg
import Derived.Test.YtnbfbnhiikliaaaGreatProg
namespace Go.Proofs
open Go.RowKit Go.Shelf
def Tryz.delP_ren : Go.Shelf.Ren := ⟨fun | 5 => 44 | n => n, fun | 23 => 63 | 26 => 9 | 24 => 72 | 27 => 84 | 0 => 0 | 4 => 4 | n => n, fun | n => n⟩
theorem Tryz.delP : Go.Proofs.SlLaysDf.n5 Tryz.prog Tryz.delP_ren := {
  mixed := by kernel_rfl
  f5 := ⟨Tryz.f44.name, by decide, Tryz.func44.trans (congrArg some (by kernel_rfl))⟩
  t0 := Tryz.underlying0
  a0 := Tryz.isAgg0
  z0 := Tryz.sizeOf0
  v0 := Tryz.zeroValue0
  t4 := Tryz.underlying4
  a4 := Tryz.isAgg4
  z4 := Tryz.sizeOf4
  v4 := Tryz.zeroValue4
  t23 := Tryz.underlying63
  a23 := Tryz.isAgg63
  z23 := Tryz.sizeOf63
  v23 := Tryz.zeroValue63
  a24 := Tryz.isAgg72
  z24 := Tryz.sizeOf72
  a26 := Tryz.isAgg9
  z26 := Tryz.sizeOf9
  t27 := Tryz.underlying84
  a27 := Tryz.isAgg84
  z27 := Tryz.sizeOf84
  v27 := Tryz.zeroValue84 }
end Go.Proofs
