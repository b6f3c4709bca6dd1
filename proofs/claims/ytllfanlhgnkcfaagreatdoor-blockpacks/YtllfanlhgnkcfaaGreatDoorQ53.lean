/-
  Kcard.
-/
import Derived.Test.YtllfanlhgnkcfaaGreatDoorQ30
import Derived.Test.YtllfanlhgnkcfaaGreatDoorQ25
import Derived.Test.YtllfanlhgnkcfaaGreatDoorRows
import Derived.Lib.LaidTab
import Derived.LaidHandle
import Derived.LaidLaws
namespace Go.Proofs.YtllfanlhgnkcfaaGreatDoor.K
open Go.RowKit Go.Proofs.Lys
set_option linter.unusedVariables false
theorem steps_global : Tryz.prog.globalNamed "lysimeter/frame.steps" = some 2 := by kernel_rfl
theorem steps_type : (Tryz.prog.globals[2]?).map (·.type) = some 183 := by kernel_rfl
theorem steps_cells : Tryz.prog.cellsOf 183 = 16 := by kernel_rfl
theorem u32_cells : Tryz.prog.cellsOf 182 = 1 := by kernel_rfl
def stepI : List Int := [0, 274646895, 549293790, 820201905, 1098587580, 1361435347, 1640403810, 1905808397, 2197175160, 2460548119, 2722870694, 2987750089, 3280807620, 3553878443, 3811616794, 4084100981]
theorem tab_of {W : World} (h : laidMet Tryz.prog [("lysimeter/frame.steps", Lib.tabData .u32 stepI)] W) : G.Tab W := by
 have ht : Lib.TabIs Tryz.prog W "lysimeter/frame.steps" .u32 stepI := Lib.tabIs_of_head (rest := []) steps_global steps_type Tryz.underlying183 Tryz.underlying182 u32_cells steps_cells h
 intro i hi
 have e : ∀ i, i < 16 → stepI.getD i 0 = ((G.stepT.getD i 0 : Nat) : Int) := by decide
 rw [ht.cell steps_global i hi, e i hi]
theorem et : Tryz.prog.globalNamed "errors.errorType" = some 0 := by kernel_rfl
theorem rt : (Tryz.prog.cutTypes.find? (·.1 == "internal/reflectlite.rtype")).map (·.2) = some 155 := by kernel_rfl
theorem oneRow : ((List.range Tryz.prog.types.size).filter fun t => Tryz.prog.rowNamed t [101, 114, 114, 111, 114]) = [99] := by kernel_rfl
theorem err_of {W : World} (h : handlesMet Tryz.prog [("errors.errorType", Rows.laid_errors_errorType)] W) : ErrT W := by
 obtain ⟨name, u, ty, e1, e2, e3, e4, e5⟩ := h _ (List.mem_singleton.2 rfl)
 have en : name = [101, 114, 114, 111, 114] := (Option.some.inj e1).symm
 subst en
 obtain rfl := Option.some.inj (rt.symm.trans e2)
 have hm : ty ∈ (List.range Tryz.prog.types.size).filter fun t => Tryz.prog.rowNamed t [101, 114, 114, 111, 114] := List.mem_filter.2 ⟨List.mem_range.2 e3, e4⟩
 rw [oneRow] at hm
 obtain rfl := List.mem_singleton.1 hm
 have hh : typeHandle Tryz.prog 99 = hd 99 := by kernel_rfl
 rw [hh] at e5
 unfold ErrT
 simpa using World.var?_cell et e5 0
theorem laid_parts {W : World} (h : laidMetH Tryz.prog [("errors.errorType", Rows.laid_errors_errorType), ("lysimeter/frame.steps", Rows.laid_lysimeter_frame_steps)] W) : G.Tab W ∧ ErrT W := by
 have h' : laidMet Tryz.prog [("lysimeter/frame.steps", Rows.laid_lysimeter_frame_steps)] W ∧ handlesMet Tryz.prog [("errors.errorType", Rows.laid_errors_errorType)] W := h
 exact ⟨tab_of h'.1, err_of h'.2⟩
end Go.Proofs.YtllfanlhgnkcfaaGreatDoor.K
