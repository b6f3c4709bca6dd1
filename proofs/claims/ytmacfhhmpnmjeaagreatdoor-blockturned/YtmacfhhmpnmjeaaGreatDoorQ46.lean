/-
  Glaw.
-/
import Derived.Test.YtmacfhhmpnmjeaaGreatDoorQ31
import Derived.Lib.SlBytesConst

/-
  The examples of the document; the law FrameSums.
-/
namespace Go.Proofs.YtmacfhhmpnmjeaaGreatDoor.G
open Go.RowKit Go.Proofs.Lys
set_option linter.unusedVariables false

theorem sum_none : sumL [] = 0 := by decide +kernel
def digits9 : List UInt8 := [49, 50, 51, 52, 53, 54, 55, 56, 57]
theorem sum_nine : sumL digits9 = 3808858755 := by decide +kernel
theorem lit_bsrc (bs : List UInt8) (W : World) {vs : Array Value} {fz : Nat × Nat} (hv : vs = (bs.map bV).toArray) : BSrc (W.alloc (.cells vs 5 fz)) (.slice (some ⟨W.heap.size, 0, none⟩) bs.length bs.length) bs := by
  subst hv
  refine ⟨.inr ⟨⟨W.heap.size, 0, none⟩, bs.length, by rw [List.length_map], fun j u hu => ?_⟩, _, _, rfl, Nat.le_refl _⟩
  rw [add_none, Nat.zero_add]
  have : (W.alloc (.cells (bs.map bV).toArray 5 fz)).heap[W.heap.size]? = some (.cells (bs.map bV).toArray 5 fz) := heap_alloc_new W _
  simp only [World.cell?, this]
  simp [hu]
theorem nil_bsrc (w : World) : BSrc w (.slice none 0 0) [] := ⟨.inl ⟨rfl, rfl⟩, none, 0, rfl, Nat.le_refl _⟩
end Go.Proofs.YtmacfhhmpnmjeaaGreatDoor.G
