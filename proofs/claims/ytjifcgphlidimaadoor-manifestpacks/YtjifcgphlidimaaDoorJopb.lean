/-
  Bytes that came in; the table as the row lays it.
-/
import Derived.Test.YtjifcgphlidimaaDoorGbyt
import Derived.Test.YtjifcgphlidimaaDoorJlib
import Derived.OpenShut
import Derived.ChangeOld
import Derived.Lib.LaidTab
namespace Go.Proofs.YtjifcgphlidimaaDoor.J
open Go.RowKit Go.Proofs.Lys
set_option linter.unusedVariables false

open Go.ChangeShapes in
theorem open_brow {H : Type} {enc : TypeId × Value → H} {w : World} {spare : Nat → Bool} {held : Bool} {base : Nat} {a0 : Option Addr} {len0 cap0 : Nat} {x : DataW H × List MemPlace} {t e : TypeId} {k : IntKind} (ht : Tryd.prog.underlying t = some (.slice e)) (he : Tryd.prog.underlying e = some (.int k)) (hc : Tryd.prog.cellsOf e = 1)
    (h : ∃ m, DataW.trod enc Tryd.prog w base spare held m t (Value.slice a0 len0 cap0).cells.toList = some x) : ∃ zs : List Int, SrcOf w (.slice a0 len0 cap0) (zs.map (Value.int k)) ∧ zs.length = len0 ∧ len0 ≤ cap0 ∧ ∀ n ∈ zs, (Lit.int k n).wf = true := by
  obtain ⟨fuel, hf⟩ := h
  rcases open_ints ht he hc hf with ⟨hcs, _⟩ | ⟨a, l, c, zs, hcs, _, hl, hm, hz, _, hcell, hwz⟩
  · simp [Value.cells] at hcs
    obtain ⟨rfl, rfl, rfl⟩ := hcs
    exact ⟨[], .inl ⟨rfl, rfl⟩, rfl, Nat.le_refl _, by simp⟩
  · simp [Value.cells] at hcs
    obtain ⟨rfl, rfl, rfl⟩ := hcs
    have hzl : len0 ≤ zs.length := by rw [hz]; split <;> omega
    have hlen : (zs.take len0).length = len0 := by rw [List.length_take]; omega
    refine ⟨zs.take len0, .inr ⟨a, cap0, by rw [List.length_map, hlen], fun j u hu => ?_⟩, hlen, hl, fun n hn => hwz n (List.mem_of_mem_take hn)⟩
    rw [List.getElem?_map, List.getElem?_take] at hu
    split at hu
    · rw [List.getElem?_eq_getElem (by omega)] at hu
      cases hu
      rw [hcell j (by omega), List.getD_eq_getElem?_getD, List.getElem?_eq_getElem (by omega)]
      rfl
    · cases hu
theorem open_bsrc {H : Type} {enc : TypeId × Value → H} {w : World} {spare : Nat → Bool} {held : Bool} {base : Nat} {a0 : Option Addr} {len0 cap0 : Nat} {x : DataW H × List MemPlace}
    (h : ∃ m, DataW.trod enc Tryd.prog w base spare held m 28 (Value.slice a0 len0 cap0).cells.toList = some x) : ∃ bs : List UInt8, G.BSrc w (.slice a0 len0 cap0) bs := by
  obtain ⟨zs, h1, h2, h3, h4⟩ := open_brow Tryd.underlying28 Tryd.underlying5 (by kernel_rfl) h
  obtain ⟨bs, hl, hb⟩ := bytes_src h1 h4
  exact ⟨bs, hb, a0, cap0, by rw [hl, h2], by omega⟩
theorem steps_global : Tryd.prog.globalNamed "lysimeter/frame.steps" = some 0 := by kernel_rfl
theorem steps_type : (Tryd.prog.globals[0]?).map (·.type) = some 83 := by kernel_rfl
theorem steps_cells : Tryd.prog.cellsOf 83 = 16 := by kernel_rfl
theorem u32_cells : Tryd.prog.cellsOf 82 = 1 := by kernel_rfl
def stepI : List Int := [0, 274646895, 549293790, 820201905, 1098587580, 1361435347, 1640403810, 1905808397, 2197175160, 2460548119, 2722870694, 2987750089, 3280807620, 3553878443, 3811616794, 4084100981]
theorem tab_of {W : World} (h : laidMet Tryd.prog [("lysimeter/frame.steps", Lib.tabData .u32 stepI)] W) : G.Tab W := by
  have ht : Lib.TabIs Tryd.prog W "lysimeter/frame.steps" .u32 stepI := Lib.tabIs_of_head (rest := []) steps_global steps_type Tryd.underlying83 Tryd.underlying82 u32_cells steps_cells h
  intro i hi
  have e : ∀ i, i < 16 → stepI.getD i 0 = ((G.stepT.getD i 0 : Nat) : Int) := by decide
  rw [ht.cell steps_global i hi, e i hi]
end Go.Proofs.YtjifcgphlidimaaDoor.J
