/-
  What comes in: numbers.
-/
import Derived.Test.YtoagncilbaaefaaLlast13b
import Derived.Test.YtoagncilbaaefaaNopen
namespace Go.Proofs.Ytoagncilbaaefaa.Hd
open Go Go.RowKit Go.Proofs.Lys Go.Proofs.Ytoagncilbaaefaa.N
set_option linter.unusedVariables false

section
variable {H : Type} {enc : TypeId × Value → H} {w : World} {spare : Nat → Bool} {held : Bool} {base : Nat}
structure IntsIn (w : World) (v : Value) (l : List Int) : Prop where
  src : IntSrc w v l
  len : l.length ≤ 1000000000000000
open Go.ChangeShapes in
theorem open_ints13 {a0 : Option Addr} {len0 cap0 : Nat} {x : DataW H × List MemPlace}
    (h : ∃ m, DataW.trod enc Try.prog w base spare held m 22 (Value.slice a0 len0 cap0).cells.toList = some x) (hz : ∀ n ∈ x.1.weights Try.prog 22, n ≤ reachBytes) : ∃ l : List Int, IntsIn w (.slice a0 len0 cap0) l := by
  obtain ⟨fuel, hf⟩ := h
  have hr := reachBytes_lt
  have hsz := slice_sized (v := .slice a0 len0 cap0) Try.underlying22 (by decide +kernel) hf hz _ _ _ rfl
  rcases open_ints Try.underlying22 Try.underlying3 (by kernel_rfl) hf with ⟨hcs, _⟩ | ⟨a, l, c, zs, hcs, _, hl, hm, hz2, _, hcell, hwz⟩
  · simp [Value.cells] at hcs
    obtain ⟨rfl, rfl, rfl⟩ := hcs
    exact ⟨[], .inl ⟨_, _, rfl, rfl⟩, by simp⟩
  · simp [Value.cells] at hcs
    obtain ⟨rfl, rfl, rfl⟩ := hcs
    have hzl : len0 ≤ zs.length := by rw [hz2]; split <;> omega
    have hlen : (zs.take len0).length = len0 := by rw [List.length_take]; omega
    refine ⟨zs.take len0, ?_, by omega⟩
    by_cases h0 : len0 = 0
    · subst h0
      exact .inl ⟨_, _, rfl, by simp⟩
    · have hc : ∀ i, i < len0 → ∀ hi : i < zs.length, w.cell? (a.add i) = some (.int .i64 zs[i]) := fun i hi hi2 => by
        rw [hcell i (by omega), List.getD_eq_getElem?_getD, List.getElem?_eq_getElem hi2]
        rfl
      obtain ⟨b, o, spot⟩ := a
      have hs : spot = none := by simpa [Addr.add] using World.cell?_spot (hc 0 (by omega) (by omega))
      subst hs
      refine .inr ⟨by omega, b, o, cap0, by rw [hlen], fun i hi => ?_⟩
      rw [hlen] at hi
      rw [← add_none, hc i hi (by omega)]
      simp only [List.getElem_take]
end
end Go.Proofs.Ytoagncilbaaefaa.Hd
