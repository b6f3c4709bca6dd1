/-
  Xsort.
-/
import Derived.Test.YteknpfldemgmnaaGreatQ17
import Derived.Test.YteknpfldemgmnaaGreatQ21

/-
  Numbers, sorted.
-/
namespace Go.Proofs.YteknpfldemgmnaaGreat.X
open Go.RowKit Go.Proofs.Lys Go.Sort Go.Shelf Go.Proofs.YteknpfldemgmnaaGreat.N
set_option linter.unusedVariables false
set_option linter.unusedSimpArgs false

abbrev sortN (l : List Int) : List Int := l.mergeSort fun x y => decide (x ≤ y)
theorem only_sortI (w : World) (blk off m : Nat) (d : Array Int) (os : Array Obj) : Only (fun j => j = blk) w (grow (putRow (Value.int .i64) (Go.Sort.ahead w m) blk off d) os) := by
  refine ⟨rfl, rfl, rfl, ?_, fun j hj hn => ?_⟩
  · rw [size_grow]
    show _ ≤ ((Go.Sort.ahead w m).heap.modify blk _).size + _
    rw [Array.size_modify]
    exact Nat.le_add_right _ _
  · rw [heap_grow_old _ _ (by show _ < ((Go.Sort.ahead w m).heap.modify blk _).size; rw [Array.size_modify]; exact hj)]
    show ((Go.Sort.ahead w m).heap.modify blk _)[j]? = _
    rw [Array.getElem?_modify, if_neg (fun e => hn e.symm)]
    rfl
theorem sortI_any (w : World) (B : Nat) (v : Value) (l : List Int) (h : NumAt w B v l) (hlen : l.length ≤ 1000000) :
    Calls Tryz.prog 107 #[v] w fun e w' => e = .returned (.tuple #[]) ∧ Only (fun k => v.ownBlock = some k) w w' ∧ NumAt w' B v (sortN l) := by
  have hsl : (sortN l).length = l.length := List.length_mergeSort _
  rcases h.2 with ⟨rfl, h0⟩ | ⟨g, cap, cur, rfl, hb, hg, hnc, hcm, hcs, htake⟩
  · have hx0 : l = [] := List.length_eq_zero_iff.1 h0
    subst hx0
    refine (AnyM.slices_Sort_int_none Tryz.sortI none 0 w).mono ?_
    rintro e w' ⟨rfl, rfl⟩
    exact ⟨rfl, Only.refl _ _, by simpa [sortN] using h⟩
  · by_cases hx0 : l.length = 0
    · have hx1 : l = [] := List.length_eq_zero_iff.1 hx0
      subst hx1
      refine (AnyM.slices_Sort_int_none Tryz.sortI (some ⟨g, 0, none⟩) cap w).mono ?_
      rintro e w' ⟨rfl, rfl⟩
      exact ⟨rfl, Only.refl _ _, by simpa [sortN] using h⟩
    have hglt := (Array.getElem?_eq_some_iff.1 hg).1
    have hH : Holds (Value.int .i64) w g 0 l.toArray := by
      intro t ht
      have ht' : t < l.length := by simpa using ht
      refine ⟨?_, by simp [World.frozen?, hg]⟩
      have hj : cur.toList[t]? = some (Value.int .i64 l[t]) := by
        have h1 : (l.map (Value.int .i64))[t]? = some (Value.int .i64 l[t]) := by rw [List.getElem?_map, List.getElem?_eq_getElem ht']; rfl
        rw [← htake, List.getElem?_take, if_pos (by omega)] at h1
        exact h1
      simp only [World.cell?, hg, Nat.zero_add]
      rw [getElem!_pos _ _ (by simpa using ht')]
      simpa using hj
    refine (AnyM.slices_Sort_int Tryz.sortI g 0 cap l w hH hglt (by omega)).mono ?_
    rintro e w' ⟨rfl, n, os, rfl⟩
    have ko := only_sortI w g 0 n (sortN l).toArray os
    refine ⟨rfl, ko.mono (fun k _ e => by rw [e]; rfl), ?_⟩
    have hblk : (grow (putRow (Value.int .i64) (Go.Sort.ahead w n) g 0 (sortN l).toArray) os).heap[g]? = some (.cells (putCells (Value.int .i64) 0 (sortN l).toArray cur) 3 (0, 0)) := by
      rw [heap_grow_old _ _ (by show _ < ((Go.Sort.ahead w n).heap.modify g _).size; rw [Array.size_modify]; exact hglt)]
      show ((Go.Sort.ahead w n).heap.modify g _)[g]? = _
      rw [Array.getElem?_modify, if_pos rfl]
      show Option.map _ (w.heap[g]?) = _
      rw [hg]
      rfl
    refine ⟨by simp, .inr ⟨g, cap, _, by rw [hsl], hb, hblk, by rw [hsl]; exact hnc, hcm, by simp only [putCells, Array.size_mapIdx]; exact hcs, ?_⟩⟩
    refine List.ext_getElem? (fun j => ?_)
    rw [hsl]
    by_cases hj : j < l.length
    · rw [List.getElem?_take, if_pos (by omega), Array.getElem?_toList]
      simp only [putCells, Array.getElem?_mapIdx]
      rw [Array.getElem?_eq_getElem (by omega)]
      simp only [Option.map_some]
      rw [if_pos ⟨by omega, by simp; omega⟩, show j - 0 = j by omega, getElem!_pos _ _ (by simpa using hj), List.getElem?_map, List.getElem?_eq_getElem (show j < (sortN l).length by rw [hsl]; exact hj)]
      rfl
    · rw [List.getElem?_take, if_neg (by omega), List.getElem?_eq_none (by rw [List.length_map, hsl]; omega)]
end Go.Proofs.YteknpfldemgmnaaGreat.X
