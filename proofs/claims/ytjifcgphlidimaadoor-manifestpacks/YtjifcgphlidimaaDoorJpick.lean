/-
  Which blocks are put together next: the document's words, and its own Pick.
-/
import Derived.Test.YtjifcgphlidimaaDoorJlib
namespace Go.Proofs.YtjifcgphlidimaaDoor.J
open Go.RowKit Go.Proofs.Lys
set_option linter.unusedVariables false

def lvl (n : Int) (l : List Rf) : List Int := (l.filter (fun x => decide (x.2.1 = n))).map (fun x => x.1)
def pickL (l : List Rf) : Nat → Nat → List Int
  | _, 0 => []
  | n, k + 1 => if 4 ≤ (lvl n l).length then (lvl n l).take 4 else pickL l (n + 1) k
def pickO (m : Man) : List Int := if chkO m = 0 then pickL m.bl 0 21 else []
theorem lvl_nil (n : Int) : lvl n [] = [] := rfl
theorem lvl_yes {n : Int} {l : List Rf} {j : Nat} (hj : j < l.length) (h : l[j].2.1 = n) : lvl n (l.take (j + 1)) = lvl n (l.take j) ++ [l[j].1] := by
  unfold lvl
  rw [List.take_add_one, List.getElem?_eq_getElem hj, Option.toList_some, List.filter_append, List.map_append]
  simp [h]
theorem lvl_no {n : Int} {l : List Rf} {j : Nat} (hj : j < l.length) (h : ¬ l[j].2.1 = n) : lvl n (l.take (j + 1)) = lvl n (l.take j) := by
  unfold lvl
  rw [List.take_add_one, List.getElem?_eq_getElem hj, Option.toList_some, List.filter_append, List.map_append]
  simp [h]
theorem take4_go {q : List Int} {x : Int} (h : (q.take 4).length < 4) : (q ++ [x]).take 4 = q.take 4 ++ [x] := by
  rw [List.length_take] at h
  rw [List.take_of_length_le (l := q) (by omega), List.take_of_length_le (by simp; omega)]
theorem take4_full {q : List Int} {x : Int} (h : ¬ (q.take 4).length < 4) : (q ++ [x]).take 4 = q.take 4 := by
  rw [List.length_take] at h
  rw [List.take_append_of_le_length (by omega)]
/-- A row of numbers that is owned. -/
def IntAt (w : World) (B : Nat) (v : Value) (q : List Int) : Prop := w.ownsRow B 3 1 v q.length (q.map (Value.int .i64))
def fourL (n : Int) (l : List Rf) (j : Nat) : List Int := (lvl n (l.take j)).take 4
/-- What a Pick leaves. -/
def PickP (w : World) (ids : List Int) (e : Ending) (w' : World) : Prop := ∃ v, e = .returned v ∧ w'.ownsRow w.heap.size 3 1 v ids.length (ids.map (Value.int .i64)) ∧ Kept w w'
theorem pick_nil {w w' : World} (h : Kept w w') : PickP w [] (.returned (.slice none 0 0)) w' := ⟨_, rfl, World.ownsRow_nil w' w.heap.size 3 1, h⟩
theorem pick_four (l : List Rf) (n k : Nat) (h : ((lvl n l).take 4).length = 4) : pickL l n (k + 1) = (lvl n l).take 4 := by
  rw [List.length_take] at h
  rw [pickL, if_pos (by omega)]
theorem pick_next (l : List Rf) (n k : Nat) (h : ¬ ((lvl n l).take 4).length = 4) : pickL l n (k + 1) = pickL l (n + 1) k := by
  rw [List.length_take] at h
  rw [pickL, if_neg (by omega)]

end Go.Proofs.YtjifcgphlidimaaDoor.J
