/-
  Which Ids are gone: counts, and blocks that stay.
-/
import Derived.Test.YtmpkafmkkkpdeaaJsea
namespace Go.Proofs.Ytmpkafmkkkpdeaa.J
open Go.RowKit Go.Proofs.Lys
set_option linter.unusedVariables false

def cntL (l : List Rf) (ids : List Int) (j : Nat) : List Int := l.map (fun x => ((ids.take j).count x.1 : Int))
theorem cntL_len (l : List Rf) (ids : List Int) (j : Nat) : (cntL l ids j).length = l.length := List.length_map _
theorem cntL_at (l : List Rf) (ids : List Int) (j p : Nat) (hp : p < l.length) : (cntL l ids j)[p]? = some ((ids.take j).count l[p].1 : Int) := by
  unfold cntL
  rw [List.getElem?_map, List.getElem?_eq_getElem hp]
  rfl
theorem cnt_take (ids : List Int) (j : Nat) (hj : j < ids.length) (a : Int) : (ids.take (j + 1)).count a = (ids.take j).count a + if ids[j] = a then 1 else 0 := by
  rw [List.take_add_one, List.getElem?_eq_getElem hj, Option.toList_some, List.count_append, List.count_singleton]
  by_cases h : ids[j] = a
  · rw [if_pos h, if_pos (by simpa using h)]
  · rw [if_neg h, if_neg (by simpa using h)]
theorem cntL_step (l : List Rf) (ids : List Int) (j p : Nat) (hj : j < ids.length) (hp : p < l.length) (he : l[p].1 = ids[j]) (hinj : ∀ i (hi : i < l.length), l[i].1 = l[p].1 → i = p) :
    cntL l ids (j + 1) = (cntL l ids j).set p (((ids.take j).count l[p].1 : Nat) + 1 : Int) := by
  apply List.ext_getElem?
  intro i
  rw [List.getElem?_set]
  by_cases h : i < l.length
  · rw [cntL_at _ _ _ _ h, cntL_at _ _ _ _ h, cnt_take _ _ hj, cntL_len]
    by_cases hip : p = i
    · subst hip
      rw [if_pos rfl, if_pos h, if_pos he.symm]
      simp
    · rw [if_neg hip, if_neg (fun e => hip (hinj i h (by rw [he]; exact e.symm)).symm)]
      simp
  · rw [List.getElem?_eq_none (by rw [cntL_len]; omega), List.getElem?_eq_none (by rw [cntL_len]; omega), if_neg (by omega)]
theorem cntL_zero (l : List Rf) (ids : List Int) : cntL l ids 0 = List.replicate l.length 0 := by
  unfold cntL
  rw [List.take_zero]
  induction l with
  | nil => rfl
  | cons x r ih => rw [List.map_cons, List.length_cons, List.replicate_succ, ih]; rfl
theorem nodup_cnt : ∀ {ids : List Int}, (∀ a, ids.count a ≤ 1) → ids.Nodup := by
  intro ids
  induction ids with
  | nil => intro _; exact List.nodup_nil
  | cons x r ih =>
    intro h
    rw [List.nodup_cons]
    refine ⟨fun hx => ?_, ih (fun a => Nat.le_trans (List.count_le_count_cons) (h a))⟩
    have h1 := h x
    rw [List.count_cons_self] at h1
    have := List.count_pos_iff.2 hx
    omega
theorem cnt_nodup : ∀ {ids : List Int}, ids.Nodup → ∀ a, ids.count a ≤ 1 := by
  intro ids
  induction ids with
  | nil => intro _ a; simp
  | cons x r ih =>
    intro h a
    rw [List.nodup_cons] at h
    rw [List.count_cons]
    split
    · rename_i e
      have e2 : x = a := by simpa using e
      subst e2
      have := List.count_eq_zero.2 h.1
      omega
    · have := ih h.2 a
      omega
theorem ids_lost {l : List Rf} {ids : List Int} {i : Int} (hi : i ∈ ids) (h : i ∉ l.map (·.1)) : idsE l ids = 6 := if_pos (.inr (fun H => h (H i hi)))
theorem ids_nil {l : List Rf} : idsE l [] = 6 := if_pos (.inl rfl)
theorem ids_twice {l : List Rf} {ids : List Int} (hne : ids ≠ []) (hall : ∀ i ∈ ids, i ∈ l.map (·.1)) {a : Int} (h : 1 < ids.count a) : idsE l ids = 1 := by
  unfold idsE
  rw [if_neg (by intro H; rcases H with H | H; exact hne H; exact H hall), if_neg (fun H => by have := cnt_nodup H a; omega)]
theorem ids_once {l : List Rf} {ids : List Int} (hne : ids ≠ []) (hall : ∀ i ∈ ids, i ∈ l.map (·.1)) (h : ∀ k (hk : k < l.length), ids.count l[k].1 ≤ 1) : idsE l ids = 0 := by
  unfold idsE
  rw [if_neg (by intro H; rcases H with H | H; exact hne H; exact H hall), if_pos]
  refine nodup_cnt (fun a => ?_)
  by_cases ha : a ∈ ids
  · obtain ⟨y, hy, e⟩ := List.mem_map.1 (hall a ha)
    obtain ⟨t, ht, rfl⟩ := List.getElem_of_mem hy
    rw [← e]
    exact h t ht
  · have := List.count_eq_zero.2 ha
    omega
theorem kept_step (l : List Rf) (ids : List Int) (k : Nat) (hk : k < l.length) : keptL (l.take (k + 1)) ids = keptL (l.take k) ids ++ if ids.count l[k].1 = 0 then [l[k]] else [] := by
  unfold keptL
  rw [List.take_add_one, List.getElem?_eq_getElem hk, Option.toList_some, List.filter_append]
  congr 1
  rw [List.filter_cons, List.filter_nil]
  by_cases h : l[k].1 ∈ ids
  · have h2 : ¬ ids.count l[k].1 = 0 := fun e => List.count_eq_zero.1 e h
    rw [if_neg h2]
    simp [h]
  · rw [if_pos (List.count_eq_zero.2 h)]
    simp [h]
theorem kept_len (l : List Rf) (ids : List Int) (k : Nat) : (keptL (l.take k) ids).length ≤ l.length := by
  have h1 := List.length_filter_le (fun x : Rf => !ids.contains x.1) (l.take k)
  rw [List.length_take] at h1
  unfold keptL
  omega
/-- What without leaves. -/
def WithP (w : World) (l : List Rf) (ids : List Int) (e : Ending) (w' : World) : Prop :=
  ∃ v, e = .returned (.tuple #[v, .int .i64 (idsE l ids)]) ∧ RfAt w' w.heap.size v (if idsE l ids = 0 then keptL l ids else []) ∧ Kept w w'
theorem with_no {w w' : World} {l : List Rf} {ids : List Int} {x : Int} (h : idsE l ids = x) (hx : x ≠ 0) (k : Kept w w') : WithP w l ids (.returned (.tuple #[.slice none 0 0, .int .i64 x])) w' :=
  ⟨.slice none 0 0, by rw [h], by rw [h, if_neg hx]; exact ⟨rfl, .inl ⟨rfl, rfl⟩⟩, k⟩
theorem made_zeros (K : Nat) : (madeCells #[Value.int .i64 0] K).toList = (List.replicate K (0 : Int)).map (Value.int .i64) := by
  rw [List.map_replicate]
  apply List.ext_getElem?
  intro i
  by_cases h : i < K
  · simp [madeCells, h, Nat.mod_one]
  · rw [List.getElem?_eq_none (by simp [size_madeCells]; omega), List.getElem?_eq_none (by simp; omega)]
end Go.Proofs.Ytmpkafmkkkpdeaa.J
