/-
  Xname.
-/
import Derived.Test.YteknpfldemgmnaaGreatQ06
import Derived.Lib.SlicesCompact

/-
  Names and values of posts, in plain words.
-/
namespace Go.Proofs.YteknpfldemgmnaaGreat.X
open Go.Proofs.YteknpfldemgmnaaGreat.N Go.Proofs.YteknpfldemgmnaaGreat.Po
set_option linter.unusedVariables false

/-- A name stays if it is the first, or another one than that ahead of it. -/
def keepN (l : List ByteArray) (m : Nat) : Bool := decide (m = 0 ∨ l.getD m ⟨#[]⟩ ≠ l.getD (m - 1) ⟨#[]⟩)
def dedN (l : List ByteArray) : Nat → List ByteArray
  | 0 => []
  | m + 1 => dedN l m ++ (if keepN l m then [l.getD m ⟨#[]⟩] else [])
theorem dedN_len (l : List ByteArray) : ∀ m, (dedN l m).length ≤ m
  | 0 => Nat.le_refl _
  | m + 1 => by
    have := dedN_len l m
    rw [dedN, List.length_append]
    split
    · simp; omega
    · simp; omega
theorem getD_at {l : List ByteArray} {m : Nat} (h : m < l.length) : l.getD m ⟨#[]⟩ = l[m] := by
  rw [List.getD_eq_getElem?_getD, List.getElem?_eq_getElem h]
  rfl
theorem list_of_inj {a b : ByteArray} (h : a.data.toList = b.data.toList) : a = b := by
  obtain ⟨⟨x⟩⟩ := a
  obtain ⟨⟨y⟩⟩ := b
  simp at h
  rw [h]
theorem ded_compact (l : List ByteArray) : ∀ m, m ≤ l.length → Lib.compactUpTo (l.map (fun s => s.data.toList)).toArray m = (dedN l m).map (fun s => s.data.toList)
  | 0, _ => rfl
  | m + 1, hm => by
    have hm' : m < l.length := hm
    rw [Lib.compactUpTo_succ, dedN, List.map_append, ded_compact l m (by omega)]
    have e : ∀ j, j < l.length → (l.map (fun s : ByteArray => s.data.toList)).toArray[j]! = (l.getD j ⟨#[]⟩).data.toList := fun j hj => by
      rw [getD_at hj, getElem!_pos _ _ (by simpa using hj)]
      simp
    have hk : Lib.keeps (l.map (fun s : ByteArray => s.data.toList)).toArray m = keepN l m := by
      unfold Lib.keeps keepN
      rw [e m hm', e (m - 1) (by omega), decide_eq_decide]
      constructor
      · rintro (h | h)
        · exact .inl h
        · exact .inr (fun h2 => h (by rw [h2]))
      · rintro (h | h)
        · exact .inl h
        · exact .inr (fun h2 => h (list_of_inj h2))
    rw [hk]
    split
    · rw [e m hm']
      rfl
    · rfl
/-- Names that are one stand side by side. -/
def Runs (l : List ByteArray) : Prop := ∀ m (h : m + 1 < l.length), l[m] ≠ l[m + 1] → ∀ j (hj : j ≤ m), l[j] ≠ l[m + 1]
theorem name_le {a b : Lab} (h : labC a b = -1) : cmpB a.1 b.1 = -1 ∨ a.1 = b.1 := by
  have hf : labC a b = if cmpB a.1 b.1 ≠ 0 then cmpB a.1 b.1 else cmpB a.2 b.2 := rfl
  by_cases h0 : cmpB a.1 b.1 = 0
  · exact .inr (cmpB_good.zero _ _ h0)
  · rw [hf, if_pos h0] at h
    exact .inl h
theorem runs_of {P : Posts} (h : SortP P) : Runs (P.map (·.1.1)) := by
  intro m hm hne j hj e
  have hl : (P.map (·.1.1)).length = P.length := List.length_map _
  unfold SortP at h
  rw [List.pairwise_iff_getElem] at h
  simp only [List.getElem_map] at hne e
  have h1 : cmpB P[m].1.1 P[m + 1].1.1 = -1 := by
    rcases name_le (h m (m + 1) (by omega) (by omega) (by omega)) with e1 | e1
    · exact e1
    · exact absurd e1 hne
  by_cases hjm : j = m
  · subst hjm
    exact hne e
  · rcases name_le (h j m (by omega) (by omega) (by omega)) with e1 | e1
    · have := cmpB_good.trans _ _ _ e1 h1
      rw [e] at this
      have := cmpB_good.self P[m + 1].1.1
      omega
    · exact hne (by rw [← e1]; exact e)
theorem ded_last {l : List ByteArray} (hR : Runs l) : ∀ m (h : m < l.length), ∃ init, dedN l (m + 1) = init ++ [l[m]] ∧ ∀ n ∈ init, n ∈ l.take m ∧ n ≠ l[m]
  | 0, h => ⟨[], by simp [dedN, keepN, List.getD_eq_getElem?_getD, h], fun n hn => by cases hn⟩
  | m + 1, h => by
    obtain ⟨init, h1, h2⟩ := ded_last hR m (by omega)
    rw [dedN, h1]
    by_cases hk : l[m] = l[m + 1]
    · have : keepN l (m + 1) = false := by
        unfold keepN
        rw [getD_at h, show m + 1 - 1 = m by omega, getD_at (show m < l.length by omega), hk]
        simp
      rw [this]
      refine ⟨init, by rw [hk]; simp, fun n hn => ?_⟩
      obtain ⟨h3, h4⟩ := h2 n hn
      refine ⟨?_, by rw [← hk]; exact h4⟩
      obtain ⟨i, hi, e⟩ := List.mem_take_iff_getElem.1 h3
      exact List.mem_take_iff_getElem.2 ⟨i, by omega, e⟩
    · have : keepN l (m + 1) = true := by
        unfold keepN
        rw [getD_at h, show m + 1 - 1 = m by omega, getD_at (show m < l.length by omega)]
        exact decide_eq_true (.inr (fun e => hk e.symm))
      rw [this, if_pos rfl, getD_at h]
      refine ⟨init ++ [l[m]], rfl, fun n hn => ?_⟩
      have hmem : n ∈ l.take (m + 1) := by
        rcases List.mem_append.1 hn with e | e
        · obtain ⟨i, hi, e2⟩ := List.mem_take_iff_getElem.1 (h2 n e).1
          exact List.mem_take_iff_getElem.2 ⟨i, by omega, e2⟩
        · rw [List.mem_singleton.1 e]
          exact List.mem_take_iff_getElem.2 ⟨m, by omega, rfl⟩
      refine ⟨hmem, ?_⟩
      obtain ⟨i, hi, e⟩ := List.mem_take_iff_getElem.1 hmem
      rw [← e]
      exact hR m h hk i (by omega)
theorem flat_congr {α β : Type} {f g : α → List β} : ∀ {l : List α}, (∀ a ∈ l, f a = g a) → l.flatMap f = l.flatMap g
  | [], _ => rfl
  | a :: r, h => by
    rw [List.flatMap_cons, List.flatMap_cons, h a (List.mem_cons_self ..), flat_congr (fun b hb => h b (List.mem_cons_of_mem _ hb))]
/-- The posts of a name. -/
def ofN (P : Posts) (n : ByteArray) : Posts := P.filter (fun p => decide (p.1.1 = n))
theorem group_take {P : Posts} (hs : SortP P) : ∀ m, m < P.length → (dedN (P.map (·.1.1)) (m + 1)).flatMap (ofN (P.take (m + 1))) = P.take (m + 1)
  | 0, h => by
    have e : P.take 1 = [P[0]] := by rw [List.take_succ_eq_append_getElem h]; simp
    rw [e]
    have hd : dedN (P.map (·.1.1)) 1 = [P[0].1.1] := by simp [dedN, keepN, List.getD_eq_getElem?_getD, h]
    rw [hd]
    simp [ofN]
  | m + 1, h => by
    have ih := group_take hs m (by omega)
    have hl : (P.map (·.1.1)).length = P.length := List.length_map _
    obtain ⟨init, h1, h2⟩ := ded_last (runs_of hs) m (by rw [hl]; omega)
    have happ : ∀ n, ofN (P.take (m + 1 + 1)) n = ofN (P.take (m + 1)) n ++ (if P[m + 1].1.1 = n then [P[m + 1]] else []) := fun n => by
      unfold ofN
      rw [List.take_succ_eq_append_getElem h, List.filter_append]
      congr 1
      rw [List.filter_cons]
      split
      · rename_i e
        rw [if_pos (by simpa using e)]
        rfl
      · rename_i e
        rw [if_neg (by simpa using e)]
        rfl
    have hg1 : (P.map (·.1.1)).getD (m + 1) ⟨#[]⟩ = P[m + 1].1.1 := by rw [getD_at (by rw [hl]; exact h)]; simp
    have hg0 : (P.map (·.1.1)).getD m ⟨#[]⟩ = P[m].1.1 := by rw [getD_at (by rw [hl]; omega)]; simp
    by_cases hk : P[m].1.1 = P[m + 1].1.1
    · have hkn : keepN (P.map (·.1.1)) (m + 1) = false := by
        unfold keepN
        rw [hg1, show m + 1 - 1 = m by omega, hg0, hk]
        simp
      rw [dedN, hkn, if_neg (by decide), List.append_nil]
      rw [h1, List.flatMap_append] at ih ⊢
      have e1 : init.flatMap (ofN (P.take (m + 1 + 1))) = init.flatMap (ofN (P.take (m + 1))) := flat_congr (fun n hn => by
        rw [happ, if_neg, List.append_nil]
        intro e
        have := (h2 n hn).2
        simp only [List.getElem_map] at this
        exact this (by rw [← e, hk]))
      simp only [List.getElem_map, List.flatMap_cons, List.flatMap_nil, List.append_nil] at ih ⊢
      rw [e1, happ, if_pos hk.symm, ← List.append_assoc, ih, ← List.take_succ_eq_append_getElem h]
    · have hkn : keepN (P.map (·.1.1)) (m + 1) = true := by
        unfold keepN
        rw [hg1, show m + 1 - 1 = m by omega, hg0]
        exact decide_eq_true (.inr (fun e => hk e.symm))
      have hno : ∀ j (hj : j ≤ m), P[j].1.1 ≠ P[m + 1].1.1 := fun j hj => by
        have := runs_of hs m (by rw [hl]; exact h) (by simpa using hk) j hj
        simpa using this
      rw [dedN, hkn, if_pos rfl, hg1, List.flatMap_append]
      have e1 : (dedN (P.map (·.1.1)) (m + 1)).flatMap (ofN (P.take (m + 1 + 1))) = (dedN (P.map (·.1.1)) (m + 1)).flatMap (ofN (P.take (m + 1))) := flat_congr (fun n hn => by
        rw [happ, if_neg, List.append_nil]
        intro e
        rw [h1] at hn
        rcases List.mem_append.1 hn with h3 | h3
        · obtain ⟨i, hi, e2⟩ := List.mem_take_iff_getElem.1 (h2 n h3).1
          simp only [List.getElem_map] at e2
          exact hno i (by omega) (by rw [e2, e])
        · have h4 := List.mem_singleton.1 h3
          simp only [List.getElem_map] at h4
          exact hk (by rw [← h4, e]))
      rw [e1, ih]
      simp only [List.flatMap_cons, List.flatMap_nil, List.append_nil]
      rw [happ, if_pos rfl]
      have e2 : ofN (P.take (m + 1)) P[m + 1].1.1 = [] := by
        unfold ofN
        rw [List.filter_eq_nil_iff]
        intro p hp
        obtain ⟨i, hi, e⟩ := List.mem_take_iff_getElem.1 hp
        rw [← e]
        simpa using hno i (by omega)
      rw [e2, List.nil_append, ← List.take_succ_eq_append_getElem h]
/-- All names of posts. -/
def namesP (P : Posts) : List ByteArray := dedN (P.map (·.1.1)) P.length
theorem group_all {P : Posts} (hs : SortP P) : (namesP P).flatMap (ofN P) = P := by
  unfold namesP
  cases hP : P.length with
  | zero =>
    have : P = [] := List.length_eq_zero_iff.1 hP
    rw [this]
    rfl
  | succ m =>
    have := group_take hs m (by omega)
    rw [← hP, List.take_length] at this
    rw [hP] at this
    exact this
theorem names_len (P : Posts) : (namesP P).length ≤ P.length := dedN_len _ _
theorem names_mem {P : Posts} {n : ByteArray} (hn : n ∈ namesP P) : ∃ p ∈ P, p.1.1 = n := by
  have key : ∀ m, m ≤ P.length → ∀ n ∈ dedN (P.map (·.1.1)) m, ∃ p ∈ P, p.1.1 = n := by
    intro m
    induction m with
    | zero => intro _ n hn; cases hn
    | succ m ih =>
      intro hm n hn
      rw [dedN] at hn
      rcases List.mem_append.1 hn with e | e
      · exact ih (by omega) n e
      · split at e
        · rw [List.mem_singleton.1 e, getD_at (by rw [List.length_map]; exact hm)]
          exact ⟨P[m], List.getElem_mem _, by simp⟩
        · cases e
  exact key _ (Nat.le_refl _) n hn
/-- Where the posts of a name stand. -/
def atN (P : Posts) (i : Nat) : Nat := (((namesP P).take i).flatMap (ofN P)).length
theorem atN_succ {P : Posts} {i : Nat} (hi : i < (namesP P).length) : atN P (i + 1) = atN P i + (ofN P (namesP P)[i]).length := by
  unfold atN
  rw [List.take_succ_eq_append_getElem hi, List.flatMap_append, List.length_append]
  simp
theorem atN_all {P : Posts} (hs : SortP P) : atN P (namesP P).length = P.length := by
  unfold atN
  rw [List.take_length, group_all hs]
theorem atN_get {P : Posts} (hs : SortP P) {i : Nat} (hi : i < (namesP P).length) {k : Nat} (hk : k < (ofN P (namesP P)[i]).length) : ∃ h : atN P i + k < P.length, P[atN P i + k] = (ofN P (namesP P)[i])[k] := by
  have e : P = ((namesP P).take i).flatMap (ofN P) ++ (ofN P (namesP P)[i] ++ ((namesP P).drop (i + 1)).flatMap (ofN P)) := by
    have h1 := group_all hs
    conv at h1 => lhs; arg 2; rw [← List.take_append_drop i (namesP P), List.drop_eq_getElem_cons hi]
    rw [List.flatMap_append, List.flatMap_cons] at h1
    exact h1.symm
  have hl := congrArg List.length e
  rw [List.length_append, List.length_append] at hl
  have hlt : atN P i + k < P.length := by unfold atN; omega
  refine ⟨hlt, ?_⟩
  have h2 : P[atN P i + k]? = (ofN P (namesP P)[i])[k]? := by
    conv => lhs; arg 1; rw [e]
    unfold atN
    rw [List.getElem?_append_right (by omega), List.getElem?_append_left (by omega)]
    congr 1
    omega
  rw [List.getElem?_eq_getElem hlt, List.getElem?_eq_getElem hk] at h2
  exact Option.some.inj h2
end Go.Proofs.YteknpfldemgmnaaGreat.X
