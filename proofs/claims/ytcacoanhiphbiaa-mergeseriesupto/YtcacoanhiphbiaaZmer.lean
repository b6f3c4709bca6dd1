/-
  Series put together: items with ranks, and how much is told.
-/
import Derived.Test.YtcacoanhiphbiaaZropen
import Derived.Test.YtcacoanhiphbiaaZrm1
namespace Go.Proofs.Ytcacoanhiphbiaa.Ms
open Go Go.RowKit Go.Proofs.Lys
open Go.Proofs.Ytcacoanhiphbiaa.N (Labs bigN bigN_len)
set_option linter.unusedVariables false

def toI (rk : Labs → Int) (l : List SVc) : Smps := l.map (fun x => (rk x.labs, x))
def labsOf (ls : List (List SVc)) : List Labs := ls.flatten.map SVc.labs
theorem items {w : World} {v : Value} {vs : List Value} {ls : List (List SVc)} (h : LRIn w v vs ls) (RK : Rank) (hRK : RK.ls = labsOf ls) : LLSrc RK w v vs (ls.map (toI RK.rk)) := by
  refine ⟨h.src, by rw [List.length_map]; exact h.len, fun i h1 h2 => ?_⟩
  have hi : i < ls.length := by simpa using h1
  have hr := h.each i hi h2
  rw [List.getElem_map]
  have hmem : ∀ x ∈ ls[i], x.labs ∈ RK.ls := fun x hx => by
    rw [hRK]
    exact List.mem_map.2 ⟨x, List.mem_flatten.2 ⟨_, List.getElem_mem hi, hx⟩, rfl⟩
  generalize ls[i] = l at hr hmem ⊢
  have hll : (toI RK.rk l).length = l.length := List.length_map _
  refine ⟨?_, by rw [hll]; exact hr.shape⟩
  rcases hr.src with ⟨a, c, e, h0⟩ | ⟨h0, b, o, c, e, hc⟩
  · subst h0
    exact .inl ⟨a, c, e, rfl⟩
  · refine .inr ⟨by rw [hll]; exact h0, b, o, c, by rw [hll]; exact e, fun k hk => ?_⟩
    have hk2 : k < l.length := by rw [hll] at hk; exact hk
    have hx := hc k hk2
    have hm := hmem _ (List.getElem_mem hk2)
    have hg : (toI RK.rk l)[k] = (RK.rk l[k].labs, l[k]) := List.getElem_map _
    rw [hg]
    exact ⟨hx.1, hx.2.1, hm, hx.2.2.lab, hx.2.2.smp, rfl⟩
theorem toI_flat (rk : Labs → Int) (ls : List (List SVc)) : (ls.map (toI rk)).flatten = toI rk ls.flatten := by
  induction ls with
  | nil => rfl
  | cons l r ih =>
    rw [List.map_cons, List.flatten_cons, ih, List.flatten_cons]
    unfold toI
    rw [List.map_append]
theorem toI_ok (RK : Rank) (ls : List (List SVc)) (hRK : RK.ls = labsOf ls) : ∀ x ∈ toI RK.rk ls.flatten, RkOk RK x := by
  intro x hx
  obtain ⟨y, hy, rfl⟩ := List.mem_map.1 hx
  refine ⟨?_, rfl⟩
  rw [hRK]
  exact List.mem_map.2 ⟨y, hy, rfl⟩
/-- What is told. -/
def told (ls : List (List SVc)) : List Ser := (ls.flatten.map (fun x => (x.labs, x.smps))).foldl stepD []
theorem toI_told (rk : Labs → Int) (ls : List (List SVc)) : ((toI rk ls.flatten).map serI).foldl stepD [] = told ls := by
  unfold told toI
  rw [List.map_map]
  rfl
def sumR (l : List SVc) : Nat := (l.map (fun x => x.smps.length)).sum
theorem sumR_app (a b : List SVc) : sumR (a ++ b) = sumR a + sumR b := by unfold sumR; rw [List.map_append, List.sum_append]
theorem toI_wsum (rk : Labs → Int) (l : List SVc) : wsum (toI rk l) = sumR l := by
  unfold wsum toI sumR
  rw [List.map_map]
  rfl
def wt (o : List Ser) : Nat := (o.map (fun s => s.2.length)).sum
theorem wt_cons (x : Ser) (o : List Ser) : wt (x :: o) = x.2.length + wt o := by unfold wt; rw [List.map_cons, List.sum_cons]
theorem insD_len (x : Ser) : ∀ o : List Ser, (insD x o).length ≤ o.length + 1
  | [] => by simp [insD]
  | y :: r => by
    have ih := insD_len x r
    unfold insD
    split
    · simp only [List.length_cons]; omega
    · split
      · simp only [List.length_cons]; omega
      · simp only [List.length_cons]; omega
theorem insD_wt (x : Ser) : ∀ o : List Ser, wt (insD x o) ≤ wt o + x.2.length
  | [] => by
    have := Mg.mrg_len x.2
    unfold insD
    rw [wt_cons]
    show (Mg.mrg x.2).length + 0 ≤ 0 + _
    omega
  | y :: r => by
    have ih := insD_wt x r
    unfold insD
    split
    · rw [wt_cons, wt_cons]; omega
    · split
      · have := Mg.mrg_len (y.2 ++ x.2)
        rw [List.length_append] at this
        rw [wt_cons, wt_cons]
        show (Mg.mrg (y.2 ++ x.2)).length + _ ≤ _
        omega
      · have := Mg.mrg_len x.2
        rw [wt_cons, wt_cons]
        show (Mg.mrg x.2).length + _ ≤ _
        omega
theorem insD_lab (x : Ser) : ∀ o : List Ser, ∀ s ∈ insD x o, s.1 = x.1 ∨ ∃ y ∈ o, s.1 = y.1
  | [], s, h => by
    have : s = (x.1, Mg.mrg x.2) := List.mem_singleton.1 h
    exact .inl (by rw [this])
  | y :: r, s, h => by
    unfold insD at h
    split at h
    · rcases List.mem_cons.1 h with rfl | h
      · exact .inr ⟨_, List.mem_cons_self, rfl⟩
      · rcases insD_lab x r s h with e | ⟨z, hz, e⟩
        · exact .inl e
        · exact .inr ⟨z, List.mem_cons_of_mem _ hz, e⟩
    · split at h
      · rcases List.mem_cons.1 h with rfl | h
        · exact .inr ⟨y, List.mem_cons_self, rfl⟩
        · exact .inr ⟨s, List.mem_cons_of_mem _ h, rfl⟩
      · rcases List.mem_cons.1 h with rfl | h
        · exact .inl rfl
        · exact .inr ⟨s, h, rfl⟩
theorem fold_bounds : ∀ (xs o : List Ser), (xs.foldl stepD o).length ≤ o.length + xs.length ∧ wt (xs.foldl stepD o) ≤ wt o + wt xs ∧ ∀ s ∈ xs.foldl stepD o, (∃ x ∈ xs, s.1 = x.1) ∨ ∃ y ∈ o, s.1 = y.1
  | [], o => ⟨by simp, by show wt o ≤ wt o + 0; omega, fun s hs => .inr ⟨s, hs, rfl⟩⟩
  | x :: xs, o => by
    obtain ⟨h1, h2, h3⟩ := fold_bounds xs (stepD o x)
    have hs : (stepD o x).length ≤ o.length + 1 ∧ wt (stepD o x) ≤ wt o + x.2.length ∧ ∀ s ∈ stepD o x, s.1 = x.1 ∨ ∃ y ∈ o, s.1 = y.1 := by
      unfold stepD
      split
      · exact ⟨by omega, by omega, fun s hs => .inr ⟨s, hs, rfl⟩⟩
      · exact ⟨insD_len x o, insD_wt x o, insD_lab x o⟩
    rw [List.foldl_cons]
    refine ⟨by rw [List.length_cons]; omega, by rw [wt_cons]; omega, fun s hm => ?_⟩
    rcases h3 s hm with ⟨y, hy, e⟩ | ⟨y, hy, e⟩
    · exact .inl ⟨y, List.mem_cons_of_mem _ hy, e⟩
    · rcases hs.2.2 y hy with e2 | ⟨z, hz, e2⟩
      · exact .inl ⟨x, List.mem_cons_self, by rw [e, e2]⟩
      · exact .inr ⟨z, hz, by rw [e, e2]⟩
theorem wt_mem {o : List Ser} {s : Ser} (h : s ∈ o) : s.2.length ≤ wt o := by
  induction o with
  | nil => cases h
  | cons y r ih =>
    rw [wt_cons]
    rcases List.mem_cons.1 h with rfl | h
    · omega
    · have := ih h
      omega
/-- What the law lets through. -/
structure Small (ls : List (List SVc)) : Prop where
  lists : ls.length ≤ 20
  few : ∀ l ∈ ls, FewR l
  items : ls.flatten.length ≤ 2000
  smps : sumR ls.flatten ≤ 2000
theorem Small.lab {ls : List (List SVc)} (h : Small ls) : ∀ a ∈ labsOf ls, a.length ≤ 4000 := by
  intro a ha
  obtain ⟨x, hx, rfl⟩ := List.mem_map.1 ha
  obtain ⟨l, hl, hxl⟩ := List.mem_flatten.1 hx
  have h1 := (h.few l hl).2.2 x hxl
  have h2 := bigN_len x.labs
  omega
theorem Small.told {ls : List (List SVc)} (h : Small ls) : (told ls).length ≤ 2000 ∧ ∀ s ∈ told ls, s.1.length ≤ 4000 ∧ s.2.length ≤ 2000 := by
  obtain ⟨h1, h2, h3⟩ := fold_bounds (ls.flatten.map (fun x => (x.labs, x.smps))) []
  have e1 : (ls.flatten.map (fun x => ((x.labs, x.smps) : Ser))).length = ls.flatten.length := List.length_map _
  have e2 : wt (ls.flatten.map (fun x => ((x.labs, x.smps) : Ser))) = sumR ls.flatten := by
    unfold wt sumR
    rw [List.map_map]
    rfl
  have h4 := h.items
  have h5 := h.smps
  refine ⟨?_, fun s hs => ⟨?_, ?_⟩⟩
  · have h6 : (Ms.told ls).length ≤ 0 + _ := h1
    omega
  · rcases h3 s hs with ⟨x, hx, e⟩ | ⟨y, hy, _⟩
    · obtain ⟨y, hy, rfl⟩ := List.mem_map.1 hx
      rw [e]
      exact h.lab _ (List.mem_map.2 ⟨y, hy, rfl⟩)
    · cases hy
  · have h6 := wt_mem hs
    have h7 : wt (Ms.told ls) ≤ 0 + _ := h2
    omega
end Go.Proofs.Ytcacoanhiphbiaa.Ms
