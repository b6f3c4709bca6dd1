/-
  Posts in plain words: pairs of a name and a value, rising, each with the numbers of the series that have it.
-/
import Derived.Test.YtdgkdgbdkhnpcaaGreatNtext
import Derived.Test.YtdgkdgbdkhnpcaaGreatOplain
namespace Go.Proofs.YtdgkdgbdkhnpcaaGreat.X
open Go.Proofs.YtdgkdgbdkhnpcaaGreat.N Go.Proofs.YtdgkdgbdkhnpcaaGreat.Po
set_option linter.unusedVariables false

abbrev Post := Lab × List Int
abbrev Posts := List Post
def SortP (P : Posts) : Prop := P.Pairwise (fun a b => labC a.1 b.1 = -1)
def lookP (P : Posts) (x : Lab) : List Int := match P.find? (fun p => decide (p.1 = x)) with
  | some p => p.2
  | none => []
/-- One number more at a pair. -/
def addP (x : Lab) (i : Int) : Posts → Posts
  | [] => [(x, [i])]
  | p :: r => if p.1 = x then (x, p.2 ++ [i]) :: r else if labC x p.1 = -1 then (x, [i]) :: p :: r else p :: addP x i r
def addS (P : Posts) (i : Int) (l : Labs) : Posts := l.foldl (fun P x => addP x i P) P
def addF (P : Posts) (i : Nat) : List Labs → Posts
  | [] => P
  | l :: r => addF (addS P (i : Int) l) (i + 1) r
def postsOf (L : List Labs) : Posts := addF [] 0 L

theorem addS_snoc (P : Posts) (i : Int) (l : Labs) (x : Lab) : addS P i (l ++ [x]) = addP x i (addS P i l) := by
  unfold addS
  rw [List.foldl_append]
  rfl
theorem addF_snoc : ∀ (L : List Labs) (P : Posts) (i : Nat) (l : Labs), addF P i (L ++ [l]) = addS (addF P i L) ((i + L.length : Nat) : Int) l
  | [], P, i, l => by simp [addF]
  | a :: r, P, i, l => by
    rw [List.cons_append, addF, addF, addF_snoc r _ _ l, List.length_cons, show i + 1 + r.length = i + (r.length + 1) by omega]
theorem postsOf_snoc (L : List Labs) (l : Labs) : postsOf (L ++ [l]) = addS (postsOf L) (L.length : Int) l := by
  have := addF_snoc L [] 0 l
  rw [Nat.zero_add] at this
  exact this
theorem labC_or (x y : Lab) (h : x ≠ y) (h2 : ¬ labC x y = -1) : labC y x = -1 := by
  rcases labC_good.rng x y with e | e | e
  · exact absurd e h2
  · exact absurd (labC_good.zero x y e) h
  · have := labC_good.anti x y
    omega
theorem labC_irr (x : Lab) : ¬ labC x x = -1 := by
  have := labC_good.self x
  omega
theorem addP_mem (x : Lab) (i : Int) : ∀ {P : Posts} {p : Post}, p ∈ addP x i P → p.1 = x ∨ p ∈ P
  | [], p, h => by
    rw [addP, List.mem_singleton] at h
    rw [h]
    exact .inl rfl
  | q :: r, p, h => by
    rw [addP] at h
    split at h
    · rcases List.mem_cons.1 h with e | e
      · rw [e]
        exact .inl rfl
      · exact .inr (List.mem_cons_of_mem _ e)
    · split at h
      · rcases List.mem_cons.1 h with e | e
        · rw [e]
          exact .inl rfl
        · exact .inr e
      · rcases List.mem_cons.1 h with e | e
        · exact .inr (List.mem_cons.2 (.inl e))
        · exact (addP_mem x i e).imp id (List.mem_cons_of_mem _)
theorem addP_sort (x : Lab) (i : Int) : ∀ {P : Posts}, SortP P → SortP (addP x i P)
  | [], _ => List.pairwise_singleton _ _
  | q :: r, h => by
    have hz := List.pairwise_cons.1 h
    rw [addP]
    split
    · rename_i e
      exact List.pairwise_cons.2 ⟨fun p hp => by have := hz.1 p hp; rw [e] at this; exact this, hz.2⟩
    · rename_i e
      split
      · rename_i e2
        refine List.pairwise_cons.2 ⟨fun p hp => ?_, h⟩
        rcases List.mem_cons.1 hp with h1 | h1
        · rw [h1]
          exact e2
        · exact labC_good.trans _ _ _ e2 (hz.1 p h1)
      · rename_i e2
        refine List.pairwise_cons.2 ⟨fun p hp => ?_, addP_sort x i hz.2⟩
        rcases addP_mem x i hp with h1 | h1
        · rw [h1]
          exact labC_or x q.1 (fun h => e h.symm) e2
        · exact hz.1 p h1
theorem look_sorted {P : Posts} (h : SortP P) {x : Lab} {l : List Int} (hm : (x, l) ∈ P) : lookP P x = l := by
  unfold lookP
  induction P with
  | nil => cases hm
  | cons q r ih =>
    have hz := List.pairwise_cons.1 h
    rw [List.find?_cons]
    by_cases e : q.1 = x
    · rw [decide_eq_true e]
      rcases List.mem_cons.1 hm with h1 | h1
      · rw [← h1]
      · have := hz.1 _ h1
        rw [e] at this
        exact absurd this (labC_irr x)
    · rw [decide_eq_false e]
      rcases List.mem_cons.1 hm with h1 | h1
      · exact absurd (by rw [← h1]) e
      · exact ih hz.2 h1
theorem look_none {P : Posts} {x : Lab} (h : ∀ p ∈ P, p.1 ≠ x) : lookP P x = [] := by
  unfold lookP
  rw [List.find?_eq_none.2 (fun p hp => by simpa using h p hp)]
theorem add_perm (x : Lab) (i : Int) : ∀ {P : Posts}, SortP P → (addP x i P).Perm ((x, lookP P x ++ [i]) :: P.filter (fun p => !decide (p.1 = x)))
  | [], _ => by
    have e : lookP [] x = [] := rfl
    rw [addP, e]
    exact .refl _
  | q :: r, h => by
    have hz := List.pairwise_cons.1 h
    rw [addP]
    split
    · rename_i e
      have hf : (q :: r).filter (fun p => !decide (p.1 = x)) = r := by
        rw [List.filter_cons, if_neg (by simp [e]), List.filter_eq_self]
        intro p hp
        simp only [Bool.not_eq_true', decide_eq_false_iff_not]
        intro e2
        have := hz.1 p hp
        rw [e, e2] at this
        exact labC_irr x this
      rw [hf, look_sorted h (x := x) (l := q.2) (by rw [← e]; exact List.mem_cons_self ..)]
    · rename_i e
      have hc : (q :: r).filter (fun p => !decide (p.1 = x)) = q :: r.filter (fun p => !decide (p.1 = x)) := by
        rw [List.filter_cons, if_pos (by simp [e])]
      have hl : lookP (q :: r) x = lookP r x := by
        unfold lookP
        rw [List.find?_cons, decide_eq_false e]
      split
      · rename_i e2
        have hn : ∀ p ∈ r, p.1 ≠ x := fun p hp e3 => by
          have := labC_good.trans _ _ _ e2 (hz.1 p hp)
          rw [e3] at this
          exact labC_irr x this
        rw [hc, hl, look_none hn, List.filter_eq_self.2 (fun p hp => by simp [hn p hp])]
        exact .refl _
      · rw [hc, hl]
        exact ((add_perm x i hz.2).cons q).trans (.swap _ _ _)
theorem look_add {P : Posts} (h : SortP P) (x : Lab) (i : Int) (y : Lab) : lookP (addP x i P) y = if y = x then lookP P x ++ [i] else lookP P y := by
  have hs := addP_sort x i h
  have hp := add_perm x i h
  split
  · rename_i e
    rw [e]
    exact look_sorted hs (hp.mem_iff.2 (List.mem_cons_self ..))
  · rename_i e
    by_cases hy : ∃ l, (y, l) ∈ P
    · obtain ⟨l, hl⟩ := hy
      rw [look_sorted h hl]
      exact look_sorted hs (hp.mem_iff.2 (List.mem_cons_of_mem _ (List.mem_filter.2 ⟨hl, by simpa using e⟩)))
    · have h1 : ∀ p ∈ P, p.1 ≠ y := fun p hp e2 => hy ⟨p.2, by rw [← e2]; exact hp⟩
      rw [look_none h1, look_none]
      intro p hp2
      rcases addP_mem x i hp2 with e2 | e2
      · rw [e2]
        exact fun e3 => e e3.symm
      · exact h1 p e2
/-- What posts hold: those of the first N series, and of the next one the labels D. -/
structure Tells (P : Posts) (N : Nat) (T : Lab → Nat → Prop) : Prop where
  sort : SortP P
  some : ∀ p ∈ P, p.2 ≠ []
  up : ∀ p ∈ P, upB (-1) p.2 = true
  lt : ∀ p ∈ P, ∀ v ∈ p.2, v < (N : Int)
  iff : ∀ x (i : Nat), (i : Int) ∈ lookP P x ↔ T x i
theorem look_mem {P : Posts} {x : Lab} {v : Int} (h : v ∈ lookP P x) : ∃ p ∈ P, p.1 = x ∧ lookP P x = p.2 := by
  unfold lookP at h ⊢
  cases e : P.find? (fun p => decide (p.1 = x)) with
  | none => rw [e] at h; cases h
  | some p => exact ⟨p, List.mem_of_find?_eq_some e, by simpa using List.find?_some e, rfl⟩
theorem look_or (P : Posts) (x : Lab) : lookP P x = [] ∨ ∃ p ∈ P, p.1 = x ∧ lookP P x = p.2 := by
  unfold lookP
  cases e : P.find? (fun p => decide (p.1 = x)) with
  | none => exact .inl rfl
  | some p => exact .inr ⟨p, List.mem_of_find?_eq_some e, by simpa using List.find?_some e, rfl⟩
theorem up_snoc : ∀ {l : List Int} {last i : Int}, upB last l = true → (∀ v ∈ l, v < i) → last < i → i < 1099511627776 → upB last (l ++ [i]) = true
  | [], last, i, _, _, h1, h2 => up_cons.2 ⟨h1, h2, rfl⟩
  | a :: t, last, i, h, hv, h1, h2 => by
    have hz := up_cons.1 h
    exact up_cons.2 ⟨hz.1, hz.2.1, up_snoc hz.2.2 (fun v hv' => hv v (List.mem_cons_of_mem _ hv')) (hv a (List.mem_cons_self ..)) h2⟩
/-- A label more of the series N. -/
theorem Tells.add {P : Posts} {N : Nat} {D : Labs} {T : Lab → Nat → Prop} (h : Tells P (N + 1) (fun x i => (i < N ∧ T x i) ∨ (i = N ∧ x ∈ D))) (hN : N < 1000000) {x : Lab} (hx : x ∉ D) :
    Tells (addP x (N : Int) P) (N + 1) (fun y i => (i < N ∧ T y i) ∨ (i = N ∧ y ∈ D ++ [x])) := by
  have hlast : ∀ v ∈ lookP P x, v < (N : Int) := fun v hv => by
    obtain ⟨p, hp, h1, h2⟩ := look_mem hv
    have h3 := h.lt p hp v (by rw [← h2]; exact hv)
    have h4 := (up_mem (h.up p hp) (by rw [← h2]; exact hv)).1
    obtain ⟨m, rfl⟩ : ∃ m : Nat, v = (m : Int) := ⟨v.toNat, by omega⟩
    rcases (h.iff x m).1 hv with e | ⟨_, e⟩
    · omega
    · exact absurd e hx
  have hup : upB (-1) (lookP P x) = true := by
    rcases look_or P x with e | ⟨p, hp, _, e⟩
    · rw [e]; rfl
    · rw [e]; exact h.up p hp
  have hmem : ∀ p ∈ addP x (N : Int) P, p = (x, lookP P x ++ [(N : Int)]) ∨ p ∈ P := fun p hp => by
    rcases List.mem_cons.1 ((add_perm x (N : Int) h.sort).mem_iff.1 hp) with e | e
    · exact .inl e
    · exact .inr (List.mem_filter.1 e).1
  refine ⟨addP_sort x _ h.sort, fun p hp => ?_, fun p hp => ?_, fun p hp v hv => ?_, fun y i => ?_⟩
  · rcases hmem p hp with e | e
    · rw [e]; simp
    · exact h.some p e
  · rcases hmem p hp with e | e
    · rw [e]
      exact up_snoc hup hlast (by omega) (by omega)
    · exact h.up p e
  · rcases hmem p hp with e | e
    · rw [e] at hv
      rcases List.mem_append.1 hv with e2 | e2
      · have := hlast v e2
        omega
      · rw [List.mem_singleton.1 e2]
        omega
    · exact h.lt p e v hv
  · rw [look_add h.sort]
    split
    · rename_i e
      subst e
      rw [List.mem_append, List.mem_singleton, h.iff, List.mem_append, List.mem_singleton]
      constructor
      · rintro ((e1 | e1) | e1)
        · exact .inl e1
        · exact .inr ⟨e1.1, .inl e1.2⟩
        · exact .inr ⟨by omega, .inr rfl⟩
      · rintro (e1 | ⟨e1, e2 | e2⟩)
        · exact .inl (.inl e1)
        · exact .inl (.inr ⟨e1, e2⟩)
        · exact .inr (by omega)
    · rename_i e
      rw [h.iff, List.mem_append, List.mem_singleton]
      constructor
      · rintro (e1 | e1)
        · exact .inl e1
        · exact .inr ⟨e1.1, .inl e1.2⟩
      · rintro (e1 | ⟨e1, e2 | e2⟩)
        · exact .inl e1
        · exact .inr ⟨e1, e2⟩
        · exact absurd e2 e
def HasL (L : List Labs) (x : Lab) (i : Nat) : Prop := ∃ l, L[i]? = some l ∧ x ∈ l
theorem Tells.addS {P : Posts} {N : Nat} {T : Lab → Nat → Prop} (hN : N < 1000000) : ∀ (l D : Labs), (D ++ l).Nodup → ∀ {P : Posts}, Tells P (N + 1) (fun x i => (i < N ∧ T x i) ∨ (i = N ∧ x ∈ D)) →
    Tells (addS P (N : Int) l) (N + 1) (fun y i => (i < N ∧ T y i) ∨ (i = N ∧ y ∈ D ++ l))
  | [], D, _, P, h => by simpa [X.addS] using h
  | x :: t, D, hn, P, h => by
    have hx : x ∉ D := fun e => by
      have := (List.nodup_append.1 hn).2.2 x e x (List.mem_cons_self ..)
      exact this rfl
    have := Tells.addS (P := P) hN t (D ++ [x]) (by simpa using hn) (h.add hN hx)
    simpa [X.addS] using this
theorem rise_nodup {l : Labs} (h : Rise l) : l.Nodup := by
  refine List.Pairwise.imp ?_ h
  intro a b hab e
  rw [e] at hab
  have := cmpB_good.self b.1
  omega
/-- The posts of series. -/
theorem posts_tells (L : List Labs) (hM : ∀ l ∈ L, Rise l) (hl : L.length < 1000000) : Tells (postsOf L) L.length (HasL L) := by
  have key : ∀ n, n ≤ L.length → Tells (postsOf (L.take n)) n (fun x i => i < n ∧ HasL L x i) := by
    intro n
    induction n with
    | zero =>
      intro _
      rw [List.take_zero]
      refine ⟨List.Pairwise.nil, ?_, ?_, ?_, fun x i => ⟨fun h => absurd h List.not_mem_nil, fun h => by omega⟩⟩
      · intro p hp; cases hp
      · intro p hp; cases hp
      · intro p hp; cases hp
    | succ n ih =>
      intro hn
      have h0 := ih (by omega)
      rw [List.take_succ_eq_append_getElem (by omega), postsOf_snoc, List.length_take, Nat.min_eq_left (by omega)]
      have hlm : L[n] ∈ L := List.getElem_mem _
      have h1 : Tells (postsOf (L.take n)) (n + 1) (fun x i => (i < n ∧ HasL L x i) ∨ (i = n ∧ x ∈ ([] : Labs))) :=
        ⟨h0.sort, h0.some, h0.up, fun p hp v hv => by have := h0.lt p hp v hv; omega, fun x i => by rw [h0.iff]; simp⟩
      have h2 := Tells.addS (P := postsOf (L.take n)) (by omega) L[n] [] (by simpa using rise_nodup (hM _ hlm)) h1
      refine ⟨h2.sort, h2.some, h2.up, h2.lt, fun x i => ?_⟩
      rw [h2.iff, List.nil_append]
      constructor
      · rintro (e | ⟨e, e2⟩)
        · exact ⟨by omega, e.2⟩
        · subst e
          exact ⟨by omega, L[i], List.getElem?_eq_getElem (by omega), e2⟩
      · rintro ⟨e1, l, e2, e3⟩
        by_cases hin : i < n
        · exact .inl ⟨hin, l, e2, e3⟩
        · obtain rfl : i = n := by omega
          rw [List.getElem?_eq_getElem (by omega)] at e2
          cases e2
          exact .inr ⟨rfl, e3⟩
  have := key L.length (Nat.le_refl _)
  rw [List.take_length] at this
  refine ⟨this.sort, this.some, this.up, this.lt, fun x i => ?_⟩
  rw [this.iff]
  constructor
  · exact fun h => h.2
  · rintro ⟨l, e, e2⟩
    exact ⟨(List.getElem?_eq_some_iff.1 e).1, l, e, e2⟩
end Go.Proofs.YtdgkdgbdkhnpcaaGreat.X
