/-
  The law of the last sample.
-/
import Derived.Test.YtoagncilbaaefaaLwin13
import Derived.Test.YtoagncilbaaefaaHclone
namespace Go.Proofs.Ytoagncilbaaefaa.Hd
open Go.RowKit Go.Proofs.Lys Go.Maps Go.Proofs.Ytoagncilbaaefaa.N
set_option linter.unusedVariables false
set_option linter.unusedSimpArgs false

/-- Samples that came one by one, the last of a time counting. -/
def putAll : Smps → List Smp → Smps
  | s, [] => s
  | s, x :: r => putAll (putS x s) r
theorem putAll_snoc (s : Smps) (l : List Smp) (x : Smp) : putAll s (l ++ [x]) = putS x (putAll s l) := by
  induction l generalizing s with
  | nil => rfl
  | cons y r ih => exact ih _
theorem putAll_rise {s : Smps} (h : RiseS s) (l : List Smp) : RiseS (putAll s l) := by
  induction l generalizing s with
  | nil => exact h
  | cons y r ih => exact ih (putS_rise h)
/-- The value that counts at a time. -/
def lastV : List Smp → Int → Option Int
  | [], _ => none
  | x :: r, t => match lastV r t with
    | some v => some v
    | none => if x.1 = t then some x.2 else none
theorem lastV_snoc (l : List Smp) (x : Smp) (t : Int) : lastV (l ++ [x]) t = if x.1 = t then some x.2 else lastV l t := by
  induction l with
  | nil => simp [lastV]
  | cons y r ih =>
    rw [List.cons_append, lastV, ih]
    by_cases h : x.1 = t
    · rw [if_pos h, if_pos h]
    · rw [if_neg h, if_neg h]
      rfl
theorem putAll_mem (l : List Smp) : ∀ y : Smp, y ∈ putAll [] l ↔ lastV l y.1 = some y.2 := by
  suffices h : ∀ n, ∀ m : List Smp, m.length = n → ∀ y : Smp, y ∈ putAll [] m ↔ lastV m y.1 = some y.2 from h l.length l rfl
  intro n
  induction n with
  | zero =>
    intro m hm y
    have : m = [] := List.length_eq_zero_iff.1 hm
    subst this
    simp [putAll, lastV]
  | succ n ih =>
    intro m hm y
    obtain ⟨r, x, rfl⟩ : ∃ r x, m = r ++ [x] := by
      have hne : m ≠ [] := fun e => by rw [e] at hm; simp at hm
      exact ⟨m.dropLast, m.getLast hne, (List.dropLast_concat_getLast hne).symm⟩
    have hr : r.length = n := by simpa using hm
    rw [putAll_snoc, putS_mem (putAll_rise List.Pairwise.nil r), lastV_snoc, ih r hr y]
    by_cases h : x.1 = y.1
    · rw [if_pos h]
      constructor
      · rintro (e | ⟨_, e⟩)
        · rw [e]
        · exact absurd h.symm e
      · intro e
        left
        exact Prod.ext h.symm (Option.some.inj e).symm
    · rw [if_neg h]
      constructor
      · rintro (e | ⟨e, _⟩)
        · exact absurd (by rw [e]) h
        · exact e
      · intro e
        exact .inr ⟨e, fun e2 => h e2.symm⟩
theorem lastV_some {l : List Smp} {k : Nat} (hk : k < l.length) : ∃ v, lastV l l[k].1 = some v := by
  induction l generalizing k with
  | nil => simp at hk
  | cons x r ih =>
    cases k with
    | zero =>
      simp only [List.getElem_cons_zero]
      rw [lastV]
      cases lastV r x.1 with
      | some v => exact ⟨v, rfl⟩
      | none => exact ⟨x.2, by simp⟩
    | succ k =>
      simp only [List.getElem_cons_succ]
      obtain ⟨v, hv⟩ := ih (by simpa using hk)
      rw [lastV, hv]
      exact ⟨v, rfl⟩
/-- The state behind the first samples. -/
def stX (s : Smps) : Mod := if s.length = 0 then [] else [(labA nmX, s)]
theorem stX_len (s : Smps) : countM (stX s) = s.length := by
  unfold stX
  split
  · rename_i h; rw [h]; rfl
  · simp [countM]
theorem putAll_len (l : List Smp) (s : Smps) : (putAll s l).length ≤ s.length + l.length := by
  induction l generalizing s with
  | nil => exact Nat.le_refl _
  | cons x r ih =>
    have h1 := ih (putS x s)
    have h2 := (putS_len x s).2
    rw [putAll, List.length_cons]
    omega
theorem write_stX {l : List Smp} {x : Smp} (hx : -1000 ≤ x.1 ∧ x.1 ≤ 1000) (hl : ∀ y ∈ l, -1000 ≤ y.1 ∧ y.1 ≤ 1000) : writeM 9007199254740992 (stX (putAll [] l)) [(labA nmX, x)] = .ok (stX (putAll [] (l ++ [x]))) := by
  rw [putAll_snoc, write_one]
  have hr := putAll_rise (s := []) List.Pairwise.nil l
  have hm : ∀ y ∈ putAll [] l, y ∈ l := fun y hy => by
    have h1 := (putAll_mem l y).1 hy
    have key : ∀ (l : List Smp) (t v : Int), lastV l t = some v → (t, v) ∈ l := fun l => by
      induction l with
      | nil => intro t v h; cases h
      | cons z r ih =>
        intro t v h
        rw [lastV] at h
        cases hh : lastV r t with
        | some u => rw [hh] at h; cases h; exact List.mem_cons_of_mem _ (ih t _ hh)
        | none =>
          rw [hh] at h
          simp only at h
          split at h
          · rename_i e
            cases h
            rw [← e]
            exact List.mem_cons_self ..
          · cases h
    exact key l y.1 y.2 h1
  generalize putAll [] l = s at *
  have h0 : 0 < (putS x s).length := (putS_len x s).1
  have e1 : stX (putS x s) = [(labA nmX, putS x s)] := by unfold stX; rw [if_neg (by omega)]
  rw [e1]
  by_cases hs : s.length = 0
  · have : s = [] := List.length_eq_zero_iff.1 hs
    subst this
    have e2 : stX [] = [] := rfl
    rw [e2, row_new (l := labA nmX) makeX (by show ¬ (x.1 < _ ∨ _ < x.1); omega) rfl (by simp)]
    rfl
  · have e2 : stX s = [(labA nmX, s)] := by unfold stX; rw [if_neg hs]
    obtain ⟨y, hy, e⟩ := lastT_mem (l := s) (by omega)
    have hyb := hl y (hm y hy)
    rw [e2, row_set (l := labA nmX) makeX (by show ¬ (x.1 < _ ∨ _ < x.1); omega) (lookX s) (by show ¬ x.1 < lastT s - 9007199254740992; omega), setX]
theorem look_stX (s : Smps) : (lookA (stX s) (labA nmX)).getD [] = s := by
  unfold lookA stX
  rw [makeX]
  split
  · rename_i h
    have : s = [] := List.length_eq_zero_iff.1 h
    subst this
    rfl
  · simp only [Option.bind_some]
    rw [lookX]
    rfl
end Go.Proofs.Ytoagncilbaaefaa.Hd
