/-
  What a block more, and blocks that are put together, make of a manifest: the document's words.
-/
import Derived.Test.YtmpkafmkkkpdeaaJrchk
namespace Go.Proofs.Ytmpkafmkkkpdeaa.J
open Go.RowKit Go.Proofs.Lys
set_option linter.unusedVariables false

abbrev manZ : Man := ⟨[], 0, 0, 0⟩
def addM (m : Man) (lv f t : Int) : Man := ⟨m.bl ++ [(m.next, lv, f, t)], m.next + 1, m.log, m.low⟩
def newQ (m : Man) (lv f t : Int) : Man × Int × Int := if chkO (addM m lv f t) = 0 then (addM m lv f t, m.next, 0) else (manZ, 0, chkO (addM m lv f t))
def addQ (m : Man) (lv f t : Int) : Man × Int × Int := if chkO m = 0 then newQ m lv f t else (manZ, 0, chkO m)
def idsE (bl : List Rf) (ids : List Int) : Int := if ids = [] ∨ ¬ (∀ i ∈ ids, i ∈ bl.map (·.1)) then 6 else if ids.Nodup then 0 else 1
def keptL (bl : List Rf) (ids : List Int) : List Rf := bl.filter (fun x => !ids.contains x.1)
def keptM (m : Man) (ids : List Int) : Man := ⟨keptL m.bl ids, m.next, m.log, m.low⟩
def swapQ (m : Man) (ids : List Int) (lv f t : Int) : Man × Int × Int :=
  if chkO m = 0 then (if idsE m.bl ids = 0 then newQ (keptM m ids) lv f t else (manZ, 0, idsE m.bl ids)) else (manZ, 0, chkO m)
/-- What Add and Swap leave. -/
def TurnP (w : World) (q : Man × Int × Int) (e : Ending) (w' : World) : Prop := ∃ v, e = .returned (.tuple #[manV v q.1, .int .i64 q.2.1, .int .i64 q.2.2]) ∧ RfAt w' w.heap.size v q.1.bl ∧ Kept w w'
theorem turn_nil {w w' : World} {x : Int} (h : Kept w w') : TurnP w (manZ, 0, x) (.returned (.tuple #[.agg #[.slice none 0 0, .int .i64 0, .int .i64 0, .int .i64 0], .int .i64 0, .int .i64 x])) w' := ⟨_, rfl, ⟨rfl, .inl ⟨rfl, rfl⟩⟩, h⟩

theorem chk_iff {m : Man} : chkO m = 0 ↔ m.bl.length ≤ 200 ∧ cntO m.next = true ∧ cntO m.log = true ∧ numO 0 m.next m.bl = true ∧ timO m.bl = true ∧ winO m.low = true := by
  unfold chkO
  by_cases h1 : 200 < m.bl.length
  · rw [if_pos h1]
    constructor
    · intro h; cases h
    · intro h; omega
  · rw [if_neg h1]
    cases hn : (cntO m.next && cntO m.log && numO 0 m.next m.bl) with
    | false =>
      rw [if_pos rfl]
      constructor
      · intro h; cases h
      · intro h
        rw [h.2.1, h.2.2.1, h.2.2.2.1] at hn
        cases hn
    | true =>
      rw [if_neg (by decide)]
      simp only [Bool.and_eq_true] at hn
      cases ht : (timO m.bl && winO m.low) with
      | false =>
        rw [if_pos rfl]
        constructor
        · intro h; cases h
        · intro h
          rw [h.2.2.2.2.1, h.2.2.2.2.2] at ht
          cases ht
      | true =>
        rw [if_neg (by decide)]
        simp only [Bool.and_eq_true] at ht
        exact ⟨fun _ => ⟨by omega, hn.1.1, hn.1.2, hn.2, ht.1, ht.2⟩, fun _ => rfl⟩
theorem num_cons {a n : Int} {x : Rf} {r : List Rf} : numO a n (x :: r) = true ↔ (a < x.1 ∧ x.1 < n ∧ 0 ≤ x.2.1 ∧ x.2.1 ≤ 20) ∧ numO x.1 n r = true := by
  rw [numO]
  simp only [Bool.and_eq_true, decide_eq_true_eq]
  constructor
  · intro h; exact ⟨⟨h.1.1.1.1, h.1.1.1.2, h.1.1.2, h.1.2⟩, h.2⟩
  · intro h; exact ⟨⟨⟨⟨h.1.1, h.1.2.1⟩, h.1.2.2.1⟩, h.1.2.2.2⟩, h.2⟩
theorem num_low {n : Int} : ∀ {l : List Rf} {a a' : Int}, a' ≤ a → numO a n l = true → numO a' n l = true := by
  intro l
  cases l with
  | nil => intro _ _ _ _; rfl
  | cons x r =>
    intro a a' h1 h2
    rw [num_cons] at h2 ⊢
    exact ⟨⟨by omega, h2.1.2⟩, h2.2⟩
theorem num_filter {n : Int} (p : Rf → Bool) : ∀ (l : List Rf) (a : Int), numO a n l = true → numO a n (l.filter p) = true := by
  intro l
  induction l with
  | nil => intro _ _; rfl
  | cons x r ih =>
    intro a h
    rw [num_cons] at h
    rw [List.filter_cons]
    split
    · rw [num_cons]
      exact ⟨h.1, ih _ h.2⟩
    · exact num_low (by omega) (ih _ h.2)
theorem tim_filter (p : Rf → Bool) : ∀ (l : List Rf), timO l = true → timO (l.filter p) = true := by
  intro l
  induction l with
  | nil => intro _; rfl
  | cons x r ih =>
    intro h
    rw [timO, Bool.and_eq_true] at h
    rw [List.filter_cons]
    split
    · rw [timO, Bool.and_eq_true]
      exact ⟨h.1, ih h.2⟩
    · exact ih h.2
theorem chk_kept {m : Man} (ids : List Int) (h : chkO m = 0) : chkO (keptM m ids) = 0 := by
  rw [chk_iff] at h ⊢
  obtain ⟨h1, h2, h3, h4, h5, h6⟩ := h
  exact ⟨Nat.le_trans (List.length_filter_le _ _) h1, h2, h3, num_filter _ _ _ h4, tim_filter _ _ h5, h6⟩
theorem num_above {n : Int} : ∀ (l : List Rf) (a : Int), numO a n l = true → ∀ i (hi : i < l.length), a < l[i].1 := by
  intro l
  induction l with
  | nil => intro a _ i hi; simp at hi
  | cons x r ih =>
    intro a h i hi
    rw [num_cons] at h
    cases i with
    | zero => exact h.1.1
    | succ i =>
      have := ih x.1 h.2 i (by simpa using hi)
      show a < (r[i]'(by simpa using hi)).1
      omega
theorem num_rise {n : Int} : ∀ (l : List Rf) (a : Int), numO a n l = true → ∀ i j (hij : i < j) (hj : j < l.length), (l[i]'(by omega)).1 < l[j].1 := by
  intro l
  induction l with
  | nil => intro a _ i j _ hj; simp at hj
  | cons x r ih =>
    intro a h i j hij hj
    rw [num_cons] at h
    obtain ⟨j, rfl⟩ : ∃ j', j = j' + 1 := ⟨j - 1, by omega⟩
    have hj' : j < r.length := by simpa using hj
    cases i with
    | zero => exact num_above r x.1 h.2 j hj'
    | succ i => exact ih x.1 h.2 i j (by omega) hj'
theorem cnt_bnd {n : Int} (h : cntO n = true) : 1 ≤ n ∧ n ≤ 1099511627776 := by
  unfold cntO at h
  simpa using h
theorem chk_next {m : Man} (h : chkO m = 0) : 1 ≤ m.next ∧ m.next ≤ 1099511627776 := cnt_bnd (chk_iff.1 h).2.1
theorem chk_len {m : Man} (h : chkO m = 0) : m.bl.length ≤ 200 := (chk_iff.1 h).1
theorem chk_rise {m : Man} (h : chkO m = 0) (i j : Nat) (hij : i < j) (hj : j < m.bl.length) : (m.bl[i]'(by omega)).1 < m.bl[j].1 := num_rise m.bl 0 (chk_iff.1 h).2.2.2.1 i j hij hj
theorem chk_inj {m : Man} (h : chkO m = 0) (i j : Nat) (hi : i < m.bl.length) (hj : j < m.bl.length) (he : m.bl[i].1 = m.bl[j].1) : i = j := by
  rcases Nat.lt_trichotomy i j with h1 | h1 | h1
  · have := chk_rise h i j h1 hj
    omega
  · exact h1
  · have := chk_rise h j i h1 hi
    omega
theorem new_no {m : Man} {lv f t : Int} (h : chkO (addM m lv f t) ≠ 0) : newQ m lv f t = (manZ, 0, chkO (addM m lv f t)) := if_neg h
theorem new_yes {m : Man} {lv f t : Int} (h : chkO (addM m lv f t) = 0) : newQ m lv f t = (addM m lv f t, m.next, 0) := if_pos h
end Go.Proofs.Ytmpkafmkkkpdeaa.J
