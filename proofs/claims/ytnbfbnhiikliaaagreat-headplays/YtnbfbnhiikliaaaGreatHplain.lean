/-
  Samples by series in plain words: what a row, a batch and a cut make of them. No program is named here.
-/
import Derived.Test.YtnbfbnhiikliaaaGreatNtext
namespace Go.Proofs.YtnbfbnhiikliaaaGreat.Hd
open Go Go.RowKit Go.Proofs.Lys Go.Proofs.YtnbfbnhiikliaaaGreat.N
set_option linter.unusedVariables false

abbrev Smp := Int × Int
abbrev Smps := List Smp
abbrev Ser := Labs × Smps
abbrev Mod := List Ser

/-! ### Samples by rising time -/
def RiseS (l : Smps) : Prop := l.Pairwise (fun a b => a.1 < b.1)
/-- Where a time belongs. -/
def placeS (t : Int) : Smps → Nat
  | [] => 0
  | y :: r => if y.1 < t then placeS t r + 1 else 0
/-- One sample more, at its place, or instead of the one of its time. -/
def putS (x : Smp) : Smps → Smps
  | [] => [x]
  | y :: r => if y.1 < x.1 then y :: putS x r else if y.1 = x.1 then x :: r else x :: y :: r
/-- The last time. -/
def lastT (l : Smps) : Int := (l.getLast?.map (·.1)).getD 0

theorem placeS_le (t : Int) (l : Smps) : placeS t l ≤ l.length := by
  induction l with
  | nil => exact Nat.le_refl _
  | cons y r ih =>
    unfold placeS
    split
    · simpa using ih
    · exact Nat.zero_le _
theorem placeS_lt {t : Int} {l : Smps} {i : Nat} (h : i < placeS t l) (hi : i < l.length) : l[i].1 < t := by
  induction l generalizing i with
  | nil => simp at hi
  | cons y r ih =>
    unfold placeS at h
    split at h
    · rename_i hy
      cases i with
      | zero => exact hy
      | succ i => exact ih (by omega) (by simpa using hi)
    · omega
theorem placeS_at {t : Int} {l : Smps} (h : placeS t l < l.length) : ¬ l[placeS t l].1 < t := by
  induction l with
  | nil => simp at h
  | cons y r ih =>
    by_cases hy : y.1 < t
    · have e : placeS t (y :: r) = placeS t r + 1 := by rw [placeS, if_pos hy]
      have h2 : placeS t r < r.length := by rw [e] at h; simpa using h
      have := ih h2
      simp only [e, List.getElem_cons_succ]
      exact this
    · have e : placeS t (y :: r) = 0 := by rw [placeS, if_neg hy]
      simp only [e, List.getElem_cons_zero]
      exact hy
theorem rise_get {l : Smps} (h : RiseS l) {i j : Nat} (hij : i < j) (hj : j < l.length) : l[i].1 < l[j].1 :=
  List.pairwise_iff_getElem.1 h i j (by omega) hj hij
theorem placeS_ge {t : Int} {l : Smps} (hl : RiseS l) {i : Nat} (h : placeS t l ≤ i) (hi : i < l.length) : ¬ l[i].1 < t := by
  have h0 := placeS_at (t := t) (l := l) (by omega)
  rcases Nat.lt_or_eq_of_le h with h1 | h1
  · have := rise_get hl h1 hi
    omega
  · subst h1
    exact h0
theorem putS_eq (x : Smp) (l : Smps) : putS x l = if h : placeS x.1 l < l.length ∧ (l.getD (placeS x.1 l) (0, 0)).1 = x.1 then l.set (placeS x.1 l) x else l.take (placeS x.1 l) ++ x :: l.drop (placeS x.1 l) := by
  induction l with
  | nil => simp [putS, placeS]
  | cons y r ih =>
    by_cases hy : y.1 < x.1
    · have e : placeS x.1 (y :: r) = placeS x.1 r + 1 := by rw [placeS, if_pos hy]
      have e2 : putS x (y :: r) = y :: putS x r := by rw [putS, if_pos hy]
      rw [e, e2, ih]
      by_cases c : placeS x.1 r < r.length ∧ (r.getD (placeS x.1 r) (0, 0)).1 = x.1
      · rw [dif_pos c, dif_pos (by simpa using c)]
        rfl
      · rw [dif_neg c, dif_neg (by simpa using c)]
        rfl
    · have e : placeS x.1 (y :: r) = 0 := by rw [placeS, if_neg hy]
      rw [e]
      by_cases c : y.1 = x.1
      · have e2 : putS x (y :: r) = x :: r := by rw [putS, if_neg hy, if_pos c]
        rw [e2, dif_pos (by simp [c])]
        rfl
      · have e2 : putS x (y :: r) = x :: y :: r := by rw [putS, if_neg hy, if_neg c]
        rw [e2, dif_neg (by simp [c])]
        rfl
theorem putS_mem {x : Smp} {l : Smps} (hl : RiseS l) (y : Smp) : y ∈ putS x l ↔ y = x ∨ (y ∈ l ∧ y.1 ≠ x.1) := by
  induction l with
  | nil => simp [putS]
  | cons z r ih =>
    have hz := List.pairwise_cons.1 hl
    have ih := ih hz.2
    unfold putS
    split
    · rename_i h
      rw [List.mem_cons, ih, List.mem_cons]
      constructor
      · rintro (rfl | h1 | h1)
        · exact .inr ⟨.inl rfl, by omega⟩
        · exact .inl h1
        · exact .inr ⟨.inr h1.1, h1.2⟩
      · rintro (h1 | ⟨rfl | h1, h2⟩)
        · exact .inr (.inl h1)
        · exact .inl rfl
        · exact .inr (.inr ⟨h1, h2⟩)
    · rename_i h
      split
      · rename_i h2
        rw [List.mem_cons, List.mem_cons]
        constructor
        · rintro (h1 | h1)
          · exact .inl h1
          · exact .inr ⟨.inr h1, by have := hz.1 y h1; omega⟩
        · rintro (h1 | ⟨rfl | h1, h3⟩)
          · exact .inl h1
          · exact absurd h2 h3
          · exact .inr h1
      · rename_i h2
        rw [List.mem_cons, List.mem_cons]
        constructor
        · rintro (h1 | rfl | h1)
          · exact .inl h1
          · exact .inr ⟨.inl rfl, h2⟩
          · exact .inr ⟨.inr h1, by have := hz.1 y h1; omega⟩
        · rintro (h1 | ⟨h1, h3⟩)
          · exact .inl h1
          · exact .inr h1
theorem putS_rise {x : Smp} {l : Smps} (hl : RiseS l) : RiseS (putS x l) := by
  induction l with
  | nil => simp [putS, RiseS]
  | cons z r ih =>
    have hz := List.pairwise_cons.1 hl
    unfold putS
    split
    · rename_i h
      refine List.pairwise_cons.2 ⟨fun y hy => ?_, ih hz.2⟩
      rcases (putS_mem hz.2 y).1 hy with rfl | h1
      · exact h
      · exact hz.1 y h1.1
    · split
      · rename_i h h2
        exact List.pairwise_cons.2 ⟨fun y hy => by have := hz.1 y hy; omega, hz.2⟩
      · rename_i h h2
        refine List.pairwise_cons.2 ⟨fun y hy => ?_, hl⟩
        rcases List.mem_cons.1 hy with rfl | hy
        · omega
        · have := hz.1 y hy; omega
theorem putS_len (x : Smp) (l : Smps) : 0 < (putS x l).length ∧ (putS x l).length ≤ l.length + 1 := by
  induction l with
  | nil => simp [putS]
  | cons z r ih =>
    unfold putS
    split
    · simp; omega
    · split <;> simp
theorem lastT_eq {l : Smps} (h : 0 < l.length) : lastT l = (l[l.length - 1]'(by omega)).1 := by
  unfold lastT
  rw [List.getLast?_eq_getElem?, List.getElem?_eq_getElem (by omega)]
  rfl
theorem lastT_cons (y : Smp) {r : Smps} (h : 0 < r.length) : lastT (y :: r) = lastT r := by
  rw [lastT_eq h, lastT_eq (by simp)]
  simp only [List.length_cons, Nat.add_sub_cancel]
  congr 1
  rw [List.getElem_cons, dif_neg (by omega)]
theorem lastT_ge {l : Smps} (hl : RiseS l) {y : Smp} (hy : y ∈ l) : y.1 ≤ lastT l := by
  obtain ⟨i, hi, rfl⟩ := List.getElem_of_mem hy
  rw [lastT_eq (by omega)]
  rcases Nat.lt_or_ge i (l.length - 1) with h | h
  · have := rise_get hl h (by omega)
    omega
  · have : i = l.length - 1 := by omega
    subst this
    exact Int.le_refl _
theorem lastT_mem {l : Smps} (h : 0 < l.length) : ∃ y ∈ l, y.1 = lastT l := ⟨_, List.getElem_mem (by omega), (lastT_eq h).symm⟩
theorem lastT_put {x : Smp} {l : Smps} (hl : RiseS l) (h0 : 0 < l.length) : lastT (putS x l) = max (lastT l) x.1 := by
  have hr := putS_rise (x := x) hl
  obtain ⟨y, hy, e⟩ := lastT_mem (putS_len x l).1
  obtain ⟨z, hz, ez⟩ := lastT_mem h0
  have hx := lastT_ge hr ((putS_mem hl x).2 (.inl rfl))
  have hz2 : z.1 ≤ lastT (putS x l) := by
    by_cases c : z.1 = x.1
    · omega
    · exact lastT_ge hr ((putS_mem hl z).2 (.inr ⟨hz, c⟩))
  rcases (putS_mem hl y).1 hy with rfl | h1
  · omega
  · have := lastT_ge hl h1.1
    omega
theorem lastT_put0 (x : Smp) : lastT (putS x []) = x.1 := rfl
theorem countP_place {l : Smps} (hl : RiseS l) (t : Int) : l.countP (fun y => decide (y.1 < t)) = placeS t l := by
  induction l with
  | nil => rfl
  | cons y r ih =>
    have hz := List.pairwise_cons.1 hl
    rw [List.countP_cons, ih hz.2, placeS]
    by_cases hy : y.1 < t
    · rw [if_pos hy, if_pos (by simpa using hy)]
    · rw [if_neg hy, if_neg (by simpa using hy)]
      cases r with
      | nil => rfl
      | cons z r =>
        have := hz.1 z (List.mem_cons_self ..)
        rw [placeS, if_neg (by omega)]

/-! ### Series by rising labels -/
def SortM (M : Mod) : Prop := M.Pairwise (fun a b => cmpL a.1 b.1 = -1)
def lookM (M : Mod) (l : Labs) : Option Smps := (M.find? (fun s => decide (s.1 = l))).map (·.2)
def setM (l : Labs) (s : Smps) : Mod → Mod
  | [] => [(l, s)]
  | y :: r => if cmpL y.1 l = -1 then y :: setM l s r else if cmpL y.1 l = 0 then (l, s) :: r else (l, s) :: y :: r
theorem setM_mem {M : Mod} (hM : SortM M) (l : Labs) (s : Smps) (x : Ser) : x ∈ setM l s M ↔ x = (l, s) ∨ (x ∈ M ∧ x.1 ≠ l) := by
  induction M with
  | nil => simp [setM]
  | cons y r ih =>
    have hz := List.pairwise_cons.1 hM
    have ih := ih hz.2
    have hself := cmpL_good.self l
    unfold setM
    split
    · rename_i h
      rw [List.mem_cons, ih, List.mem_cons]
      constructor
      · rintro (rfl | h1 | h1)
        · exact .inr ⟨.inl rfl, fun e => by rw [e] at h; omega⟩
        · exact .inl h1
        · exact .inr ⟨.inr h1.1, h1.2⟩
      · rintro (h1 | ⟨rfl | h1, h2⟩)
        · exact .inr (.inl h1)
        · exact .inl rfl
        · exact .inr (.inr ⟨h1, h2⟩)
    · rename_i h
      split
      · rename_i h2
        have e := cmpL_good.zero _ _ h2
        rw [List.mem_cons, List.mem_cons]
        constructor
        · rintro (h1 | h1)
          · exact .inl h1
          · exact .inr ⟨.inr h1, fun e2 => by have h3 := hz.1 x h1; rw [e, e2] at h3; omega⟩
        · rintro (h1 | ⟨rfl | h1, h3⟩)
          · exact .inl h1
          · exact absurd e h3
          · exact .inr h1
      · rename_i h2
        rw [List.mem_cons, List.mem_cons]
        constructor
        · rintro (h1 | rfl | h1)
          · exact .inl h1
          · exact .inr ⟨.inl rfl, fun e2 => by rw [e2] at h2; exact h2 hself⟩
          · exact .inr ⟨.inr h1, fun e2 => by have h3 := hz.1 x h1; rw [e2] at h3; exact h h3⟩
        · rintro (h1 | ⟨h1, h3⟩)
          · exact .inl h1
          · exact .inr h1
theorem setM_sort {M : Mod} (hM : SortM M) (l : Labs) (s : Smps) : SortM (setM l s M) := by
  induction M with
  | nil => simp [setM, SortM]
  | cons y r ih =>
    have hz := List.pairwise_cons.1 hM
    unfold setM
    split
    · rename_i h
      refine List.pairwise_cons.2 ⟨fun x hx => ?_, ih hz.2⟩
      rcases (setM_mem hz.2 l s x).1 hx with rfl | h1
      · exact h
      · exact hz.1 x h1.1
    · rename_i h
      split
      · rename_i h2
        have e := cmpL_good.zero _ _ h2
        exact List.pairwise_cons.2 ⟨fun x hx => by have := hz.1 x hx; rw [e] at this; exact this, hz.2⟩
      · rename_i h2
        have h3 : cmpL l y.1 = -1 := by
          have := cmpL_good.anti y.1 l
          have := cmpL_good.rng y.1 l
          omega
        refine List.pairwise_cons.2 ⟨fun x hx => ?_, hM⟩
        rcases List.mem_cons.1 hx with rfl | hx
        · exact h3
        · exact cmpL_good.trans _ _ _ h3 (hz.1 x hx)
theorem sort_inj {M : Mod} (hM : SortM M) {x y : Ser} (hx : x ∈ M) (hy : y ∈ M) (h : x.1 = y.1) : x = y := by
  induction M with
  | nil => cases hx
  | cons z r ih =>
    have hz := List.pairwise_cons.1 hM
    have hself := cmpL_good.self y.1
    rcases List.mem_cons.1 hx with ex | hx'
    · rcases List.mem_cons.1 hy with ey | hy'
      · rw [ex, ey]
      · have := hz.1 y hy'
        rw [← ex, h] at this
        omega
    · rcases List.mem_cons.1 hy with ey | hy'
      · have := hz.1 x hx'
        rw [← ey, h] at this
        omega
      · exact ih hz.2 hx' hy'
theorem look_some {M : Mod} (hM : SortM M) {l : Labs} {s : Smps} : lookM M l = some s ↔ (l, s) ∈ M := by
  unfold lookM
  constructor
  · intro h
    obtain ⟨x, hx, rfl⟩ := Option.map_eq_some_iff.1 h
    have h1 := List.find?_some hx
    have h2 := List.mem_of_find?_eq_some hx
    simp only [decide_eq_true_eq] at h1
    rw [← h1]
    exact h2
  · intro h
    cases hf : M.find? (fun s => decide (s.1 = l)) with
    | none =>
      have := List.find?_eq_none.1 hf _ h
      simp at this
    | some x =>
      have h1 := List.find?_some hf
      have h2 := List.mem_of_find?_eq_some hf
      simp only [decide_eq_true_eq] at h1
      have := sort_inj hM h2 h h1
      rw [this]
      rfl
theorem look_none {M : Mod} {l : Labs} : lookM M l = none ↔ ∀ s, (l, s) ∉ M := by
  unfold lookM
  rw [Option.map_eq_none_iff, List.find?_eq_none]
  constructor
  · intro h s hs
    have := h _ hs
    simp at this
  · intro h x hx
    simp only [decide_eq_true_eq]
    intro e
    exact h x.2 (by rw [← e]; exact hx)
theorem look_set {M : Mod} (hM : SortM M) (l : Labs) (s : Smps) (m : Labs) : lookM (setM l s M) m = if m = l then some s else lookM M m := by
  have hS := setM_sort hM l s
  split
  · rename_i e
    rw [e]
    exact (look_some hS).2 ((setM_mem hM l s _).2 (.inl rfl))
  · rename_i e
    cases h : lookM M m with
    | none =>
      refine look_none.2 (fun t ht => ?_)
      rcases (setM_mem hM l s _).1 ht with h1 | h1
      · exact e (congrArg Prod.fst h1)
      · exact look_none.1 h t h1.1
    | some t => exact (look_some hS).2 ((setM_mem hM l s _).2 (.inr ⟨(look_some hM).1 h, e⟩))
theorem len_set {M : Mod} (hM : SortM M) (l : Labs) (s : Smps) : (setM l s M).length = if (lookM M l).isSome then M.length else M.length + 1 := by
  induction M with
  | nil => rfl
  | cons y r ih =>
    have hz := List.pairwise_cons.1 hM
    have hself := cmpL_good.self l
    unfold setM
    split
    · rename_i h
      have e : lookM (y :: r) l = lookM r l := by
        unfold lookM
        rw [List.find?_cons]
        have : ¬ y.1 = l := fun e => by rw [e] at h; omega
        simp [this]
      rw [e, List.length_cons, List.length_cons, ih hz.2]
      split <;> rfl
    · split
      · rename_i h h2
        have e : lookM (y :: r) l = some y.2 := by
          unfold lookM
          rw [List.find?_cons]
          have : y.1 = l := cmpL_good.zero _ _ h2
          simp [this]
        rw [e]
        simp
      · rename_i h h2
        have e : lookM (y :: r) l = none := by
          refine look_none.2 (fun s hs => ?_)
          rcases List.mem_cons.1 hs with h1 | h1
          · rw [← h1] at h2; exact h2 hself
          · exact h (hz.1 _ h1)
        rw [e]
        simp

/-- How many samples. -/
def countM : Mod → Nat
  | [] => 0
  | x :: r => x.2.length + countM r
theorem countM_perm {M N : Mod} (h : M.Perm N) : countM M = countM N := by
  induction h with
  | nil => rfl
  | cons x _ ih => simp [countM, ih]
  | swap x y l => simp [countM]; omega
  | trans _ _ h1 h2 => rw [h1, h2]
theorem countM_mem {M : Mod} {x : Ser} (h : x ∈ M) : x.2.length ≤ countM M := by
  induction M with
  | nil => cases h
  | cons y r ih =>
    rcases List.mem_cons.1 h with rfl | h
    · simp [countM]
    · have := ih h; simp only [countM]; omega
theorem countM_app (M N : Mod) : countM (M ++ N) = countM M + countM N := by
  induction M with
  | nil => simp [countM]
  | cons y r ih => simp only [List.cons_append, countM, ih]; omega
theorem countM_set {M : Mod} (hM : SortM M) (l : Labs) (s : Smps) : countM (setM l s M) + ((lookM M l).getD []).length = countM M + s.length := by
  induction M with
  | nil => simp [setM, lookM, countM]
  | cons y r ih =>
    have hz := List.pairwise_cons.1 hM
    have hself := cmpL_good.self l
    unfold setM
    split
    · rename_i h
      have e : lookM (y :: r) l = lookM r l := by
        unfold lookM
        rw [List.find?_cons]
        have : ¬ y.1 = l := fun e => by rw [e] at h; omega
        simp [this]
      rw [e]
      have := ih hz.2
      simp only [countM]
      omega
    · split
      · rename_i h h2
        have e : lookM (y :: r) l = some y.2 := by
          unfold lookM
          rw [List.find?_cons]
          have : y.1 = l := cmpL_good.zero _ _ h2
          simp [this]
        rw [e]
        simp only [countM, Option.getD_some]
        omega
      · rename_i h h2
        have e : lookM (y :: r) l = none := by
          refine look_none.2 (fun s hs => ?_)
          rcases List.mem_cons.1 hs with h1 | h1
          · rw [← h1] at h2; exact h2 hself
          · exact h (hz.1 _ h1)
        rw [e]
        simp only [countM, Option.getD_none, List.length_nil]
        omega

/-! ### Rows and batches -/
abbrev Row := Labs × Smp
def rowM (win : Int) (M : Mod) (r : Row) : Except Int Mod :=
  match makeL r.1 with
  | none => .error 20
  | some l =>
    if r.2.1 < -9007199254740992 ∨ 9007199254740992 < r.2.1 then .error 21
    else match lookM M l with
      | some s => if r.2.1 < lastT s - win then .error 22 else .ok (setM l (putS r.2 s) M)
      | none => if 1000 ≤ M.length then .error 2 else .ok (setM l [r.2] M)
def rowsM (win : Int) : Mod → List Row → Except Int Mod
  | M, [] => .ok M
  | M, r :: rs => match rowM win M r with
    | .error e => .error e
    | .ok N => rowsM win N rs
def writeM (win : Int) (M : Mod) (rows : List Row) : Except Int Mod :=
  if rows.length = 0 then .error 1 else if 200 < rows.length then .error 2 else rowsM win M rows
def errM : Except Int Mod → Int
  | .error e => e
  | .ok _ => 0
def modM (M : Mod) : Except Int Mod → Mod
  | .error _ => M
  | .ok N => N
theorem rowsM_app (win : Int) (M : Mod) (a b : List Row) : rowsM win M (a ++ b) = match rowsM win M a with | .error e => .error e | .ok N => rowsM win N b := by
  induction a generalizing M with
  | nil => rfl
  | cons r a ih =>
    show (match rowM win M r with | .error e => Except.error e | .ok N => rowsM win N (a ++ b)) = _
    rw [rowsM]
    cases rowM win M r with
    | error e => rfl
    | ok N => exact ih N
/-- What all states of a head are. -/
structure ModOk (M : Mod) : Prop where
  sort : SortM M
  made : ∀ x ∈ M, Made x.1
  rise : ∀ x ∈ M, RiseS x.2
  some : ∀ x ∈ M, 0 < x.2.length
  time : ∀ x ∈ M, ∀ y ∈ x.2, -9007199254740992 ≤ y.1 ∧ y.1 ≤ 9007199254740992
  len : M.length ≤ 1000
theorem ModOk.nil : ModOk [] := ⟨List.Pairwise.nil, (fun x h => by cases h), (fun x h => by cases h), (fun x h => by cases h), (fun x h => by cases h), by simp⟩
theorem rowM_ok {win : Int} {M N : Mod} {r : Row} (h : ModOk M) (e : rowM win M r = .ok N) : ∃ l, makeL r.1 = some l ∧ -9007199254740992 ≤ r.2.1 ∧ r.2.1 ≤ 9007199254740992 ∧ N = setM l (putS r.2 ((lookM M l).getD [])) M ∧ (∀ s, lookM M l = some s → lastT s - win ≤ r.2.1) ∧ (lookM M l = none → M.length < 1000) := by
  unfold rowM at e
  cases hm : makeL r.1 with
  | none => rw [hm] at e; cases e
  | some l =>
    rw [hm] at e
    simp only at e
    split at e
    · cases e
    · rename_i ht
      refine ⟨l, rfl, by omega, by omega, ?_⟩
      cases hl : lookM M l with
      | none =>
        rw [hl] at e
        simp only at e
        split at e
        · cases e
        · cases e
          exact ⟨rfl, fun s hs => (by cases hs), fun _ => (by omega)⟩
      | some s =>
        rw [hl] at e
        simp only at e
        split at e
        · cases e
        · cases e
          exact ⟨rfl, fun t ht => (by cases ht; omega), fun h => (by cases h)⟩
theorem ModOk.set {M : Mod} (h : ModOk M) {l : Labs} {x : Smp} (hl : Made l) (hx : -9007199254740992 ≤ x.1 ∧ x.1 ≤ 9007199254740992) (hn : lookM M l = none → M.length < 1000) : ModOk (setM l (putS x ((lookM M l).getD [])) M) := by
  have hr : RiseS ((lookM M l).getD []) := by
    cases e : lookM M l with
    | none => exact List.Pairwise.nil
    | some s => exact h.rise _ ((look_some h.sort).1 e)
  have ht : ∀ y ∈ (lookM M l).getD [], -9007199254740992 ≤ y.1 ∧ y.1 ≤ 9007199254740992 := by
    cases e : lookM M l with
    | none => intro y hy; cases hy
    | some s => exact h.time _ ((look_some h.sort).1 e)
  have key : ∀ x', x' ∈ setM l (putS x ((lookM M l).getD [])) M → x' = (l, putS x ((lookM M l).getD [])) ∨ x' ∈ M := fun x' hx' => ((setM_mem h.sort _ _ _).1 hx').imp id And.left
  refine ⟨setM_sort h.sort _ _, fun y hy => ?_, fun y hy => ?_, fun y hy => ?_, fun y hy z hz => ?_, ?_⟩
  · rcases key y hy with rfl | hy
    · exact hl
    · exact h.made y hy
  · rcases key y hy with rfl | hy
    · exact putS_rise hr
    · exact h.rise y hy
  · rcases key y hy with rfl | hy
    · exact (putS_len _ _).1
    · exact h.some y hy
  · rcases key y hy with rfl | hy
    · rcases (putS_mem hr z).1 hz with rfl | h1
      · exact hx
      · exact ht z h1.1
    · exact h.time y hy z hz
  · rw [len_set h.sort]
    have := h.len
    cases e : lookM M l with
    | none => have := hn e; simp; omega
    | some s => simpa using this
theorem ModOk.row {win : Int} {M N : Mod} {r : Row} (h : ModOk M) (e : rowM win M r = .ok N) : ModOk N := by
  obtain ⟨l, h1, h2, h3, rfl, h5, h6⟩ := rowM_ok h e
  exact h.set (makeL_made h1) ⟨h2, h3⟩ h6
theorem ModOk.rows {win : Int} {M N : Mod} {rs : List Row} (h : ModOk M) (e : rowsM win M rs = .ok N) : ModOk N := by
  induction rs generalizing M with
  | nil => cases e; exact h
  | cons r rs ih =>
    rw [rowsM] at e
    cases hr : rowM win M r with
    | error x => rw [hr] at e; cases e
    | ok K => rw [hr] at e; exact ih (h.row hr) e
theorem countM_row {win : Int} {M N : Mod} {r : Row} (h : ModOk M) (e : rowM win M r = .ok N) : countM N ≤ countM M + 1 := by
  obtain ⟨l, h1, h2, h3, rfl, h5, h6⟩ := rowM_ok h e
  have := countM_set h.sort l (putS r.2 ((lookM M l).getD []))
  have := (putS_len r.2 ((lookM M l).getD [])).2
  omega
theorem countM_rows {win : Int} {M N : Mod} {rs : List Row} (h : ModOk M) (e : rowsM win M rs = .ok N) : countM N ≤ countM M + rs.length := by
  induction rs generalizing M with
  | nil => cases e; exact Nat.le_refl _
  | cons r rs ih =>
    rw [rowsM] at e
    cases hr : rowM win M r with
    | error x => rw [hr] at e; cases e
    | ok K =>
      rw [hr] at e
      have := ih (h.row hr) e
      have := countM_row h hr
      simp only [List.length_cons]
      omega

/-! ### A cut -/
def partM (f : Smps → Smps) (M : Mod) : Mod := (M.map (fun x => (x.1, f x.2))).filter (fun x => decide (0 < x.2.length))
def goneS (low : Int) (s : Smps) : Smps := s.take (placeS low s)
def stayS (low : Int) (s : Smps) : Smps := s.drop (placeS low s)
theorem partM_sort {M : Mod} (h : SortM M) (f : Smps → Smps) : SortM (partM f M) := by
  refine List.Pairwise.filter _ ?_
  rw [List.pairwise_map]
  exact h
theorem partM_perm {M N : Mod} (h : M.Perm N) (f : Smps → Smps) : (partM f M).Perm (partM f N) := (h.map _).filter _
theorem partM_id {M : Mod} (h : ModOk M) : partM id M = M := by
  unfold partM
  have e : M.map (fun x => (x.1, id x.2)) = M := by
    conv => rhs; rw [← List.map_id M]
    rfl
  rw [e, List.filter_eq_self]
  intro x hx
  simpa using h.some x hx
theorem ModOk.stay {M : Mod} (h : ModOk M) (low : Int) : ModOk (partM (stayS low) M) := by
  have key : ∀ y, y ∈ partM (stayS low) M → ∃ x ∈ M, y = (x.1, stayS low x.2) ∧ 0 < y.2.length := fun y hy => by
    obtain ⟨h1, h2⟩ := List.mem_filter.1 hy
    obtain ⟨x, hx, rfl⟩ := List.mem_map.1 h1
    exact ⟨x, hx, rfl, by simpa using h2⟩
  refine ⟨partM_sort h.sort _, fun y hy => ?_, fun y hy => ?_, fun y hy => ?_, fun y hy z hz => ?_, ?_⟩
  · obtain ⟨x, hx, rfl, _⟩ := key y hy
    exact h.made x hx
  · obtain ⟨x, hx, rfl, _⟩ := key y hy
    exact (h.rise x hx).sublist (List.drop_sublist _ _)
  · obtain ⟨x, hx, _, h0⟩ := key y hy
    exact h0
  · obtain ⟨x, hx, rfl, _⟩ := key y hy
    exact h.time x hx z (List.mem_of_mem_drop hz)
  · have h1 := List.length_filter_le (fun x : Ser => decide (0 < x.2.length)) (M.map (fun x => (x.1, stayS low x.2)))
    rw [List.length_map] at h1
    exact Nat.le_trans h1 h.len
end Go.Proofs.YtnbfbnhiikliaaaGreat.Hd
