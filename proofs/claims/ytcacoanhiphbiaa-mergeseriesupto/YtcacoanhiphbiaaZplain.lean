/-
  Samples of several lists, put together by a heap of runs: what comes out.
-/
import Derived.Test.YtcacoanhiphbiaaBase
namespace Go.Proofs.Ytcacoanhiphbiaa.Mg
open Go Go.RowKit Go.Proofs.Lys
set_option linter.unusedVariables false

abbrev Smp := Int × Int
abbrev Smps := List Smp
def putS (x : Smp) : Smps → Smps
  | [] => [x]
  | y :: r => if y.1 < x.1 then y :: putS x r else if y.1 = x.1 then x :: r else x :: y :: r
def mrg (l : Smps) : Smps := l.foldl (fun o x => putS x o) []
theorem put_comm {x y : Smp} (h : x.1 ≠ y.1) : ∀ l : Smps, putS x (putS y l) = putS y (putS x l) := by
  intro l
  induction l with
  | nil =>
    simp only [putS]
    by_cases h1 : y.1 < x.1
    · rw [if_pos h1, if_neg (by omega), if_neg (by omega)]
    · rw [if_neg h1, if_neg (by omega), if_pos (by omega)]
  | cons z r ih =>
    by_cases hx : z.1 < x.1
    · by_cases hy : z.1 < y.1
      · simp only [putS, if_pos hx, if_pos hy, ih]
      · by_cases hy2 : z.1 = y.1
        · have : y.1 < x.1 := by omega
          simp only [putS, if_pos hx, if_neg hy, if_pos hy2, if_pos this]
        · have h1 : y.1 < x.1 := by omega
          simp only [putS, if_pos hx, if_neg hy, if_neg hy2, if_pos h1]
    · by_cases hx2 : z.1 = x.1
      · by_cases hy : z.1 < y.1
        · have h1 : x.1 < y.1 := by omega
          simp only [putS, if_neg hx, if_pos hx2, if_pos hy, if_pos h1]
        · have h1 : ¬ z.1 = y.1 := by omega
          have h2 : y.1 < x.1 := by omega
          have h3 : ¬ x.1 < y.1 := by omega
          have h4 : ¬ x.1 = y.1 := h
          simp only [putS, if_neg hx, if_pos hx2, if_neg hy, if_neg h1, if_pos h2, if_neg h3, if_neg h4]
      · by_cases hy : z.1 < y.1
        · have h1 : x.1 < y.1 := by omega
          simp only [putS, if_neg hx, if_neg hx2, if_pos hy, if_pos h1]
        · by_cases hy2 : z.1 = y.1
          · have h1 : x.1 < y.1 := by omega
            have h2 : ¬ y.1 < x.1 := by omega
            have h3 : ¬ y.1 = x.1 := by omega
            simp only [putS, if_neg hx, if_neg hx2, if_neg hy, if_pos hy2, if_pos h1, if_neg h2, if_neg h3]
          · by_cases h1 : x.1 < y.1
            · have h2 : ¬ y.1 < x.1 := by omega
              have h3 : ¬ y.1 = x.1 := by omega
              simp only [putS, if_neg hx, if_neg hx2, if_neg hy, if_neg hy2, if_pos h1, if_neg h2, if_neg h3]
            · have h2 : y.1 < x.1 := by omega
              have h3 : ¬ x.1 = y.1 := h
              simp only [putS, if_neg hx, if_neg hx2, if_neg hy, if_neg hy2, if_neg h1, if_pos h2, if_neg h3]
def putAll (o l : Smps) : Smps := l.foldl (fun o x => putS x o) o
theorem putAll_app (o a b : Smps) : putAll o (a ++ b) = putAll (putAll o a) b := List.foldl_append
theorem putAll_cons (o : Smps) (x : Smp) (l : Smps) : putAll o (x :: l) = putAll (putS x o) l := rfl
theorem putAll_first {x : Smp} : ∀ (a o : Smps), (∀ y ∈ a, y.1 ≠ x.1) → putS x (putAll o a) = putAll (putS x o) a := by
  intro a
  induction a with
  | nil => intro o _; rfl
  | cons y r ih =>
    intro o h
    rw [putAll_cons, putAll_cons, ih (putS y o) (fun z hz => h z (List.mem_cons_of_mem _ hz)), put_comm (fun e => h y (List.mem_cons_self) e.symm)]
theorem putAll_move {x : Smp} (o a b : Smps) (h : ∀ y ∈ a, y.1 ≠ x.1) : putAll o (a ++ x :: b) = putAll (putS x o) (a ++ b) := by
  rw [putAll_app, putAll_app, putAll_cons, putAll_first a o h]
theorem put_end {x : Smp} : ∀ o : Smps, (∀ y ∈ o, y.1 < x.1) → putS x o = o ++ [x] := by
  intro o
  induction o with
  | nil => intro _; rfl
  | cons y r ih =>
    intro h
    rw [putS, if_pos (h y (List.mem_cons_self)), ih (fun z hz => h z (List.mem_cons_of_mem _ hz))]
    rfl
theorem put_same {x y : Smp} : ∀ o : Smps, (∀ z ∈ o, z.1 < x.1) → y.1 = x.1 → putS x (o ++ [y]) = o ++ [x] := by
  intro o
  induction o with
  | nil => intro _ h; rw [List.nil_append, putS, if_neg (by omega), if_pos h]; rfl
  | cons z r ih =>
    intro h he
    rw [List.cons_append, putS, if_pos (h z (List.mem_cons_self)), ih (fun z hz => h z (List.mem_cons_of_mem _ hz)) he]
    rfl
/-- What is out rises. -/
def RiseS (l : Smps) : Prop := l.Pairwise (fun a b => a.1 < b.1)

/-! ### Runs in a heap -/
/-- A run: where its items lie, its items, its place. -/
abbrev Run := Value × Smps × Nat
abbrev dR : Run := (.slice none 0 0, [], 0)
def hdT (r : Run) : Int := (r.2.1.headD (0, 0)).1
def Ahd (a b : Run) : Prop := hdT a < hdT b ∨ (hdT a = hdT b ∧ a.2.2 < b.2.2)
def ahdB (a b : Run) : Bool := decide (hdT a < hdT b) || (decide (hdT a = hdT b) && decide (a.2.2 < b.2.2))
theorem ahdB_iff {a b : Run} : ahdB a b = true ↔ Ahd a b := by
  unfold ahdB Ahd
  simp
theorem ahdB_false {a b : Run} : ahdB a b = false ↔ ¬ Ahd a b := by
  rw [← ahdB_iff]
  simp
/-- From lo on no run stands ahead of the one above it, but for those below place at. -/
def SinkI (h : List Run) (at_ lo : Nat) : Prop :=
  (∀ p j, lo ≤ p → (j = 2 * p + 1 ∨ j = 2 * p + 2) → j < h.length → p ≠ at_ → ¬ Ahd (h.getD j dR) (h.getD p dR)) ∧
  (∀ p j, lo ≤ p → (at_ = 2 * p + 1 ∨ at_ = 2 * p + 2) → (j = 2 * at_ + 1 ∨ j = 2 * at_ + 2) → j < h.length → ¬ Ahd (h.getD j dR) (h.getD p dR))
def HeapI (h : List Run) (lo : Nat) : Prop := ∀ p j, lo ≤ p → (j = 2 * p + 1 ∨ j = 2 * p + 2) → j < h.length → ¬ Ahd (h.getD j dR) (h.getD p dR)
def swapR (h : List Run) (i j : Nat) : List Run := (h.set i (h.getD j dR)).set j (h.getD i dR)
theorem swap_len (h : List Run) (i j : Nat) : (swapR h i j).length = h.length := by simp [swapR]
theorem swap_get {h : List Run} {i j : Nat} (hi : i < h.length) (hj : j < h.length) (k : Nat) : (swapR h i j).getD k dR = if k = j then h.getD i dR else if k = i then h.getD j dR else h.getD k dR := by
  unfold swapR
  rw [List.getD_eq_getElem?_getD, List.getElem?_set, List.length_set]
  by_cases e : j = k
  · subst e
    rw [if_pos rfl, if_pos hj, if_pos rfl]
    rfl
  · rw [if_neg e, if_neg (fun x => e x.symm), List.getElem?_set]
    by_cases e2 : i = k
    · subst e2
      rw [if_pos rfl, if_pos hi, if_pos rfl]
      rfl
    · rw [if_neg e2, if_neg (fun x => e2 x.symm), List.getD_eq_getElem?_getD]
theorem not_ahd {a b : Run} : ¬ Ahd a b ↔ (hdT b < hdT a ∨ (hdT b = hdT a ∧ b.2.2 ≤ a.2.2)) := by
  unfold Ahd
  omega
theorem sink_step {h : List Run} {at_ lo way oth : Nat} (hI : SinkI h at_ lo) (hlo : lo ≤ at_) (hw : way < h.length) (hc : way = 2 * at_ + 1 ∨ way = 2 * at_ + 2)
    (hoth : ∀ j, (j = 2 * at_ + 1 ∨ j = 2 * at_ + 2) → j < h.length → ¬ Ahd (h.getD j dR) (h.getD way dR)) (ha : Ahd (h.getD way dR) (h.getD at_ dR)) : SinkI (swapR h at_ way) way lo := by
  have hat : at_ < h.length := by omega
  obtain ⟨h1, h2⟩ := hI
  refine ⟨fun p j hp hj hl hne => ?_, fun p j hp hpw hj hl => ?_⟩
  · rw [swap_len] at hl
    rw [swap_get hat hw, swap_get hat hw]
    by_cases e1 : j = way
    · have : p = at_ := by omega
      subst this
      rw [if_pos e1, if_neg hne, if_pos rfl]
      rw [not_ahd]
      unfold Ahd at ha
      omega
    · rw [if_neg e1, if_neg hne]
      by_cases e2 : p = at_
      · subst e2
        rw [if_pos rfl, if_neg (by omega)]
        exact hoth j hj hl
      · rw [if_neg e2]
        by_cases e3 : j = at_
        · subst e3
          rw [if_pos rfl]
          exact h2 p way hp hj hc hw
        · rw [if_neg e3]
          exact h1 p j hp hj hl e2
  · rw [swap_len] at hl
    have hpa : p = at_ := by omega
    subst hpa
    rw [swap_get hat hw, swap_get hat hw, if_neg (by omega), if_neg (by omega), if_neg (by omega), if_pos rfl]
    exact h1 way j (by omega) hj hl (by omega)
theorem sink_stop {h : List Run} {at_ lo : Nat} (hI : SinkI h at_ lo) (hs : ∀ j, (j = 2 * at_ + 1 ∨ j = 2 * at_ + 2) → j < h.length → ¬ Ahd (h.getD j dR) (h.getD at_ dR)) : HeapI h lo := by
  intro p j hp hj hl
  by_cases e : p = at_
  · subst e; exact hs j hj hl
  · exact hI.1 p j hp hj hl e
theorem not_ahd_trans {a b c : Run} (h1 : ¬ Ahd a b) (h2 : ¬ Ahd b c) : ¬ Ahd a c := by
  rw [not_ahd] at h1 h2 ⊢
  omega
theorem ahd_irr (a : Run) : ¬ Ahd a a := by
  rw [not_ahd]
  omega
theorem heap_root {h : List Run} (hI : HeapI h 0) : ∀ n j, j ≤ n → j < h.length → ¬ Ahd (h.getD j dR) (h.getD 0 dR) := by
  intro n
  induction n with
  | zero =>
    intro j hj _
    have : j = 0 := by omega
    subst this
    exact ahd_irr _
  | succ n ih =>
    intro j hj hl
    by_cases e : j = 0
    · subst e; exact ahd_irr _
    · exact not_ahd_trans (hI ((j - 1) / 2) j (Nat.zero_le _) (by omega) hl) (ih ((j - 1) / 2) (by omega) (by omega))
theorem heap_weak {h : List Run} {lo : Nat} (hI : HeapI h (lo + 1)) : SinkI h lo lo := by
  refine ⟨fun p j hp hj hl hne => hI p j (by omega) hj hl, fun p j hp hpa hj hl => by omega⟩
theorem heap_leaf (h : List Run) (lo : Nat) (hl : h.length ≤ 2 * lo + 1) : HeapI h lo := fun p j hp hj hlt => by omega
theorem swap_perm {h : List Run} {i j : Nat} (hi : i < h.length) (hj : j < h.length) (hij : i ≠ j) : (swapR h i j).Perm h := by
  unfold swapR
  have e1 : h.getD i dR = h[i] := by rw [List.getD_eq_getElem?_getD, List.getElem?_eq_getElem hi]; rfl
  have e2 : h.getD j dR = h[j] := by rw [List.getD_eq_getElem?_getD, List.getElem?_eq_getElem hj]; rfl
  rw [e1, e2]
  exact List.set_set_perm hi hj

/-! ### What is left, in the order of places -/
def flat (l : List Run) : Smps := (l.map (fun r => r.2.1)).flatten
def Nd (l : Smps) : Prop := l.Pairwise (fun a b => a.1 ≤ b.1)
structure MrgI (h : List Run) (out tgt : Smps) : Prop where
  heap : HeapI h 0
  rise : RiseS out
  rest : ∃ rem : List Run, h.Perm rem ∧ rem.Pairwise (fun a b => a.2.2 < b.2.2) ∧ (∀ r ∈ rem, r.2.1 ≠ [] ∧ Nd r.2.1) ∧ putAll out (flat rem) = tgt ∧ ∀ x ∈ flat rem, ∀ y ∈ out, y.1 ≤ x.1
theorem flat_app (a b : List Run) : flat (a ++ b) = flat a ++ flat b := by unfold flat; rw [List.map_append, List.flatten_append]
theorem flat_cons (r : Run) (b : List Run) : flat (r :: b) = r.2.1 ++ flat b := rfl
theorem flat_mem {l : List Run} {x : Smp} : x ∈ flat l ↔ ∃ r ∈ l, x ∈ r.2.1 := by
  unfold flat
  rw [List.mem_flatten]
  constructor
  · rintro ⟨s, hs, hx⟩
    obtain ⟨r, hr, rfl⟩ := List.mem_map.1 hs
    exact ⟨r, hr, hx⟩
  · rintro ⟨r, hr, hx⟩
    exact ⟨_, List.mem_map.2 ⟨r, hr, rfl⟩, hx⟩
theorem nd_head {r : Run} (hn : r.2.1 ≠ []) (hd : Nd r.2.1) {x : Smp} (hx : x ∈ r.2.1) : hdT r ≤ x.1 := by
  obtain ⟨v, l, p⟩ := r
  cases l with
  | nil => exact absurd rfl hn
  | cons a t =>
    show a.1 ≤ x.1
    rcases List.mem_cons.1 hx with rfl | hx
    · exact Int.le_refl _
    · exact (List.pairwise_cons.1 hd).1 x hx
theorem mrg_end {out tgt : Smps} (h : MrgI [] out tgt) : out = tgt := by
  obtain ⟨rem, hp, _, _, ht, _⟩ := h.rest
  have : rem = [] := List.nil_perm.1 hp
  subst this
  exact ht
/-- The head of the first run goes out. -/
theorem mrg_take {v v' : Value} {x : Smp} {xs : Smps} {p : Nat} {t : List Run} {out tgt : Smps} (h : MrgI ((v, x :: xs, p) :: t) out tgt) :
    (∀ y ∈ out, y.1 ≤ x.1) ∧ ∃ rem' : List Run, ((if xs = [] then t else (v', xs, p) :: t) : List Run).Perm rem' ∧ rem'.Pairwise (fun a b => a.2.2 < b.2.2) ∧ (∀ r ∈ rem', r.2.1 ≠ [] ∧ Nd r.2.1) ∧ putAll (putS x out) (flat rem') = tgt ∧ (∀ z ∈ flat rem', x.1 ≤ z.1) := by
  obtain ⟨rem, hp, hs, hr, ht, hb⟩ := h.rest
  have hmem : ((v, x :: xs, p) : Run) ∈ rem := hp.subset (List.mem_cons_self)
  obtain ⟨A, B, rfl⟩ := List.append_of_mem hmem
  have hroot := heap_root h.heap
  have hmin : ∀ r ∈ A ++ (v, x :: xs, p) :: B, ¬ Ahd r (v, x :: xs, p) := by
    intro r hr2
    have h1 := hp.symm.subset hr2
    obtain ⟨j, hj, e⟩ := List.getElem_of_mem h1
    have := hroot j j (Nat.le_refl _) hj
    rw [List.getD_eq_getElem?_getD, List.getElem?_eq_getElem hj, e] at this
    exact this
  have hx0 : hdT (v, x :: xs, p) = x.1 := rfl
  have hge : ∀ z ∈ flat (A ++ (v, x :: xs, p) :: B), x.1 ≤ z.1 := by
    intro z hz
    obtain ⟨r, hr2, hz2⟩ := flat_mem.1 hz
    have h1 := nd_head (hr r hr2).1 (hr r hr2).2 hz2
    have h2 := hmin r hr2
    rw [not_ahd, hx0] at h2
    omega
  have hA : ∀ y ∈ flat A, y.1 ≠ x.1 := by
    intro y hy
    obtain ⟨r, hr2, hy2⟩ := flat_mem.1 hy
    have hr3 : r ∈ A ++ (v, x :: xs, p) :: B := List.mem_append.2 (.inl hr2)
    have h1 := nd_head (hr r hr3).1 (hr r hr3).2 hy2
    have h2 := hmin r hr3
    have h3 : r.2.2 < p := (List.pairwise_append.1 hs).2.2 r hr2 _ (List.mem_cons_self)
    rw [not_ahd, hx0] at h2
    simp only at h2
    omega
  have hxin : x ∈ flat (A ++ (v, x :: xs, p) :: B) := flat_mem.2 ⟨_, hmem, List.mem_cons_self⟩
  have hperm : t.Perm (A ++ B) := by
    have h1 : ((v, x :: xs, p) :: t).Perm ((v, x :: xs, p) :: (A ++ B)) := hp.trans List.perm_middle
    exact h1.cons_inv
  have htgt : putAll (putS x out) (flat A ++ (xs ++ flat B)) = tgt := by
    rw [← ht, flat_app, flat_cons]
    show _ = putAll out (flat A ++ ((x :: xs) ++ flat B))
    rw [List.cons_append, putAll_move out (flat A) (xs ++ flat B) hA]
  refine ⟨fun y hy => hb x hxin y hy, ?_⟩
  by_cases he : xs = []
  · subst he
    rw [if_pos rfl]
    refine ⟨A ++ B, hperm, ?_, fun r hr2 => hr r ?_, ?_, fun z hz => hge z ?_⟩
    · rw [List.pairwise_append] at hs ⊢
      exact ⟨hs.1, (List.pairwise_cons.1 hs.2.1).2, fun a ha b hb => hs.2.2 a ha b (List.mem_cons_of_mem _ hb)⟩
    · rcases List.mem_append.1 hr2 with h1 | h1
      · exact List.mem_append.2 (.inl h1)
      · exact List.mem_append.2 (.inr (List.mem_cons_of_mem _ h1))
    · rw [flat_app]
      exact htgt
    · rw [flat_app] at hz ⊢
      rcases List.mem_append.1 hz with h1 | h1
      · exact List.mem_append.2 (.inl h1)
      · exact List.mem_append.2 (.inr (by rw [flat_cons]; exact List.mem_append.2 (.inr h1)))
  · rw [if_neg he]
    have hrr := hr _ hmem
    refine ⟨A ++ (v', xs, p) :: B, (hperm.cons _).trans List.perm_middle.symm, ?_, fun r hr2 => ?_, ?_, fun z hz => hge z ?_⟩
    · rw [List.pairwise_append, List.pairwise_cons] at hs ⊢
      refine ⟨hs.1, ⟨hs.2.1.1, hs.2.1.2⟩, fun a ha b hb => ?_⟩
      rcases List.mem_cons.1 hb with rfl | hb
      · exact hs.2.2 a ha (v, x :: xs, p) (List.mem_cons_self)
      · exact hs.2.2 a ha b (List.mem_cons_of_mem _ hb)
    · rcases List.mem_append.1 hr2 with h1 | h1
      · exact hr r (List.mem_append.2 (.inl h1))
      · rcases List.mem_cons.1 h1 with rfl | h1
        · exact ⟨he, (List.pairwise_cons.1 hrr.2).2⟩
        · exact hr r (List.mem_append.2 (.inr (List.mem_cons_of_mem _ h1)))
    · rw [flat_app, flat_cons]
      exact htgt
    · rw [flat_app, flat_cons] at hz ⊢
      rcases List.mem_append.1 hz with h1 | h1
      · exact List.mem_append.2 (.inl h1)
      · refine List.mem_append.2 (.inr ?_)
        rcases List.mem_append.1 h1 with h1 | h1
        · exact List.mem_append.2 (.inl (List.mem_cons_of_mem _ h1))
        · exact List.mem_append.2 (.inr h1)
theorem rise_put {x : Smp} {out : Smps} (hr : RiseS out) (h : ∀ y ∈ out, y.1 ≤ x.1) :
    RiseS (putS x out) ∧ (∀ y ∈ putS x out, y.1 ≤ x.1) ∧ ((out = [] ∧ putS x out = [x]) ∨ ∃ o y, out = o ++ [y] ∧ ((y.1 = x.1 ∧ putS x out = o ++ [x]) ∨ (y.1 ≠ x.1 ∧ putS x out = o ++ [y] ++ [x]))) := by
  rcases List.eq_nil_or_concat out with rfl | ⟨o, y, e0⟩
  rotate_left
  rw [List.concat_eq_append] at e0
  subst e0
  rotate_left
  · refine ⟨List.pairwise_singleton _ _, fun y hy => ?_, .inl ⟨rfl, rfl⟩⟩
    have e : y = x := List.mem_singleton.1 hy
    rw [e]
    exact Int.le_refl _
  · have hr2 := List.pairwise_append.1 hr
    have hlt : ∀ z ∈ o, z.1 < y.1 := fun z hz => hr2.2.2 z hz y (List.mem_singleton.2 rfl)
    have hyx := h y (List.mem_append.2 (.inr (List.mem_singleton.2 rfl)))
    by_cases e : y.1 = x.1
    · have hp := put_same (x := x) (y := y) o (fun z hz => by have := hlt z hz; omega) e
      refine ⟨?_, ?_, .inr ⟨o, y, rfl, .inl ⟨e, hp⟩⟩⟩
      · rw [hp, RiseS, List.pairwise_append]
        exact ⟨hr2.1, List.pairwise_singleton _ _, fun a ha b hb => by have := hlt a ha; rw [List.mem_singleton.1 hb]; omega⟩
      · rw [hp]
        intro z hz
        rcases List.mem_append.1 hz with hz | hz
        · have := hlt z hz; omega
        · rw [List.mem_singleton.1 hz]; exact Int.le_refl _
    · have hall : ∀ z ∈ o ++ [y], z.1 < x.1 := by
        intro z hz
        rcases List.mem_append.1 hz with hz | hz
        · have := hlt z hz; omega
        · rw [List.mem_singleton.1 hz]; omega
      have hp := put_end (o ++ [y]) hall
      refine ⟨?_, ?_, .inr ⟨o, y, rfl, .inr ⟨e, hp⟩⟩⟩
      · rw [hp, RiseS, List.pairwise_append]
        exact ⟨hr, List.pairwise_singleton _ _, fun a ha b hb => by rw [List.mem_singleton.1 hb]; exact hall a ha⟩
      · rw [hp]
        intro z hz
        rcases List.mem_append.1 hz with hz | hz
        · have := hall z hz; omega
        · rw [List.mem_singleton.1 hz]; exact Int.le_refl _
theorem heap_tail {h h1 : List Run} (hI : HeapI h 0) (hl : h1.length ≤ h.length) (he : ∀ k, 1 ≤ k → k < h1.length → h1.getD k dR = h.getD k dR) : SinkI h1 0 0 := by
  refine ⟨fun p j hp hj hlt hne => ?_, fun p j hp hpa hj hlt => by omega⟩
  rw [he p (by omega) (by omega), he j (by omega) hlt]
  exact hI p j hp hj (by omega)
theorem mrg_next {v v' : Value} {x : Smp} {xs : Smps} {p : Nat} {t h2 : List Run} {out tgt : Smps} (h : MrgI ((v, x :: xs, p) :: t) out tgt) (hp : h2.Perm (if xs = [] then t else (v', xs, p) :: t)) (hh : HeapI h2 0) : MrgI h2 (putS x out) tgt := by
  obtain ⟨h1, rem, hq, hs, hr, ht, hb⟩ := mrg_take (v' := v') h
  have hx := rise_put h.rise h1
  exact ⟨hh, hx.1, rem, hp.trans hq, hs, hr, ht, fun z hz y hy => by have := hx.2.1 y hy; have := hb z hz; omega⟩

/-! ### The runs of lists -/
def PlcI (h : List Run) : Prop := (∀ i, i < h.length → (h.getD i dR).2.2 = i) ∧ ∀ r ∈ h, r.2.1 ≠ [] ∧ Nd r.2.1
theorem plc_nil : PlcI [] := ⟨fun i hi => by simp at hi, fun r hr => by cases hr⟩
theorem plc_app {h : List Run} {v : Value} {s : Smps} (hh : PlcI h) (hs : s ≠ []) (hn : Nd s) : PlcI (h ++ [(v, s, h.length)]) := by
  refine ⟨fun i hi => ?_, fun r hr => ?_⟩
  · rw [List.length_append] at hi
    simp at hi
    by_cases e : i < h.length
    · have := hh.1 i e
      rw [List.getD_eq_getElem?_getD] at this ⊢
      rw [List.getElem?_append_left e]
      exact this
    · have : i = h.length := by omega
      subst this
      rw [List.getD_eq_getElem?_getD, List.getElem?_append_right (Nat.le_refl _)]
      simp
  · rcases List.mem_append.1 hr with hr | hr
    · exact hh.2 r hr
    · rw [List.mem_singleton.1 hr]
      exact ⟨hs, hn⟩
theorem plc_sort {h : List Run} (hh : PlcI h) : h.Pairwise (fun a b => a.2.2 < b.2.2) := by
  rw [List.pairwise_iff_getElem]
  intro i j hi hj hij
  have h1 := hh.1 i hi
  have h2 := hh.1 j hj
  rw [List.getD_eq_getElem?_getD, List.getElem?_eq_getElem hi] at h1
  rw [List.getD_eq_getElem?_getD, List.getElem?_eq_getElem hj] at h2
  simp only [Option.getD_some] at h1 h2
  omega
theorem mrg_start {h h2 : List Run} (hh : PlcI h) (hp : h2.Perm h) (hI : HeapI h2 0) : MrgI h2 [] (mrg (flat h)) :=
  ⟨hI, List.Pairwise.nil, h, hp, plc_sort hh, hh.2, rfl, fun x _ y hy => by cases hy⟩
end Go.Proofs.Ytcacoanhiphbiaa.Mg
