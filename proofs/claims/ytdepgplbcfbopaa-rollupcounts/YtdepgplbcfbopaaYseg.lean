/-
  Package rollup, in plain words: each bucket has what stands in its time.
-/
import Derived.Test.YtdepgplbcfbopaaYrise
namespace Go.Proofs.Ytdepgplbcfbopaa.Ru
open Go
set_option linter.unusedVariables false

/-- A bucket has these samples. -/
structure SegOne (x : Int) (b : Bk) (s : List (Int × Int)) : Prop where
  ne : s ≠ []
  c : b.c = s.length
  each : ∀ p ∈ s, floorB p.1 x = b.t ∧ b.mn ≤ p.2 ∧ p.2 ≤ b.mx
  la : ∀ h : s ≠ [], b.la = (s.getLast h).2
def Seg (x : Int) : Bks → List (Int × Int) → Prop
  | [], l => l = []
  | b :: r, l => ∃ s l', l = s ++ l' ∧ SegOne x b s ∧ Seg x r l'
theorem seg_app (x : Int) (y : Bk) : ∀ (Z : Bks) (l : List (Int × Int)), Seg x (Z ++ [y]) l ↔ ∃ l1 s, l = l1 ++ s ∧ Seg x Z l1 ∧ SegOne x y s := by
  intro Z
  induction Z with
  | nil =>
    intro l
    constructor
    · rintro ⟨s, l', h1, h2, h3⟩
      have h4 : l' = [] := h3
      subst h4
      exact ⟨[], s, by simpa using h1, rfl, h2⟩
    · rintro ⟨l1, s, h1, h2, h3⟩
      have h4 : l1 = [] := h2
      subst h4
      exact ⟨s, [], by simpa using h1, h3, rfl⟩
  | cons z r ih =>
    intro l
    constructor
    · rintro ⟨s, l', h1, h2, h3⟩
      obtain ⟨l1, s2, e, h4, h5⟩ := (ih l').1 h3
      exact ⟨s ++ l1, s2, by rw [h1, e, List.append_assoc], ⟨s, l1, rfl, h2, h4⟩, h5⟩
    · rintro ⟨l1, s2, h1, ⟨s, l', e, h2, h3⟩, h5⟩
      exact ⟨s, l' ++ s2, by rw [h1, e, List.append_assoc], h2, (ih _).2 ⟨l', s2, rfl, h3, h5⟩⟩
theorem seg_one (x : Int) (p : Int × Int) : SegOne x (mv x (one p)) [p] :=
  ⟨by simp, rfl, fun q hq => by rw [List.mem_singleton] at hq; subst hq; exact ⟨rfl, Int.le_refl _, Int.le_refl _⟩, fun _ => rfl⟩
theorem seg_join {x : Int} {y : Bk} {s : List (Int × Int)} {p : Int × Int} (h : SegOne x y s) (ht : y.t = (mv x (one p)).t) : SegOne x (joinB y (mv x (one p))) (s ++ [p]) := by
  refine ⟨by simp, ?_, fun q hq => ?_, fun _ => ?_⟩
  · show y.c + 1 = ((s ++ [p]).length : Int)
    rw [h.c]; simp
  · have hm : ∀ a b : Int, min a b ≤ a ∧ min a b ≤ b ∧ a ≤ max a b ∧ b ≤ max a b := fun a b => by omega
    rcases List.mem_append.1 hq with hq | hq
    · have h1 := h.each q hq
      refine ⟨h1.1, ?_, ?_⟩
      · show min y.mn p.2 ≤ q.2
        have := (hm y.mn p.2).1; omega
      · show q.2 ≤ max y.mx p.2
        have := (hm y.mx p.2).2.2.1; omega
    · rw [List.mem_singleton] at hq
      subst hq
      refine ⟨ht.symm, ?_, ?_⟩
      · show min y.mn q.2 ≤ q.2
        exact (hm y.mn q.2).2.1
      · show q.2 ≤ max y.mx q.2
        exact (hm y.mx q.2).2.2.2
  · simp [joinB, mv, one]
theorem seg_gat (x : Int) : ∀ (n : Nat) (l : List (Int × Int)), l.length = n → Seg x (gat x (l.map one)) l := by
  intro n
  induction n with
  | zero =>
    intro l hl
    have : l = [] := List.length_eq_zero_iff.1 hl
    subst this
    rfl
  | succ n ih =>
    intro l hl
    rcases List.eq_nil_or_concat l with rfl | ⟨t, p, e⟩
    · simp at hl
    · rw [List.concat_eq_append] at e
      subst e
      have hI := ih t (by simpa using hl)
      rw [List.map_append, List.map_cons, List.map_nil, gat_snoc]
      rcases List.eq_nil_or_concat (gat x (t.map one)) with h0 | ⟨Z, y, ey⟩
      · rw [h0] at hI ⊢
        have : t = [] := hI
        subst this
        rw [push_nil]
        exact ⟨[p], [], rfl, seg_one x p, rfl⟩
      · rw [List.concat_eq_append] at ey
        rw [ey] at hI ⊢
        obtain ⟨l1, s, e, h1, h2⟩ := (seg_app x y Z t).1 hI
        rw [push_snoc]
        by_cases ht : y.t = (mv x (one p)).t
        · rw [if_pos ht]
          exact (seg_app x _ Z _).2 ⟨l1, s ++ [p], by rw [e, List.append_assoc], h1, seg_join h2 ht⟩
        · rw [if_neg ht, show Z ++ [y, mv x (one p)] = (Z ++ [y]) ++ [mv x (one p)] by simp]
          exact (seg_app x _ (Z ++ [y]) _).2 ⟨t, [p], rfl, hI, seg_one x p⟩
theorem okT_next {A : Int} : ∀ {l : Bks}, okT A l → ∀ i (h : i + 1 < l.length), (l[i]'(by omega)).t < l[i + 1].t := by
  intro l
  induction l generalizing A with
  | nil => intro _ i h; simp at h
  | cons x r ih =>
    intro h i hi
    cases i with
    | zero =>
      cases r with
      | nil => simp at hi
      | cons y r => exact h.2.2.1
    | succ i => exact ih h.2.2 i (by simpa using hi)
/-- A time stands in its multiple, and none of a later one does. -/
theorem in_floor {T x t : Int} (hx : 1 ≤ x) (hx2 : x ≤ 9007199254740992) (hT : -9007199254740993 < T) (h : floorB T x = t) : t ≤ T ∧ T - t < x ∧ ∃ q, t = x * q := by
  have h1 : 0 ≤ T % x := Int.emod_nonneg _ (by omega)
  have h2 : T % x < x := Int.emod_lt_of_pos _ (by omega)
  rw [floorB_eq hx (by omega) hx2] at h
  refine ⟨by omega, by omega, T / x, ?_⟩
  have := Int.mul_ediv_add_emod T x
  omega
theorem out_floor {T x t t' : Int} (hx : 1 ≤ x) (hx2 : x ≤ 9007199254740992) (hT : -9007199254740993 < T) (h : floorB T x = t') (ht : ∃ q, t = x * q) (hlt : t < t') : x ≤ T - t := by
  obtain ⟨h1, _, q', hq'⟩ := in_floor hx hx2 hT h
  obtain ⟨q, hq⟩ := ht
  have h3 : q < q' := by
    apply Int.lt_of_mul_lt_mul_left (a := x) _ (by omega)
    rw [← hq, ← hq']; exact hlt
  have h4 : x * (q + 1) ≤ x * q' := Int.mul_le_mul_of_nonneg_left (by omega) (by omega)
  have h5 : x * (q + 1) = x * q + x := by rw [Int.mul_add, Int.mul_one]
  omega
end Go.Proofs.Ytdepgplbcfbopaa.Ru
