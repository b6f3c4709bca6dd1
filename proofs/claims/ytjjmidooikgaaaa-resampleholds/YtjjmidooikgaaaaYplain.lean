/-
  Package rollup, in plain words: buckets, how they are put together, what samples make.
-/
import Derived.WalkKit
import Derived.ProofKit
namespace Go.Proofs.Ytjjmidooikgaaaa.Ru
open Go
set_option linter.unusedVariables false

/-- A bucket. -/
structure Bk where
  t : Int
  c : Int
  s : Int
  mn : Int
  mx : Int
  la : Int
abbrev Bks := List Bk
/-- A sum that is cut at the ends. -/
def addC (a b : Int) : Int := if 9223372036854775807 < a + b then 9223372036854775807 else if a + b < -9223372036854775808 then -9223372036854775808 else a + b
/-- The multiple of w that is not above t, cut at the least. -/
def floorB (t w : Int) : Int := if w < 1 then t else if t - t % w < -9223372036854775808 then -9223372036854775808 else t - t % w
def joinB (a b : Bk) : Bk := ⟨a.t, a.c + b.c, addC a.s b.s, min a.mn b.mn, max a.mx b.mx, b.la⟩
def mv (w : Int) (b : Bk) : Bk := ⟨floorB b.t w, b.c, b.s, b.mn, b.mx, b.la⟩
/-- A bucket put behind others: into the last one, if it has its T. -/
def push : Bks → Bk → Bks
  | [], b => [b]
  | x :: r, b => match r with
    | [] => if x.t = b.t then [joinB x b] else [x, b]
    | y :: r => x :: push (y :: r) b
def gatA (w : Int) (acc l : Bks) : Bks := l.foldl (fun a b => push a (mv w b)) acc
def gat (w : Int) (l : Bks) : Bks := gatA w [] l
def one (p : Int × Int) : Bk := ⟨p.1, 1, p.2, p.2, p.2, p.2⟩

theorem push_nil (b : Bk) : push [] b = [b] := rfl
theorem push_snoc (a : Bks) (x b : Bk) : push (a ++ [x]) b = if x.t = b.t then a ++ [joinB x b] else a ++ [x, b] := by
  induction a with
  | nil => rfl
  | cons y r ih =>
    cases r with
    | nil =>
      show y :: push [x] b = _
      rw [push]
      split <;> rfl
    | cons z r =>
      show y :: push (z :: r ++ [x]) b = _
      rw [ih]
      split <;> rfl
theorem push_len (a : Bks) (b : Bk) : (push a b).length ≤ a.length + 1 ∧ 0 < (push a b).length := by
  rcases List.eq_nil_or_concat a with rfl | ⟨t, x, e⟩
  · exact ⟨Nat.le_refl _, Nat.zero_lt_one⟩
  · rw [List.concat_eq_append] at e
    subst e
    rw [push_snoc]
    split <;> simp
theorem gatA_snoc (w : Int) (acc l : Bks) (b : Bk) : gatA w acc (l ++ [b]) = push (gatA w acc l) (mv w b) := by
  unfold gatA
  rw [List.foldl_append]
  rfl
theorem gat_snoc (w : Int) (l : Bks) (b : Bk) : gat w (l ++ [b]) = push (gat w l) (mv w b) := gatA_snoc w [] l b
theorem gatA_len (w : Int) (l : Bks) : ∀ acc, (gatA w acc l).length ≤ acc.length + l.length := by
  induction l with
  | nil => intro acc; exact Nat.le_refl _
  | cons x r ih =>
    intro acc
    have h1 := ih (push acc (mv w x))
    have h2 := (push_len acc (mv w x)).1
    show (gatA w (push acc (mv w x)) r).length ≤ _
    simp only [List.length_cons]
    omega
theorem gat_len (w : Int) (l : Bks) : (gat w l).length ≤ l.length := by
  have h := gatA_len w l []
  rw [List.length_nil, Nat.zero_add] at h
  exact h

/-- In what an int holds. -/
def In64 (x : Int) : Prop := -9223372036854775808 ≤ x ∧ x ≤ 9223372036854775807
theorem addC_in (a b : Int) : In64 (addC a b) := by
  unfold addC In64
  split
  · omega
  · split <;> omega
/-- A bucket of at least one sample, and of at most so many. -/
structure BkOk (m : Nat) (b : Bk) : Prop where
  t : In64 b.t
  c : 1 ≤ b.c
  c' : b.c ≤ m
  s : In64 b.s
  mn : In64 b.mn
  mx : In64 b.mx
  la : In64 b.la
theorem BkOk.mono {m m' : Nat} {b : Bk} (h : BkOk m b) (hm : m ≤ m') : BkOk m' b := ⟨h.t, h.c, by have := h.c'; omega, h.s, h.mn, h.mx, h.la⟩
theorem BkOk.join {m k : Nat} {a b : Bk} (h : BkOk m a) (g : BkOk k b) : BkOk (m + k) (joinB a b) := by
  have h1 := h.c; have h2 := h.c'; have g1 := g.c; have g2 := g.c'
  have a1 := h.mn; have a2 := g.mn; have a3 := h.mx; have a4 := g.mx
  unfold In64 at a1 a2 a3 a4
  refine ⟨h.t, ?_, ?_, addC_in _ _, ?_, ?_, g.la⟩
  · show 1 ≤ a.c + b.c
    omega
  · show a.c + b.c ≤ ((m + k : Nat) : Int)
    omega
  · show In64 (min a.mn b.mn)
    unfold In64; omega
  · show In64 (max a.mx b.mx)
    unfold In64; omega
theorem floorB_in {t w : Int} (h : In64 t) : In64 (floorB t w) := by
  unfold In64 at *
  unfold floorB
  split
  · exact h
  · rename_i hw
    have h1 : 0 ≤ t % w := Int.emod_nonneg _ (by omega)
    split <;> omega
theorem BkOk.mv {m : Nat} {b : Bk} (h : BkOk m b) (w : Int) : BkOk m (mv w b) := ⟨floorB_in h.t, h.c, h.c', h.s, h.mn, h.mx, h.la⟩
theorem push_ok {m k : Nat} {a : Bks} {b : Bk} (h : ∀ x ∈ a, BkOk m x) (g : BkOk k b) : ∀ x ∈ push a b, BkOk (m + k) x := by
  rcases List.eq_nil_or_concat a with rfl | ⟨t, y, e⟩
  · intro x hx
    rw [push_nil, List.mem_singleton] at hx
    subst hx
    exact g.mono (by omega)
  · rw [List.concat_eq_append] at e
    subst e
    rw [push_snoc]
    intro x hx
    split at hx
    · rcases List.mem_append.1 hx with hx | hx
      · exact (h x (List.mem_append_left _ hx)).mono (by omega)
      · rw [List.mem_singleton] at hx
        subst hx
        exact (h y (by simp)).join g
    · rcases List.mem_append.1 hx with hx | hx
      · exact (h x (List.mem_append_left _ hx)).mono (by omega)
      · rcases List.mem_cons.1 hx with rfl | hx
        · exact (h x (by simp)).mono (by omega)
        · rw [List.mem_singleton] at hx
          subst hx
          exact g.mono (by omega)

/-- Times that rise, in their bounds. -/
def okT : Int → Bks → Prop
  | _, [] => True
  | a, b :: r => a < b.t ∧ b.t ≤ 9007199254740992 ∧ okT b.t r
/-- The last time, or what stands ahead of all. -/
def ahd : Int → Bks → Int
  | a, [] => a
  | _, b :: r => ahd b.t r
theorem ahd_snoc (a : Int) (l : Bks) (b : Bk) : ahd a (l ++ [b]) = b.t := by
  induction l generalizing a with
  | nil => rfl
  | cons x r ih => exact ih x.t
theorem okT_snoc (a : Int) (l : Bks) (b : Bk) : okT a (l ++ [b]) ↔ okT a l ∧ ahd a l < b.t ∧ b.t ≤ 9007199254740992 := by
  induction l generalizing a with
  | nil =>
    show a < b.t ∧ b.t ≤ 9007199254740992 ∧ True ↔ True ∧ a < b.t ∧ b.t ≤ 9007199254740992
    constructor
    · rintro ⟨h1, h2, _⟩; exact ⟨trivial, h1, h2⟩
    · rintro ⟨_, h1, h2⟩; exact ⟨h1, h2, trivial⟩
  | cons x r ih =>
    show a < x.t ∧ x.t ≤ 9007199254740992 ∧ okT x.t (r ++ [b]) ↔ (a < x.t ∧ x.t ≤ 9007199254740992 ∧ okT x.t r) ∧ ahd x.t r < b.t ∧ b.t ≤ 9007199254740992
    rw [ih]
    constructor
    · rintro ⟨h1, h2, h3, h4⟩; exact ⟨⟨h1, h2, h3⟩, h4⟩
    · rintro ⟨⟨h1, h2, h3⟩, h4⟩; exact ⟨h1, h2, h3, h4⟩
theorem okT_left (a : Int) (l r : Bks) (h : okT a (l ++ r)) : okT a l := by
  induction l generalizing a with
  | nil => trivial
  | cons x l ih => exact ⟨h.1, h.2.1, ih _ h.2.2⟩
/-- What stands ahead of a list whose times rise is at least what it began with, and within the bounds. -/
theorem ahd_ge (a : Int) (l : Bks) (h : okT a l) (ha : a ≤ 9007199254740992) : a ≤ ahd a l ∧ ahd a l ≤ 9007199254740992 := by
  induction l generalizing a with
  | nil => exact ⟨Int.le_refl _, ha⟩
  | cons x r ih =>
    have h1 := ih x.t h.2.2 h.2.1
    have h2 := h.1
    refine ⟨?_, h1.2⟩
    show a ≤ ahd x.t r
    omega
/-- What Floor tells of times in their bounds and widths in theirs. -/
theorem floorB_eq {t w : Int} (hw : 1 ≤ w) (ht : -9007199254740992 ≤ t) (hw' : w ≤ 9007199254740992) : floorB t w = t - t % w := by
  unfold floorB
  have h1 : 0 ≤ t % w := Int.emod_nonneg _ (by omega)
  have h2 : t % w < w := Int.emod_lt_of_pos _ (by omega)
  rw [if_neg (by omega), if_neg (by omega)]
end Go.Proofs.Ytjjmidooikgaaaa.Ru
