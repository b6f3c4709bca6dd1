/-
  Package resample, plain: which sample a step of time has, and what points are.
-/
namespace Go.Proofs.Ytjjmidooikgaaaa.Rs
set_option linter.unusedVariables false
abbrev Smps := List (Int × Int)

/-- Is a sample one of step k? -/
def inS (f s : Int) (k : Nat) (p : Int × Int) : Bool := decide (f + (k : Int) * s ≤ p.1) && decide (p.1 < f + (k : Int) * s + s)
/-- What step k has: the value of its last sample. -/
def cell (f s : Int) (l : Smps) (k : Nat) : Option Int := ((l.filter (inS f s k)).getLast?).map (·.2)

theorem cell_nil (f s : Int) (k : Nat) : cell f s [] k = none := rfl
theorem cell_snoc (f s : Int) (l : Smps) (p : Int × Int) (k : Nat) : cell f s (l ++ [p]) k = if inS f s k p then some p.2 else cell f s l k := by
  unfold cell
  by_cases h : inS f s k p = true
  · rw [List.filter_append, List.filter_cons_of_pos h]
    simp [h]
  · rw [List.filter_append, List.filter_cons_of_neg h]
    simp [h]
theorem inS_low {f s : Int} {k : Nat} {p : Int × Int} (hs : 1 ≤ s) (h : p.1 < f) : inS f s k p = false := by
  unfold inS
  have : 0 ≤ (k : Int) * s := Int.mul_nonneg (by omega) (by omega)
  have h2 : ¬ f + (k : Int) * s ≤ p.1 := by omega
  simp [h2]
theorem inS_div {f s : Int} {k : Nat} {p : Int × Int} (hs : 1 ≤ s) (h : f ≤ p.1) : (inS f s k p = true ↔ (p.1 - f) / s = (k : Int)) := by
  unfold inS
  simp only [Bool.and_eq_true, decide_eq_true_eq]
  have h1 := Int.emod_add_mul_ediv (p.1 - f) s
  have h2 := Int.emod_nonneg (p.1 - f) (show s ≠ 0 by omega)
  have h3 := Int.emod_lt_of_pos (p.1 - f) (show 0 < s by omega)
  constructor
  · rintro ⟨a, b⟩
    rw [Int.ediv_eq_iff_of_pos (by omega)]
    constructor
    · have := Int.mul_comm s (k : Int); omega
    · have := Int.mul_comm s (k : Int); omega
  · intro e
    rw [e] at h1
    have := Int.mul_comm s (k : Int)
    omega

/-- Where a time belongs among samples. -/
def Cut (l : Smps) (t : Int) (q : Nat) : Prop := q ≤ l.length ∧ (∀ i (h : i < l.length), i < q → l[i].1 < t) ∧ (∀ i (h : i < l.length), q ≤ i → t ≤ l[i].1)
theorem Cut.le {l : Smps} {t u : Int} {q r : Nat} (h : Cut l t q) (g : Cut l u r) (htu : t ≤ u) : q ≤ r := by
  rcases Nat.lt_or_ge r q with h1 | h1
  · have h2 := h.1
    have a := h.2.1 r (by omega) h1
    have b := g.2.2 r (by omega) (Nat.le_refl _)
    omega
  · exact h1
theorem last_filter (P : (Int × Int) → Bool) : ∀ (l : Smps) (j : Nat) (h : j < l.length), P l[j] = true → (∀ i (hi : i < l.length), j < i → P l[i] = false) → (l.filter P).getLast? = some l[j] := by
  intro l j h hp ha
  have e : l = l.take j ++ (l[j] :: l.drop (j + 1)) := by
    rw [← List.drop_eq_getElem_cons h, List.take_append_drop]
  have e2 : (l.drop (j + 1)).filter P = [] := by
    rw [List.filter_eq_nil_iff]
    intro x hx
    obtain ⟨i, hi, rfl⟩ := List.getElem_of_mem hx
    rw [List.getElem_drop]
    rw [List.length_drop] at hi
    have := ha (j + 1 + i) (by omega) (by omega)
    simp [this]
  have e3 : l.filter P = (l.take j).filter P ++ [l[j]] := by
    have := congrArg (List.filter P) e
    rw [List.filter_append, List.filter_cons_of_pos hp, e2] at this
    exact this
  rw [e3]
  simp
theorem cell_at {f s : Int} {l : Smps} {k q r : Nat} (h : Cut l (f + (k : Int) * s) q) (g : Cut l (f + (k : Int) * s + s) r) (hqr : q ≤ r) :
    (q = r → cell f s l k = none) ∧ (∀ h1 : q < r, cell f s l k = some (l[r - 1]'(by have := g.1; omega)).2) := by
  have hn : ∀ i (hi : i < l.length), i < q ∨ r ≤ i → inS f s k l[i] = false := fun i hi h1 => by
    unfold inS
    rcases h1 with h1 | h1
    · have := h.2.1 i hi h1
      have : ¬ f + (k : Int) * s ≤ l[i].1 := by omega
      simp [this]
    · have := g.2.2 i hi h1
      have : ¬ l[i].1 < f + (k : Int) * s + s := by omega
      simp [this]
  constructor
  · intro e
    subst e
    unfold cell
    have : l.filter (inS f s k) = [] := by
      rw [List.filter_eq_nil_iff]
      intro x hx
      obtain ⟨i, hi, rfl⟩ := List.getElem_of_mem hx
      rw [hn i hi (by omega)]
      simp
    rw [this]
    rfl
  · intro h1
    have hr := g.1
    unfold cell
    rw [last_filter _ l (r - 1) (by omega) (by
      unfold inS
      have a := h.2.2 (r - 1) (by omega) (by omega)
      have b := g.2.1 (r - 1) (by omega) (by omega)
      simp [a, b]) (fun i hi h2 => hn i hi (by omega))]
    rfl

/-- The value that is carried on behind i steps. -/
def nowC (c : Nat → Option Int) : Nat → Int
  | 0 => 0
  | i + 1 => (c i).getD (nowC c i)
/-- How many of the first i steps have no sample. -/
def gapC (c : Nat → Option Int) : Nat → Nat
  | 0 => 0
  | i + 1 => gapC c i + if (c i).isNone then 1 else 0
theorem gapC_le (c : Nat → Option Int) (i : Nat) : gapC c i ≤ i := by
  induction i with
  | zero => exact Nat.le_refl _
  | succ i ih => unfold gapC; split <;> omega
/-- The first of i steps that has a sample (n: none has). -/
def Fst (c : Nat → Option Int) (n i F : Nat) : Prop := (F = n ∧ ∀ j, j < i → c j = none) ∨ (F < i ∧ (c F).isSome = true ∧ ∀ j, j < F → c j = none)
theorem Fst.le {c : Nat → Option Int} {n i F : Nat} (h : Fst c n i F) (hi : i ≤ n) : F ≤ n := by
  rcases h with ⟨h, _⟩ | ⟨h, _⟩ <;> omega
theorem Fst.none {c : Nat → Option Int} {n i F : Nat} (h : Fst c n i F) (e : c i = none) : Fst c n (i + 1) F := by
  rcases h with ⟨h, g⟩ | ⟨h, g⟩
  · refine .inl ⟨h, fun j hj => ?_⟩
    rcases Nat.lt_or_eq_of_le (Nat.le_of_lt_succ hj) with h1 | h1
    · exact g j h1
    · rw [h1]; exact e
  · exact .inr ⟨by omega, g⟩
theorem Fst.some {c : Nat → Option Int} {n i F : Nat} {v : Int} (h : Fst c n i F) (hi : i < n) (e : c i = some v) : Fst c n (i + 1) (if i < F then i else F) := by
  rcases h with ⟨h, g⟩ | ⟨h, g⟩
  · subst h
    rw [if_pos hi]
    exact .inr ⟨by omega, by rw [e]; rfl, g⟩
  · rw [if_neg (by omega)]
    exact .inr ⟨by omega, g⟩
theorem Fst.inj {c : Nat → Option Int} {n F G : Nat} (h : Fst c n n F) (g : Fst c n n G) : F = G := by
  rcases h with ⟨h, h1⟩ | ⟨h, h1, h2⟩ <;> rcases g with ⟨g, g1⟩ | ⟨g, g1, g2⟩
  · omega
  · rw [h1 G g] at g1; cases g1
  · rw [g1 F h] at h1; cases h1
  · rcases Nat.lt_trichotomy F G with h3 | h3 | h3
    · rw [g2 F h3] at h1; cases h1
    · exact h3
    · rw [h2 G h3] at g1; cases g1
theorem Fst.ex (c : Nat → Option Int) (n : Nat) : ∀ i, i ≤ n → ∃ F, Fst c n i F := by
  intro i
  induction i with
  | zero => intro _; exact ⟨n, .inl ⟨rfl, fun j hj => absurd hj (Nat.not_lt_zero j)⟩⟩
  | succ i ih =>
    intro hi
    obtain ⟨F, hF⟩ := ih (by omega)
    cases e : c i with
    | none => exact ⟨F, hF.none e⟩
    | some v => exact ⟨_, hF.some (by omega) e⟩

/-- The points: F is the first step that has a sample. -/
def outC (c : Nat → Option Int) (F : Nat) (j : Nat) : Int := if j < F then nowC c (F + 1) else nowC c (j + 1)
theorem now_some {c : Nat → Option Int} {i : Nat} {v : Int} (h : c i = some v) : nowC c (i + 1) = v := by
  show (c i).getD _ = v
  rw [h]; rfl
theorem now_none {c : Nat → Option Int} {i : Nat} (h : c i = none) : nowC c (i + 1) = nowC c i := by
  show (c i).getD _ = _
  rw [h]; rfl
theorem gap_some {c : Nat → Option Int} {i : Nat} {v : Int} (h : c i = some v) : gapC c (i + 1) = gapC c i := by
  show gapC c i + (if (c i).isNone then 1 else 0) = _
  rw [h]; simp
theorem gap_none {c : Nat → Option Int} {i : Nat} (h : c i = none) : gapC c (i + 1) = gapC c i + 1 := by
  show gapC c i + (if (c i).isNone then 1 else 0) = _
  rw [h]; simp

/-- A row by its cells. -/
def rowF (f : Nat → Int) (n : Nat) : List Int := (List.range n).map f
theorem rowF_len (f : Nat → Int) (n : Nat) : (rowF f n).length = n := by simp [rowF]
theorem rowF_get (f : Nat → Int) (n i : Nat) (h : i < (rowF f n).length) : (rowF f n)[i] = f i := by simp [rowF]
theorem rowF_ext {f g : Nat → Int} {n : Nat} (h : ∀ j, j < n → f j = g j) : rowF f n = rowF g n := by
  unfold rowF
  apply List.map_congr_left
  intro j hj
  exact h j (List.mem_range.1 hj)
theorem rowF_set (f : Nat → Int) (n i : Nat) (v : Int) : (rowF f n).set i v = rowF (fun j => if j = i then v else f j) n := by
  apply List.ext_getElem
  · simp [rowF]
  · intro j h1 h2
    rw [List.getElem_set, rowF_get, rowF_get]
    by_cases h : i = j
    · rw [if_pos h, if_pos h.symm]
    · rw [if_neg h, if_neg (fun e => h e.symm)]
end Go.Proofs.Ytjjmidooikgaaaa.Rs
