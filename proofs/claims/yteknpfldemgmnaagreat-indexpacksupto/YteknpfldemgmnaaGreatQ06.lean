/-
  Xplain, Mplain, Xsel.
-/
import Derived.Test.YteknpfldemgmnaaGreatQ04
import Derived.Test.YteknpfldemgmnaaGreatQ05
import Derived.Lib.IndexAny

/-
  Posts in plain words: pairs of a name and a value, rising, each with the numbers of the series that have it.
-/
namespace Go.Proofs.YteknpfldemgmnaaGreat.X
open Go.Proofs.YteknpfldemgmnaaGreat.N Go.Proofs.YteknpfldemgmnaaGreat.Po
set_option linter.unusedVariables false

abbrev Post := Lab × List Int
abbrev Posts := List Post
def SortP (P : Posts) : Prop := P.Pairwise (fun a b => labC a.1 b.1 = -1)
def lookP (P : Posts) (x : Lab) : List Int := match P.find? (fun p => decide (p.1 = x)) with
  | some p => p.2
  | none => []
/-- One number more at a pair. -/
def addP (x : Lab) (i : Int) : Posts → Posts
  | [] => [(x, [i])]
  | p :: r => if p.1 = x then (x, p.2 ++ [i]) :: r else if labC x p.1 = -1 then (x, [i]) :: p :: r else p :: addP x i r
def addS (P : Posts) (i : Int) (l : Labs) : Posts := l.foldl (fun P x => addP x i P) P
def addF (P : Posts) (i : Nat) : List Labs → Posts
  | [] => P
  | l :: r => addF (addS P (i : Int) l) (i + 1) r
def postsOf (L : List Labs) : Posts := addF [] 0 L

theorem addS_snoc (P : Posts) (i : Int) (l : Labs) (x : Lab) : addS P i (l ++ [x]) = addP x i (addS P i l) := by
  unfold addS
  rw [List.foldl_append]
  rfl
theorem addF_snoc : ∀ (L : List Labs) (P : Posts) (i : Nat) (l : Labs), addF P i (L ++ [l]) = addS (addF P i L) ((i + L.length : Nat) : Int) l
  | [], P, i, l => by simp [addF]
  | a :: r, P, i, l => by
    rw [List.cons_append, addF, addF, addF_snoc r _ _ l, List.length_cons, show i + 1 + r.length = i + (r.length + 1) by omega]
theorem postsOf_snoc (L : List Labs) (l : Labs) : postsOf (L ++ [l]) = addS (postsOf L) (L.length : Int) l := by
  have := addF_snoc L [] 0 l
  rw [Nat.zero_add] at this
  exact this
theorem labC_or (x y : Lab) (h : x ≠ y) (h2 : ¬ labC x y = -1) : labC y x = -1 := by
  rcases labC_good.rng x y with e | e | e
  · exact absurd e h2
  · exact absurd (labC_good.zero x y e) h
  · have := labC_good.anti x y
    omega
theorem labC_irr (x : Lab) : ¬ labC x x = -1 := by
  have := labC_good.self x
  omega
theorem addP_mem (x : Lab) (i : Int) : ∀ {P : Posts} {p : Post}, p ∈ addP x i P → p.1 = x ∨ p ∈ P
  | [], p, h => by
    rw [addP, List.mem_singleton] at h
    rw [h]
    exact .inl rfl
  | q :: r, p, h => by
    rw [addP] at h
    split at h
    · rcases List.mem_cons.1 h with e | e
      · rw [e]
        exact .inl rfl
      · exact .inr (List.mem_cons_of_mem _ e)
    · split at h
      · rcases List.mem_cons.1 h with e | e
        · rw [e]
          exact .inl rfl
        · exact .inr e
      · rcases List.mem_cons.1 h with e | e
        · exact .inr (List.mem_cons.2 (.inl e))
        · exact (addP_mem x i e).imp id (List.mem_cons_of_mem _)
theorem addP_sort (x : Lab) (i : Int) : ∀ {P : Posts}, SortP P → SortP (addP x i P)
  | [], _ => List.pairwise_singleton _ _
  | q :: r, h => by
    have hz := List.pairwise_cons.1 h
    rw [addP]
    split
    · rename_i e
      exact List.pairwise_cons.2 ⟨fun p hp => by have := hz.1 p hp; rw [e] at this; exact this, hz.2⟩
    · rename_i e
      split
      · rename_i e2
        refine List.pairwise_cons.2 ⟨fun p hp => ?_, h⟩
        rcases List.mem_cons.1 hp with h1 | h1
        · rw [h1]
          exact e2
        · exact labC_good.trans _ _ _ e2 (hz.1 p h1)
      · rename_i e2
        refine List.pairwise_cons.2 ⟨fun p hp => ?_, addP_sort x i hz.2⟩
        rcases addP_mem x i hp with h1 | h1
        · rw [h1]
          exact labC_or x q.1 (fun h => e h.symm) e2
        · exact hz.1 p h1
theorem look_sorted {P : Posts} (h : SortP P) {x : Lab} {l : List Int} (hm : (x, l) ∈ P) : lookP P x = l := by
  unfold lookP
  induction P with
  | nil => cases hm
  | cons q r ih =>
    have hz := List.pairwise_cons.1 h
    rw [List.find?_cons]
    by_cases e : q.1 = x
    · rw [decide_eq_true e]
      rcases List.mem_cons.1 hm with h1 | h1
      · rw [← h1]
      · have := hz.1 _ h1
        rw [e] at this
        exact absurd this (labC_irr x)
    · rw [decide_eq_false e]
      rcases List.mem_cons.1 hm with h1 | h1
      · exact absurd (by rw [← h1]) e
      · exact ih hz.2 h1
theorem look_none {P : Posts} {x : Lab} (h : ∀ p ∈ P, p.1 ≠ x) : lookP P x = [] := by
  unfold lookP
  rw [List.find?_eq_none.2 (fun p hp => by simpa using h p hp)]
theorem add_perm (x : Lab) (i : Int) : ∀ {P : Posts}, SortP P → (addP x i P).Perm ((x, lookP P x ++ [i]) :: P.filter (fun p => !decide (p.1 = x)))
  | [], _ => by
    have e : lookP [] x = [] := rfl
    rw [addP, e]
    exact .refl _
  | q :: r, h => by
    have hz := List.pairwise_cons.1 h
    rw [addP]
    split
    · rename_i e
      have hf : (q :: r).filter (fun p => !decide (p.1 = x)) = r := by
        rw [List.filter_cons, if_neg (by simp [e]), List.filter_eq_self]
        intro p hp
        simp only [Bool.not_eq_true', decide_eq_false_iff_not]
        intro e2
        have := hz.1 p hp
        rw [e, e2] at this
        exact labC_irr x this
      rw [hf, look_sorted h (x := x) (l := q.2) (by rw [← e]; exact List.mem_cons_self ..)]
    · rename_i e
      have hc : (q :: r).filter (fun p => !decide (p.1 = x)) = q :: r.filter (fun p => !decide (p.1 = x)) := by
        rw [List.filter_cons, if_pos (by simp [e])]
      have hl : lookP (q :: r) x = lookP r x := by
        unfold lookP
        rw [List.find?_cons, decide_eq_false e]
      split
      · rename_i e2
        have hn : ∀ p ∈ r, p.1 ≠ x := fun p hp e3 => by
          have := labC_good.trans _ _ _ e2 (hz.1 p hp)
          rw [e3] at this
          exact labC_irr x this
        rw [hc, hl, look_none hn, List.filter_eq_self.2 (fun p hp => by simp [hn p hp])]
        exact .refl _
      · rw [hc, hl]
        exact ((add_perm x i hz.2).cons q).trans (.swap _ _ _)
theorem look_add {P : Posts} (h : SortP P) (x : Lab) (i : Int) (y : Lab) : lookP (addP x i P) y = if y = x then lookP P x ++ [i] else lookP P y := by
  have hs := addP_sort x i h
  have hp := add_perm x i h
  split
  · rename_i e
    rw [e]
    exact look_sorted hs (hp.mem_iff.2 (List.mem_cons_self ..))
  · rename_i e
    by_cases hy : ∃ l, (y, l) ∈ P
    · obtain ⟨l, hl⟩ := hy
      rw [look_sorted h hl]
      exact look_sorted hs (hp.mem_iff.2 (List.mem_cons_of_mem _ (List.mem_filter.2 ⟨hl, by simpa using e⟩)))
    · have h1 : ∀ p ∈ P, p.1 ≠ y := fun p hp e2 => hy ⟨p.2, by rw [← e2]; exact hp⟩
      rw [look_none h1, look_none]
      intro p hp2
      rcases addP_mem x i hp2 with e2 | e2
      · rw [e2]
        exact fun e3 => e e3.symm
      · exact h1 p e2
/-- What posts hold: those of the first N series, and of the next one the labels D. -/
structure Tells (P : Posts) (N : Nat) (T : Lab → Nat → Prop) : Prop where
  sort : SortP P
  some : ∀ p ∈ P, p.2 ≠ []
  up : ∀ p ∈ P, upB (-1) p.2 = true
  lt : ∀ p ∈ P, ∀ v ∈ p.2, v < (N : Int)
  iff : ∀ x (i : Nat), (i : Int) ∈ lookP P x ↔ T x i
theorem look_mem {P : Posts} {x : Lab} {v : Int} (h : v ∈ lookP P x) : ∃ p ∈ P, p.1 = x ∧ lookP P x = p.2 := by
  unfold lookP at h ⊢
  cases e : P.find? (fun p => decide (p.1 = x)) with
  | none => rw [e] at h; cases h
  | some p => exact ⟨p, List.mem_of_find?_eq_some e, by simpa using List.find?_some e, rfl⟩
theorem look_or (P : Posts) (x : Lab) : lookP P x = [] ∨ ∃ p ∈ P, p.1 = x ∧ lookP P x = p.2 := by
  unfold lookP
  cases e : P.find? (fun p => decide (p.1 = x)) with
  | none => exact .inl rfl
  | some p => exact .inr ⟨p, List.mem_of_find?_eq_some e, by simpa using List.find?_some e, rfl⟩
theorem up_snoc : ∀ {l : List Int} {last i : Int}, upB last l = true → (∀ v ∈ l, v < i) → last < i → i < 1099511627776 → upB last (l ++ [i]) = true
  | [], last, i, _, _, h1, h2 => up_cons.2 ⟨h1, h2, rfl⟩
  | a :: t, last, i, h, hv, h1, h2 => by
    have hz := up_cons.1 h
    exact up_cons.2 ⟨hz.1, hz.2.1, up_snoc hz.2.2 (fun v hv' => hv v (List.mem_cons_of_mem _ hv')) (hv a (List.mem_cons_self ..)) h2⟩
/-- A label more of the series N. -/
theorem Tells.add {P : Posts} {N : Nat} {D : Labs} {T : Lab → Nat → Prop} (h : Tells P (N + 1) (fun x i => (i < N ∧ T x i) ∨ (i = N ∧ x ∈ D))) (hN : N < 1000000) {x : Lab} (hx : x ∉ D) :
    Tells (addP x (N : Int) P) (N + 1) (fun y i => (i < N ∧ T y i) ∨ (i = N ∧ y ∈ D ++ [x])) := by
  have hlast : ∀ v ∈ lookP P x, v < (N : Int) := fun v hv => by
    obtain ⟨p, hp, h1, h2⟩ := look_mem hv
    have h3 := h.lt p hp v (by rw [← h2]; exact hv)
    have h4 := (up_mem (h.up p hp) (by rw [← h2]; exact hv)).1
    obtain ⟨m, rfl⟩ : ∃ m : Nat, v = (m : Int) := ⟨v.toNat, by omega⟩
    rcases (h.iff x m).1 hv with e | ⟨_, e⟩
    · omega
    · exact absurd e hx
  have hup : upB (-1) (lookP P x) = true := by
    rcases look_or P x with e | ⟨p, hp, _, e⟩
    · rw [e]; rfl
    · rw [e]; exact h.up p hp
  have hmem : ∀ p ∈ addP x (N : Int) P, p = (x, lookP P x ++ [(N : Int)]) ∨ p ∈ P := fun p hp => by
    rcases List.mem_cons.1 ((add_perm x (N : Int) h.sort).mem_iff.1 hp) with e | e
    · exact .inl e
    · exact .inr (List.mem_filter.1 e).1
  refine ⟨addP_sort x _ h.sort, fun p hp => ?_, fun p hp => ?_, fun p hp v hv => ?_, fun y i => ?_⟩
  · rcases hmem p hp with e | e
    · rw [e]; simp
    · exact h.some p e
  · rcases hmem p hp with e | e
    · rw [e]
      exact up_snoc hup hlast (by omega) (by omega)
    · exact h.up p e
  · rcases hmem p hp with e | e
    · rw [e] at hv
      rcases List.mem_append.1 hv with e2 | e2
      · have := hlast v e2
        omega
      · rw [List.mem_singleton.1 e2]
        omega
    · exact h.lt p e v hv
  · rw [look_add h.sort]
    split
    · rename_i e
      subst e
      rw [List.mem_append, List.mem_singleton, h.iff, List.mem_append, List.mem_singleton]
      constructor
      · rintro ((e1 | e1) | e1)
        · exact .inl e1
        · exact .inr ⟨e1.1, .inl e1.2⟩
        · exact .inr ⟨by omega, .inr rfl⟩
      · rintro (e1 | ⟨e1, e2 | e2⟩)
        · exact .inl (.inl e1)
        · exact .inl (.inr ⟨e1, e2⟩)
        · exact .inr (by omega)
    · rename_i e
      rw [h.iff, List.mem_append, List.mem_singleton]
      constructor
      · rintro (e1 | e1)
        · exact .inl e1
        · exact .inr ⟨e1.1, .inl e1.2⟩
      · rintro (e1 | ⟨e1, e2 | e2⟩)
        · exact .inl e1
        · exact .inr ⟨e1, e2⟩
        · exact absurd e2 e
def HasL (L : List Labs) (x : Lab) (i : Nat) : Prop := ∃ l, L[i]? = some l ∧ x ∈ l
theorem Tells.addS {P : Posts} {N : Nat} {T : Lab → Nat → Prop} (hN : N < 1000000) : ∀ (l D : Labs), (D ++ l).Nodup → ∀ {P : Posts}, Tells P (N + 1) (fun x i => (i < N ∧ T x i) ∨ (i = N ∧ x ∈ D)) →
    Tells (addS P (N : Int) l) (N + 1) (fun y i => (i < N ∧ T y i) ∨ (i = N ∧ y ∈ D ++ l))
  | [], D, _, P, h => by simpa [X.addS] using h
  | x :: t, D, hn, P, h => by
    have hx : x ∉ D := fun e => by
      have := (List.nodup_append.1 hn).2.2 x e x (List.mem_cons_self ..)
      exact this rfl
    have := Tells.addS (P := P) hN t (D ++ [x]) (by simpa using hn) (h.add hN hx)
    simpa [X.addS] using this
theorem rise_nodup {l : Labs} (h : Rise l) : l.Nodup := by
  refine List.Pairwise.imp ?_ h
  intro a b hab e
  rw [e] at hab
  have := cmpB_good.self b.1
  omega
/-- The posts of series. -/
theorem posts_tells (L : List Labs) (hM : ∀ l ∈ L, Rise l) (hl : L.length < 1000000) : Tells (postsOf L) L.length (HasL L) := by
  have key : ∀ n, n ≤ L.length → Tells (postsOf (L.take n)) n (fun x i => i < n ∧ HasL L x i) := by
    intro n
    induction n with
    | zero =>
      intro _
      rw [List.take_zero]
      refine ⟨List.Pairwise.nil, ?_, ?_, ?_, fun x i => ⟨fun h => absurd h List.not_mem_nil, fun h => by omega⟩⟩
      · intro p hp; cases hp
      · intro p hp; cases hp
      · intro p hp; cases hp
    | succ n ih =>
      intro hn
      have h0 := ih (by omega)
      rw [List.take_succ_eq_append_getElem (by omega), postsOf_snoc, List.length_take, Nat.min_eq_left (by omega)]
      have hlm : L[n] ∈ L := List.getElem_mem _
      have h1 : Tells (postsOf (L.take n)) (n + 1) (fun x i => (i < n ∧ HasL L x i) ∨ (i = n ∧ x ∈ ([] : Labs))) :=
        ⟨h0.sort, h0.some, h0.up, fun p hp v hv => by have := h0.lt p hp v hv; omega, fun x i => by rw [h0.iff]; simp⟩
      have h2 := Tells.addS (P := postsOf (L.take n)) (by omega) L[n] [] (by simpa using rise_nodup (hM _ hlm)) h1
      refine ⟨h2.sort, h2.some, h2.up, h2.lt, fun x i => ?_⟩
      rw [h2.iff, List.nil_append]
      constructor
      · rintro (e | ⟨e, e2⟩)
        · exact ⟨by omega, e.2⟩
        · subst e
          exact ⟨by omega, L[i], List.getElem?_eq_getElem (by omega), e2⟩
      · rintro ⟨e1, l, e2, e3⟩
        by_cases hin : i < n
        · exact .inl ⟨hin, l, e2, e3⟩
        · obtain rfl : i = n := by omega
          rw [List.getElem?_eq_getElem (by omega)] at e2
          cases e2
          exact .inr ⟨rfl, e3⟩
  have := key L.length (Nat.le_refl _)
  rw [List.take_length] at this
  refine ⟨this.sort, this.some, this.up, this.lt, fun x i => ?_⟩
  rw [this.iff]
  constructor
  · exact fun h => h.2
  · rintro ⟨l, e, e2⟩
    exact ⟨(List.getElem?_eq_some_iff.1 e).1, l, e, e2⟩
end Go.Proofs.YteknpfldemgmnaaGreat.X

/-
  Matchers in plain words: which are taken, which labels they fit, their text, what a text is read as. No program is named here.
-/
namespace Go.Proofs.YteknpfldemgmnaaGreat.N
open Go Go.RowKit Go.Proofs.Lys
set_option linter.unusedVariables false
set_option linter.unusedSimpArgs false

abbrev Mat := Int × ByteArray × ByteArray
abbrev Mats := List Mat

/-! ### Check, Fits -/
def roomN (k : Int) : Nat := if k = 4 then 0 else 64
def kindOk (k : Int) : Bool := decide (1 ≤ k) && decide (k ≤ 4)
def matOk (m : Mat) : Bool := kindOk m.1 && nameOk m.2.1 && decide (m.2.2.size ≤ roomN m.1)
def checkM (l : Mats) : Int := if 8 < l.length then 2 else if l.all matOk then 0 else 20
def foundV (of_ : Labs) (n : ByteArray) : ByteArray × Bool := match of_.find? (fun x => decide (x.1 = n)) with
  | some x => (x.2, true)
  | none => (⟨#[]⟩, false)
def fitV (k : Int) (f : ByteArray × Bool) (v : ByteArray) : Bool :=
  if k = 1 then decide (f.1 = v) else if k = 2 then !decide (f.1 = v) else if k = 3 then Lib.hasPrefix f.1.data.toList v.data.toList else f.2
def fitB (of_ : Labs) (m : Mat) : Bool := fitV m.1 (foundV of_ m.2.1) m.2.2
def fitsB (l : Mats) (of_ : Labs) : Bool := decide (checkM l = 0) && l.all (fitB of_)

theorem checkM_zero {l : Mats} : checkM l = 0 ↔ l.length ≤ 8 ∧ ∀ m ∈ l, matOk m = true := by
  unfold checkM
  constructor
  · intro h
    split at h
    · cases h
    · split at h
      · rename_i h1 h2
        exact ⟨by omega, List.all_eq_true.1 h2⟩
      · cases h
  · rintro ⟨h1, h2⟩
    rw [if_neg (by omega), if_pos (List.all_eq_true.2 h2)]
theorem checkM_vals (l : Mats) : checkM l = 0 ∨ checkM l = 2 ∨ checkM l = 20 := by
  unfold checkM
  split
  · exact .inr (.inl rfl)
  · split
    · exact .inl rfl
    · exact .inr (.inr rfl)
theorem matOk_parts {m : Mat} (h : matOk m = true) : 1 ≤ m.1 ∧ m.1 ≤ 4 ∧ nameOk m.2.1 = true ∧ m.2.2.size ≤ roomN m.1 := by
  simp only [matOk, kindOk, Bool.and_eq_true, decide_eq_true_eq] at h
  exact ⟨h.1.1.1, h.1.1.2, h.1.2, h.2⟩

/-! ### Texts -/
def markB (k : Int) : List UInt8 := if k = 1 then [61] else if k = 2 then [33, 61] else if k = 3 then [94, 61] else []
def valT (k : Int) (v : ByteArray) : List UInt8 := if k < 4 then markB k ++ (34 :: (quoteL v.data.toList ++ [34])) else []
def matT (m : Mat) : List UInt8 := m.2.1.data.toList ++ valT m.1 m.2.2
def restM (l : Mats) : List UInt8 := l.flatMap (fun m => 44 :: matT m)
def matsT : Mats → List UInt8
  | [] => []
  | m :: r => matT m ++ restM r
def mtxtL (l : Mats) : List UInt8 := if checkM l = 0 then (if l = [] then [42] else matsT l) else []
theorem matsT_snoc (l : Mats) (m : Mat) : matsT (l ++ [m]) = matsT l ++ ((if l = [] then [] else [44]) ++ matT m) := by
  cases l with
  | nil => simp [matsT, restM]
  | cons y r => simp [matsT, restM]
theorem matsT_more (m : Mat) (m2 : Mat) (r : Mats) : matsT (m :: m2 :: r) = matT m ++ (44 :: matsT (m2 :: r)) := by
  simp [matsT, restM]

/-! ### What a text is read as, by the program -/
def stopB (c : UInt8) : Bool := ([44, 61, 33, 94] : List UInt8).contains c
def unqM (s : List UInt8) : Option (List UInt8) :=
  if s = [] then some [] else match parseL ([123, 118, 61, 34] ++ s ++ [34, 125]) with
    | some [x] => some x.2.data.toList
    | _ => none
def markR (s : List UInt8) : Option (Int × List UInt8) :=
  if Lib.hasPrefix s [61, 34] then some (1, Lib.trimPrefix s [61, 34])
  else if Lib.hasPrefix s [33, 61, 34] then some (2, Lib.trimPrefix s [33, 61, 34])
  else if Lib.hasPrefix s [94, 61, 34] then some (3, Lib.trimPrefix s [94, 61, 34])
  else none
def valM (n : List UInt8) (r : List UInt8) : Option (Mat × List UInt8) := match markR r with
  | none => none
  | some (k, t) => if (Lib.cut t [34]).2.2 then (unqM (Lib.cut t [34]).1).map (fun v => ((k, mkB n, mkB v), (Lib.cut t [34]).2.1)) else none
def matR (s : List UInt8) : Option (Mat × List UInt8) :=
  if s.dropWhile (!stopB ·) = [] ∨ (s.dropWhile (!stopB ·)).head? = some 44 then some ((4, mkB (s.takeWhile (!stopB ·)), mkB []), s.dropWhile (!stopB ·))
  else valM (s.takeWhile (!stopB ·)) (s.dropWhile (!stopB ·))
def mread : Nat → Mats → List UInt8 → Option Mats
  | 0, _, _ => none
  | f + 1, acc, s => match matR s with
    | none => none
    | some (m, r) => if r = [] ∧ checkM (acc ++ [m]) = 0 then some (acc ++ [m]) else match r with
      | [] => none
      | c :: r' => if c = 44 then mread f (acc ++ [m]) r' else none
def parseM (s : List UInt8) : Option Mats := if s = [42] then some [] else mread 8 [] s

theorem quoteL_nil {l : List UInt8} (h : quoteL l = []) : l = [] := by
  cases l with
  | nil => rfl
  | cons c r =>
    exfalso
    unfold quoteL at h
    rw [List.flatMap_cons] at h
    have h1 := (List.append_eq_nil_iff.1 h).1
    unfold quoteB at h1
    split at h1
    · cases h1
    · cases h1
theorem unqM_iff {s v : List UInt8} : unqM s = some v ↔ quoteL v = s ∧ v.length ≤ 64 := by
  constructor
  · intro h
    unfold unqM at h
    split at h
    · rename_i e
      cases h
      subst e
      exact ⟨rfl, by simp⟩
    · split at h
      · rename_i x hp
        cases h
        obtain ⟨hm, ht⟩ := parse_iff.1 hp
        have hok := hm.ok x (List.mem_singleton.2 rfl)
        have hpl := name_plain hok
        have e1 : textL [x] = 123 :: (x.1.data.toList ++ 61 :: (34 :: (quoteL x.2.data.toList ++ [34, 125]))) := by simp [textL, accT, restT, labT]
        have e2 : ([123, 118, 61, 34] ++ s ++ [34, 125] : List UInt8) = 123 :: ([118] ++ 61 :: (34 :: (s ++ [34, 125]))) := by simp
        rw [e1, e2] at ht
        have ht := (List.cons.inj ht).2
        have t1 := take_plain (t := 34 :: (quoteL x.2.data.toList ++ [34, 125])) hpl (show plainB 61 = false by decide)
        have t2 := take_plain (a := [118]) (t := 34 :: (s ++ [34, 125])) (fun c hc => by rw [List.mem_singleton.1 hc]; decide) (show plainB 61 = false by decide)
        have hd := t1.2
        rw [ht, t2.2] at hd
        have hd := (List.cons.inj (List.cons.inj hd).2).2
        have hq := List.append_cancel_right hd
        refine ⟨hq.symm, ?_⟩
        simp only [labOk, valOk, Bool.and_eq_true, decide_eq_true_eq] at hok
        have := hok.2.2
        rw [Lib.size_eq] at this
        exact this
      · cases h
  · rintro ⟨h1, h2⟩
    unfold unqM
    by_cases h0 : s = []
    · rw [if_pos h0]
      rw [h0] at h1
      rw [quoteL_nil h1]
    · rw [if_neg h0]
      have hv : v ≠ [] := fun e => h0 (by rw [← h1, e]; rfl)
      have hvl : 0 < v.length := List.length_pos_iff.2 hv
      have hok : labOk (mkB [118], mkB v) = true := by
        have a1 : nameOk (mkB [118]) = true := by decide
        have a2 : valOk (mkB v) = true := by
          simp only [valOk, Bool.and_eq_true, decide_eq_true_eq]
          rw [Lib.size_eq]
          exact ⟨hvl, h2⟩
        unfold labOk
        rw [a1, a2]
        rfl
      have hm : Made [(mkB [118], mkB v)] := ⟨by simp, by simp, fun x hx => by rw [List.mem_singleton.1 hx]; exact hok, by simp [Rise]⟩
      have ht : textL [(mkB [118], mkB v)] = [123, 118, 61, 34] ++ s ++ [34, 125] := by
        simp [textL, accT, restT, labT, h1]
      rw [parse_iff.2 ⟨hm, ht⟩]

theorem cut_eq {t q r : List UInt8} (h : Lib.cut t [34] = (q, r, true)) : t = q ++ 34 :: r := by
  unfold Lib.cut at h
  split at h
  · rename_i h0
    rcases Lib.index_spec t [34] with ⟨e, _⟩ | ⟨i, e, hi, ho, _⟩
    · omega
    · rw [e] at h
      simp only [Int.toNat_natCast, List.length_singleton, Prod.mk.injEq, and_true] at h
      obtain ⟨rfl, rfl⟩ := h
      unfold Lib.occAt at ho
      obtain ⟨u, hu⟩ := List.isPrefixOf_iff_prefix.1 ho
      have : t = t.take i ++ t.drop i := (List.take_append_drop i t).symm
      rw [← hu] at this
      have hd : t.drop (i + 1) = u := by
        rw [← List.drop_drop, ← hu]
        rfl
      rw [hd]
      exact this
  · cases h
theorem prefix_trim {s p : List UInt8} (h : Lib.hasPrefix s p = true) : s = p ++ Lib.trimPrefix s p := by
  unfold Lib.trimPrefix
  rw [if_pos h]
  obtain ⟨u, rfl⟩ := List.isPrefixOf_iff_prefix.1 h
  simp
theorem markR_some {s t : List UInt8} {k : Int} (h : markR s = some (k, t)) : 1 ≤ k ∧ k ≤ 3 ∧ s = markB k ++ 34 :: t := by
  unfold markR at h
  split at h
  · rename_i h1
    cases h
    exact ⟨by omega, by omega, prefix_trim h1⟩
  · split at h
    · rename_i h1
      cases h
      exact ⟨by omega, by omega, prefix_trim h1⟩
    · split at h
      · rename_i h1
        cases h
        exact ⟨by omega, by omega, prefix_trim h1⟩
      · cases h
theorem valM_some {n s r : List UInt8} {m : Mat} (h : valM n s = some (m, r)) : 1 ≤ m.1 ∧ m.1 ≤ 3 ∧ m.2.1 = mkB n ∧ n ++ s = matT m ++ r := by
  unfold valM at h
  split at h
  · cases h
  · rename_i k t hk
    split at h
    · rename_i hc
      obtain ⟨v, hv, e⟩ := Option.map_eq_some_iff.1 h
      obtain ⟨h1, h3, hs⟩ := markR_some hk
      have ht : t = (Lib.cut t [34]).1 ++ 34 :: (Lib.cut t [34]).2.1 := cut_eq (by rw [← hc])
      cases e
      obtain ⟨hq, _⟩ := unqM_iff.1 hv
      refine ⟨h1, h3, rfl, ?_⟩
      unfold matT valT
      rw [if_pos (show k < 4 by omega), hs]
      show n ++ (markB k ++ 34 :: t) = (n ++ (markB k ++ 34 :: (quoteL v ++ [34]))) ++ (Lib.cut t [34]).2.1
      rw [hq]
      conv => lhs; rw [ht]
      simp
    · cases h
theorem matR_some {s r : List UInt8} {m : Mat} (h : matR s = some (m, r)) : s = matT m ++ r := by
  have hs : s = s.takeWhile (!stopB ·) ++ s.dropWhile (!stopB ·) := List.takeWhile_append_dropWhile.symm
  unfold matR at h
  split at h
  · cases h
    have : matT (4, mkB (s.takeWhile (!stopB ·)), mkB []) = s.takeWhile (!stopB ·) := by
      unfold matT valT
      rw [if_neg (show ¬ (4 : Int) < 4 by decide)]
      simp
    rw [this]
    exact hs
  · have := (valM_some h).2.2.2
    rw [← hs] at this
    exact this

theorem plain_stop {c : UInt8} (h : plainB c = true) : stopB c = false := by
  cases e : stopB c with
  | false => rfl
  | true =>
    simp only [stopB, List.contains_cons, List.contains_nil, Bool.or_eq_true, beq_iff_eq, Bool.or_false] at e
    rcases e with e | e | e | e <;> (subst e; revert h; decide)
theorem take_stop {a : List UInt8} {t : List UInt8} (h : ∀ x ∈ a, plainB x = true) (ht : t = [] ∨ ∃ c r, t = c :: r ∧ stopB c = true) : (a ++ t).takeWhile (!stopB ·) = a ∧ (a ++ t).dropWhile (!stopB ·) = t := by
  induction a with
  | nil =>
    rcases ht with rfl | ⟨c, r, rfl, hc⟩
    · exact ⟨rfl, rfl⟩
    · simp [hc]
  | cons x a ih =>
    have h1 := plain_stop (h x (List.mem_cons_self ..))
    have h2 := ih (fun y hy => h y (List.mem_cons_of_mem _ hy))
    simp only [List.cons_append, List.takeWhile_cons, List.dropWhile_cons, h1, Bool.not_false, if_true, h2.1, h2.2, and_self]
theorem name_chars {n : ByteArray} (h : nameOk n = true) : ∀ c ∈ n.data.toList, plainB c = true := by
  simp only [nameOk, Bool.and_eq_true, decide_eq_true_eq] at h
  exact List.all_eq_true.1 h.1.2
theorem markR_text {k : Int} (h1 : 1 ≤ k) (h3 : k ≤ 3) (t : List UInt8) : markR (markB k ++ 34 :: t) = some (k, t) := by
  have : k = 1 ∨ k = 2 ∨ k = 3 := by omega
  rcases this with rfl | rfl | rfl
  · show markR (61 :: 34 :: t) = _
    simp [markR, Lib.hasPrefix, Lib.trimPrefix, List.isPrefixOf]
  · show markR (33 :: 61 :: 34 :: t) = _
    simp [markR, Lib.hasPrefix, Lib.trimPrefix, List.isPrefixOf]
  · show markR (94 :: 61 :: 34 :: t) = _
    simp [markR, Lib.hasPrefix, Lib.trimPrefix, List.isPrefixOf]
/-- What may stand behind a matcher of a kind. -/
def Behind (k : Int) (r : List UInt8) : Prop := k = 4 → r = [] ∨ ∃ r', r = 44 :: r'
theorem mark_head {k : Int} (h1 : 1 ≤ k) (h3 : k ≤ 3) (t : List UInt8) : ∃ c r, markB k ++ t = c :: r ∧ stopB c = true ∧ c ≠ 44 := by
  have : k = 1 ∨ k = 2 ∨ k = 3 := by omega
  rcases this with rfl | rfl | rfl
  · exact ⟨61, t, rfl, by decide, by decide⟩
  · exact ⟨33, 61 :: t, rfl, by decide, by decide⟩
  · exact ⟨94, 61 :: t, rfl, by decide, by decide⟩
theorem matR_text {m : Mat} (h : matOk m = true) {r : List UInt8} (hr : Behind m.1 r) : matR (matT m ++ r) = some (m, r) := by
  obtain ⟨h1, h4, hn, hv⟩ := matOk_parts h
  have hp := name_chars hn
  obtain ⟨k, n, v⟩ := m
  simp only at h1 h4 hn hv hp hr
  by_cases h3 : k ≤ 3
  · have e : matT (k, n, v) ++ r = n.data.toList ++ (markB k ++ 34 :: (quoteL v.data.toList ++ (34 :: r))) := by
      unfold matT valT
      rw [if_pos (show k < 4 by omega)]
      simp
    obtain ⟨c, u, hc, hs, h44⟩ := mark_head h1 h3 (34 :: (quoteL v.data.toList ++ (34 :: r)))
    obtain ⟨g1, g2⟩ := take_stop (t := markB k ++ 34 :: (quoteL v.data.toList ++ (34 :: r))) hp (.inr ⟨c, u, hc, hs⟩)
    unfold matR
    rw [e, g1, g2, if_neg (by
      rintro (e | e)
      · rw [hc] at e; cases e
      · rw [hc] at e; simp at e; exact h44 e)]
    unfold valM
    have c2 : Lib.cut (quoteL v.data.toList ++ 34 :: r) [34] = (quoteL v.data.toList, r, true) :=
      cut_first (sep := [34]) (by simp) (fun j hj => cut_none_at rfl (fun hm => (quote_range _ _ hm).2.2 rfl) j hj)
    have hu : unqM (quoteL v.data.toList) = some v.data.toList := unqM_iff.2 ⟨rfl, by
      unfold roomN at hv
      rw [← Lib.size_eq]
      split at hv <;> omega⟩
    rw [markR_text h1 h3]
    simp only [c2, if_true, hu]
    rfl
  · have h4 : k = 4 := by omega
    subst h4
    have e : matT (4, n, v) ++ r = n.data.toList ++ r := by
      unfold matT valT
      rw [if_neg (show ¬ (4 : Int) < 4 by decide)]
      simp
    have hr2 := hr rfl
    obtain ⟨g1, g2⟩ := take_stop (t := r) hp (by
      rcases hr2 with e | ⟨r', e⟩
      · exact .inl e
      · exact .inr ⟨44, r', e, by decide⟩)
    have hv0 : v = mkB [] := by
      have : v.size = 0 := by
        unfold roomN at hv
        rw [if_pos rfl] at hv
        omega
      exact bytes_inj (List.length_eq_zero_iff.1 (by rw [← Lib.size_eq]; exact this))
    unfold matR
    rw [e, g1, g2, if_pos (by
      rcases hr2 with e | ⟨r', e⟩
      · exact .inl e
      · rw [e]; exact .inr rfl), hv0]

theorem mread_some (f : Nat) : ∀ (acc : Mats) (s : List UInt8) (l : Mats), mread f acc s = some l → ∃ l', l = acc ++ l' ∧ l' ≠ [] ∧ matsT l' = s ∧ checkM l = 0 := by
  induction f with
  | zero => intro acc s l h; cases h
  | succ f ih =>
    intro acc s l h
    unfold mread at h
    cases hm : matR s with
    | none => rw [hm] at h; cases h
    | some p =>
      obtain ⟨m, r⟩ := p
      rw [hm] at h
      simp only at h
      have hs := matR_some hm
      split at h
      · rename_i hc
        cases h
        refine ⟨[m], rfl, by simp, ?_, hc.2⟩
        rw [hs, hc.1]
        simp [matsT, restM]
      · split at h
        · cases h
        · rename_i c r' _
          split at h
          · rename_i e
            subst e
            obtain ⟨l', rfl, hne, ht, hk⟩ := ih _ _ _ h
            refine ⟨m :: l', by simp, by simp, ?_, hk⟩
            cases l' with
            | nil => exact absurd rfl hne
            | cons m2 q =>
              rw [matsT_more, ht, hs]
          · cases h
theorem mread_text (f : Nat) : ∀ (acc l : Mats), l ≠ [] → l.length ≤ f → checkM (acc ++ l) = 0 → mread f acc (matsT l) = some (acc ++ l) := by
  induction f with
  | zero =>
    intro acc l hl hf
    cases l with
    | nil => exact absurd rfl hl
    | cons m r => simp at hf
  | succ f ih =>
    intro acc l hl hf hk
    have hall := (checkM_zero.1 hk).2
    cases l with
    | nil => exact absurd rfl hl
    | cons m r =>
      have hok := hall m (by simp)
      cases r with
      | nil =>
        have e : matsT [m] = matT m ++ [] := by simp [matsT, restM]
        unfold mread
        rw [e, matR_text hok (fun _ => .inl rfl)]
        simp only
        rw [if_pos ⟨trivial, hk⟩]
      | cons m2 q =>
        rw [matsT_more]
        unfold mread
        rw [matR_text hok (fun _ => .inr ⟨_, rfl⟩)]
        simp only
        rw [if_neg (by rintro ⟨e, _⟩; cases e), if_pos trivial, ih (acc ++ [m]) (m2 :: q) (by simp) (by simp at hf ⊢; omega) (by simpa using hk)]
        simp
theorem mats_star {l : Mats} (h : checkM l = 0) (hl : l ≠ []) : ∃ c r, matsT l = c :: r ∧ plainB c = true := by
  cases l with
  | nil => exact absurd rfl hl
  | cons m r =>
    have hn := (matOk_parts ((checkM_zero.1 h).2 m (by simp))).2.2.1
    have hp := name_chars hn
    cases hd : m.2.1.data.toList with
    | nil =>
      exfalso
      simp only [nameOk, Bool.and_eq_true, decide_eq_true_eq] at hn
      have := hn.1.1.1
      rw [Lib.size_eq, hd] at this
      simp at this
    | cons c t =>
      rw [hd] at hp
      refine ⟨c, t ++ (valT m.1 m.2.2 ++ restM r), ?_, hp c (by simp)⟩
      simp [matsT, matT, hd]
theorem parseM_iff {s : List UInt8} {l : Mats} : parseM s = some l ↔ checkM l = 0 ∧ mtxtL l = s := by
  unfold parseM
  constructor
  · intro h
    split at h
    · rename_i e
      cases h
      exact ⟨rfl, e.symm⟩
    · obtain ⟨l', rfl, hne, ht, hk⟩ := mread_some _ _ _ _ h
      refine ⟨hk, ?_⟩
      unfold mtxtL
      rw [if_pos hk, if_neg hne, ht]
  · rintro ⟨hk, ht⟩
    unfold mtxtL at ht
    rw [if_pos hk] at ht
    split at ht
    · rename_i e
      subst e
      rw [if_pos ht.symm]
    · rename_i hne
      obtain ⟨c, r, hc, hp⟩ := mats_star hk hne
      rw [if_neg (by
        intro e
        rw [e, hc] at ht
        have := (List.cons.inj ht).1
        rw [this] at hp
        revert hp
        decide), ← ht]
      have := mread_text 8 [] l hne (checkM_zero.1 hk).1 (by simpa using hk)
      simpa using this

/-! ### The document's own reader -/
def valQ (s : List UInt8) : Option (List UInt8 × List UInt8) := match s with
  | c :: r => if c.toNat = 34 then valR r else none
  | [] => none
/-- The mark at the beginning, and how long it is. -/
def rmark : List UInt8 → Int × Nat
  | [] => (4, 0)
  | [a] => if a.toNat = 61 then (1, 1) else (4, 0)
  | a :: b :: _ => if a.toNat = 61 then (1, 1) else if b.toNat = 61 ∧ a.toNat = 33 then (2, 2) else if b.toNat = 61 ∧ a.toNat = 94 then (3, 2) else (4, 0)
def rvalM (n r : List UInt8) : Option (Mat × List UInt8) :=
  if (rmark r).2 = 0 then some ((4, mkB n, mkB []), r) else (valQ (r.drop (rmark r).2)).map (fun p => (((rmark r).1, mkB n, mkB p.1), p.2))
def rmatR (s : List UInt8) : Option (Mat × List UInt8) := rvalM (s.takeWhile plainB) (s.dropWhile plainB)
def rmread : Nat → Mats → List UInt8 → Option Mats
  | 0, acc, _ => some acc
  | f + 1, acc, s => match rmatR s with
    | none => none
    | some (m, r) => match r with
      | [] => some (acc ++ [m])
      | c :: r' => if c.toNat = 44 then rmread f (acc ++ [m]) r' else some (acc ++ [m])
def rparseM (s : List UInt8) : Option Mats := if s = [42] then some [] else (rmread 9 [] s).bind (fun l => if mtxtL l = s ∧ s ≠ [] then some l else none)

theorem rmark_text {k : Int} (h1 : 1 ≤ k) (h3 : k ≤ 3) (t : List UInt8) : (rmark (markB k ++ 34 :: t)).1 = k ∧ (rmark (markB k ++ 34 :: t)).2 = (markB k).length ∧ 0 < (markB k).length := by
  have : k = 1 ∨ k = 2 ∨ k = 3 := by omega
  rcases this with rfl | rfl | rfl
  · exact ⟨rfl, rfl, by decide⟩
  · exact ⟨rfl, rfl, by decide⟩
  · exact ⟨rfl, rfl, by decide⟩
theorem take_plain2 {a : List UInt8} {t : List UInt8} (h : ∀ x ∈ a, plainB x = true) (ht : t = [] ∨ ∃ c r, t = c :: r ∧ plainB c = false) : (a ++ t).takeWhile plainB = a ∧ (a ++ t).dropWhile plainB = t := by
  rcases ht with rfl | ⟨c, r, rfl, hc⟩
  · induction a with
    | nil => exact ⟨rfl, rfl⟩
    | cons x a ih =>
      have h1 := h x (List.mem_cons_self ..)
      have h2 := ih (fun y hy => h y (List.mem_cons_of_mem _ hy))
      simp only [List.cons_append, List.takeWhile_cons, List.dropWhile_cons, h1, if_true, h2.1, h2.2, and_self]
  · exact take_plain h hc
theorem rmatR_text {m : Mat} (h : matOk m = true) {r : List UInt8} (hr : Behind m.1 r) : rmatR (matT m ++ r) = some (m, r) := by
  obtain ⟨h1, h4, hn, hv⟩ := matOk_parts h
  have hp := name_chars hn
  obtain ⟨k, n, v⟩ := m
  simp only at h1 h4 hn hv hp hr
  by_cases h3 : k ≤ 3
  · have e : matT (k, n, v) ++ r = n.data.toList ++ (markB k ++ 34 :: (quoteL v.data.toList ++ (34 :: r))) := by
      unfold matT valT
      rw [if_pos (show k < 4 by omega)]
      simp
    obtain ⟨c, u, hc, hs, h44⟩ := mark_head h1 h3 (34 :: (quoteL v.data.toList ++ (34 :: r)))
    have hcp : plainB c = false := by
      cases e : plainB c with
      | false => rfl
      | true => rw [plain_stop e] at hs; cases hs
    obtain ⟨g1, g2⟩ := take_plain2 (t := markB k ++ 34 :: (quoteL v.data.toList ++ (34 :: r))) hp (.inr ⟨c, u, hc, hcp⟩)
    obtain ⟨q1, q2, q3⟩ := rmark_text h1 h3 (quoteL v.data.toList ++ (34 :: r))
    unfold rmatR
    rw [e, g1, g2]
    unfold rvalM
    rw [q1, q2, if_neg (by omega), List.drop_left]
    show ((if (34 : UInt8).toNat = 34 then valR (quoteL v.data.toList ++ (34 :: r)) else none)).map _ = _
    rw [if_pos (by decide), valR_quote]
    rfl
  · have h4 : k = 4 := by omega
    subst h4
    have e : matT (4, n, v) ++ r = n.data.toList ++ r := by
      unfold matT valT
      rw [if_neg (show ¬ (4 : Int) < 4 by decide)]
      simp
    have hr2 := hr rfl
    obtain ⟨g1, g2⟩ := take_plain2 (t := r) hp (by
      rcases hr2 with e | ⟨r', e⟩
      · exact .inl e
      · exact .inr ⟨44, r', e, by decide⟩)
    have hv0 : v = mkB [] := by
      have : v.size = 0 := by
        unfold roomN at hv
        rw [if_pos rfl] at hv
        omega
      exact bytes_inj (List.length_eq_zero_iff.1 (by rw [← Lib.size_eq]; exact this))
    unfold rmatR
    rw [e, g1, g2, hv0]
    unfold rvalM
    rw [if_pos]
    rcases hr2 with rfl | ⟨r', rfl⟩
    · rfl
    · cases r' with
      | nil => rfl
      | cons d r'' => simp [rmark]
theorem rmread_text (f : Nat) : ∀ (acc l : Mats), l ≠ [] → l.length ≤ f → (∀ m ∈ l, matOk m = true) → rmread f acc (matsT l) = some (acc ++ l) := by
  induction f with
  | zero =>
    intro acc l hl hf
    cases l with
    | nil => exact absurd rfl hl
    | cons m r => simp at hf
  | succ f ih =>
    intro acc l hl hf hall
    cases l with
    | nil => exact absurd rfl hl
    | cons m r =>
      have hok := hall m (by simp)
      cases r with
      | nil =>
        have e : matsT [m] = matT m ++ [] := by simp [matsT, restM]
        unfold rmread
        rw [e, rmatR_text hok (fun _ => .inl rfl)]
      | cons m2 q =>
        rw [matsT_more]
        unfold rmread
        rw [rmatR_text hok (fun _ => .inr ⟨_, rfl⟩)]
        simp only
        rw [if_pos (by decide), ih (acc ++ [m]) (m2 :: q) (by simp) (by simp at hf ⊢; omega) (fun x hx => hall x (List.mem_cons_of_mem _ hx))]
        simp
theorem rparseM_iff {s : List UInt8} {l : Mats} : rparseM s = some l ↔ checkM l = 0 ∧ mtxtL l = s := by
  unfold rparseM
  constructor
  · intro h
    split at h
    · rename_i e
      cases h
      exact ⟨rfl, e.symm⟩
    · obtain ⟨k, hk, h⟩ := Option.bind_eq_some_iff.1 h
      split at h
      · rename_i hc
        cases h
        refine ⟨?_, hc.1⟩
        have h1 := hc.1
        unfold mtxtL at h1
        split at h1
        · assumption
        · exact absurd h1.symm hc.2
      · cases h
  · rintro ⟨hk, ht⟩
    have htt := ht
    unfold mtxtL at ht
    rw [if_pos hk] at ht
    split at ht
    · rename_i e
      subst e
      rw [if_pos ht.symm]
    · rename_i hne
      obtain ⟨c, r, hc, hp⟩ := mats_star hk hne
      rw [if_neg (by
        intro e
        rw [e, hc] at ht
        have := (List.cons.inj ht).1
        rw [this] at hp
        revert hp
        decide)]
      have := rmread_text 9 [] l hne (by have := (checkM_zero.1 hk).1; omega) (checkM_zero.1 hk).2
      rw [List.nil_append, ht] at this
      rw [this]
      show (if mtxtL l = s ∧ s ≠ [] then some l else none) = _
      rw [if_pos ⟨htt, by rw [← ht, hc]; simp⟩]
theorem parseM_same (s : List UInt8) : rparseM s = parseM s := by
  cases h : parseM s with
  | none =>
    cases h2 : rparseM s with
    | none => rfl
    | some m => rw [parseM_iff.2 (rparseM_iff.1 h2)] at h; cases h
  | some m => exact rparseM_iff.2 (parseM_iff.1 h)
end Go.Proofs.YteknpfldemgmnaaGreat.N

/-
  Which series a matcher fits: rising numbers, and what is in them.
-/
namespace Go.Proofs.YteknpfldemgmnaaGreat.X
open Go.Proofs.YteknpfldemgmnaaGreat.N Go.Proofs.YteknpfldemgmnaaGreat.Po
set_option linter.unusedVariables false

def allN (n : Nat) : List Int := (List.range n).map Int.ofNat
theorem allN_succ (n : Nat) : allN (n + 1) = allN n ++ [(n : Int)] := by
  unfold allN
  rw [List.range_succ, List.map_append]
  rfl
theorem allN_len (n : Nat) : (allN n).length = n := by simp [allN]
theorem allN_mem (n i : Nat) : (i : Int) ∈ allN n ↔ i < n := by
  unfold allN
  rw [List.mem_map]
  constructor
  · rintro ⟨a, h1, h2⟩
    have h3 := List.mem_range.1 h1
    have : a = i := Int.ofNat.inj h2
    omega
  · intro h
    exact ⟨i, List.mem_range.2 h, rfl⟩
theorem allN_up (n : Nat) (hn : n < 1000000) : upB (-1) (allN n) = true := by
  induction n with
  | zero => rfl
  | succ n ih =>
    rw [allN_succ]
    refine up_snoc (ih (by omega)) (fun v hv => ?_) (by omega) (by omega)
    have h1 := (up_mem (ih (by omega)) hv).1
    obtain ⟨m, rfl⟩ : ∃ m : Nat, v = (m : Int) := ⟨v.toNat, by omega⟩
    have := (allN_mem n m).1 hv
    omega
/-- Numbers that rise, with just these in them. -/
structure Sel (l : List Int) (T : Nat → Prop) : Prop where
  up : upB (-1) l = true
  iff : ∀ i : Nat, (i : Int) ∈ l ↔ T i
theorem Sel.ext {l m : List Int} {T U : Nat → Prop} (h : Sel l T) (k : Sel m U) (e : ∀ i, T i ↔ U i) : l = m := by
  refine up_ext h.up k.up (fun x => ?_)
  constructor
  · intro hx
    obtain ⟨n, rfl⟩ : ∃ n : Nat, x = (n : Int) := ⟨x.toNat, by have := (up_mem h.up hx).1; omega⟩
    exact (k.iff n).2 ((e n).1 ((h.iff n).1 hx))
  · intro hx
    obtain ⟨n, rfl⟩ : ∃ n : Nat, x = (n : Int) := ⟨x.toNat, by have := (up_mem k.up hx).1; omega⟩
    exact (h.iff n).2 ((e n).2 ((k.iff n).1 hx))
theorem Sel.and {l m : List Int} {T U : Nat → Prop} (h : Sel l T) (k : Sel m U) : Sel (setL 0 l m) (fun i => T i ∧ U i) :=
  ⟨set_up _ _ _, fun i => by rw [set_mem h.up k.up, ← h.iff, ← k.iff]; simp [fW]⟩
theorem Sel.sub {l m : List Int} {T U : Nat → Prop} (h : Sel l T) (k : Sel m U) : Sel (setL 2 l m) (fun i => T i ∧ ¬ U i) :=
  ⟨set_up _ _ _, fun i => by rw [set_mem h.up k.up, ← h.iff, ← k.iff]; simp [fW]⟩
theorem Sel.all (n : Nat) (hn : n < 1000000) : Sel (allN n) (fun i => i < n) := ⟨allN_up n hn, allN_mem n⟩
theorem Sel.mono {l : List Int} {T U : Nat → Prop} (h : Sel l T) (e : ∀ i, T i ↔ U i) : Sel l U := ⟨h.up, fun i => (h.iff i).trans (e i)⟩
theorem Sel.len {l : List Int} {T : Nat → Prop} (h : Sel l T) {n : Nat} (hT : ∀ i, T i → i < n) (hn : n < 1000000) : l.length ≤ n := by
  have h1 : l = setL 0 (allN n) l := Sel.ext h ((Sel.all n hn).and h) (fun i => ⟨fun e => ⟨hT i e, e⟩, fun e => e.2⟩)
  have h2 : setL 0 (allN n) l = pickL (fW 0) (allN n) l := set_yes (allN_up n hn) h.up
  have h3 : ∀ a b : List Int, (pickL (fW 0) a b).length ≤ a.length := two_ind (by simp [pick_nn]) (fun a as ih => by rw [pick_an]; simpa [tk, fW] using Nat.le_succ_of_le ih) (fun b bs ih => by rw [pick_nb]; simpa [tk, fW] using ih)
    (fun a as b bs hlt ih => by rw [pick_lt hlt]; simp [tk, fW]; omega) (fun a as b bs hgt ih => by rw [pick_gt hgt]; simpa [tk, fW] using ih) (fun a as bs ih => by rw [pick_eq]; simp [tk, fW]; omega)
  have h4 := h3 (allN n) l
  rw [allN_len, ← h2, ← h1] at h4
  exact h4
theorem up_sorted : ∀ {l : List Int} {last : Int}, l.Pairwise (· ≤ ·) → l.Nodup → (∀ x ∈ l, last < x ∧ x < 1099511627776) → upB last l = true
  | [], _, _, _, _ => rfl
  | a :: t, last, hs, hn, hr => by
    have h1 := List.pairwise_cons.1 hs
    have h2 := List.nodup_cons.1 hn
    have h3 := hr a (List.mem_cons_self ..)
    refine up_cons.2 ⟨h3.1, h3.2, up_sorted h1.2 h2.2 (fun x hx => ⟨?_, (hr x (List.mem_cons_of_mem _ hx)).2⟩)⟩
    have h4 := h1.1 x hx
    have h5 : a ≠ x := fun e => h2.1 (by rw [e]; exact hx)
    omega
theorem up_nodup : ∀ {l : List Int} {last : Int}, upB last l = true → l.Nodup
  | [], _, _ => List.nodup_nil
  | a :: t, last, h => by
    have hz := up_cons.1 h
    refine List.nodup_cons.2 ⟨fun ha => ?_, up_nodup hz.2.2⟩
    have := (up_mem hz.2.2 ha).1
    omega
theorem rise_name {l : Labs} (h : Rise l) {n v u : ByteArray} (h1 : (n, v) ∈ l) (h2 : (n, u) ∈ l) : v = u := by
  induction l with
  | nil => cases h1
  | cons x t ih =>
    have hz := List.pairwise_cons.1 h
    have hself := cmpB_good.self n
    rcases List.mem_cons.1 h1 with e1 | e1
    · rcases List.mem_cons.1 h2 with e2 | e2
      · rw [← e1] at e2
        cases e2
        rfl
      · have := hz.1 _ e2
        rw [← e1] at this
        simp only at this
        omega
    · rcases List.mem_cons.1 h2 with e2 | e2
      · have := hz.1 _ e1
        rw [← e2] at this
        simp only at this
        omega
      · exact ih hz.2 e1 e2
def partH (P : Posts) (n : ByteArray) (q : ByteArray → Bool) : List Int := (P.filter (fun e => decide (e.1.1 = n) && q e.1.2)).flatMap (·.2)
def HasQ (L : List Labs) (n : ByteArray) (q : ByteArray → Bool) (i : Nat) : Prop := ∃ l v, L[i]? = some l ∧ (n, v) ∈ l ∧ q v = true
theorem hav_sel {L : List Labs} {P : Posts} {N : Nat} (T : Tells P N (HasL L)) (hR : ∀ l ∈ L, Rise l) (n : ByteArray) (q : ByteArray → Bool) {acc : List Int} (hp : acc.Perm (partH P n q)) : Sel (acc.mergeSort fun x y => decide (x ≤ y)) (HasQ L n q) := by
  have hpm : (acc.mergeSort fun x y => decide (x ≤ y)).Perm (partH P n q) := (List.mergeSort_perm _ _).trans hp
  have hlook : ∀ p ∈ P, ∀ v : Int, v ∈ p.2 → v ∈ lookP P p.1 := fun p hp v hv => by
    rw [look_sorted T.sort (x := p.1) (l := p.2) hp]
    exact hv
  have hnat : ∀ p ∈ P, ∀ v : Int, v ∈ p.2 → ∃ i : Nat, v = (i : Int) ∧ HasL L p.1 i := fun p hp v hv => by
    have h1 := (up_mem (T.up p hp) hv).1
    refine ⟨v.toNat, by omega, ?_⟩
    rw [← T.iff]
    have := hlook p hp v hv
    rwa [show ((v.toNat : Nat) : Int) = v by omega]
  have hmem : ∀ v : Int, v ∈ partH P n q ↔ ∃ p ∈ P, p.1.1 = n ∧ q p.1.2 = true ∧ v ∈ p.2 := fun v => by
    unfold partH
    rw [List.mem_flatMap]
    constructor
    · rintro ⟨p, h1, h2⟩
      have h3 := List.mem_filter.1 h1
      simp only [Bool.and_eq_true, decide_eq_true_eq] at h3
      exact ⟨p, h3.1, h3.2.1, h3.2.2, h2⟩
    · rintro ⟨p, h1, h2, h3, h4⟩
      exact ⟨p, List.mem_filter.2 ⟨h1, by simp [h2, h3]⟩, h4⟩
  have hnd : (partH P n q).Nodup := by
    unfold partH List.Nodup
    rw [List.pairwise_flatMap]
    refine ⟨fun p hp => up_nodup (T.up p (List.mem_filter.1 hp).1), ?_⟩
    have hs : (P.filter (fun e => decide (e.1.1 = n) && q e.1.2)).Pairwise (fun a b => labC a.1 b.1 = -1) := T.sort.filter _
    refine List.Pairwise.imp_of_mem ?_ hs
    intro a b ha hb hab x hx y hy e
    subst e
    have h1 := List.mem_filter.1 ha
    have h2 := List.mem_filter.1 hb
    simp only [Bool.and_eq_true, decide_eq_true_eq] at h1 h2
    obtain ⟨i, e1, l1, e2, e3⟩ := hnat a h1.1 x hx
    obtain ⟨j, f1, l2, f2, f3⟩ := hnat b h2.1 x hy
    have hij : i = j := by omega
    subst hij
    rw [e2] at f2
    cases f2
    have hl : l1 ∈ L := List.mem_of_getElem? e2
    have hv := rise_name (hR l1 hl) (n := n) (v := a.1.2) (u := b.1.2) (by rw [← h1.2.1]; exact e3) (by rw [← h2.2.1]; exact f3)
    have : a.1 = b.1 := Prod.ext (by rw [h1.2.1, h2.2.1]) hv
    rw [this] at hab
    exact labC_irr _ hab
  have hle : (acc.mergeSort fun x y => decide (x ≤ y)).Pairwise (· ≤ ·) := by
    have := List.pairwise_mergeSort (le := fun x y : Int => decide (x ≤ y)) (fun a b c h1 h2 => by simp at *; omega) (fun a b => by simp; omega) acc
    refine this.imp (fun {a b} h => by simpa using h)
  refine ⟨up_sorted hle (hpm.nodup_iff.2 hnd) (fun x hx => ?_), fun i => ?_⟩
  · obtain ⟨p, h1, _, _, h4⟩ := (hmem x).1 (hpm.mem_iff.1 hx)
    exact up_mem (T.up p h1) h4
  · rw [hpm.mem_iff, hmem]
    constructor
    · rintro ⟨p, h1, h2, h3, h4⟩
      obtain ⟨j, e1, l, e2, e3⟩ := hnat p h1 _ h4
      have : i = j := by omega
      subst this
      exact ⟨l, p.1.2, e2, by rw [← h2]; exact e3, h3⟩
    · rintro ⟨l, v, e1, e2, e3⟩
      have h1 := (T.iff (n, v) i).2 ⟨l, e1, e2⟩
      obtain ⟨p, hp, h2, h3⟩ := look_mem h1
      rw [h3] at h1
      exact ⟨p, hp, by rw [h2], by rw [h2]; exact e3, h1⟩
end Go.Proofs.YteknpfldemgmnaaGreat.X
