/-
  Oplain, Vplain.
-/
import Derived.RowKit

/-
  Lists of rising numbers as sets: plain functions. No program is named here.
-/
namespace Go.Proofs.YteknpfldemgmnaaGreat.Po

/-- Each number is above the one ahead of it, and below the limit. -/
def upB (last : Int) : List Int → Bool
  | [] => true
  | x :: t => decide (last < x) && (decide (x < 1099511627776) && upB x t)
theorem up_cons {last x : Int} {t : List Int} : upB last (x :: t) = true ↔ last < x ∧ x < 1099511627776 ∧ upB x t = true := by
  simp [upB]
theorem up_low {last x : Int} {t : List Int} (h : x ≤ last) : upB last (x :: t) = false := by
  have : decide (last < x) = false := by simp; omega
  simp [upB, this]
theorem up_high {last x : Int} {t : List Int} (h : 1099511627776 ≤ x) : upB last (x :: t) = false := by
  have : decide (x < 1099511627776) = false := by simp; omega
  simp [upB, this]
theorem up_go {last x : Int} {t : List Int} (h : last < x) (h2 : x < 1099511627776) : upB last (x :: t) = upB x t := by
  simp [upB, h, h2]
theorem up_mem : ∀ {l : List Int} {last x : Int}, upB last l = true → x ∈ l → last < x ∧ x < 1099511627776 := by
  intro l
  induction l with
  | nil => intro last x _ h; cases h
  | cons y t ih =>
    intro last x h hx
    obtain ⟨h1, h2, h3⟩ := up_cons.1 h
    rcases List.mem_cons.1 hx with rfl | hx
    · exact ⟨h1, h2⟩
    · have := ih h3 hx
      exact ⟨by omega, this.2⟩
theorem up_less {l : List Int} {last last' : Int} (h : upB last l = true) (hl : last' ≤ last) : upB last' l = true := by
  cases l with
  | nil => rfl
  | cons x t =>
    obtain ⟨h1, h2, h3⟩ := up_cons.1 h
    exact up_cons.2 ⟨by omega, h2, h3⟩
/-- Two such lists of the same numbers are one. -/
theorem up_ext : ∀ {l m : List Int} {last : Int}, upB last l = true → upB last m = true → (∀ x, x ∈ l ↔ x ∈ m) → l = m := by
  intro l
  induction l with
  | nil =>
    intro m last _ _ h
    cases m with
    | nil => rfl
    | cons y s => exact absurd ((h y).2 (List.mem_cons_self ..)) (by simp)
  | cons x t ih =>
    intro m last hl hm h
    cases m with
    | nil => exact absurd ((h x).1 (List.mem_cons_self ..)) (by simp)
    | cons y s =>
      obtain ⟨a1, a2, a3⟩ := up_cons.1 hl
      obtain ⟨b1, b2, b3⟩ := up_cons.1 hm
      have hxy : x = y := by
        rcases List.mem_cons.1 ((h x).1 (List.mem_cons_self ..)) with e | e
        · exact e
        · rcases List.mem_cons.1 ((h y).2 (List.mem_cons_self ..)) with e' | e'
          · exact e'.symm
          · have := up_mem b3 e
            have := up_mem a3 e'
            omega
      subst hxy
      congr 1
      refine ih a3 b3 (fun z => ?_)
      constructor
      · intro hz
        rcases List.mem_cons.1 ((h z).1 (List.mem_cons_of_mem _ hz)) with e | e
        · have := up_mem a3 hz
          omega
        · exact e
      · intro hz
        rcases List.mem_cons.1 ((h z).2 (List.mem_cons_of_mem _ hz)) with e | e
        · have := up_mem b3 hz
          omega
        · exact e

theorem up_size : ∀ {l : List Int} {last : Int}, upB last l = true → last < 1099511627776 → (l.length : Int) + last < 1099511627776 := by
  intro l
  induction l with
  | nil => intro last _ h; simpa using h
  | cons x t ih =>
    intro last h hl
    obtain ⟨h1, h2, h3⟩ := up_cons.1 h
    have := ih h3 h2
    simp only [List.length_cons]
    omega
def tk (c : Bool) (x : Int) : List Int := if c then [x] else []
theorem tk_mem (c : Bool) (x y : Int) : y ∈ tk c x ↔ c = true ∧ y = x := by
  cases c <;> simp [tk]
def pickI (f : Bool → Bool → Bool) (a : Int) (go : List Int → List Int) : List Int → List Int
  | [] => tk (f true false) a ++ go []
  | b :: bs => if a < b then tk (f true false) a ++ go (b :: bs) else if b < a then tk (f false true) b ++ pickI f a go bs else tk (f true true) a ++ go bs
/-- What f takes of two lists, the lower one first. -/
def pickL (f : Bool → Bool → Bool) : List Int → List Int → List Int
  | [], bs => if f false true then bs else []
  | a :: as, bs => pickI f a (pickL f as) bs
section
variable {f : Bool → Bool → Bool} {a b : Int} {as bs : List Int}
theorem pick_nn : pickL f [] [] = [] := by
  unfold pickL
  cases f false true <;> rfl
theorem pick_nb : pickL f [] (b :: bs) = tk (f false true) b ++ pickL f [] bs := by
  unfold pickL
  cases f false true <;> rfl
theorem pick_an : pickL f (a :: as) [] = tk (f true false) a ++ pickL f as [] := rfl
theorem pick_lt (h : a < b) : pickL f (a :: as) (b :: bs) = tk (f true false) a ++ pickL f as (b :: bs) := by
  show pickI f a (pickL f as) (b :: bs) = _
  rw [pickI, if_pos h]
theorem pick_gt (h : b < a) : pickL f (a :: as) (b :: bs) = tk (f false true) b ++ pickL f (a :: as) bs := by
  show pickI f a (pickL f as) (b :: bs) = _
  rw [pickI, if_neg (by omega), if_pos h]
  rfl
theorem pick_eq : pickL f (a :: as) (a :: bs) = tk (f true true) a ++ pickL f as bs := by
  show pickI f a (pickL f as) (a :: bs) = _
  rw [pickI, if_neg (by omega), if_neg (by omega)]
end

/-- An induction over two lists that are walked side by side. -/
theorem two_ind {P : List Int → List Int → Prop} (h0 : P [] []) (ha : ∀ a as, P as [] → P (a :: as) []) (hb : ∀ b bs, P [] bs → P [] (b :: bs))
    (hlt : ∀ a as b bs, a < b → P as (b :: bs) → P (a :: as) (b :: bs)) (hgt : ∀ a as b bs, b < a → P (a :: as) bs → P (a :: as) (b :: bs)) (heq : ∀ a as bs, P as bs → P (a :: as) (a :: bs)) : ∀ as bs, P as bs := by
  intro as
  induction as with
  | nil =>
    intro bs
    induction bs with
    | nil => exact h0
    | cons b bs ih => exact hb b bs ih
  | cons a as iha =>
    intro bs
    induction bs with
    | nil => exact ha a as (iha [])
    | cons b bs ihb =>
      rcases Int.lt_trichotomy a b with h | h | h
      · exact hlt a as b bs h (iha _)
      · subst h
        exact heq a as bs (iha _)
      · exact hgt a as b bs h ihb

theorem tk_len (c : Bool) (x : Int) : (tk c x).length ≤ 1 := by cases c <;> simp [tk]
theorem pick_len (f : Bool → Bool → Bool) (as bs : List Int) : (pickL f as bs).length ≤ as.length + bs.length := by
  refine two_ind (P := fun as bs => (pickL f as bs).length ≤ as.length + bs.length) ?_ ?_ ?_ ?_ ?_ ?_ as bs
  · rw [pick_nn]; simp
  · intro a as h
    rw [pick_an, List.length_append]
    have := tk_len (f true false) a
    simp only [List.length_cons]
    omega
  · intro b bs h
    rw [pick_nb, List.length_append]
    have := tk_len (f false true) b
    simp only [List.length_cons]
    omega
  · intro a as b bs h1 h
    rw [pick_lt h1, List.length_append]
    have := tk_len (f true false) a
    simp only [List.length_cons] at h ⊢
    omega
  · intro a as b bs h1 h
    rw [pick_gt h1, List.length_append]
    have := tk_len (f false true) b
    simp only [List.length_cons] at h ⊢
    omega
  · intro a as bs h
    rw [pick_eq, List.length_append]
    have := tk_len (f true true) a
    simp only [List.length_cons]
    omega
theorem up_tk {c : Bool} {x last : Int} {l : List Int} (h1 : last < x) (h2 : x < 1099511627776) (h : upB x l = true) : upB last (tk c x ++ l) = true := by
  cases c
  · exact up_less h (by omega)
  · exact up_cons.2 ⟨h1, h2, h⟩
theorem pick_up (f : Bool → Bool → Bool) (as bs : List Int) : ∀ last, upB last as = true → upB last bs = true → upB last (pickL f as bs) = true := by
  refine two_ind (P := fun as bs => ∀ last, upB last as = true → upB last bs = true → upB last (pickL f as bs) = true) ?_ ?_ ?_ ?_ ?_ ?_ as bs
  · intro last _ _
    rw [pick_nn]
    rfl
  · intro a as h last h1 h2
    obtain ⟨q1, q2, q3⟩ := up_cons.1 h1
    rw [pick_an]
    exact up_tk q1 q2 (h a q3 rfl)
  · intro b bs h last h1 h2
    obtain ⟨q1, q2, q3⟩ := up_cons.1 h2
    rw [pick_nb]
    exact up_tk q1 q2 (h b rfl q3)
  · intro a as b bs hab h last h1 h2
    obtain ⟨q1, q2, q3⟩ := up_cons.1 h1
    obtain ⟨r1, r2, r3⟩ := up_cons.1 h2
    rw [pick_lt hab]
    exact up_tk q1 q2 (h a q3 (up_cons.2 ⟨hab, r2, r3⟩))
  · intro a as b bs hab h last h1 h2
    obtain ⟨q1, q2, q3⟩ := up_cons.1 h1
    obtain ⟨r1, r2, r3⟩ := up_cons.1 h2
    rw [pick_gt hab]
    exact up_tk r1 r2 (h b (up_cons.2 ⟨hab, q2, q3⟩) r3)
  · intro a as bs h last h1 h2
    obtain ⟨q1, q2, q3⟩ := up_cons.1 h1
    obtain ⟨r1, r2, r3⟩ := up_cons.1 h2
    rw [pick_eq]
    exact up_tk q1 q2 (h a q3 r3)
theorem not_in {l : List Int} {x y : Int} (h : upB y l = true) (hx : x ≤ y) : decide (x ∈ l) = false := by
  simp only [decide_eq_false_iff_not]
  intro hm
  have := up_mem h hm
  omega
theorem in_cons (x y : Int) (t : List Int) (h : x ≠ y) : decide (x ∈ y :: t) = decide (x ∈ t) := by simp [h]
theorem in_head (x : Int) (t : List Int) : decide (x ∈ x :: t) = true := by simp
theorem pick_mem (f : Bool → Bool → Bool) (hf : f false false = false) (as bs : List Int) : ∀ last, upB last as = true → upB last bs = true → ∀ x, (x ∈ pickL f as bs ↔ f (decide (x ∈ as)) (decide (x ∈ bs)) = true) := by
  refine two_ind (P := fun as bs => ∀ last, upB last as = true → upB last bs = true → ∀ x, (x ∈ pickL f as bs ↔ f (decide (x ∈ as)) (decide (x ∈ bs)) = true)) ?_ ?_ ?_ ?_ ?_ ?_ as bs
  · intro last _ _ x
    rw [pick_nn]
    simp [hf]
  · intro a as h last h1 h2 x
    obtain ⟨q1, q2, q3⟩ := up_cons.1 h1
    rw [pick_an, List.mem_append, tk_mem, h a q3 rfl x]
    by_cases e : x = a
    · subst e
      rw [in_head, not_in q3 (Int.le_refl _)]
      simp [hf]
    · rw [in_cons _ _ _ e]
      simp [e]
  · intro b bs h last h1 h2 x
    obtain ⟨q1, q2, q3⟩ := up_cons.1 h2
    rw [pick_nb, List.mem_append, tk_mem, h b rfl q3 x]
    by_cases e : x = b
    · subst e
      rw [in_head, not_in q3 (Int.le_refl _)]
      simp [hf]
    · rw [in_cons _ _ _ e]
      simp [e]
  · intro a as b bs hab h last h1 h2 x
    obtain ⟨q1, q2, q3⟩ := up_cons.1 h1
    obtain ⟨r1, r2, r3⟩ := up_cons.1 h2
    have r4 : upB a (b :: bs) = true := up_cons.2 ⟨hab, r2, r3⟩
    rw [pick_lt hab, List.mem_append, tk_mem, h a q3 r4 x]
    by_cases e : x = a
    · subst e
      rw [in_head, not_in q3 (Int.le_refl _), not_in r4 (Int.le_refl _)]
      simp [hf]
    · rw [in_cons x a as e]
      simp [e]
  · intro a as b bs hab h last h1 h2 x
    obtain ⟨q1, q2, q3⟩ := up_cons.1 h1
    obtain ⟨r1, r2, r3⟩ := up_cons.1 h2
    have q4 : upB b (a :: as) = true := up_cons.2 ⟨hab, q2, q3⟩
    rw [pick_gt hab, List.mem_append, tk_mem, h b q4 r3 x]
    by_cases e : x = b
    · subst e
      rw [in_head, not_in r3 (Int.le_refl _), not_in q4 (Int.le_refl _)]
      simp [hf]
    · rw [in_cons x b bs e]
      simp [e]
  · intro a as bs h last h1 h2 x
    obtain ⟨q1, q2, q3⟩ := up_cons.1 h1
    obtain ⟨r1, r2, r3⟩ := up_cons.1 h2
    rw [pick_eq, List.mem_append, tk_mem, h a q3 r3 x]
    by_cases e : x = a
    · subst e
      rw [in_head, in_head, not_in q3 (Int.le_refl _), not_in r3 (Int.le_refl _)]
      simp [hf]
    · rw [in_cons x a as e, in_cons x a bs e]
      simp [e]

/-- In both, in one, in the first alone. -/
def fW (n : Nat) (x y : Bool) : Bool := if n = 0 then x && y else if n = 1 then x || y else x && !y
theorem fW_none (n : Nat) : fW n false false = false := by
  unfold fW
  split
  · rfl
  · split <;> rfl
def setL (n : Nat) (a b : List Int) : List Int := if upB (-1) a && upB (-1) b then pickL (fW n) a b else []
theorem set_no {n : Nat} {a b : List Int} (h : upB (-1) a = false ∨ upB (-1) b = false) : setL n a b = [] := by
  unfold setL
  rcases h with h | h <;> simp [h]
theorem set_yes {n : Nat} {a b : List Int} (h : upB (-1) a = true) (h2 : upB (-1) b = true) : setL n a b = pickL (fW n) a b := by
  unfold setL
  simp [h, h2]
theorem set_up (n : Nat) (a b : List Int) : upB (-1) (setL n a b) = true := by
  unfold setL
  split
  · rename_i h
    simp at h
    exact pick_up _ _ _ _ h.1 h.2
  · rfl
theorem set_len (n : Nat) (a b : List Int) : (setL n a b).length ≤ a.length + b.length := by
  unfold setL
  split
  · exact pick_len _ _ _
  · simp
theorem set_mem {n : Nat} {a b : List Int} (h : upB (-1) a = true) (h2 : upB (-1) b = true) (x : Int) : x ∈ setL n a b ↔ fW n (decide (x ∈ a)) (decide (x ∈ b)) = true := by
  rw [set_yes h h2]
  exact pick_mem _ (fW_none n) _ _ _ h h2 x
theorem and_nil (b : List Int) : setL 0 [] b = [] := by
  unfold setL
  split
  · unfold pickL
    rfl
  · rfl
theorem law_one {a b c : List Int} (ha : upB (-1) a = true) (hb : upB (-1) b = true) (hc : upB (-1) c = true) : setL 0 a (setL 1 b c) = setL 1 (setL 0 a b) (setL 0 a c) := by
  refine up_ext (set_up _ _ _) (set_up _ _ _) (fun x => ?_)
  rw [set_mem ha (set_up _ _ _), set_mem (set_up _ _ _) (set_up _ _ _)]
  have e1 : decide (x ∈ setL 1 b c) = fW 1 (decide (x ∈ b)) (decide (x ∈ c)) := by rw [Bool.eq_iff_iff, decide_eq_true_iff]; exact set_mem hb hc x
  have e2 : decide (x ∈ setL 0 a b) = fW 0 (decide (x ∈ a)) (decide (x ∈ b)) := by rw [Bool.eq_iff_iff, decide_eq_true_iff]; exact set_mem ha hb x
  have e3 : decide (x ∈ setL 0 a c) = fW 0 (decide (x ∈ a)) (decide (x ∈ c)) := by rw [Bool.eq_iff_iff, decide_eq_true_iff]; exact set_mem ha hc x
  rw [e1, e2, e3]
  generalize decide (x ∈ a) = p
  generalize decide (x ∈ b) = q
  generalize decide (x ∈ c) = r
  revert p q r
  decide
theorem law_two {a b c : List Int} (ha : upB (-1) a = true) (hb : upB (-1) b = true) (hc : upB (-1) c = true) : setL 2 a (setL 1 b c) = setL 2 (setL 2 a b) c := by
  refine up_ext (set_up _ _ _) (set_up _ _ _) (fun x => ?_)
  rw [set_mem ha (set_up _ _ _), set_mem (set_up _ _ _) hc]
  have e1 : decide (x ∈ setL 1 b c) = fW 1 (decide (x ∈ b)) (decide (x ∈ c)) := by rw [Bool.eq_iff_iff, decide_eq_true_iff]; exact set_mem hb hc x
  have e2 : decide (x ∈ setL 2 a b) = fW 2 (decide (x ∈ a)) (decide (x ∈ b)) := by rw [Bool.eq_iff_iff, decide_eq_true_iff]; exact set_mem ha hb x
  rw [e1, e2]
  generalize decide (x ∈ a) = p
  generalize decide (x ∈ b) = q
  generalize decide (x ∈ c) = r
  revert p q r
  decide
theorem law_three {a b : List Int} (ha : upB (-1) a = true) (hb : upB (-1) b = true) : setL 1 (setL 0 a b) (setL 2 a b) = a := by
  refine up_ext (set_up _ _ _) ha (fun x => ?_)
  rw [set_mem (set_up _ _ _) (set_up _ _ _)]
  have e1 : decide (x ∈ setL 0 a b) = fW 0 (decide (x ∈ a)) (decide (x ∈ b)) := by rw [Bool.eq_iff_iff, decide_eq_true_iff]; exact set_mem ha hb x
  have e2 : decide (x ∈ setL 2 a b) = fW 2 (decide (x ∈ a)) (decide (x ∈ b)) := by rw [Bool.eq_iff_iff, decide_eq_true_iff]; exact set_mem ha hb x
  rw [e1, e2]
  refine Iff.trans ?_ (decide_eq_true_iff (p := x ∈ a))
  generalize decide (x ∈ a) = p
  generalize decide (x ∈ b) = q
  revert p q
  decide

/-- What is in all of the lists. -/
def allL (l : List (List Int)) : List Int := l.foldl (setL 0) (l.headD [])
theorem fold_nil : ∀ l : List (List Int), l.foldl (setL 0) [] = [] := by
  intro l
  induction l with
  | nil => rfl
  | cons x t ih => rw [List.foldl_cons, and_nil, ih]
theorem fold_bad {x : List Int} (h : upB (-1) x = false) (o : List Int) (t : List (List Int)) : (x :: t).foldl (setL 0) o = [] := by
  rw [List.foldl_cons, set_no (.inr h), fold_nil]
end Go.Proofs.YteknpfldemgmnaaGreat.Po

/-
  Numbers in few bytes: plain functions. No program is named here.
-/
namespace Go.Proofs.Lys
open Go

/-- The bytes of a number: seven bits a byte, the lowest first; the first number is more than the bytes that are written. -/
def putF : Nat → Nat → List UInt8
  | 0, n => [UInt8.ofNat n]
  | f + 1, n => if n < 128 then [UInt8.ofNat n] else UInt8.ofNat (n % 128 + 128) :: putF f (n / 128)
theorem putF_any (f : Nat) : ∀ (g n : Nat), n ≤ f → n ≤ g → putF f n = putF g n := by
  induction f with
  | zero =>
    intro g n h _
    have : n = 0 := by omega
    subst this
    cases g <;> rfl
  | succ f ih =>
    intro g n h h'
    by_cases hn : n < 128
    · cases g with
      | zero => simp only [putF, if_pos hn]
      | succ g => simp only [putF, if_pos hn]
    · cases g with
      | zero => omega
      | succ g =>
        simp only [putF, if_neg hn]
        rw [ih g (n / 128) (by omega) (by omega)]
def putN (n : Nat) : List UInt8 := putF n n
theorem putN_eq (n : Nat) : putN n = if n < 128 then [UInt8.ofNat n] else UInt8.ofNat (n % 128 + 128) :: putN (n / 128) := by
  cases n with
  | zero => rfl
  | succ m =>
    unfold putN
    simp only [putF]
    by_cases hn : m + 1 < 128
    · rw [if_pos hn, if_pos hn]
    · rw [if_neg hn, if_neg hn, putF_any m ((m + 1) / 128) ((m + 1) / 128) (by omega) (Nat.le_refl _)]

theorem putN_small {n : Nat} (h : n < 128) : putN n = [UInt8.ofNat n] := by
  rw [putN_eq, if_pos h]
theorem putN_big {n : Nat} (h : 128 ≤ n) : putN n = UInt8.ofNat (n % 128 + 128) :: putN (n / 128) := by
  rw [putN_eq, if_neg (by omega)]
theorem putN_pos (n : Nat) : 0 < (putN n).length := by
  rw [putN_eq]
  split <;> simp
theorem putN_len : ∀ (k n : Nat), 0 < k → n < 128 ^ k → (putN n).length ≤ k := by
  intro k
  induction k with
  | zero => intro n h; omega
  | succ k ih =>
    intro n _ hn
    by_cases h : n < 128
    · rw [putN_small h]
      simp
    · rw [putN_big (by omega)]
      have hk : 0 < k := by
        rcases Nat.eq_zero_or_pos k with rfl | h0
        · simp at hn
          omega
        · exact h0
      have := ih (n / 128) hk (by
        rw [Nat.pow_succ] at hn
        exact Nat.div_lt_of_lt_mul (by rw [Nat.mul_comm]; exact hn))
      simp
      exact this
theorem putN_ten {n : Nat} (h : n < 18446744073709551616) : (putN n).length ≤ 10 := putN_len 10 n (by decide) (Nat.lt_trans h (by decide))
theorem putN_parts (n : Nat) : ∃ ini c, putN n = ini ++ [c] ∧ c.toNat < 128 ∧ ∀ x ∈ ini, 128 ≤ x.toNat := by
  induction n using Nat.strongRecOn with
  | _ n ih =>
    by_cases h : n < 128
    · exact ⟨[], UInt8.ofNat n, putN_small h, by rw [UInt8.toNat_ofNat']; omega, by simp⟩
    · obtain ⟨ini, c, h1, h2, h3⟩ := ih (n / 128) (by omega)
      refine ⟨UInt8.ofNat (n % 128 + 128) :: ini, c, by rw [putN_big (by omega), h1]; rfl, h2, ?_⟩
      intro x hx
      rcases List.mem_cons.1 hx with rfl | hx
      · rw [UInt8.toNat_ofNat']
        omega
      · exact h3 x hx

/-- What stands at the beginning of bytes: the number, how many bytes it has, what is wrong. -/
def getA : List UInt8 → Nat → Nat → Nat × Nat × Nat
  | [], _, _ => (0, 0, 5)
  | c :: t, i, n =>
    if 10 ≤ i ∨ (i = 9 ∧ 1 < c.toNat % 128) then (0, 0, 5)
    else if 128 ≤ c.toNat then getA t (i + 1) (n + c.toNat % 128 * 2 ^ (7 * i))
    else if c.toNat = 0 ∧ 0 < i then (0, 0, 5)
    else (n + c.toNat % 128 * 2 ^ (7 * i), i + 1, 0)

section
variable {c : UInt8} {t : List UInt8} {i n : Nat}
theorem getA_over (h : 10 ≤ i ∨ (i = 9 ∧ 1 < c.toNat % 128)) : getA (c :: t) i n = (0, 0, 5) := by
  rw [getA, if_pos h]
theorem getA_go (h : i ≤ 9) (h1 : i = 9 → c.toNat % 128 ≤ 1) (h2 : 128 ≤ c.toNat) : getA (c :: t) i n = getA t (i + 1) (n + c.toNat % 128 * 2 ^ (7 * i)) := by
  rw [getA, if_neg (by omega), if_pos h2]
theorem getA_nought (h : i ≤ 9) (h2 : c.toNat = 0) (h3 : 0 < i) : getA (c :: t) i n = (0, 0, 5) := by
  rw [getA, if_neg (by omega), if_neg (by omega), if_pos ⟨h2, h3⟩]
theorem getA_last (h : i ≤ 9) (h1 : i = 9 → c.toNat % 128 ≤ 1) (h2 : c.toNat < 128) (h3 : c.toNat = 0 → i = 0) : getA (c :: t) i n = (n + c.toNat % 128 * 2 ^ (7 * i), i + 1, 0) := by
  rw [getA, if_neg (by omega), if_neg (by omega), if_neg (by omega)]
end

theorem getA_more (l : List UInt8) : ∀ i n, (∀ x ∈ l, 128 ≤ x.toNat) → getA l i n = (0, 0, 5) := by
  induction l with
  | nil => intro i n _; rfl
  | cons c t ih =>
    intro i n h
    by_cases ho : 10 ≤ i ∨ (i = 9 ∧ 1 < c.toNat % 128)
    · exact getA_over ho
    · rw [getA_go (by omega) (by omega) (h c (by simp))]
      exact ih _ _ (fun x hx => h x (by simp [hx]))
theorem getA_zero (l : List UInt8) : ∀ i n, (∀ x ∈ l, 128 ≤ x.toNat) → 0 < i + l.length → getA (l ++ [0]) i n = (0, 0, 5) := by
  induction l with
  | nil =>
    intro i n _ h
    simp at h
    by_cases ho : 10 ≤ i
    · exact getA_over (.inl ho)
    · exact getA_nought (by omega) rfl h
  | cons c t ih =>
    intro i n h _
    rw [List.cons_append]
    by_cases ho : 10 ≤ i ∨ (i = 9 ∧ 1 < c.toNat % 128)
    · exact getA_over ho
    · rw [getA_go (by omega) (by omega) (h c (by simp))]
      exact ih _ _ (fun x hx => h x (by simp [hx])) (by omega)

theorem pow_ten {i : Nat} (h : 10 ≤ i) : 1180591620717411303424 ≤ 2 ^ (7 * i) := by
  have : (2 : Nat) ^ 70 ≤ 2 ^ (7 * i) := Nat.pow_le_pow_right (by decide) (by omega)
  exact Nat.le_trans (by decide) this
theorem pow_step (i : Nat) : 2 ^ (7 * (i + 1)) = 128 * 2 ^ (7 * i) := by
  rw [show 7 * (i + 1) = 7 + 7 * i by omega, Nat.pow_add]
theorem get_put (u : Nat) : ∀ i acc more, acc + u * 2 ^ (7 * i) < 18446744073709551616 → (i = 0 ∨ 0 < u) → getA (putN u ++ more) i acc = (acc + u * 2 ^ (7 * i), i + (putN u).length, 0) := by
  induction u using Nat.strongRecOn with
  | _ u ih =>
    intro i acc more hb h0
    have hi : i ≤ 9 := by
      rcases h0 with rfl | h0
      · omega
      · by_cases h : 10 ≤ i
        · have h1 := pow_ten h
          have h2 : 1 * 2 ^ (7 * i) ≤ u * 2 ^ (7 * i) := Nat.mul_le_mul_right _ h0
          omega
        · omega
    have h9 : i = 9 → u ≤ 1 := by
      rintro rfl
      rw [show (2 : Nat) ^ (7 * 9) = 9223372036854775808 by decide] at hb
      omega
    by_cases h : u < 128
    · have e : (UInt8.ofNat u).toNat = u := by rw [UInt8.toNat_ofNat']; omega
      rw [putN_small h, List.cons_append, getA_last hi (by rw [e]; omega) (by rw [e]; omega) (by rw [e]; omega), e, Nat.mod_eq_of_lt h]
      rfl
    · have e : (UInt8.ofNat (u % 128 + 128)).toNat = u % 128 + 128 := by rw [UInt8.toNat_ofNat']; omega
      have e2 : (u % 128 + 128) % 128 = u % 128 := by omega
      have e3 : acc + u % 128 * 2 ^ (7 * i) + u / 128 * 2 ^ (7 * (i + 1)) = acc + u * 2 ^ (7 * i) := by
        rw [pow_step, ← Nat.mul_assoc, Nat.add_assoc, ← Nat.add_mul, Nat.mod_add_div' u 128]
      rw [putN_big (by omega), List.cons_append, getA_go hi (by omega) (by rw [e]; omega), e, e2, ih (u / 128) (by omega) (i + 1) _ more (by rw [e3]; exact hb) (.inr (by omega)), e3, List.length_cons]
      congr 2
      omega
theorem get_put0 {u : Nat} (h : u < 18446744073709551616) (more : List UInt8) : getA (putN u ++ more) 0 0 = (u, (putN u).length, 0) := by
  have := get_put u 0 0 more (by simpa using h) (.inl rfl)
  simpa using this

/-- The bits of a byte's piece beside what is there already. -/
theorem or_piece (n p i : Nat) (h : n < 2 ^ (7 * i)) : n ||| p * 2 ^ (7 * i) = n + p * 2 ^ (7 * i) := by
  rw [Nat.or_comm, Nat.mul_comm, ← Nat.two_pow_add_eq_or_of_lt h, Nat.add_comm]
theorem piece_lt {n p i : Nat} (h : n < 2 ^ (7 * i)) (hp : p < 128) : n + p * 2 ^ (7 * i) < 2 ^ (7 * (i + 1)) := by
  rw [pow_step]
  have : p * 2 ^ (7 * i) ≤ 127 * 2 ^ (7 * i) := Nat.mul_le_mul_right _ (by omega)
  omega
theorem piece_word {n p i : Nat} (h : n < 2 ^ (7 * i)) (hp : p < 128) (hi : i ≤ 9) (h9 : i = 9 → p ≤ 1) : n + p * 2 ^ (7 * i) < 18446744073709551616 := by
  by_cases e : i = 9
  · subst e
    have := h9 rfl
    rw [show (2 : Nat) ^ (7 * 9) = 9223372036854775808 by decide] at h ⊢
    omega
  · have h1 := piece_lt h hp
    have h2 : (2 : Nat) ^ (7 * (i + 1)) ≤ 2 ^ 63 := Nat.pow_le_pow_right (by decide) (by omega)
    have h3 : (2 : Nat) ^ 63 = 9223372036854775808 := by decide
    omega
end Go.Proofs.Lys
