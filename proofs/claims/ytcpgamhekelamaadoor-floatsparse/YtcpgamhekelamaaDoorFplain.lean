/-
  Plain lemmas on texts: what is read of a sign, digits, a point and digits; the digits of a whole number; the digits of a fraction.
-/
import Derived.Test.YtcpgamhekelamaaDoorFalive
namespace Go.Proofs.YtcpgamhekelamaaDoor
open Go.RowKit
set_option linter.unusedVariables false

def signL (neg : Bool) : List UInt8 := if neg then [45] else []

theorem dig_ne {c : UInt8} (h : isDig c = true) : c ≠ 45 ∧ c ≠ 43 ∧ c ≠ 46 ∧ c ≠ 110 ∧ c ≠ 105 := by
  obtain ⟨h0, h1⟩ := dig_num h
  refine ⟨?_, ?_, ?_, ?_, ?_⟩ <;> (rintro rfl; revert h0 h1; decide)

theorem sign_parts (neg : Bool) (c : UInt8) (l : List UInt8) (hc : isDig c = true) :
    negL (signL neg ++ c :: l) = neg ∧ sizeL (signL neg ++ c :: l) = c :: l ∧ signL neg ++ c :: l ≠ [110, 97, 110] ∧ c :: l ≠ [105, 110, 102] := by
  obtain ⟨n1, n2, n3, n4, n5⟩ := dig_ne hc
  cases neg
  · refine ⟨?_, ?_, ?_, ?_⟩
    · simp [signL, negL, n1]
    · simp [signL, sizeL, n1, n2]
    · intro h; simp [signL] at h; exact n4 h.1
    · intro h; simp at h; exact n5 h.1
  · refine ⟨?_, ?_, ?_, ?_⟩
    · simp [signL, negL]
    · simp [signL, sizeL]
    · intro h; simp [signL] at h
    · intro h; simp at h; exact n5 h.1

theorem all_ne {l : List UInt8} (h : allDig l = true) : ∀ c ∈ l, (c != 46) = true := by
  intro c hc
  have := List.all_eq_true.mp h c hc
  have := (dig_ne this).2.2.1
  simpa using this
theorem take_point (A B : List UInt8) (h : ∀ c ∈ A, (c != 46) = true) : (A ++ 46 :: B).takeWhile (· != 46) = A ∧ (A ++ 46 :: B).dropWhile (· != 46) = 46 :: B := by
  induction A with
  | nil => simp
  | cons c A ih =>
    have h1 := h c (List.mem_cons_self ..)
    obtain ⟨i1, i2⟩ := ih (fun x hx => h x (List.mem_cons_of_mem _ hx))
    rw [List.cons_append, List.takeWhile_cons, List.dropWhile_cons, h1]
    simp only [if_true]
    exact ⟨by rw [i1], i2⟩
theorem take_none (A : List UInt8) (h : ∀ c ∈ A, (c != 46) = true) : A.takeWhile (· != 46) = A ∧ A.dropWhile (· != 46) = [] ∧ A.contains 46 = false := by
  induction A with
  | nil => simp
  | cons c A ih =>
    have h1 := h c (List.mem_cons_self ..)
    obtain ⟨i1, i2, i3⟩ := ih (fun x hx => h x (List.mem_cons_of_mem _ hx))
    rw [List.takeWhile_cons, List.dropWhile_cons, h1, List.contains_cons, i3]
    simp only [if_true]
    refine ⟨by rw [i1], i2, ?_⟩
    simp at h1
    simpa using fun k => h1 k.symm

theorem parse_point (neg : Bool) (A B : List UInt8) (hA : decOk A = true) (hB : decOk B = true) :
    parseN (signL neg ++ (A ++ 46 :: B)) = readZ neg A B ∧ parseE (signL neg ++ (A ++ 46 :: B)) = 0 := by
  obtain ⟨a1, a2, a3⟩ := dec_parts hA
  cases A with
  | nil => simp at a2
  | cons c A =>
    have hc : isDig c = true := List.all_eq_true.mp a1 c (List.mem_cons_self ..)
    obtain ⟨s1, s2, s3, s4⟩ := sign_parts neg c (A ++ 46 :: B) hc
    rw [← List.cons_append] at s1 s2 s3 s4
    obtain ⟨t1, t2⟩ := take_point (c :: A) B (all_ne a1)
    have e1 : headL (c :: A ++ 46 :: B) = c :: A := t1
    have e2 : tailL (c :: A ++ 46 :: B) = B := by unfold tailL; rw [t2]; rfl
    have e3 : textOk (c :: A ++ 46 :: B) = true := by unfold textOk; rw [e1, e2, hA, hB]; simp
    unfold parseN parseE
    rw [if_neg s3, if_neg s3, s2, if_neg s4, if_neg s4, if_pos e3, if_pos e3, s1, e1, e2]
    exact ⟨rfl, rfl⟩
theorem parse_digits (neg : Bool) (A : List UInt8) (hA : decOk A = true) :
    parseN (signL neg ++ A) = readZ neg A [] ∧ parseE (signL neg ++ A) = 0 := by
  obtain ⟨a1, a2, a3⟩ := dec_parts hA
  cases A with
  | nil => simp at a2
  | cons c A =>
    have hc : isDig c = true := List.all_eq_true.mp a1 c (List.mem_cons_self ..)
    obtain ⟨s1, s2, s3, s4⟩ := sign_parts neg c A hc
    obtain ⟨t1, t2, t3⟩ := take_none (c :: A) (all_ne a1)
    have e1 : headL (c :: A) = c :: A := t1
    have e2 : tailL (c :: A) = [] := by unfold tailL; rw [t2]; rfl
    have e3 : textOk (c :: A) = true := by unfold textOk pointL; rw [e1, hA, t3]; simp
    unfold parseN parseE
    rw [if_neg s3, if_neg s3, s2, if_neg s4, if_neg s4, if_pos e3, if_pos e3, s1, e1, e2]
    exact ⟨rfl, rfl⟩
theorem parse_long (neg : Bool) (A B : List UInt8) (hA : decOk A = true) (hB : 30 < B.length) (hd : allDig B = true) :
    parseE (signL neg ++ (A ++ 46 :: B)) = 4 := by
  obtain ⟨a1, a2, a3⟩ := dec_parts hA
  cases A with
  | nil => simp at a2
  | cons c A =>
    have hc : isDig c = true := List.all_eq_true.mp a1 c (List.mem_cons_self ..)
    obtain ⟨s1, s2, s3, s4⟩ := sign_parts neg c (A ++ 46 :: B) hc
    rw [← List.cons_append] at s1 s2 s3 s4
    obtain ⟨t1, t2⟩ := take_point (c :: A) B (all_ne a1)
    have e1 : headL (c :: A ++ 46 :: B) = c :: A := t1
    have e2 : tailL (c :: A ++ 46 :: B) = B := by unfold tailL; rw [t2]; rfl
    have e4 : decOk B = false := by
      unfold decOk
      have : decide (B.length ≤ 30) = false := by simp; omega
      rw [this]; simp
    have e5 : pointL (c :: A ++ 46 :: B) = true := by unfold pointL; simp
    have e3 : textOk (c :: A ++ 46 :: B) = false := by unfold textOk; rw [e1, e2, e4, e5]; simp
    unfold parseE
    rw [if_neg s3, s2, if_neg s4, e3]
    simp

theorem digit_ok (d : Nat) (h : d ≤ 9) : isDig (UInt8.ofNat (48 + d)) = true ∧ digV (UInt8.ofNat (48 + d)) = d := by
  have : (UInt8.ofNat (48 + d)).toNat = 48 + d := by simp [UInt8.toNat_ofNat]; omega
  unfold isDig digV
  rw [this]
  exact ⟨by simp; omega, by omega⟩
theorem dec_all : ∀ (u : Nat), allDig (Lib.decDigits u) = true ∧ numL (Lib.decDigits u) = u ∧ 1 ≤ (Lib.decDigits u).length := by
  intro u
  induction u using Nat.strongRecOn with
  | _ u ih =>
    rw [Lib.decDigits]
    split
    · obtain ⟨h1, h2⟩ := digit_ok u (by omega)
      generalize UInt8.ofNat (48 + u) = c at *
      refine ⟨by simp [allDig, h1], ?_, by simp⟩
      simp [numL, h2]
    · obtain ⟨i1, i2, i3⟩ := ih (u / 10) (by omega)
      obtain ⟨h1, h2⟩ := digit_ok (u % 10) (by omega)
      generalize UInt8.ofNat (48 + u % 10) = c at *
      refine ⟨?_, ?_, by rw [List.length_append]; omega⟩
      · unfold allDig at *; rw [List.all_append, i1]; simp [h1]
      · rw [numL_more, i2, h2]; omega
theorem dec_ok (u : Nat) (h : u < 10 ^ 20) : decOk (Lib.decDigits u) = true := by
  obtain ⟨h1, h2, h3⟩ := dec_all u
  have h4 := dec_len 19 u h
  unfold decOk
  rw [h1]
  simp
  omega

def zeros (k : Nat) : List UInt8 := List.replicate k 48
theorem zeros_all (k : Nat) : allDig (zeros k) = true := by
  unfold allDig zeros
  rw [List.all_eq_true]
  intro x hx
  rw [List.eq_of_mem_replicate hx]
  decide
theorem zeros_num (k : Nat) : numL (zeros k) = 0 := by
  induction k with
  | zero => rfl
  | succ k ih => unfold zeros at *; rw [List.replicate_succ, numL_cons, ih]; simp [digV]
theorem zeros_more (k : Nat) : zeros k ++ [48] = zeros (k + 1) := by unfold zeros; rw [List.replicate_succ']

theorem frac_all : ∀ (n : Nat) (f : Int), 0 ≤ f → f < 4294967296 → (2 : Int) ^ (32 - n) ∣ f → n ≤ 32 → allDig (fracL n f) = true ∧ numL (fracL n f) * 4294967296 = f * 10 ^ (fracL n f).length := by
  intro n
  induction n with
  | zero =>
    intro f h0 h1 h2 _
    have := pow_end f h0 h1 h2
    subst this
    simp [fracL, numL, allDig]
  | succ n ih =>
    intro f h0 h1 h2 h3
    unfold fracL
    split
    · rename_i h; subst h; simp [numL, allDig]
    · have hp := pow_more (32 - (n + 1)) f (by omega) h2
      rw [show 32 - (n + 1) + 1 = 32 - n by omega] at hp
      obtain ⟨i1, i2⟩ := ih (f * 10 % 4294967296) (by omega) (by omega) hp (by omega)
      have d0 : 0 ≤ f * 10 / 4294967296 := by omega
      have d1 : f * 10 / 4294967296 ≤ 9 := by omega
      obtain ⟨g1, g2⟩ := digit_ok (f * 10 / 4294967296).toNat (by omega)
      constructor
      · unfold allDig at *
        rw [List.all_cons, i1]
        show (isDig (UInt8.ofNat (48 + (f * 10 / 4294967296).toNat)) && true) = true
        rw [g1]; rfl
      · have e : digV (digB (f * 10 / 4294967296)) = f * 10 / 4294967296 := by
          show digV (UInt8.ofNat (48 + (f * 10 / 4294967296).toNat)) = _
          rw [g2]; omega
        rw [numL_cons, List.length_cons, Int.pow_succ, e]
        have em := Int.mul_ediv_add_emod (f * 10) 4294967296
        generalize f * 10 / 4294967296 = d at *
        generalize f * 10 % 4294967296 = r at *
        generalize (10 : Int) ^ (fracL n r).length = p at *
        generalize numL (fracL n r) = m at *
        grind
theorem frac_zero (n : Nat) (f : Int) (k : Nat) (hk : k ≤ n) (h : (2 : Int) ^ (32 - k) ∣ f) (h0 : 0 ≤ f) (h1 : f < 4294967296) (hk32 : k ≤ 32) : (fracL n f).length ≤ k := by
  induction k generalizing n f with
  | zero =>
    have := pow_end f h0 h1 h
    subst this
    cases n <;> simp [fracL]
  | succ k ih =>
    cases n with
    | zero => simp [fracL]
    | succ n =>
      unfold fracL
      split
      · simp
      · rw [List.length_cons]
        have hp := pow_more (32 - (k + 1)) f (by omega) h
        rw [show 32 - (k + 1) + 1 = 32 - k by omega] at hp
        have := ih n (f * 10 % 4294967296) (by omega) hp (by omega) (by omega) (by omega)
        omega
end Go.Proofs.YtcpgamhekelamaaDoor
