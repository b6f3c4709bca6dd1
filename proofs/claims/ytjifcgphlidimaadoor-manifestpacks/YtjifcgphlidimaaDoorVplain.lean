/-
  Numbers in few bytes: plain functions. No program is named here.
-/
import Derived.RowKit
namespace Go.Proofs.Lys
open Go

/-- The bytes of a number: seven bits a byte, the lowest first; the first number is more than the bytes that are written. -/
def putF : Nat → Nat → List UInt8
  | 0, n => [UInt8.ofNat n]
  | f + 1, n => if n < 128 then [UInt8.ofNat n] else UInt8.ofNat (n % 128 + 128) :: putF f (n / 128)
theorem putF_any (f : Nat) : ∀ (g n : Nat), n ≤ f → n ≤ g → putF f n = putF g n := by
  induction f with
  | zero =>
    intro g n h _
    have : n = 0 := by omega
    subst this
    cases g <;> rfl
  | succ f ih =>
    intro g n h h'
    by_cases hn : n < 128
    · cases g with
      | zero => simp only [putF, if_pos hn]
      | succ g => simp only [putF, if_pos hn]
    · cases g with
      | zero => omega
      | succ g =>
        simp only [putF, if_neg hn]
        rw [ih g (n / 128) (by omega) (by omega)]
def putN (n : Nat) : List UInt8 := putF n n
theorem putN_eq (n : Nat) : putN n = if n < 128 then [UInt8.ofNat n] else UInt8.ofNat (n % 128 + 128) :: putN (n / 128) := by
  cases n with
  | zero => rfl
  | succ m =>
    unfold putN
    simp only [putF]
    by_cases hn : m + 1 < 128
    · rw [if_pos hn, if_pos hn]
    · rw [if_neg hn, if_neg hn, putF_any m ((m + 1) / 128) ((m + 1) / 128) (by omega) (Nat.le_refl _)]

theorem putN_small {n : Nat} (h : n < 128) : putN n = [UInt8.ofNat n] := by
  rw [putN_eq, if_pos h]
theorem putN_big {n : Nat} (h : 128 ≤ n) : putN n = UInt8.ofNat (n % 128 + 128) :: putN (n / 128) := by
  rw [putN_eq, if_neg (by omega)]
theorem putN_pos (n : Nat) : 0 < (putN n).length := by
  rw [putN_eq]
  split <;> simp
theorem putN_len : ∀ (k n : Nat), 0 < k → n < 128 ^ k → (putN n).length ≤ k := by
  intro k
  induction k with
  | zero => intro n h; omega
  | succ k ih =>
    intro n _ hn
    by_cases h : n < 128
    · rw [putN_small h]
      simp
    · rw [putN_big (by omega)]
      have hk : 0 < k := by
        rcases Nat.eq_zero_or_pos k with rfl | h0
        · simp at hn
          omega
        · exact h0
      have := ih (n / 128) hk (by
        rw [Nat.pow_succ] at hn
        exact Nat.div_lt_of_lt_mul (by rw [Nat.mul_comm]; exact hn))
      simp
      exact this
theorem putN_ten {n : Nat} (h : n < 18446744073709551616) : (putN n).length ≤ 10 := putN_len 10 n (by decide) (Nat.lt_trans h (by decide))
theorem putN_parts (n : Nat) : ∃ ini c, putN n = ini ++ [c] ∧ c.toNat < 128 ∧ ∀ x ∈ ini, 128 ≤ x.toNat := by
  induction n using Nat.strongRecOn with
  | _ n ih =>
    by_cases h : n < 128
    · exact ⟨[], UInt8.ofNat n, putN_small h, by rw [UInt8.toNat_ofNat']; omega, by simp⟩
    · obtain ⟨ini, c, h1, h2, h3⟩ := ih (n / 128) (by omega)
      refine ⟨UInt8.ofNat (n % 128 + 128) :: ini, c, by rw [putN_big (by omega), h1]; rfl, h2, ?_⟩
      intro x hx
      rcases List.mem_cons.1 hx with rfl | hx
      · rw [UInt8.toNat_ofNat']
        omega
      · exact h3 x hx

/-- What stands at the beginning of bytes: the number, how many bytes it has, what is wrong. -/
def getA : List UInt8 → Nat → Nat → Nat × Nat × Nat
  | [], _, _ => (0, 0, 5)
  | c :: t, i, n =>
    if 10 ≤ i ∨ (i = 9 ∧ 1 < c.toNat % 128) then (0, 0, 5)
    else if 128 ≤ c.toNat then getA t (i + 1) (n + c.toNat % 128 * 2 ^ (7 * i))
    else if c.toNat = 0 ∧ 0 < i then (0, 0, 5)
    else (n + c.toNat % 128 * 2 ^ (7 * i), i + 1, 0)

section
variable {c : UInt8} {t : List UInt8} {i n : Nat}
theorem getA_over (h : 10 ≤ i ∨ (i = 9 ∧ 1 < c.toNat % 128)) : getA (c :: t) i n = (0, 0, 5) := by
  rw [getA, if_pos h]
theorem getA_go (h : i ≤ 9) (h1 : i = 9 → c.toNat % 128 ≤ 1) (h2 : 128 ≤ c.toNat) : getA (c :: t) i n = getA t (i + 1) (n + c.toNat % 128 * 2 ^ (7 * i)) := by
  rw [getA, if_neg (by omega), if_pos h2]
theorem getA_nought (h : i ≤ 9) (h2 : c.toNat = 0) (h3 : 0 < i) : getA (c :: t) i n = (0, 0, 5) := by
  rw [getA, if_neg (by omega), if_neg (by omega), if_pos ⟨h2, h3⟩]
theorem getA_last (h : i ≤ 9) (h1 : i = 9 → c.toNat % 128 ≤ 1) (h2 : c.toNat < 128) (h3 : c.toNat = 0 → i = 0) : getA (c :: t) i n = (n + c.toNat % 128 * 2 ^ (7 * i), i + 1, 0) := by
  rw [getA, if_neg (by omega), if_neg (by omega), if_neg (by omega)]
end

theorem getA_more (l : List UInt8) : ∀ i n, (∀ x ∈ l, 128 ≤ x.toNat) → getA l i n = (0, 0, 5) := by
  induction l with
  | nil => intro i n _; rfl
  | cons c t ih =>
    intro i n h
    by_cases ho : 10 ≤ i ∨ (i = 9 ∧ 1 < c.toNat % 128)
    · exact getA_over ho
    · rw [getA_go (by omega) (by omega) (h c (by simp))]
      exact ih _ _ (fun x hx => h x (by simp [hx]))
theorem getA_zero (l : List UInt8) : ∀ i n, (∀ x ∈ l, 128 ≤ x.toNat) → 0 < i + l.length → getA (l ++ [0]) i n = (0, 0, 5) := by
  induction l with
  | nil =>
    intro i n _ h
    simp at h
    by_cases ho : 10 ≤ i
    · exact getA_over (.inl ho)
    · exact getA_nought (by omega) rfl h
  | cons c t ih =>
    intro i n h _
    rw [List.cons_append]
    by_cases ho : 10 ≤ i ∨ (i = 9 ∧ 1 < c.toNat % 128)
    · exact getA_over ho
    · rw [getA_go (by omega) (by omega) (h c (by simp))]
      exact ih _ _ (fun x hx => h x (by simp [hx])) (by omega)

theorem pow_ten {i : Nat} (h : 10 ≤ i) : 1180591620717411303424 ≤ 2 ^ (7 * i) := by
  have : (2 : Nat) ^ 70 ≤ 2 ^ (7 * i) := Nat.pow_le_pow_right (by decide) (by omega)
  exact Nat.le_trans (by decide) this
theorem pow_step (i : Nat) : 2 ^ (7 * (i + 1)) = 128 * 2 ^ (7 * i) := by
  rw [show 7 * (i + 1) = 7 + 7 * i by omega, Nat.pow_add]
theorem get_put (u : Nat) : ∀ i acc more, acc + u * 2 ^ (7 * i) < 18446744073709551616 → (i = 0 ∨ 0 < u) → getA (putN u ++ more) i acc = (acc + u * 2 ^ (7 * i), i + (putN u).length, 0) := by
  induction u using Nat.strongRecOn with
  | _ u ih =>
    intro i acc more hb h0
    have hi : i ≤ 9 := by
      rcases h0 with rfl | h0
      · omega
      · by_cases h : 10 ≤ i
        · have h1 := pow_ten h
          have h2 : 1 * 2 ^ (7 * i) ≤ u * 2 ^ (7 * i) := Nat.mul_le_mul_right _ h0
          omega
        · omega
    have h9 : i = 9 → u ≤ 1 := by
      rintro rfl
      rw [show (2 : Nat) ^ (7 * 9) = 9223372036854775808 by decide] at hb
      omega
    by_cases h : u < 128
    · have e : (UInt8.ofNat u).toNat = u := by rw [UInt8.toNat_ofNat']; omega
      rw [putN_small h, List.cons_append, getA_last hi (by rw [e]; omega) (by rw [e]; omega) (by rw [e]; omega), e, Nat.mod_eq_of_lt h]
      rfl
    · have e : (UInt8.ofNat (u % 128 + 128)).toNat = u % 128 + 128 := by rw [UInt8.toNat_ofNat']; omega
      have e2 : (u % 128 + 128) % 128 = u % 128 := by omega
      have e3 : acc + u % 128 * 2 ^ (7 * i) + u / 128 * 2 ^ (7 * (i + 1)) = acc + u * 2 ^ (7 * i) := by
        rw [pow_step, ← Nat.mul_assoc, Nat.add_assoc, ← Nat.add_mul, Nat.mod_add_div' u 128]
      rw [putN_big (by omega), List.cons_append, getA_go hi (by omega) (by rw [e]; omega), e, e2, ih (u / 128) (by omega) (i + 1) _ more (by rw [e3]; exact hb) (.inr (by omega)), e3, List.length_cons]
      congr 2
      omega
theorem get_put0 {u : Nat} (h : u < 18446744073709551616) (more : List UInt8) : getA (putN u ++ more) 0 0 = (u, (putN u).length, 0) := by
  have := get_put u 0 0 more (by simpa using h) (.inl rfl)
  simpa using this

/-- The bits of a byte's piece beside what is there already. -/
theorem or_piece (n p i : Nat) (h : n < 2 ^ (7 * i)) : n ||| p * 2 ^ (7 * i) = n + p * 2 ^ (7 * i) := by
  rw [Nat.or_comm, Nat.mul_comm, ← Nat.two_pow_add_eq_or_of_lt h, Nat.add_comm]
theorem piece_lt {n p i : Nat} (h : n < 2 ^ (7 * i)) (hp : p < 128) : n + p * 2 ^ (7 * i) < 2 ^ (7 * (i + 1)) := by
  rw [pow_step]
  have : p * 2 ^ (7 * i) ≤ 127 * 2 ^ (7 * i) := Nat.mul_le_mul_right _ (by omega)
  omega
theorem piece_word {n p i : Nat} (h : n < 2 ^ (7 * i)) (hp : p < 128) (hi : i ≤ 9) (h9 : i = 9 → p ≤ 1) : n + p * 2 ^ (7 * i) < 18446744073709551616 := by
  by_cases e : i = 9
  · subst e
    have := h9 rfl
    rw [show (2 : Nat) ^ (7 * 9) = 9223372036854775808 by decide] at h ⊢
    omega
  · have h1 := piece_lt h hp
    have h2 : (2 : Nat) ^ (7 * (i + 1)) ≤ 2 ^ 63 := Nat.pow_le_pow_right (by decide) (by omega)
    have h3 : (2 : Nat) ^ 63 = 9223372036854775808 := by decide
    omega
end Go.Proofs.Lys
