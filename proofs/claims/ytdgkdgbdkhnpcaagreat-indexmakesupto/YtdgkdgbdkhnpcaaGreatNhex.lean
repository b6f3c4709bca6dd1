/-
  What stands between the quotes, read.
-/
import Derived.Test.YtdgkdgbdkhnpcaaGreatNwrite
namespace Go.Proofs.YtdgkdgbdkhnpcaaGreat.N
open Go.RowKit Go.Proofs.Lys
set_option linter.unusedVariables false
set_option linter.unusedSimpArgs false

theorem two_digits : ∀ a b : Nat, a < 16 → b < 16 → bits .or .u8 ((a : Int) * 16) (b : Int) = ((16 * a + b : Nat) : Int) := by
  have : ∀ a, a < 16 → ∀ b, b < 16 → bits .or .u8 (((a : Nat) : Int) * 16) ((b : Nat) : Int) = ((16 * a + b : Nat) : Int) := by decide +kernel
  exact fun a b ha hb => this a ha b hb
theorem list_two (s : ByteArray) (h : 2 ≤ s.size) : s.data.toList = s[0] :: s[1] :: s.data.toList.drop 2 := by
  have hl : 2 ≤ s.data.toList.length := by rw [← Lib.size_eq]; exact h
  have e1 := List.drop_eq_getElem_cons (l := s.data.toList) (i := 0) (by omega)
  have e2 := List.drop_eq_getElem_cons (l := s.data.toList) (i := 1) (by omega)
  rw [List.drop_zero] at e1
  rw [e1, e2]
  rfl
/-- How far what stands between the quotes is read. -/
structure Rd (s : ByteArray) (pos nx : Nat) (acc : List UInt8) : Prop where
  p : pos ≤ s.size
  n : nx ≤ s.size
  eq : unqL s.data.toList = (unqL (s.data.toList.drop (max pos nx))).map (acc ++ ·)
  low : ∀ j (h : j < s.size), pos ≤ j → j < nx → (s[j]'h).toNat < 128
  len : acc.length ≤ max pos nx
theorem drop_more (s : ByteArray) (k : Nat) (h : k < s.size) : s.data.toList.drop k = s[k] :: s.data.toList.drop (k + 1) := by
  have h' : k < s.data.toList.length := by rw [← Lib.size_eq]; exact h
  rw [List.drop_eq_getElem_cons h']
  rfl
theorem Rd.skip {s : ByteArray} {pos nx : Nat} {acc : List UInt8} (h : Rd s pos nx acc) (hp : pos < s.size) (hn : pos < nx) : Rd s (pos + 1) nx acc := by
  have e1 : max pos nx = nx := by omega
  have e2 : max (pos + 1) nx = nx := by omega
  refine ⟨by omega, h.n, ?_, fun j hj h1 h2 => h.low j hj (by omega) h2, ?_⟩
  · rw [e2, ← e1]; exact h.eq
  · rw [e2, ← e1]; exact h.len
theorem Rd.shown {s : ByteArray} {pos nx : Nat} {acc : List UInt8} (h : Rd s pos nx acc) (hp : pos < s.size) (hn : ¬ pos < nx) (hs : shownB (s[pos]'hp) = true) : Rd s (pos + 1) nx (acc ++ [s[pos]'hp]) := by
  have e1 : max pos nx = pos := by omega
  have e2 : max (pos + 1) nx = pos + 1 := by omega
  refine ⟨by omega, h.n, ?_, fun j hj h1 h2 => absurd h2 (by omega), ?_⟩
  · rw [h.eq, e1, e2, drop_more s pos hp, unqL_shown _ hs, Option.map_map]
    congr 1
    funext z
    simp
  · have := h.len
    rw [List.length_append, e2]
    simp
    omega
theorem Rd.hex {s : ByteArray} {pos nx : Nat} {acc : List UInt8} {v : UInt8} (h : Rd s pos nx acc) (hp : pos < s.size) (hn : ¬ pos < nx) (hc : (s[pos]'hp).toNat = 92) (hx : hex2 (s.data.toList.drop (pos + 1)) = some v) : Rd s (pos + 1) (pos + 3) (acc ++ [v]) := by
  have e1 : max pos nx = pos := by omega
  have e2 : max (pos + 1) (pos + 3) = pos + 3 := by omega
  obtain ⟨a, b, r', hr, ha, hb⟩ := hex2_two hx
  have hl : (s.data.toList.drop (pos + 1)).length = r'.length + 2 := by rw [hr]; rfl
  rw [List.length_drop, ← Lib.size_eq] at hl
  have hns : shownB (s[pos]'hp) = false := by
    cases e : shownB (s[pos]'hp) with
    | false => rfl
    | true => simp only [shownB, Bool.and_eq_true, decide_eq_true_eq] at e; omega
  refine ⟨by omega, by omega, ?_, fun j hj h1 h2 => ?_, ?_⟩
  · rw [h.eq, e1, e2, drop_more s pos hp, unqL_cons, if_neg (by rw [hns]; decide), if_pos hc, hx]
    simp only [List.drop_drop, Option.map_map]
    congr 1
    funext z
    simp
  · have h0 := drop_more s (pos + 1) (by omega)
    have h3 := drop_more s (pos + 2) (by omega)
    rw [hr] at h0
    have q1 : a = s[pos + 1]'(by omega) := (List.cons.inj h0).1
    have q2 := (List.cons.inj h0).2
    rw [h3] at q2
    have q3 : b = s[pos + 2]'(by omega) := (List.cons.inj q2).1
    have : j = pos + 1 ∨ j = pos + 2 := by omega
    rcases this with rfl | rfl
    · rw [← q1]; exact ha
    · rw [← q3]; exact hb
  · have := h.len
    rw [List.length_append, e2]
    simp
    omega
theorem Rd.bad {s : ByteArray} {pos nx : Nat} {acc : List UInt8} (h : Rd s pos nx acc) (hp : pos < s.size) (hn : ¬ pos < nx) (hs : shownB (s[pos]'hp) = false) (hc : (s[pos]'hp).toNat = 92 → hex2 (s.data.toList.drop (pos + 1)) = none) : unqL s.data.toList = none := by
  have e1 : max pos nx = pos := by omega
  rw [h.eq, e1, drop_more s pos hp, unqL_cons, if_neg (by rw [hs]; decide)]
  by_cases h92 : (s[pos]'hp).toNat = 92
  · rw [if_pos h92, hc h92]
    rfl
  · rw [if_neg h92]
    rfl
theorem Rd.fin {s : ByteArray} {pos nx : Nat} {acc : List UInt8} (h : Rd s pos nx acc) (hp : ¬ pos < s.size) : unqL s.data.toList = some acc := by
  have h1 := h.p
  have h2 := h.n
  rw [h.eq, List.drop_of_length_le (by rw [← Lib.size_eq]; omega), unqL_nil]
  simp

/-- What readQuoted answers. -/
def QuoA (v : Value) (b : Bool) : Option (List UInt8) → Prop
  | some l => b = true ∧ v = .string (mkB l)
  | none => b = false ∧ v = .string ⟨#[]⟩
end Go.Proofs.YtdgkdgbdkhnpcaaGreat.N
