/-
  Names and values of labels: which can be.
-/
import Derived.Test.YtcacoanhiphbiaaNrow
namespace Go.Proofs.Ytcacoanhiphbiaa.N
open Go.RowKit Go.Proofs.Lys
set_option linter.unusedVariables false

/-- The bytes up to a place are a name's. -/
def Upto (s : ByteArray) (pos : Nat) : Prop := ∀ k (h : k < s.size), k < pos → plainB (s[k]'h) = true ∧ (k = 0 → digitB (s[k]'h) = false)
theorem at_list (s : ByteArray) (k : Nat) (h : k < s.size) : s.data.toList[k]'(by rw [← Lib.size_eq]; exact h) = s[k]'h := rfl
theorem upto_ok {s : ByteArray} (h0 : 0 < s.size) (h64 : s.size ≤ 64) (h : Upto s s.size) : nameOk s = true := by
  simp only [nameOk, Bool.and_eq_true, decide_eq_true_eq]
  refine ⟨⟨⟨h0, h64⟩, List.all_eq_true.2 (fun x hx => ?_)⟩, ?_⟩
  · obtain ⟨k, hk, rfl⟩ := List.getElem_of_mem hx
    exact (h k (by rw [Lib.size_eq]; exact hk) (by rw [Lib.size_eq]; exact hk)).1
  · have e : s.data.toList.headD 0 = s[0]'h0 := by
      have hl : 0 < s.data.toList.length := by rw [← Lib.size_eq]; exact h0
      rw [← at_list s 0 h0, List.headD_eq_head?_getD, List.head?_eq_getElem?, List.getElem?_eq_getElem hl]
      rfl
    rw [e, (h 0 h0 h0).2 rfl]
    rfl
theorem bad_plain {s : ByteArray} {k : Nat} (h : k < s.size) (hb : plainB (s[k]'h) = false) : nameOk s = false := by
  cases e : nameOk s with
  | false => rfl
  | true =>
    simp only [nameOk, Bool.and_eq_true, decide_eq_true_eq] at e
    have := List.all_eq_true.1 e.1.2 _ (List.getElem_mem (show k < s.data.toList.length by rw [← Lib.size_eq]; exact h))
    rw [at_list s k h, hb] at this
    cases this
theorem bad_digit {s : ByteArray} (h : 0 < s.size) (hb : digitB (s[0]'h) = true) : nameOk s = false := by
  cases e : nameOk s with
  | false => rfl
  | true =>
    simp only [nameOk, Bool.and_eq_true, decide_eq_true_eq] at e
    have hl : 0 < s.data.toList.length := by rw [← Lib.size_eq]; exact h
    have e2 : s.data.toList.headD 0 = s[0]'h := by
      rw [← at_list s 0 h, List.headD_eq_head?_getD, List.head?_eq_getElem?, List.getElem?_eq_getElem hl]
      rfl
    rw [e2, hb] at e
    simp at e
theorem bad_size {s : ByteArray} (h : s.size = 0 ∨ 64 < s.size) : nameOk s = false := by
  unfold nameOk
  rcases h with h | h
  · rw [h]; rfl
  · rw [show decide (s.size ≤ 64) = false by simp; omega]
    simp
theorem plain_of {c : UInt8} (h : (97 ≤ c.toNat ∧ c.toNat ≤ 122) ∨ (65 ≤ c.toNat ∧ c.toNat ≤ 90) ∨ c.toNat = 95) : plainB c = true ∧ digitB c = false := by
  constructor
  · simp only [plainB, digitB, Bool.or_eq_true, Bool.and_eq_true, decide_eq_true_eq]; omega
  · cases e : digitB c with
    | false => rfl
    | true => simp only [digitB, Bool.and_eq_true, decide_eq_true_eq] at e; omega
theorem plain_dig {c : UInt8} (h : 48 ≤ c.toNat ∧ c.toNat ≤ 57) : plainB c = true ∧ digitB c = true := by
  constructor
  · simp only [plainB, digitB, Bool.or_eq_true, Bool.and_eq_true, decide_eq_true_eq]; omega
  · simp only [digitB, Bool.and_eq_true, decide_eq_true_eq]; omega
theorem plain_no {c : UInt8} (h : ¬ (97 ≤ c.toNat ∧ c.toNat ≤ 122)) (h2 : ¬ (65 ≤ c.toNat ∧ c.toNat ≤ 90)) (h3 : c.toNat ≠ 95) (h4 : ¬ (48 ≤ c.toNat ∧ c.toNat ≤ 57)) : plainB c = false := by
  cases e : plainB c with
  | false => rfl
  | true => simp only [plainB, digitB, Bool.or_eq_true, Bool.and_eq_true, decide_eq_true_eq] at e; omega
theorem Upto.step {s : ByteArray} {pos : Nat} (h : Upto s pos) (hp : pos < s.size) (h1 : plainB (s[pos]'hp) = true) (h2 : pos = 0 → digitB (s[pos]'hp) = false) : Upto s (pos + 1) := by
  intro k hk hlt
  by_cases e : k < pos
  · exact h k hk e
  · have : k = pos := by omega
    subst this
    exact ⟨h1, h2⟩

theorem kept_iter (w : World) (s : ByteArray) (pos : Nat) : Kept w (w.iter s pos) := (Only.refl _ w).alloc _

end Go.Proofs.Ytcacoanhiphbiaa.N
