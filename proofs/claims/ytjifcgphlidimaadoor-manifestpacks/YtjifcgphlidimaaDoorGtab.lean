/-
  The sum by half bytes: what a table of sixteen numbers tells. No program is named here.
-/
import Derived.Test.YtjifcgphlidimaaDoorGplain
namespace Go.Proofs.YtjifcgphlidimaaDoor.G
open Go.RowKit Go.Proofs.Lys
set_option linter.unusedVariables false

/-- What four of the lowest bits become by four steps. -/
def stepT : List Nat := [0, 274646895, 549293790, 820201905, 1098587580, 1361435347, 1640403810, 1905808397, 2197175160, 2460548119, 2722870694, 2987750089, 3280807620, 3553878443, 3811616794, 4084100981]
theorem stepT_lt (i : Nat) : stepT.getD i 0 < 4294967296 := by
  rcases Nat.lt_or_ge i 16 with h | h
  · have : ∀ i, i < 16 → stepT.getD i 0 < 4294967296 := by decide
    exact this i h
  · rw [List.getD_eq_getElem?_getD, List.getElem?_eq_none (by show 16 ≤ i; exact h)]
    decide
theorem half_xor (a b : Nat) : (a ^^^ b) / 2 = a / 2 ^^^ b / 2 := by
  have h := Nat.shiftRight_xor_distrib (a := a) (b := b) (i := 1)
  simpa [Nat.shiftRight_eq_div_pow] using h
theorem odd_xor (a b : Nat) : ((a ^^^ b) % 2 = 1) = ((a % 2 = 1) ≠ (b % 2 = 1)) := by
  have h : (a ^^^ b).testBit 0 = (a.testBit 0 ^^ b.testBit 0) := Nat.testBit_xor _ _ _
  simp only [Nat.testBit_zero] at h
  by_cases ha : a % 2 = 1 <;> by_cases hb : b % 2 = 1 <;> simp [ha, hb] at h ⊢ <;> omega
theorem xor_pp (a b p : Nat) : a ^^^ b = (a ^^^ p) ^^^ (b ^^^ p) := by
  rw [Nat.xor_assoc, Nat.xor_comm b p, ← Nat.xor_assoc p p b, Nat.xor_self, Nat.zero_xor]
theorem xor_pn (a b p : Nat) : (a ^^^ b) ^^^ p = (a ^^^ p) ^^^ b := by rw [Nat.xor_assoc, Nat.xor_comm b p, ← Nat.xor_assoc]
theorem crc1_xor (a b : Nat) : crc1 (a ^^^ b) = crc1 a ^^^ crc1 b := by
  unfold crc1
  rw [half_xor]
  simp only [odd_xor]
  by_cases ha : a % 2 = 1 <;> by_cases hb : b % 2 = 1
  · rw [if_neg (by simp [ha, hb]), if_pos ha, if_pos hb]
    exact xor_pp _ _ _
  · rw [if_pos (by simp [ha, hb]), if_pos ha, if_neg hb]
    exact xor_pn _ _ _
  · rw [if_pos (by simp [ha, hb]), if_neg ha, if_pos hb]
    exact Nat.xor_assoc _ _ _
  · rw [if_neg (by simp [ha, hb]), if_neg ha, if_neg hb]
theorem crcN_xor : ∀ (n a b : Nat), crcN n (a ^^^ b) = crcN n a ^^^ crcN n b
  | 0, _, _ => rfl
  | n + 1, a, b => by rw [crcN, crcN, crcN, crcN_xor n a b, crc1_xor]
theorem crc1_two (q : Nat) : crc1 (2 * q) = q := by
  unfold crc1
  rw [if_neg (by omega)]
  omega
theorem crcN_add (n s : Nat) : crcN (n + 1) s = crcN n (crc1 s) := by
  induction n with
  | zero => rfl
  | succ n ih => rw [crcN, ih]; rfl
theorem crc4_high (q : Nat) : crcN 4 (16 * q) = q := by
  rw [crcN_add, show 16 * q = 2 * (8 * q) by omega, crc1_two, crcN_add, show 8 * q = 2 * (4 * q) by omega, crc1_two, crcN_add, show 4 * q = 2 * (2 * q) by omega, crc1_two, crcN_add, crc1_two]
  rfl
theorem split16 (s : Nat) : s = 16 * (s / 16) ^^^ s % 16 := by
  apply Nat.eq_of_testBit_eq
  intro i
  have e1 : 16 * (s / 16) = (s >>> 4) <<< 4 := by rw [Nat.shiftLeft_eq, Nat.shiftRight_eq_div_pow]; omega
  have e2 : s % 16 = s % 2 ^ 4 := rfl
  rw [Nat.testBit_xor, e1, e2, Nat.testBit_shiftLeft, Nat.testBit_shiftRight, Nat.testBit_mod_two_pow]
  by_cases h : i < 4
  · simp [h, show ¬ 4 ≤ i by omega]
  · simp [h, show 4 ≤ i by omega, show 4 + (i - 4) = i by omega]
/-- Four steps are one look. -/
theorem crc4 (s : Nat) : crcN 4 s = s / 16 ^^^ stepT.getD (s % 16) 0 := by
  have hT : ∀ r, r < 16 → crcN 4 r = stepT.getD r 0 := by decide
  have h1 : crcN 4 s = crcN 4 (16 * (s / 16) ^^^ s % 16) := by rw [← split16]
  rw [h1, crcN_xor, crc4_high, hT _ (Nat.mod_lt _ (by decide))]
theorem crc8 (s : Nat) : crcN 8 s = crcN 4 (crcN 4 s) := rfl
def look (s : Nat) : Nat := s / 16 ^^^ stepT.getD (s % 16) 0
theorem look_lt {s : Nat} (h : s < 4294967296) : look s < 4294967296 := xor_lt (by omega) (stepT_lt _)
/-- A byte is two looks. -/
theorem crcB_look (s : Nat) (c : UInt8) : crcB s c = look (look (s ^^^ c.toNat)) := by
  unfold crcB look
  rw [crc8, crc4, crc4]
theorem crcF_snoc (s : Nat) (bs : List UInt8) (c : UInt8) : crcF s (bs ++ [c]) = crcB (crcF s bs) c := by rw [crcF_app]; rfl
theorem crcF_take {s : Nat} {bs : List UInt8} {k : Nat} (h : k < bs.length) : crcF s (bs.take (k + 1)) = crcB (crcF s (bs.take k)) bs[k] := by
  rw [List.take_succ_eq_append_getElem h, crcF_snoc]
end Go.Proofs.YtjifcgphlidimaaDoor.G
