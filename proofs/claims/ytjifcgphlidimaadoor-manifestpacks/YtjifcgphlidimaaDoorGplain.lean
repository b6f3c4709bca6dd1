/-
  Frames: their sum, their bytes, how they are read. No program is named here.
-/
import Derived.Test.YtjifcgphlidimaaDoorBase
namespace Go.Proofs.YtjifcgphlidimaaDoor.G
open Go.RowKit Go.Proofs.Lys
set_option linter.unusedVariables false

/-! ### The sum -/
def crc1 (s : Nat) : Nat := if s % 2 = 1 then s / 2 ^^^ 2197175160 else s / 2
/-- So many steps. -/
def crcN : Nat → Nat → Nat
  | 0, s => s
  | n + 1, s => crc1 (crcN n s)
def crcB (s : Nat) (c : UInt8) : Nat := crcN 8 (s ^^^ c.toNat)
def crcF (s : Nat) (bs : List UInt8) : Nat := bs.foldl crcB s
def sumL (bs : List UInt8) : Nat := crcF 4294967295 bs ^^^ 4294967295

theorem xor_lt {a b : Nat} (ha : a < 4294967296) (hb : b < 4294967296) : a ^^^ b < 4294967296 := Nat.xor_lt_two_pow (n := 32) ha hb
theorem crc1_lt {s : Nat} (h : s < 4294967296) : crc1 s < 4294967296 := by
  unfold crc1
  split
  · exact xor_lt (by omega) (by decide)
  · omega
theorem crcN_lt {s : Nat} (h : s < 4294967296) : ∀ n, crcN n s < 4294967296
  | 0 => h
  | n + 1 => crc1_lt (crcN_lt h n)
theorem byte_lt (c : UInt8) : c.toNat < 256 := c.toNat_lt
theorem crcB_lt {s : Nat} (h : s < 4294967296) (c : UInt8) : crcB s c < 4294967296 := crcN_lt (xor_lt h (by have := byte_lt c; omega)) 8
theorem crcF_lt : ∀ (bs : List UInt8) {s : Nat}, s < 4294967296 → crcF s bs < 4294967296
  | [], _, h => h
  | c :: r, s, h => crcF_lt r (crcB_lt h c)
theorem sumL_lt (bs : List UInt8) : sumL bs < 4294967296 := xor_lt (crcF_lt bs (by decide)) (by decide)
theorem crcF_app (s : Nat) (a b : List UInt8) : crcF s (a ++ b) = crcF (crcF s a) b := List.foldl_append

/-- The highest bit tells whether the number was odd. -/
theorem crc1_top {s : Nat} (h : s < 4294967296) : (crc1 s).testBit 31 = decide (s % 2 = 1) := by
  have h2 : (s / 2).testBit 31 = false := Nat.testBit_lt_two_pow (by omega)
  unfold crc1
  split
  · rename_i e
    rw [Nat.testBit_xor, h2, show (2197175160 : Nat).testBit 31 = true from by decide]
    simp [e]
  · rename_i e
    rw [h2]
    simp [e]
theorem xor_same {a b c : Nat} (h : a ^^^ c = b ^^^ c) : a = b := by
  have := congrArg (· ^^^ c) h
  simpa [Nat.xor_assoc] using this
theorem crc1_inj {a b : Nat} (ha : a < 4294967296) (hb : b < 4294967296) (h : crc1 a = crc1 b) : a = b := by
  have ht : decide (a % 2 = 1) = decide (b % 2 = 1) := by rw [← crc1_top ha, ← crc1_top hb, h]
  unfold crc1 at h
  by_cases e : a % 2 = 1
  · have e' : b % 2 = 1 := by simpa [e] using ht
    rw [if_pos e, if_pos e'] at h
    have := xor_same h
    omega
  · have e' : ¬ b % 2 = 1 := by simpa [e] using ht
    rw [if_neg e, if_neg e'] at h
    omega
theorem crcN_inj : ∀ (n : Nat) {a b : Nat}, a < 4294967296 → b < 4294967296 → crcN n a = crcN n b → a = b
  | 0, _, _, _, _, h => h
  | n + 1, _, _, ha, hb, h => crcN_inj n ha hb (crc1_inj (crcN_lt ha n) (crcN_lt hb n) h)
theorem crcB_inj {a b : Nat} {c : UInt8} (ha : a < 4294967296) (hb : b < 4294967296) (h : crcB a c = crcB b c) : a = b :=
  xor_same (crcN_inj 8 (xor_lt ha (by have := byte_lt c; omega)) (xor_lt hb (by have := byte_lt c; omega)) h)
theorem crcB_byte {a : Nat} {c d : UInt8} (ha : a < 4294967296) (h : crcB a c = crcB a d) : c = d := by
  have h1 := crcN_inj 8 (xor_lt ha (by have := byte_lt c; omega)) (xor_lt ha (by have := byte_lt d; omega)) h
  rw [Nat.xor_comm a, Nat.xor_comm a] at h1
  have h2 := xor_same h1
  exact UInt8.toNat_inj.1 h2
theorem crcF_inj : ∀ (bs : List UInt8) {a b : Nat}, a < 4294967296 → b < 4294967296 → crcF a bs = crcF b bs → a = b
  | [], _, _, _, _, h => h
  | c :: r, _, _, ha, hb, h => crcB_inj ha hb (crcF_inj r (crcB_lt ha c) (crcB_lt hb c) h)
/-- One byte that is another one makes another sum. -/
theorem crcF_set : ∀ (bs : List UInt8) (k : Nat) (h : k < bs.length) (c : UInt8) {s : Nat}, s < 4294967296 → crcF s (bs.set k c) = crcF s bs → c = bs[k]
  | [], _, h, _, _, _, _ => absurd h (Nat.not_lt_zero _)
  | x :: r, 0, _, c, s, hs, e => by
    have h1 : crcF (crcB s c) r = crcF (crcB s x) r := e
    exact crcB_byte hs (crcF_inj r (crcB_lt hs c) (crcB_lt hs x) h1)
  | x :: r, k + 1, h, c, s, hs, e => crcF_set r k (by simpa using h) c (crcB_lt hs x) e
theorem sumL_set (bs : List UInt8) (k : Nat) (h : k < bs.length) (c : UInt8) (e : sumL (bs.set k c) = sumL bs) : c = bs[k] := crcF_set bs k h c (by decide) (xor_same e)

/-! ### Four bytes -/
def four (n : Nat) : List UInt8 := [UInt8.ofNat (n % 256), UInt8.ofNat (n / 256 % 256), UInt8.ofNat (n / 65536 % 256), UInt8.ofNat (n / 16777216 % 256)]
def le4 (a b c d : UInt8) : Nat := a.toNat + b.toNat * 256 + c.toNat * 65536 + d.toNat * 16777216
theorem ofNat_toNat {n : Nat} (h : n < 256) : (UInt8.ofNat n).toNat = n := by rw [UInt8.toNat_ofNat']; omega
theorem le4_lt (a b c d : UInt8) : le4 a b c d < 4294967296 := by
  have := byte_lt a; have := byte_lt b; have := byte_lt c; have := byte_lt d
  unfold le4
  omega
theorem four_le4 (a b c d : UInt8) : four (le4 a b c d) = [a, b, c, d] := by
  have h1 := byte_lt a; have h2 := byte_lt b; have h3 := byte_lt c; have h4 := byte_lt d
  have e : ∀ (x : UInt8) (n : Nat), n = x.toNat → UInt8.ofNat n = x := fun x n h => by subst h; exact UInt8.ofNat_toNat
  unfold four
  rw [e a _ (by unfold le4; omega), e b _ (by unfold le4; omega), e c _ (by unfold le4; omega), e d _ (by unfold le4; omega)]
theorem le4_four {n : Nat} (h : n < 4294967296) : le4 (UInt8.ofNat (n % 256)) (UInt8.ofNat (n / 256 % 256)) (UInt8.ofNat (n / 65536 % 256)) (UInt8.ofNat (n / 16777216 % 256)) = n := by
  unfold le4
  rw [ofNat_toNat (by omega), ofNat_toNat (by omega), ofNat_toNat (by omega), ofNat_toNat (by omega)]
  omega
theorem four_inj {a b : Nat} (ha : a < 4294967296) (hb : b < 4294967296) (h : four a = four b) : a = b := by
  unfold four at h
  simp only [List.cons.injEq, and_true] at h
  rw [← le4_four ha, ← le4_four hb, h.1, h.2.1, h.2.2.1, h.2.2.2]

/-! ### A frame -/
def headL (k n : Nat) : List UInt8 := UInt8.ofNat k :: four n
theorem headL_len (k n : Nat) : (headL k n).length = 5 := rfl
def frameL (k : Nat) (b : List UInt8) : List UInt8 := headL k b.length ++ (four (sumL (headL k b.length ++ b)) ++ b)
theorem frameL_len (k : Nat) (b : List UInt8) : (frameL k b).length = 9 + b.length := by
  unfold frameL
  rw [List.length_append, List.length_append, headL_len]
  show 5 + (4 + b.length) = _
  omega
/-- What Put must give. -/
def Puts (k : Int) (b bs : List UInt8) (x : Int) : Prop :=
  ((k < 0 ∨ 255 < k) ∧ bs = [] ∧ x = 1) ∨ (0 ≤ k ∧ k ≤ 255 ∧ 1048576 < b.length ∧ bs = [] ∧ x = 2) ∨ (0 ≤ k ∧ k ≤ 255 ∧ b.length ≤ 1048576 ∧ bs = frameL k.toNat b ∧ x = 0)
theorem Puts.inj {k : Int} {b bs bs' : List UInt8} {x x' : Int} (h : Puts k b bs x) (h' : Puts k b bs' x') : bs = bs' ∧ x = x' := by
  rcases h with ⟨h1, h2, h3⟩ | ⟨h0, h1, h4, h2, h3⟩ | ⟨h0, h1, h4, h2, h3⟩ <;> rcases h' with ⟨k1, k2, k3⟩ | ⟨k0, k1, k4, k2, k3⟩ | ⟨k0, k1, k4, k2, k3⟩ <;>
    first | (exfalso; omega) | exact ⟨by rw [h2, k2], by rw [h3, k3]⟩
def lenF (bs : List UInt8) : Nat := le4 (bs.getD 1 0) (bs.getD 2 0) (bs.getD 3 0) (bs.getD 4 0)
/-- The frame at the beginning. -/
def readF (bs : List UInt8) : Option (Nat × List UInt8 × Nat) :=
  if bs.length < 9 ∨ 1048576 < lenF bs ∨ bs.length - 9 < lenF bs then none
  else if frameL (bs.getD 0 0).toNat ((bs.drop 9).take (lenF bs)) = bs.take (9 + lenF bs) then some ((bs.getD 0 0).toNat, (bs.drop 9).take (lenF bs), 9 + lenF bs) else none
/-- What Get must give. -/
def Gets (bs : List UInt8) (k : Int) (p : List UInt8) (n : Nat) (x : Int) : Prop :=
  (readF bs = none ∧ k = 0 ∧ p = [] ∧ n = 0 ∧ x = 5) ∨ ∃ c q m, readF bs = some (c, q, m) ∧ k = (c : Int) ∧ p = q ∧ n = m ∧ x = 0
theorem Gets.inj {bs : List UInt8} {k k' : Int} {p p' : List UInt8} {n n' : Nat} {x x' : Int} (h : Gets bs k p n x) (h' : Gets bs k' p' n' x') : k = k' ∧ p = p' ∧ n = n' ∧ x = x' := by
  rcases h with ⟨h0, h1, h2, h3, h4⟩ | ⟨c, q, m, h0, h1, h2, h3, h4⟩ <;> rcases h' with ⟨k0, k1, k2, k3, k4⟩ | ⟨c', q', m', k0, k1, k2, k3, k4⟩
  · exact ⟨by rw [h1, k1], by rw [h2, k2], by rw [h3, k3], by rw [h4, k4]⟩
  · rw [h0] at k0; cases k0
  · rw [h0] at k0; cases k0
  · rw [h0] at k0
    cases k0
    exact ⟨by rw [h1, k1], by rw [h2, k2], by rw [h3, k3], by rw [h4, k4]⟩
theorem readF_len {bs : List UInt8} {k n : Nat} {p : List UInt8} (h : readF bs = some (k, p, n)) : n = 9 + p.length ∧ n ≤ bs.length ∧ p.length ≤ 1048576 ∧ k < 256 ∧ p = (bs.take n).drop 9 ∧ frameL k p = bs.take n := by
  unfold readF at h
  split at h
  · cases h
  · rename_i hc
    split at h
    · rename_i he
      simp only [Option.some.injEq, Prod.mk.injEq] at h
      obtain ⟨rfl, rfl, rfl⟩ := h
      have hl : ((bs.drop 9).take (lenF bs)).length = lenF bs := by rw [List.length_take, List.length_drop]; omega
      refine ⟨by rw [hl], by omega, by rw [hl]; omega, byte_lt _, ?_, he⟩
      rw [List.drop_take, show 9 + lenF bs - 9 = lenF bs by omega]
    · cases h
/-- Nine bytes of a head and a sum. -/
theorem frameL_shape (k : Nat) (b : List UInt8) : ∃ s, s = sumL (headL k b.length ++ b) ∧ frameL k b = [UInt8.ofNat k, UInt8.ofNat (b.length % 256), UInt8.ofNat (b.length / 256 % 256), UInt8.ofNat (b.length / 65536 % 256), UInt8.ofNat (b.length / 16777216 % 256), UInt8.ofNat (s % 256), UInt8.ofNat (s / 256 % 256), UInt8.ofNat (s / 65536 % 256), UInt8.ofNat (s / 16777216 % 256)] ++ b := ⟨_, rfl, rfl⟩
theorem lenF_frame {k : Nat} {b more : List UInt8} (hb : b.length ≤ 1048576) : lenF (frameL k b ++ more) = b.length := by
  obtain ⟨s, _, e⟩ := frameL_shape k b
  rw [e]
  exact le4_four (by omega)
/-- What was put is read, whatever stands behind it. -/
theorem read_put {k : Nat} {b : List UInt8} (hk : k < 256) (hb : b.length ≤ 1048576) (more : List UInt8) : readF (frameL k b ++ more) = some (k, b, 9 + b.length) := by
  have hl := lenF_frame (k := k) (more := more) hb
  have hfl := frameL_len k b
  have h0 : ((frameL k b ++ more).getD 0 0).toNat = k := by
    obtain ⟨s, _, e⟩ := frameL_shape k b
    rw [e]
    exact ofNat_toNat hk
  have hd : ((frameL k b ++ more).drop 9).take b.length = b := by
    obtain ⟨s, _, e⟩ := frameL_shape k b
    rw [e]
    show (b ++ more).take b.length = b
    exact List.take_left
  unfold readF
  rw [hl, h0, hd, if_neg (by rw [List.length_append, hfl]; omega), if_pos]
  rw [← hfl, List.take_left]
/-- No beginning of a frame is one. -/
theorem read_part {k : Nat} {b : List UInt8} (hb : b.length ≤ 1048576) {c : Nat} (hc : c < (frameL k b).length) : readF ((frameL k b).take c) = none := by
  have hfl := frameL_len k b
  unfold readF
  rw [if_pos]
  by_cases h9 : c < 9
  · exact .inl (by rw [List.length_take]; omega)
  · refine .inr (.inr ?_)
    have e : lenF ((frameL k b).take c) = b.length := by
      have h1 := lenF_frame (k := k) (more := []) hb
      rw [List.append_nil] at h1
      rw [← h1]
      unfold lenF
      have hg : ∀ i, i < 9 → ((frameL k b).take c).getD i 0 = (frameL k b).getD i 0 := fun i hi => by
        rw [List.getD_eq_getElem?_getD, List.getD_eq_getElem?_getD, List.getElem?_take, if_pos (by omega)]
      rw [hg 1 (by omega), hg 2 (by omega), hg 3 (by omega), hg 4 (by omega)]
    rw [e, List.length_take]
    omega

theorem cons_of {n : Nat} {bs : List UInt8} (h : n + 1 ≤ bs.length) : ∃ a r, bs = a :: r ∧ n ≤ r.length := by
  cases bs with
  | nil => simp at h
  | cons a r => exact ⟨a, r, rfl, by simpa using h⟩
theorem nine_of {bs : List UInt8} (h : 9 ≤ bs.length) : ∃ a b1 b2 b3 b4 s1 s2 s3 s4 r, bs = a :: b1 :: b2 :: b3 :: b4 :: s1 :: s2 :: s3 :: s4 :: r := by
  obtain ⟨a, l1, e1, h1⟩ := cons_of h
  obtain ⟨b1, l2, e2, h2⟩ := cons_of h1
  obtain ⟨b2, l3, e3, h3⟩ := cons_of h2
  obtain ⟨b3, l4, e4, h4⟩ := cons_of h3
  obtain ⟨b4, l5, e5, h5⟩ := cons_of h4
  obtain ⟨s1, l6, e6, h6⟩ := cons_of h5
  obtain ⟨s2, l7, e7, h7⟩ := cons_of h6
  obtain ⟨s3, l8, e8, h8⟩ := cons_of h7
  obtain ⟨s4, l9, e9, h9⟩ := cons_of h8
  exact ⟨a, b1, b2, b3, b4, s1, s2, s3, s4, l9, by rw [e1, e2, e3, e4, e5, e6, e7, e8, e9]⟩
theorem ite_iff {α : Type} {p q : Prop} [Decidable p] [Decidable q] (h : p ↔ q) (a b : α) : (if p then a else b) = if q then a else b := by
  by_cases hp : p
  · rw [if_pos hp, if_pos (h.1 hp)]
  · rw [if_neg hp, if_neg (fun hq => hp (h.2 hq))]
theorem frame_iff (a b1 b2 b3 b4 s1 s2 s3 s4 : UInt8) (r : List UInt8) (n : Nat) (hf : four n = [b1, b2, b3, b4]) (hr : (r.take n).length = n) :
    (frameL a.toNat (r.take n) = (a :: b1 :: b2 :: b3 :: b4 :: s1 :: s2 :: s3 :: s4 :: r).take (n + 9)) ↔ four (sumL ([a, b1, b2, b3, b4] ++ r.take n)) = [s1, s2, s3, s4] := by
  have hh : headL a.toNat n = [a, b1, b2, b3, b4] := by
    unfold headL
    rw [hf, UInt8.ofNat_toNat]
  have e2 : (a :: b1 :: b2 :: b3 :: b4 :: s1 :: s2 :: s3 :: s4 :: r).take (n + 9) = [a, b1, b2, b3, b4] ++ ([s1, s2, s3, s4] ++ r.take n) := rfl
  rw [e2]
  unfold frameL
  rw [hr, hh]
  constructor
  · intro h
    exact List.append_cancel_right (List.append_cancel_left h)
  · intro h
    rw [h]
/-- A read by the sum alone. -/
theorem readF_sum {bs : List UInt8} (h9 : 9 ≤ bs.length) (hl : lenF bs ≤ 1048576) (hb : lenF bs ≤ bs.length - 9) :
    readF bs = if four (sumL (bs.take 5 ++ (bs.drop 9).take (lenF bs))) = (bs.drop 5).take 4 then some ((bs.getD 0 0).toNat, (bs.drop 9).take (lenF bs), 9 + lenF bs) else none := by
  have hn : ((bs.drop 9).take (lenF bs)).length = lenF bs := by rw [List.length_take, List.length_drop]; omega
  obtain ⟨n, hN⟩ : ∃ n, lenF bs = n := ⟨_, rfl⟩
  have hf : four n = [bs.getD 1 0, bs.getD 2 0, bs.getD 3 0, bs.getD 4 0] := by
    rw [← hN]
    exact four_le4 _ _ _ _
  unfold readF
  rw [hN] at hl hb hn ⊢
  rw [if_neg (by omega)]
  clear hN
  obtain ⟨a, b1, b2, b3, b4, s1, s2, s3, s4, r, e⟩ := nine_of h9
  subst e
  refine ite_iff ?_ _ _
  rw [Nat.add_comm 9 n]
  exact frame_iff a b1 b2 b3 b4 s1 s2 s3 s4 r n hf hn

/-- No byte of a frame but its length may be another one. -/
theorem read_turned {k : Nat} {b : List UInt8} (hk : k < 256) (hb : b.length ≤ 1048576) {i : Nat} (hi : i < (frameL k b).length) (hi2 : i = 0 ∨ 5 ≤ i) {c : UInt8} (hc : c ≠ (frameL k b)[i]) : readF ((frameL k b).set i c) = none := by
  have hfl := frameL_len k b
  obtain ⟨s, hs, e⟩ := frameL_shape k b
  have hsl : s < 4294967296 := by rw [hs]; exact sumL_lt _
  have hn : lenF ((frameL k b).set i c) = b.length := by
    have h1 := lenF_frame (k := k) (more := []) hb
    rw [List.append_nil] at h1
    rw [← h1]
    unfold lenF
    have hg : ∀ j, i ≠ j → ((frameL k b).set i c).getD j 0 = (frameL k b).getD j 0 := fun j hj => by
      rw [List.getD_eq_getElem?_getD, List.getD_eq_getElem?_getD, List.getElem?_set_ne hj]
    rw [hg 1 (by omega), hg 2 (by omega), hg 3 (by omega), hg 4 (by omega)]
  rw [readF_sum (by rw [List.length_set]; omega) (by omega) (by rw [List.length_set]; omega), hn, if_neg]
  intro h
  have hd9 : ∀ l : List UInt8, l.length = b.length → l.take b.length = l := fun l hl => List.take_of_length_le (by omega)
  have hfour : (frameL k b).drop 5 = four s ++ b := by rw [e]; rfl
  have hhead : (frameL k b).take 5 = headL k b.length := by rw [e]; rfl
  have hbody : (frameL k b).drop 9 = b := by rw [e]; rfl
  rcases Nat.lt_or_ge i 9 with h9 | h9
  · rcases hi2 with rfl | h5
    · -- the kind
      have e1 : ((frameL k b).set 0 c).take 5 = (headL k b.length).set 0 c := by rw [← hhead, List.take_set]
      have e2 : ((frameL k b).set 0 c).drop 9 = b := by rw [List.drop_set_of_lt (by omega), hbody]
      have e3 : (((frameL k b).set 0 c).drop 5).take 4 = four s := by rw [List.drop_set_of_lt (by omega), hfour]; rfl
      rw [e1, e2, hd9 b rfl, e3] at h
      have h1 := four_inj (sumL_lt _) hsl h
      rw [hs] at h1
      have h2 : (headL k b.length).set 0 c ++ b = (headL k b.length ++ b).set 0 c := rfl
      rw [h2] at h1
      have h3 := sumL_set (headL k b.length ++ b) 0 (by rw [List.length_append, headL_len]; omega) c h1
      apply hc
      rw [h3]
      simp only [e]
      rfl
    · -- the sum
      have e1 : ((frameL k b).set i c).take 5 = headL k b.length := by rw [List.take_set, hhead, List.set_eq_of_length_le (by rw [headL_len]; omega)]
      have e2 : ((frameL k b).set i c).drop 9 = b := by rw [List.drop_set_of_lt (by omega), hbody]
      rw [e1, e2, hd9 b rfl, ← hs] at h
      have e3 : (((frameL k b).set i c).drop 5).take 4 = (four s).set (i - 5) c := by
        rw [List.drop_set, if_neg (by omega), hfour, List.take_set]
        rfl
      rw [e3] at h
      have h4 : (four s)[i - 5]'(by show i - 5 < 4; omega) = c := by
        have := congrArg (fun l => l[i - 5]?) h
        simp only [List.getElem?_set_self (show i - 5 < (four s).length by show i - 5 < 4; omega)] at this
        rw [List.getElem?_eq_getElem (show i - 5 < (four s).length by show i - 5 < 4; omega)] at this
        exact Option.some.inj this
      apply hc
      rw [← h4]
      have h5' : (frameL k b)[i]? = ((frameL k b).drop 5)[i - 5]? := by rw [List.getElem?_drop]; congr 1; omega
      rw [hfour, List.getElem?_append_left (by show i - 5 < 4; omega), List.getElem?_eq_getElem hi, List.getElem?_eq_getElem (by show i - 5 < 4; omega)] at h5'
      exact (Option.some.inj h5').symm
  · -- the bytes
    have e1 : ((frameL k b).set i c).take 5 = headL k b.length := by rw [List.take_set, hhead, List.set_eq_of_length_le (by rw [headL_len]; omega)]
    have e2 : ((frameL k b).set i c).drop 9 = b.set (i - 9) c := by rw [List.drop_set, if_neg (by omega), hbody]
    have e3 : (((frameL k b).set i c).drop 5).take 4 = four s := by
      rw [List.drop_set, if_neg (by omega), hfour, List.take_set, show (four s ++ b).take 4 = four s from rfl, List.set_eq_of_length_le (by show 4 ≤ i - 5; omega)]
    rw [e1, e2, hd9 _ (by rw [List.length_set]), e3] at h
    have h1 := four_inj (sumL_lt _) hsl h
    rw [hs] at h1
    have h2 : headL k b.length ++ b.set (i - 9) c = (headL k b.length ++ b).set (i - 9 + 5) c := by
      rw [List.set_append, if_neg (by rw [headL_len]; omega), headL_len, show i - 9 + 5 - 5 = i - 9 by omega]
    rw [h2] at h1
    have h3 := sumL_set (headL k b.length ++ b) (i - 9 + 5) (by rw [List.length_append, headL_len]; omega) c h1
    apply hc
    rw [h3]
    have h5' : (frameL k b)[i]? = ((frameL k b).drop 9)[i - 9]? := by rw [List.getElem?_drop]; congr 1; omega
    have h6 : (headL k b.length ++ b)[i - 9 + 5]? = b[i - 9]? := by
      rw [List.getElem?_append_right (by rw [headL_len]; omega), headL_len]
      congr 1
    rw [hbody] at h5'
    have h7 : (headL k b.length ++ b)[i - 9 + 5]? = (frameL k b)[i]? := by rw [h6, h5']
    rw [List.getElem?_eq_getElem (by rw [List.length_append, headL_len]; omega), List.getElem?_eq_getElem hi] at h7
    exact Option.some.inj h7
end Go.Proofs.YtjifcgphlidimaaDoor.G
