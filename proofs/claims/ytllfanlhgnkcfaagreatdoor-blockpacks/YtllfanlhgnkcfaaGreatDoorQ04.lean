/-
  Bplain, Vplain.
-/
import Derived.RowKit
namespace Go.Proofs.Lys
def natB (f : Nat → Bool) : Nat → Nat
 | 0 => 0
 | n + 1 => 2 ^ n * (f n).toNat + natB f n
theorem natB_lt (f : Nat → Bool) (n : Nat) : natB f n < 2 ^ n := by
 induction n with
 | zero => exact Nat.one_pos
 | succ n ih =>
  unfold natB
  rw [Nat.pow_succ]
  cases f n
  ·simp; omega
  ·simp; omega
theorem natB_bit (f : Nat → Bool) (n j : Nat) : (natB f n).testBit j = (decide (j < n) && f j) := by
 induction n with
 | zero => simp [natB]
 | succ n ih =>
  unfold natB
  rw [Nat.testBit_two_pow_mul_add _ (natB_lt f n), ih]
  by_cases h : j < n
  ·rw [if_pos h]
   simp [h, show j < n + 1 by omega]
  ·rw [if_neg h]
   by_cases e : j = n
   ·subst e
    cases f j <;> simp
   ·have h1 : ¬ j < n + 1 := by omega
    obtain ⟨m, hm⟩ : ∃ m, j - n = m + 1 := ⟨j - n - 1, by omega⟩
    rw [hm]
    cases f n <;> simp [h1, Nat.testBit_succ]
theorem getD_left (l c : List Bool) {i : Nat} (h : i < l.length) : (l ++ c).getD i false = l.getD i false := by
 rw [List.getD_eq_getElem?_getD, List.getD_eq_getElem?_getD, List.getElem?_append_left h]
theorem getD_right (l c : List Bool) {i : Nat} (h : l.length ≤ i) : (l ++ c).getD i false = c.getD (i - l.length) false := by
 rw [List.getD_eq_getElem?_getD, List.getD_eq_getElem?_getD, List.getElem?_append_right h]
def byteB (l : List Bool) (i : Nat) : Nat := natB (fun j => l.getD (8 * i + (7 - j)) false) 8
theorem byteB_lt (l : List Bool) (i : Nat) : byteB l i < 256 := natB_lt _ 8
theorem byteB_bit (l : List Bool) (i j : Nat) : (byteB l i).testBit j = (decide (j < 8) && l.getD (8 * i + (7 - j)) false) := natB_bit _ 8 j
theorem byteB_congr {l l' : List Bool} {i : Nat} (h : ∀ k, k < 8 → l.getD (8 * i + k) false = l'.getD (8 * i + k) false) : byteB l i = byteB l' i := by
 apply Nat.eq_of_testBit_eq
 intro j
 rw [byteB_bit, byteB_bit]
 by_cases hj : j < 8
 ·rw [h _ (by omega)]
 ·simp [hj]
theorem byteB_past {l : List Bool} {i : Nat} (h : l.length ≤ 8 * i) : byteB l i = 0 := by
 apply Nat.eq_of_testBit_eq
 intro j
 rw [byteB_bit, List.getD_eq_getElem?_getD, List.getElem?_eq_none (by omega)]
 simp
def packK (l : List Bool) (k : Nat) : List UInt8 := (List.range k).map (fun i => UInt8.ofNat (byteB l i))
def packL (l : List Bool) : List UInt8 := packK l ((l.length + 7) / 8)
theorem packK_length (l : List Bool) (k : Nat) : (packK l k).length = k := by simp [packK]
theorem packL_length (l : List Bool) : (packL l).length = (l.length + 7) / 8 := packK_length _ _
theorem packK_succ (l : List Bool) (k : Nat) : packK l (k + 1) = packK l k ++ [UInt8.ofNat (byteB l k)] := by simp [packK, List.range_succ]
theorem packK_congr {l l' : List Bool} {k : Nat} (h : ∀ i, i < 8 * k → l.getD i false = l'.getD i false) : packK l k = packK l' k := by
 unfold packK
 refine List.map_congr_left (fun i hi => ?_)
 have hi' : i < k := List.mem_range.1 hi
 rw [byteB_congr (fun j hj => h _ (by omega))]
theorem packK_append (l c : List Bool) {k : Nat} (h : 8 * k ≤ l.length) : packK (l ++ c) k = packK l k :=
 packK_congr (fun i hi => by rw [getD_left _ _ (by omega)])
theorem packK_set (l : List Bool) (k : Nat) (x : UInt8) : (packK l (k + 1)).set k x = packK l k ++ [x] := by
 rw [packK_succ, List.set_append_right _ _ (by rw [packK_length]; exact Nat.le_refl _), packK_length]
 simp
theorem packK_get (l : List Bool) {k i : Nat} (h : i < k) : (packK l k)[i]? = some (UInt8.ofNat (byteB l i)) := by
 unfold packK
 rw [List.getElem?_map, List.getElem?_range h]
 rfl
def bitsL (u n : Nat) : List Bool := (List.range n).map (fun i => u.testBit (n - 1 - i))
theorem bitsL_length (u n : Nat) : (bitsL u n).length = n := by simp [bitsL]
theorem bitsL_get (u : Nat) {n i : Nat} (h : i < n) : (bitsL u n)[i]? = some (u.testBit (n - 1 - i)) := by
 unfold bitsL
 rw [List.getElem?_map, List.getElem?_range h]
 rfl
theorem bitsL_add (u a b : Nat) : bitsL u (a + b) = bitsL (u >>> b) a ++ bitsL u b := by
 apply List.ext_getElem?
 intro i
 by_cases h : i < a
 ·rw [List.getElem?_append_left (by rw [bitsL_length]; exact h), bitsL_get _ h, bitsL_get _ (by omega), Nat.testBit_shiftRight]
  congr 2
  omega
 ·rw [List.getElem?_append_right (by rw [bitsL_length]; omega), bitsL_length]
  by_cases h2 : i < a + b
  ·rw [bitsL_get _ h2, bitsL_get _ (by omega)]
   congr 2
   omega
  ·rw [List.getElem?_eq_none (by rw [bitsL_length]; omega), List.getElem?_eq_none (by rw [bitsL_length]; omega)]
theorem bitsL_succ (u n : Nat) : bitsL u (n + 1) = u.testBit n :: bitsL u n := by
 rw [Nat.add_comm, bitsL_add]
 simp [bitsL]
theorem bitsL_zero (u : Nat) : bitsL u 0 = [] := rfl
def pieceN (u lo some_ at_ : Nat) : Nat := ((u / 2 ^ lo % 256) * 2 ^ (8 - some_)) % 256 / 2 ^ at_
theorem pieceN_bit (u lo some_ at_ j : Nat) : (pieceN u lo some_ at_).testBit j = (decide (j + at_ < 8) && decide (8 - some_ ≤ j + at_) && u.testBit (lo + (j + at_ - (8 - some_)))) := by
 unfold pieceN
 rw [← Nat.shiftRight_eq_div_pow, ← Nat.shiftRight_eq_div_pow, ← Nat.shiftLeft_eq, Nat.testBit_shiftRight, show (256 : Nat) = 2 ^ 8 from rfl, Nat.testBit_mod_two_pow, Nat.testBit_shiftLeft, Nat.testBit_mod_two_pow, Nat.testBit_shiftRight]
 rw [Nat.add_comm at_ j]
 by_cases h1 : j + at_ < 8
 ·by_cases h2 : 8 - some_ ≤ j + at_
  ·have h3 : j + at_ - (8 - some_) < 8 := by omega
   simp [h1, h2, h3]
  ·simp [h2]
 ·simp [h1]
theorem byteB_piece (l : List Bool) (u lo some_ k at_ : Nat) (hl : l.length = 8 * k + at_) (hat : at_ < 8) (hs : at_ + some_ ≤ 8) :
  byteB (l ++ bitsL (u >>> lo) some_) k = byteB l k ||| pieceN u lo some_ at_ := by
 apply Nat.eq_of_testBit_eq
 intro j
 rw [Nat.testBit_or, byteB_bit, byteB_bit, pieceN_bit]
 by_cases hj : j < 8
 ·simp only [hj, decide_true, Bool.true_and]
  by_cases h1 : 7 - j < at_
  ·rw [getD_left _ _ (by omega)]
   have : ¬ j + at_ < 8 := by omega
   simp [this]
  ·have e0 : l.getD (8 * k + (7 - j)) false = false := by
    rw [List.getD_eq_getElem?_getD, List.getElem?_eq_none (by omega)]
    rfl
   rw [e0, getD_right _ _ (by omega), hl]
   have h2 : j + at_ < 8 := by omega
   by_cases h3 : 7 - j - at_ < some_
   ·rw [List.getD_eq_getElem?_getD, bitsL_get _ (by omega)]
    have h4 : 8 - some_ ≤ j + at_ := by omega
    simp only [h2, h4, decide_true, Bool.true_and, Bool.false_or, Option.getD_some]
    rw [Nat.testBit_shiftRight]
    congr 1
    omega
   ·rw [List.getD_eq_getElem?_getD, List.getElem?_eq_none (by rw [bitsL_length]; omega)]
    have h4 : ¬ 8 - some_ ≤ j + at_ := by omega
    simp [h4]
 ·have : ¬ j + at_ < 8 := by omega
  simp [hj, this]
theorem pieceN_lt (u lo some_ at_ : Nat) : pieceN u lo some_ at_ < 256 := by
 unfold pieceN
 have : ((u / 2 ^ lo % 256) * 2 ^ (8 - some_)) % 256 < 256 := Nat.mod_lt _ (by decide)
 exact Nat.lt_of_le_of_lt (Nat.div_le_self _ _) this
theorem pack_step (l : List Bool) (u lo some_ at_ k : Nat) (hl : l.length = 8 * k + at_) (hat : at_ < 8) (hs : at_ + some_ ≤ 8) (h0 : 0 < some_) :
  packL (l ++ bitsL (u >>> lo) some_) = packK l k ++ [UInt8.ofNat (byteB l k ||| pieceN u lo some_ at_)] := by
 unfold packL
 rw [List.length_append, bitsL_length, show (l.length + some_ + 7) / 8 = k + 1 by omega, packK_succ, packK_append _ _ (by omega), byteB_piece l u lo some_ k at_ hl hat hs]
theorem packL_at (l : List Bool) (k at_ : Nat) (hl : l.length = 8 * k + at_) (h0 : 0 < at_) (hat : at_ < 8) : packL l = packK l (k + 1) := by
 unfold packL
 rw [show (l.length + 7) / 8 = k + 1 by omega]
theorem packL_whole (l : List Bool) (k : Nat) (hl : l.length = 8 * k) : packL l ++ [0] = packK l (k + 1) := by
 unfold packL
 rw [show (l.length + 7) / 8 = k by omega, packK_succ, byteB_past (by omega)]
 rfl
def unpackL (bs : List UInt8) : List Bool := bs.flatMap (fun b => bitsL b.toNat 8)
theorem unpackL_length (bs : List UInt8) : (unpackL bs).length = 8 * bs.length := by
 induction bs with
 | nil => rfl
 | cons b t ih =>
  show (bitsL b.toNat 8 ++ unpackL t).length = _
  rw [List.length_append, ih, bitsL_length, List.length_cons]
  omega
theorem unpackL_cons (b : UInt8) (t : List UInt8) : unpackL (b :: t) = bitsL b.toNat 8 ++ unpackL t := rfl
theorem unpackL_get (bs : List UInt8) {i : Nat} (h : i < 8 * bs.length) : (unpackL bs)[i]? = some ((bs.getD (i / 8) 0).toNat.testBit (7 - i % 8)) := by
 induction bs generalizing i with
 | nil => simp at h
 | cons b t ih =>
  rw [unpackL_cons]
  by_cases h8 : i < 8
  ·rw [List.getElem?_append_left (by rw [bitsL_length]; exact h8), bitsL_get _ h8, show i / 8 = 0 by omega, show i % 8 = i by omega]
   rfl
  ·rw [List.getElem?_append_right (by rw [bitsL_length]; omega), bitsL_length, ih (by simp at h; omega), show (i - 8) % 8 = i % 8 by omega]
   obtain ⟨m, hm⟩ : ∃ m, i / 8 = m + 1 := ⟨i / 8 - 1, by omega⟩
   rw [hm, show (i - 8) / 8 = m by omega]
   rfl
theorem unpack_pack (l : List Bool) : ∃ z, z < 8 ∧ unpackL (packL l) = l ++ List.replicate z false := by
 refine ⟨8 * ((l.length + 7) / 8) - l.length, by omega, ?_⟩
 apply List.ext_getElem?
 intro i
 by_cases h : i < 8 * ((l.length + 7) / 8)
 ·rw [unpackL_get _ (by rw [packL_length]; exact h)]
  have e : (packL l).getD (i / 8) 0 = UInt8.ofNat (byteB l (i / 8)) := by
   rw [List.getD_eq_getElem?_getD]
   unfold packL
   rw [packK_get _ (by omega)]
   rfl
  rw [e, UInt8.toNat_ofNat', Nat.mod_eq_of_lt (by have := byteB_lt l (i / 8); simpa using this), byteB_bit, show 8 * (i / 8) + (7 - (7 - i % 8)) = i by omega]
  have : 7 - i % 8 < 8 := by omega
  simp only [this, decide_true, Bool.true_and]
  by_cases hl : i < l.length
  ·rw [List.getElem?_append_left hl, List.getD_eq_getElem?_getD, List.getElem?_eq_getElem hl]
   rfl
  ·rw [List.getElem?_append_right (by omega), List.getElem?_replicate, if_pos (by omega), List.getD_eq_getElem?_getD, List.getElem?_eq_none (by omega)]
   rfl
 ·rw [List.getElem?_eq_none (by rw [unpackL_length, packL_length]; omega), List.getElem?_eq_none (by simp; omega)]
def valL (l : List Bool) : Nat := l.foldl (fun v b => 2 * v + b.toNat) 0
theorem valL_snoc (l : List Bool) (b : Bool) : valL (l ++ [b]) = 2 * valL l + b.toNat := by simp [valL]
theorem valL_nil : valL [] = 0 := rfl
theorem valL_append (l c : List Bool) : valL (l ++ c) = valL l * 2 ^ c.length + valL c := by
 induction hn : c.length generalizing c with
 | zero =>
  obtain rfl := List.length_eq_zero_iff.1 hn
  simp [valL_nil]
 | succ n ih =>
  obtain ⟨c', b, rfl⟩ : ∃ c' b, c = c' ++ [b] := by
   have hne : c ≠ [] := by intro e; simp [e] at hn
   exact ⟨_, _, (List.dropLast_concat_getLast hne).symm⟩
  rw [← List.append_assoc, valL_snoc, ih c' (by simpa using hn), valL_snoc, Nat.pow_succ]
  grind
theorem valL_lt (l : List Bool) : valL l < 2 ^ l.length := by
 induction hn : l.length generalizing l with
 | zero =>
  obtain rfl := List.length_eq_zero_iff.1 hn
  exact Nat.one_pos
 | succ n ih =>
  obtain ⟨c', b, rfl⟩ : ∃ c' b, l = c' ++ [b] := by
   have hne : l ≠ [] := by intro e; simp [e] at hn
   exact ⟨_, _, (List.dropLast_concat_getLast hne).symm⟩
  have := ih c' (by simpa using hn)
  rw [valL_snoc, Nat.pow_succ]
  cases b <;> simp <;> omega
theorem valL_bits (u n : Nat) : valL (bitsL u n) = u % 2 ^ n := by
 induction n generalizing u with
 | zero => rw [Nat.pow_zero, Nat.mod_one]; rfl
 | succ n ih =>
  rw [bitsL_add u n 1, valL_append, ih, bitsL_length]
  have e : valL (bitsL u 1) = u % 2 := by
   simp [bitsL, valL, Nat.testBit_zero, List.range_succ]
   rcases Nat.mod_two_eq_zero_or_one u with h | h <;> simp [h]
  rw [e, Nat.shiftRight_eq_div_pow, Nat.pow_one, Nat.pow_succ, Nat.mul_comm (2 ^ n) 2, Nat.mod_mul]
  omega
theorem val_piece (bs : List UInt8) (t some_ : Nat) (h : t < 8 * bs.length) (hs : t % 8 + some_ ≤ 8) :
  valL (((unpackL bs).drop t).take some_) = ((bs.getD (t / 8) 0).toNat * 2 ^ (t % 8)) % 256 / 2 ^ (8 - some_) := by
 have hlen := unpackL_length bs
 have e : ((unpackL bs).drop t).take some_ = bitsL ((bs.getD (t / 8) 0).toNat / 2 ^ (8 - (t % 8 + some_))) some_ := by
  apply List.ext_getElem?
  intro i
  by_cases hi : i < some_
  ·rw [List.getElem?_take, if_pos hi, List.getElem?_drop, unpackL_get _ (by omega), bitsL_get _ hi, ← Nat.shiftRight_eq_div_pow, Nat.testBit_shiftRight, show (t + i) / 8 = t / 8 by omega]
   congr 2
   omega
  ·rw [List.getElem?_take, if_neg hi, List.getElem?_eq_none (by rw [bitsL_length]; omega)]
 rw [e, valL_bits]
 have hb : (bs.getD (t / 8) 0).toNat < 256 := (bs.getD (t / 8) 0).toNat_lt
 generalize (bs.getD (t / 8) 0).toNat = b at hb ⊢
 generalize ha : t % 8 = a at hs ⊢
 apply Nat.eq_of_testBit_eq
 intro j
 rw [← Nat.shiftRight_eq_div_pow, ← Nat.shiftRight_eq_div_pow, ← Nat.shiftLeft_eq, show (256 : Nat) = 2 ^ 8 from rfl, Nat.testBit_mod_two_pow, Nat.testBit_shiftRight, Nat.testBit_shiftRight, Nat.testBit_mod_two_pow, Nat.testBit_shiftLeft]
 by_cases hj : j < some_
 ·have h1 : 8 - some_ + j < 8 := by omega
  have h2 : 8 - some_ + j ≥ a := by omega
  simp only [hj, h1, h2, decide_true, Bool.true_and]
  congr 1
  omega
 ·have h1 : ¬ 8 - some_ + j < 8 := by omega
  simp [hj, h1]
theorem byteB_take (l : List Bool) (i : Nat) (h : i < l.length) : byteB (l.take (i + 1)) (i / 8) = byteB (l.take i) (i / 8) ||| (if l[i] then 2 ^ (7 - i % 8) else 0) := by
 have e : l.take (i + 1) = l.take i ++ bitsL (l[i].toNat >>> 0) 1 := by
  rw [List.take_succ_eq_append_getElem h]
  cases l[i] <;> simp [bitsL]
 rw [e, byteB_piece (l.take i) l[i].toNat 0 1 (i / 8) (i % 8) (by rw [List.length_take]; omega) (by omega) (by omega)]
 congr 1
 apply Nat.eq_of_testBit_eq
 intro j
 rw [pieceN_bit]
 cases l[i]
 ·simp
 ·simp only [Bool.toNat_true, if_true, Nat.testBit_two_pow]
  have h1 : Nat.testBit 1 (0 + (j + i % 8 - (8 - 1))) = decide (j + i % 8 - 7 = 0) := by
   rw [Nat.zero_add, show (1 : Nat) = 2 ^ 0 from rfl, Nat.testBit_two_pow]
   simp [eq_comm]
  rw [h1, Bool.eq_iff_iff]
  simp
  omega
theorem byteB_take_other (l : List Bool) (i k : Nat) (h : k ≠ i / 8) : byteB (l.take (i + 1)) k = byteB (l.take i) k := by
 refine byteB_congr (fun j hj => ?_)
 rw [List.getD_eq_getElem?_getD, List.getD_eq_getElem?_getD, List.getElem?_take, List.getElem?_take]
 by_cases h1 : 8 * k + j < i
 ·rw [if_pos h1, if_pos (by omega)]
 ·rw [if_neg h1, if_neg (by omega)]
theorem packK_take (l : List Bool) (i n : Nat) (h : i < l.length) (hn : i / 8 < n) : packK (l.take (i + 1)) n = (packK (l.take i) n).set (i / 8) (UInt8.ofNat (byteB (l.take i) (i / 8) ||| (if l[i] then 2 ^ (7 - i % 8) else 0))) := by
 apply List.ext_getElem?
 intro k
 rw [List.getElem?_set, packK_length]
 by_cases hk : k < n
 ·rw [packK_get _ hk]
  by_cases e : i / 8 = k
  ·subst e
   rw [if_pos rfl, if_pos hk, byteB_take l i h]
  ·rw [if_neg e, packK_get _ hk, byteB_take_other l i k (fun e' => e e'.symm)]
 ·rw [List.getElem?_eq_none (by rw [packK_length]; omega)]
  by_cases e : i / 8 = k
  ·omega
  ·rw [if_neg e, List.getElem?_eq_none (by rw [packK_length]; omega)]
theorem packK_take_no (l : List Bool) (i n : Nat) (h : i < l.length) (hb : l[i] = false) : packK (l.take (i + 1)) n = packK (l.take i) n := by
 refine packK_congr (fun j _ => ?_)
 rw [List.getD_eq_getElem?_getD, List.getD_eq_getElem?_getD, List.getElem?_take, List.getElem?_take]
 by_cases h1 : j < i
 ·rw [if_pos h1, if_pos (by omega)]
 ·rw [if_neg h1]
  by_cases h2 : j = i
  ·subst h2
   rw [if_pos (by omega), List.getElem?_eq_getElem h, hb]
   rfl
  ·rw [if_neg (by omega)]
theorem packK_take_yes (l : List Bool) (i n q sh : Nat) (h : i < l.length) (hn : i / 8 < n) (hb : l[i] = true) (hq : i / 8 = q) (hs : 7 - i % 8 = sh) : packK (l.take (i + 1)) n = (packK (l.take i) n).set q (UInt8.ofNat (byteB (l.take i) q ||| 2 ^ sh)) := by
 subst hq
 subst hs
 rw [packK_take l i n h hn, hb]
 simp
theorem packK_none (k : Nat) : packK [] k = List.replicate k 0 := by
 apply List.ext_getElem?
 intro i
 by_cases h : i < k
 ·rw [packK_get _ h, List.getElem?_replicate, if_pos h, byteB_past (by simp)]
  rfl
 ·rw [List.getElem?_eq_none (by rw [packK_length]; omega), List.getElem?_eq_none (by simp; omega)]
end Go.Proofs.Lys
namespace Go.Proofs.Lys
open Go
def putF : Nat → Nat → List UInt8
 | 0, n => [UInt8.ofNat n]
 | f + 1, n => if n < 128 then [UInt8.ofNat n] else UInt8.ofNat (n % 128 + 128) :: putF f (n / 128)
theorem putF_any (f : Nat) : ∀ (g n : Nat), n ≤ f → n ≤ g → putF f n = putF g n := by
 induction f with
 | zero =>
  intro g n h _
  have : n = 0 := by omega
  subst this
  cases g <;> rfl
 | succ f ih =>
  intro g n h h'
  by_cases hn : n < 128
  ·cases g with
   | zero => simp only [putF, if_pos hn]
   | succ g => simp only [putF, if_pos hn]
  ·cases g with
   | zero => omega
   | succ g =>
    simp only [putF, if_neg hn]
    rw [ih g (n / 128) (by omega) (by omega)]
def putN (n : Nat) : List UInt8 := putF n n
theorem putN_eq (n : Nat) : putN n = if n < 128 then [UInt8.ofNat n] else UInt8.ofNat (n % 128 + 128) :: putN (n / 128) := by
 cases n with
 | zero => rfl
 | succ m =>
  unfold putN
  simp only [putF]
  by_cases hn : m + 1 < 128
  ·rw [if_pos hn, if_pos hn]
  ·rw [if_neg hn, if_neg hn, putF_any m ((m + 1) / 128) ((m + 1) / 128) (by omega) (Nat.le_refl _)]
theorem putN_small {n : Nat} (h : n < 128) : putN n = [UInt8.ofNat n] := by
 rw [putN_eq, if_pos h]
theorem putN_big {n : Nat} (h : 128 ≤ n) : putN n = UInt8.ofNat (n % 128 + 128) :: putN (n / 128) := by
 rw [putN_eq, if_neg (by omega)]
theorem putN_pos (n : Nat) : 0 < (putN n).length := by
 rw [putN_eq]
 split <;> simp
theorem putN_len : ∀ (k n : Nat), 0 < k → n < 128 ^ k → (putN n).length ≤ k := by
 intro k
 induction k with
 | zero => intro n h; omega
 | succ k ih =>
  intro n _ hn
  by_cases h : n < 128
  ·rw [putN_small h]
   simp
  ·rw [putN_big (by omega)]
   have hk : 0 < k := by
    rcases Nat.eq_zero_or_pos k with rfl | h0
    ·simp at hn
     omega
    ·exact h0
   have := ih (n / 128) hk (by
    rw [Nat.pow_succ] at hn
    exact Nat.div_lt_of_lt_mul (by rw [Nat.mul_comm]; exact hn))
   simp
   exact this
theorem putN_ten {n : Nat} (h : n < 18446744073709551616) : (putN n).length ≤ 10 := putN_len 10 n (by decide) (Nat.lt_trans h (by decide))
def getA : List UInt8 → Nat → Nat → Nat × Nat × Nat
 | [], _, _ => (0, 0, 5)
 | c :: t, i, n =>
  if 10 ≤ i ∨ (i = 9 ∧ 1 < c.toNat % 128) then (0, 0, 5)
  else if 128 ≤ c.toNat then getA t (i + 1) (n + c.toNat % 128 * 2 ^ (7 * i))
  else if c.toNat = 0 ∧ 0 < i then (0, 0, 5)
  else (n + c.toNat % 128 * 2 ^ (7 * i), i + 1, 0)
section
variable {c : UInt8} {t : List UInt8} {i n : Nat}
theorem getA_over (h : 10 ≤ i ∨ (i = 9 ∧ 1 < c.toNat % 128)) : getA (c :: t) i n = (0, 0, 5) := by
 rw [getA, if_pos h]
theorem getA_go (h : i ≤ 9) (h1 : i = 9 → c.toNat % 128 ≤ 1) (h2 : 128 ≤ c.toNat) : getA (c :: t) i n = getA t (i + 1) (n + c.toNat % 128 * 2 ^ (7 * i)) := by
 rw [getA, if_neg (by omega), if_pos h2]
theorem getA_nought (h : i ≤ 9) (h2 : c.toNat = 0) (h3 : 0 < i) : getA (c :: t) i n = (0, 0, 5) := by
 rw [getA, if_neg (by omega), if_neg (by omega), if_pos ⟨h2, h3⟩]
theorem getA_last (h : i ≤ 9) (h1 : i = 9 → c.toNat % 128 ≤ 1) (h2 : c.toNat < 128) (h3 : c.toNat = 0 → i = 0) : getA (c :: t) i n = (n + c.toNat % 128 * 2 ^ (7 * i), i + 1, 0) := by
 rw [getA, if_neg (by omega), if_neg (by omega), if_neg (by omega)]
end
theorem pow_ten {i : Nat} (h : 10 ≤ i) : 1180591620717411303424 ≤ 2 ^ (7 * i) := by
 have : (2 : Nat) ^ 70 ≤ 2 ^ (7 * i) := Nat.pow_le_pow_right (by decide) (by omega)
 exact Nat.le_trans (by decide) this
theorem pow_step (i : Nat) : 2 ^ (7 * (i + 1)) = 128 * 2 ^ (7 * i) := by
 rw [show 7 * (i + 1) = 7 + 7 * i by omega, Nat.pow_add]
theorem get_put (u : Nat) : ∀ i acc more, acc + u * 2 ^ (7 * i) < 18446744073709551616 → (i = 0 ∨ 0 < u) → getA (putN u ++ more) i acc = (acc + u * 2 ^ (7 * i), i + (putN u).length, 0) := by
 induction u using Nat.strongRecOn with
 | _ u ih =>
  intro i acc more hb h0
  have hi : i ≤ 9 := by
   rcases h0 with rfl | h0
   ·omega
   ·by_cases h : 10 ≤ i
    ·have h1 := pow_ten h
     have h2 : 1 * 2 ^ (7 * i) ≤ u * 2 ^ (7 * i) := Nat.mul_le_mul_right _ h0
     omega
    ·omega
  have h9 : i = 9 → u ≤ 1 := by
   rintro rfl
   rw [show (2 : Nat) ^ (7 * 9) = 9223372036854775808 by decide] at hb
   omega
  by_cases h : u < 128
  ·have e : (UInt8.ofNat u).toNat = u := by rw [UInt8.toNat_ofNat']; omega
   rw [putN_small h, List.cons_append, getA_last hi (by rw [e]; omega) (by rw [e]; omega) (by rw [e]; omega), e, Nat.mod_eq_of_lt h]
   rfl
  ·have e : (UInt8.ofNat (u % 128 + 128)).toNat = u % 128 + 128 := by rw [UInt8.toNat_ofNat']; omega
   have e2 : (u % 128 + 128) % 128 = u % 128 := by omega
   have e3 : acc + u % 128 * 2 ^ (7 * i) + u / 128 * 2 ^ (7 * (i + 1)) = acc + u * 2 ^ (7 * i) := by
    rw [pow_step, ← Nat.mul_assoc, Nat.add_assoc, ← Nat.add_mul, Nat.mod_add_div' u 128]
   rw [putN_big (by omega), List.cons_append, getA_go hi (by omega) (by rw [e]; omega), e, e2, ih (u / 128) (by omega) (i + 1) _ more (by rw [e3]; exact hb) (.inr (by omega)), e3, List.length_cons]
   congr 2
   omega
theorem get_put0 {u : Nat} (h : u < 18446744073709551616) (more : List UInt8) : getA (putN u ++ more) 0 0 = (u, (putN u).length, 0) := by
 have := get_put u 0 0 more (by simpa using h) (.inl rfl)
 simpa using this
theorem or_piece (n p i : Nat) (h : n < 2 ^ (7 * i)) : n ||| p * 2 ^ (7 * i) = n + p * 2 ^ (7 * i) := by
 rw [Nat.or_comm, Nat.mul_comm, ← Nat.two_pow_add_eq_or_of_lt h, Nat.add_comm]
theorem piece_lt {n p i : Nat} (h : n < 2 ^ (7 * i)) (hp : p < 128) : n + p * 2 ^ (7 * i) < 2 ^ (7 * (i + 1)) := by
 rw [pow_step]
 have : p * 2 ^ (7 * i) ≤ 127 * 2 ^ (7 * i) := Nat.mul_le_mul_right _ (by omega)
 omega
theorem piece_word {n p i : Nat} (h : n < 2 ^ (7 * i)) (hp : p < 128) (hi : i ≤ 9) (h9 : i = 9 → p ≤ 1) : n + p * 2 ^ (7 * i) < 18446744073709551616 := by
 by_cases e : i = 9
 ·subst e
  have := h9 rfl
  rw [show (2 : Nat) ^ (7 * 9) = 9223372036854775808 by decide] at h ⊢
  omega
 ·have h1 := piece_lt h hp
  have h2 : (2 : Nat) ^ (7 * (i + 1)) ≤ 2 ^ 63 := Nat.pow_le_pow_right (by decide) (by omega)
  have h3 : (2 : Nat) ^ 63 = 9223372036854775808 := by decide
  omega
end Go.Proofs.Lys
