/-
  Numbers as the bits that change. No program is named here.
-/
import Derived.Test.YtpajpnjkgojafaaBref
import Derived.Test.YtpajpnjkgojafaaBplain
namespace Go.Proofs.Ytpajpnjkgojafaa.V
open Go.RowKit Go.Proofs.Lys
set_option linter.unusedVariables false

/-- How many of the highest bits are 0, 31 at most; how many of the lowest. -/
def leadA (x : Nat) : Nat → Nat
  | 0 => 31
  | f + 1 => if x.testBit (33 + f) then 30 - f else leadA x f
def trailA (x : Nat) : Nat → Nat
  | 0 => 64
  | f + 1 => if x.testBit (63 - f) then 63 - f else trailA x f
def lead (x : Nat) : Nat := leadA x 31
def trail (x : Nat) : Nat := trailA x 64

theorem leadA_le (x f : Nat) : leadA x f ≤ 31 := by
  induction f with
  | zero => exact Nat.le_refl _
  | succ f ih =>
    unfold leadA
    split
    · omega
    · exact ih
theorem leadA_high (x f : Nat) (hf : f ≤ 31) : ∀ j, 64 - leadA x f ≤ j → j < 33 + f → x.testBit j = false := by
  induction f with
  | zero =>
    intro j h1 h2
    unfold leadA at h1
    omega
  | succ f ih =>
    intro j h1 h2
    unfold leadA at h1
    by_cases hb : x.testBit (33 + f) = true
    · rw [if_pos hb] at h1
      omega
    · rw [if_neg hb] at h1
      by_cases e : j = 33 + f
      · subst e
        simpa using hb
      · exact ih (by omega) j h1 (by omega)
theorem lead_le (x : Nat) : lead x ≤ 31 := leadA_le x 31
theorem lead_high {x : Nat} (hx : x < 18446744073709551616) {j : Nat} (hj : 64 - lead x ≤ j) : x.testBit j = false := by
  by_cases h : j < 64
  · exact leadA_high x 31 (Nat.le_refl _) j hj (by omega)
  · refine Nat.testBit_lt_two_pow (Nat.lt_of_lt_of_le hx ?_)
    rw [show (18446744073709551616 : Nat) = 2 ^ 64 by decide]
    exact Nat.pow_le_pow_right (by decide) (by omega)
theorem lead_lt {x z : Nat} (hx : x < 18446744073709551616) (hz : z ≤ lead x) : x < 2 ^ (64 - z) :=
  Nat.lt_pow_two_of_testBit x (fun i hi => lead_high hx (by omega))
theorem trailA_low (x f : Nat) (hf : f ≤ 64) : ∀ j, 64 - f ≤ j → j < trailA x f → x.testBit j = false := by
  induction f with
  | zero =>
    intro j h1 h2
    unfold trailA at h2
    omega
  | succ f ih =>
    intro j h1 h2
    unfold trailA at h2
    by_cases hb : x.testBit (63 - f) = true
    · rw [if_pos hb] at h2
      omega
    · rw [if_neg hb] at h2
      by_cases e : j = 63 - f
      · subst e
        simpa using hb
      · exact ih (by omega) j (by omega) h2
theorem trailA_bit (x f : Nat) : trailA x f < 64 → x.testBit (trailA x f) = true := by
  induction f with
  | zero =>
    intro h
    unfold trailA at h
    omega
  | succ f ih =>
    unfold trailA
    by_cases hb : x.testBit (63 - f) = true
    · rw [if_pos hb]
      exact fun _ => hb
    · rw [if_neg hb]
      exact ih
theorem trail_low (x : Nat) {j : Nat} (h : j < trail x) : x.testBit j = false := trailA_low x 64 (Nat.le_refl _) j (by omega) h
theorem trail_lt {x : Nat} (hx : x < 18446744073709551616) (h0 : x ≠ 0) : trail x < 64 := by
  refine Nat.lt_of_not_le (fun h => h0 (Nat.eq_of_testBit_eq (fun j => ?_)))
  rw [Nat.zero_testBit]
  by_cases hj : j < 64
  · exact trail_low x (by omega)
  · exact lead_high hx (by omega)
theorem both_lt {x : Nat} (hx : x < 18446744073709551616) (h0 : x ≠ 0) : lead x + trail x < 64 := by
  have h1 := trail_lt hx h0
  have h2 : x.testBit (trail x) = true := trailA_bit x 64 h1
  have h3 := lead_le x
  refine Nat.lt_of_not_le (fun h => ?_)
  rw [lead_high hx (by omega)] at h2
  cases h2

/-- What is within a window comes back. -/
theorem shift_lt {x z t : Nat} (hx : x < 18446744073709551616) (hz : z ≤ lead x) (hzt : z + t < 64) : x >>> t < 2 ^ (64 - z - t) := by
  rw [Nat.shiftRight_eq_div_pow]
  refine Nat.div_lt_of_lt_mul ?_
  rw [← Nat.pow_add, show t + (64 - z - t) = 64 - z by omega]
  exact lead_lt hx hz
theorem shift_back {x t : Nat} (ht : t ≤ trail x) : (x >>> t) <<< t = x := by
  apply Nat.eq_of_testBit_eq
  intro j
  rw [Nat.testBit_shiftLeft]
  by_cases h : t ≤ j
  · simp only [h, decide_true, Bool.true_and]
    rw [Nat.testBit_shiftRight]
    congr 1
    omega
  · simp only [h, decide_false, Bool.false_and]
    exact (trail_low x (by omega)).symm

/-- The window of the last number that was written with its own. -/
structure Win where
  o : Bool
  z : Nat
  t : Nat
def W0 : Win := ⟨false, 0, 0⟩
abbrev Win.fit (W : Win) (x : Nat) : Prop := W.o = true ∧ W.z ≤ lead x ∧ W.t ≤ trail x
structure Win.wf (W : Win) : Prop where
  z : W.z ≤ 31
  zt : W.z + W.t < 64
  no : W.o = false → W.z = 0 ∧ W.t = 0
theorem W0_wf : W0.wf := ⟨by decide, by decide, fun _ => ⟨rfl, rfl⟩⟩
def Win.next (W : Win) (x : Nat) : Win := if x = 0 then W else if W.fit x then W else ⟨true, lead x, trail x⟩
theorem Win.wf.next {W : Win} (h : W.wf) {x : Nat} (hx : x < 18446744073709551616) : (W.next x).wf := by
  unfold Win.next
  split
  · exact h
  · rename_i h0
    split
    · exact h
    · exact ⟨lead_le x, both_lt hx h0, fun h => by cases h⟩
def bodyB (z t x : Nat) : List Bool := bitsL (x >>> t) (64 - z - t)
def encX (W : Win) (x : Nat) : List Bool :=
  if x = 0 then bitsL 0 1 else if W.fit x then bitsL 2 2 ++ bodyB W.z W.t x
  else ((bitsL 3 2 ++ bitsL (lead x) 5) ++ bitsL (63 - lead x - trail x) 6) ++ bodyB (lead x) (trail x) x
theorem encX_length (W : Win) (x : Nat) : (encX W x).length ≤ 77 := by
  unfold encX bodyB
  split
  · simp [bitsL_length]
  · split
    · simp only [List.length_append, bitsL_length]
      omega
    · simp only [List.length_append, bitsL_length]
      omega
theorem encX_some (W : Win) (x : Nat) : 1 ≤ (encX W x).length := by
  unfold encX
  split
  · simp [bitsL_length]
  · split
    · simp only [List.length_append, bitsL_length]
      omega
    · simp only [List.length_append, bitsL_length]
      omega

/-- What has changed from one number to the next. -/
def xr (p v : Int) : Nat := uN v ^^^ uN p
theorem xr_lt (p v : Int) : xr p v < 18446744073709551616 := Nat.xor_lt_two_pow (n := 64) (uN_lt v) (uN_lt p)
theorem xr_back (p v : Int) : uN p ^^^ xr p v = uN v := by
  unfold xr
  rw [Nat.xor_comm (uN v), ← Nat.xor_assoc, Nat.xor_self, Nat.zero_xor]
def encT : Int → Win → List Int → List Bool
  | _, _, [] => []
  | p, W, v :: r => encX W (xr p v) ++ encT v (W.next (xr p v)) r
theorem encT_length (r : List Int) : ∀ p W, (encT p W r).length ≤ 77 * r.length := by
  induction r with
  | nil => intro p W; simp [encT]
  | cons v r ih =>
    intro p W
    simp only [encT, List.length_append, List.length_cons]
    have := ih v (W.next (xr p v))
    have := encX_length W (xr p v)
    omega
def allB : List Int → List Bool
  | [] => []
  | v :: r => bitsL (uN v) 64 ++ encT v W0 r
theorem allB_length (l : List Int) : (allB l).length ≤ 77 * l.length := by
  cases l with
  | nil => simp [allB]
  | cons t r =>
    simp only [allB, List.length_append, bitsL_length, List.length_cons]
    have := encT_length r t W0
    omega

/-- The next bits as a number, and what is left. -/
def getN (l : List Bool) (N : Nat) : Option (Nat × List Bool) := if N ≤ l.length then some (valL (l.take N), l.drop N) else none
def bodyR (z t : Nat) (l : List Bool) : Option ((Nat × Nat × Nat) × List Bool) := (getN l (64 - z - t)).map fun y => (((y.1 <<< t) % 18446744073709551616, z, t), y.2)
def newR (l : List Bool) : Option ((Nat × Nat × Nat) × List Bool) :=
  (getN l 5).bind fun a => (getN a.2 6).bind fun m => if 63 < a.1 + m.1 then none else bodyR a.1 (63 - a.1 - m.1) m.2
def chgR (z t : Nat) : List Bool → Option ((Nat × Nat × Nat) × List Bool)
  | [] => none
  | false :: l => some ((0, z, t), l)
  | [true] => none
  | true :: false :: l => bodyR z t l
  | true :: true :: l => newR l
/-- So many numbers of bits: the number ahead, the window, the numbers that are read. -/
def readT : Nat → List Bool → Nat → Nat → Nat → List Int → Option (List Int)
  | 0, _, _, _, _, acc => some acc
  | n + 1, l, p, z, t, acc =>
    if acc = [] then (getN l 64).bind fun x => readT n x.2 x.1 z t (acc ++ [wrap64 (x.1 : Int)])
    else (chgR z t l).bind fun x => readT n x.2 (p ^^^ x.1.1) x.1.2.1 x.1.2.2 (acc ++ [wrap64 ((p ^^^ x.1.1 : Nat) : Int)])

theorem getN_bits (u : Nat) (n : Nat) (R : List Bool) : getN (bitsL u n ++ R) n = some (u % 2 ^ n, R) := by
  unfold getN
  have e : (bitsL u n ++ R).take n = bitsL u n := by
    rw [List.take_append_of_le_length (by rw [bitsL_length]; exact Nat.le_refl _)]
    exact List.take_of_length_le (by rw [bitsL_length]; exact Nat.le_refl _)
  have e2 : (bitsL u n ++ R).drop n = R := by
    rw [List.drop_append_of_le_length (by rw [bitsL_length]; exact Nat.le_refl _), List.drop_eq_nil_of_le (by rw [bitsL_length]; exact Nat.le_refl _)]
    rfl
  rw [if_pos (by rw [List.length_append, bitsL_length]; omega), e, e2, valL_bits]
theorem wrap_uN (x : Int) (h0 : -9223372036854775808 ≤ x) (h1 : x ≤ 9223372036854775807) : wrap64 ((uN x : Nat) : Int) = x := by
  unfold uN wrap64
  omega
theorem uN_nat {n : Nat} (h : n < 18446744073709551616) : uN (n : Int) = n := by
  unfold uN
  omega
theorem uN_wrap64 {n : Nat} (h : n < 18446744073709551616) : uN (wrap64 (n : Int)) = n := by
  unfold uN wrap64
  omega
theorem body_back {z t x : Nat} (hx : x < 18446744073709551616) (hz : z ≤ lead x) (ht : t ≤ trail x) (hzt : z + t < 64) (R : List Bool) : bodyR z t (bodyB z t x ++ R) = some ((x, z, t), R) := by
  unfold bodyR bodyB
  rw [getN_bits, Nat.mod_eq_of_lt (shift_lt hx hz hzt)]
  simp only [Option.map_some]
  rw [shift_back ht, Nat.mod_eq_of_lt hx]
theorem chgR_enc {W : Win} (hW : W.wf) {x : Nat} (hx : x < 18446744073709551616) (R : List Bool) : chgR W.z W.t (encX W x ++ R) = some ((x, (W.next x).z, (W.next x).t), R) := by
  unfold encX Win.next
  by_cases h0 : x = 0
  · subst h0
    rw [if_pos rfl, if_pos rfl, show bitsL 0 1 = [false] by decide]
    rfl
  · rw [if_neg h0, if_neg h0]
    by_cases hf : W.fit x
    · rw [if_pos hf, if_pos hf, show bitsL 2 2 = [true, false] by decide]
      exact body_back hx hf.2.1 hf.2.2 hW.zt R
    · rw [if_neg hf, if_neg hf, show bitsL 3 2 = [true, true] by decide]
      have h1 := lead_le x
      have h2 := both_lt hx h0
      show newR (((bitsL (lead x) 5 ++ bitsL (63 - lead x - trail x) 6) ++ bodyB (lead x) (trail x) x) ++ R) = _
      unfold newR
      rw [List.append_assoc, List.append_assoc, getN_bits, Nat.mod_eq_of_lt (show lead x < 2 ^ 5 by omega)]
      simp only [Option.bind_some]
      rw [getN_bits, Nat.mod_eq_of_lt (show 63 - lead x - trail x < 2 ^ 6 by omega)]
      simp only [Option.bind_some]
      rw [if_neg (by omega), show 63 - lead x - (63 - lead x - trail x) = trail x by omega]
      exact body_back hx (Nat.le_refl _) (Nat.le_refl _) h2 R

/-- What was told is read again. -/
def In64 (l : List Int) : Prop := ∀ v ∈ l, -9223372036854775808 ≤ v ∧ v ≤ 9223372036854775807
theorem readT_enc (r : List Int) : ∀ (p : Int) (W : Win) (Z : List Bool) (acc : List Int), acc ≠ [] → W.wf → In64 r → readT r.length (encT p W r ++ Z) (uN p) W.z W.t acc = some (acc ++ r) := by
  induction r with
  | nil => intro p W Z acc _ _ _; simp [readT]
  | cons v r ih =>
    intro p W Z acc ha hW hr
    have hv := hr v (List.mem_cons_self ..)
    simp only [readT, encT, List.length_cons, List.append_assoc]
    rw [if_neg ha, chgR_enc hW (xr_lt p v)]
    simp only [Option.bind_some, xr_back]
    rw [wrap_uN v hv.1 hv.2, ih v (W.next (xr p v)) Z (acc ++ [v]) (by simp) (hW.next (xr_lt p v)) (fun u hu => hr u (List.mem_cons_of_mem _ hu))]
    simp
theorem readT_all {l : List Int} (h : In64 l) (Z : List Bool) : readT l.length (allB l ++ Z) 0 0 0 [] = some l := by
  cases l with
  | nil => simp [readT]
  | cons v r =>
    have hv := h v (List.mem_cons_self ..)
    simp only [readT, allB, List.length_cons, List.append_assoc]
    rw [if_pos trivial, getN_bits, Nat.mod_eq_of_lt (show uN v < 2 ^ 64 from uN_lt v)]
    simp only [Option.bind_some, List.nil_append]
    rw [wrap_uN v hv.1 hv.2]
    exact readT_enc r v W0 Z [v] (by simp) W0_wf (fun u hu => h u (List.mem_cons_of_mem _ hu))

/-- What the bytes of numbers are, and what bytes are as numbers. -/
def Packs (l : List Int) (bs : List UInt8) (x : Int) : Prop :=
  (120 < l.length ∧ bs = [] ∧ x = 2) ∨ (l.length ≤ 120 ∧ bs = packL (allB l) ∧ x = 0)
def Reads (bs : List UInt8) (n : Int) (l : List Int) (x : Int) : Prop :=
  (120 < n ∧ l = [] ∧ x = 2) ∨ (n < 0 ∧ l = [] ∧ x = 1) ∨
  (0 ≤ n ∧ n ≤ 120 ∧ ((readT n.toNat (unpackL bs) 0 0 0 [] = none ∧ l = [] ∧ x = 5) ∨
    ∃ m, readT n.toNat (unpackL bs) 0 0 0 [] = some m ∧ ((¬ Packs m bs 0 ∧ l = [] ∧ x = 5) ∨ (Packs m bs 0 ∧ l = m ∧ x = 0))))
theorem Packs.inj {l : List Int} {bs bs' : List UInt8} {x x' : Int} (h : Packs l bs x) (h' : Packs l bs' x') : bs = bs' ∧ x = x' := by
  rcases h with ⟨h1, h2, h3⟩ | ⟨h1, h2, h3⟩ <;> rcases h' with ⟨k1, k2, k3⟩ | ⟨k1, k2, k3⟩ <;> first | omega | (subst h2; subst k2; subst h3; subst k3; exact ⟨rfl, rfl⟩)
theorem Reads.inj {bs : List UInt8} {n : Int} {l l' : List Int} {x x' : Int} (h : Reads bs n l x) (h' : Reads bs n l' x') : l = l' ∧ x = x' := by
  rcases h with ⟨h1, h2, h3⟩ | ⟨h1, h2, h3⟩ | ⟨h0, h1, ⟨h4, h2, h3⟩ | ⟨m, hm, ⟨h4, h2, h3⟩ | ⟨h4, h2, h3⟩⟩⟩ <;>
    rcases h' with ⟨k1, k2, k3⟩ | ⟨k1, k2, k3⟩ | ⟨k0, k1, ⟨k4, k2, k3⟩ | ⟨m', km, ⟨k4, k2, k3⟩ | ⟨k4, k2, k3⟩⟩⟩ <;>
    first
    | omega
    | (subst h2; subst k2; subst h3; subst k3; exact ⟨rfl, rfl⟩)
    | (rw [h4] at km; cases km)
    | (rw [k4] at hm; cases hm)
    | (rw [hm] at km; cases km; first | exact absurd h4 k4 | exact absurd k4 h4 | (subst h2; subst k2; subst h3; subst k3; exact ⟨rfl, rfl⟩))
theorem reads_packs {l : List Int} {bs : List UInt8} (h : Packs l bs 0) (hl : In64 l) : Reads bs (l.length : Int) l 0 := by
  have h' := h
  rcases h with ⟨h1, h2, h3⟩ | ⟨h0, h2, h3⟩
  · omega
  · obtain ⟨z, hz, e⟩ := unpack_pack (allB l)
    refine .inr (.inr ⟨by omega, by omega, .inr ⟨l, ?_, .inr ⟨h', rfl, rfl⟩⟩⟩)
    rw [h2, e]
    exact readT_all hl _
theorem Packs.small {l : List Int} {bs : List UInt8} {x : Int} (h : Packs l bs x) : bs.length ≤ 2000 := by
  rcases h with ⟨_, h, _⟩ | ⟨h0, h, _⟩
  · simp [h]
  · rw [h, packL_length]
    have := allB_length l
    omega
theorem Reads.small {bs : List UInt8} {n : Int} {l : List Int} {x : Int} (h : Reads bs n l x) : l.length ≤ 1000 := by
  rcases h with ⟨_, h, _⟩ | ⟨_, h, _⟩ | ⟨_, _, ⟨_, h, _⟩ | ⟨m, _, ⟨_, h, _⟩ | ⟨hp, h, _⟩⟩⟩
  · simp [h]
  · simp [h]
  · simp [h]
  · simp [h]
  · subst h
    rcases hp with ⟨_, _, h⟩ | ⟨h, _⟩
    · cases h
    · omega
end Go.Proofs.Ytpajpnjkgojafaa.V
