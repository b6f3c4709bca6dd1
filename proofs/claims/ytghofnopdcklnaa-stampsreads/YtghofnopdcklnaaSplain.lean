/-
  Rising times as bits: what is told of each is how its distance has changed. No program is named here.
-/
import Derived.Test.YtghofnopdcklnaaBref
import Derived.Test.YtghofnopdcklnaaBplain
namespace Go.Proofs.Ytghofnopdcklnaa
open Go.RowKit Go.Proofs.Lys
set_option linter.unusedVariables false

/-- The bits of a change of each width, and what is added to it. -/
def wb : Nat → Nat
  | 0 => 0
  | 1 => 7
  | 2 => 9
  | 3 => 12
  | _ => 64
def ws : Nat → Int
  | 0 => 0
  | 1 => 63
  | 2 => 255
  | 3 => 2047
  | _ => 0
def mkB (k : Nat) : List Bool := List.replicate k true ++ (if k < 4 then [false] else [])
def wk (e : Int) : Nat := if e = 0 then 0 else if -63 ≤ e ∧ e ≤ 64 then 1 else if -255 ≤ e ∧ e ≤ 256 then 2 else if -2047 ≤ e ∧ e ≤ 2048 then 3 else 4
theorem wk_le (e : Int) : wk e ≤ 4 := by
  unfold wk
  repeat' split
  all_goals omega
def encE (e : Int) : List Bool := mkB (wk e) ++ bitsL (uN (e + ws (wk e))) (wb (wk e))
theorem encE_length (e : Int) : (encE e).length ≤ 68 := by
  unfold encE wk
  repeat' split
  all_goals simp [mkB, wb, bitsL_length]

/-- The bits of times behind one, with the distance ahead of it. -/
def encT : Int → Int → List Int → List Bool
  | _, _, [] => []
  | p, g, t :: r => encE (t - p - g) ++ encT t (t - p) r
theorem encT_length (r : List Int) : ∀ p g, (encT p g r).length ≤ 68 * r.length := by
  induction r with
  | nil => intro p g; simp [encT]
  | cons t r ih =>
    intro p g
    simp only [encT, List.length_append, List.length_cons]
    have := ih t (t - p)
    have := encE_length (t - p - g)
    omega
/-- The bits of times. -/
def allB : List Int → List Bool
  | [] => []
  | t :: r => bitsL (uN t) 64 ++ encT t 0 r
theorem allB_length (l : List Int) : (allB l).length ≤ 68 * l.length := by
  cases l with
  | nil => simp [allB]
  | cons t r =>
    simp only [allB, List.length_append, bitsL_length, List.length_cons]
    have := encT_length r t 0
    omega

/-- Times that are in their bounds, each above the one ahead. -/
def Rising (l : List Int) : Prop := ∀ i (h : i < l.length), -9007199254740992 ≤ l[i] ∧ l[i] ≤ 9007199254740992 ∧ (0 < i → l[i - 1] < l[i])
theorem Rising.at {l : List Int} (h : Rising l) {i : Nat} (hi : i < l.length) : -9007199254740992 ≤ l[i] ∧ l[i] ≤ 9007199254740992 := ⟨(h i hi).1, (h i hi).2.1⟩
def rise : Int → List Int → Prop
  | _, [] => True
  | p, t :: r => p < t ∧ t ≤ 9007199254740992 ∧ rise t r
theorem rise_of {l : List Int} (h : Rising l) : ∀ k i (hi : i < l.length), l.length = i + 1 + k → rise l[i] (l.drop (i + 1)) := by
  intro k
  induction k with
  | zero =>
    intro i hi e
    rw [List.drop_eq_nil_of_le (by omega)]
    trivial
  | succ k ih =>
    intro i hi e
    have hj : i + 1 < l.length := by omega
    rw [List.drop_eq_getElem_cons hj]
    have := h (i + 1) hj
    exact ⟨by simpa using this.2.2 (by omega), this.2.1, ih (i + 1) hj (by omega)⟩

/-- The next bits as a number, and what is left. -/
def getR (l : List Bool) (N : Nat) : Option (Int × List Bool) := if N ≤ l.length then some (wrap64 ((valL (l.take N) : Nat) : Int), l.drop N) else none
/-- How many ones there are, up to so many; a nought behind them is taken, too. -/
def onesR : Nat → List Bool → Option (Nat × List Bool)
  | 0, l => some (0, l)
  | _ + 1, [] => none
  | _ + 1, false :: l => some (0, l)
  | f + 1, true :: l => (onesR f l).map (fun x => (x.1 + 1, x.2))
def chgR (l : List Bool) : Option (Int × List Bool) := (onesR 4 l).bind fun x => (getR x.2 (wb x.1)).map fun y => (wrap64 (y.1 - ws x.1), y.2)
/-- So many times of bits: the distance and the time ahead, the times that are read. -/
def readT : Nat → List Bool → Int → Int → List Int → Option (List Int)
  | 0, _, _, _, acc => some acc
  | n + 1, l, g, p, acc =>
    if acc = [] then (getR l 64).bind fun x => readT n x.2 g x.1 (acc ++ [x.1])
    else (chgR l).bind fun x => readT n x.2 (wrap64 (g + x.1)) (wrap64 (p + wrap64 (g + x.1))) (acc ++ [wrap64 (p + wrap64 (g + x.1))])

theorem getR_bits (u : Nat) (n : Nat) (R : List Bool) : getR (bitsL u n ++ R) n = some (wrap64 ((u % 2 ^ n : Nat) : Int), R) := by
  unfold getR
  have e : (bitsL u n ++ R).take n = bitsL u n := by
    rw [List.take_append_of_le_length (by rw [bitsL_length]; exact Nat.le_refl _)]
    exact List.take_of_length_le (by rw [bitsL_length]; exact Nat.le_refl _)
  have e2 : (bitsL u n ++ R).drop n = R := by
    rw [List.drop_append_of_le_length (by rw [bitsL_length]; exact Nat.le_refl _), List.drop_eq_nil_of_le (by rw [bitsL_length]; exact Nat.le_refl _)]
    rfl
  rw [if_pos (by rw [List.length_append, bitsL_length]; omega), e, e2, valL_bits]
theorem uN_small (x : Int) (n : Nat) (h0 : 0 ≤ x) (h1 : x < 2 ^ n) (hn : n ≤ 63) : wrap64 ((uN x % 2 ^ n : Nat) : Int) = x := by
  have hq : (2 : Nat) ^ n ≤ 2 ^ 63 := Nat.pow_le_pow_right (by decide) hn
  have hp : (2 : Int) ^ n ≤ 2 ^ 63 := by exact_mod_cast hq
  have hp2 : (2 : Int) ^ 63 = 9223372036854775808 := by decide
  have e : uN x = x.toNat := by
    unfold uN
    rw [Int.emod_eq_of_lt h0 (by omega)]
  have e2 : x.toNat < 2 ^ n := by
    have : ((2 ^ n : Nat) : Int) = 2 ^ n := by norm_cast
    omega
  rw [e, Nat.mod_eq_of_lt e2]
  unfold wrap64
  omega
theorem uN_whole (x : Int) (h0 : -9223372036854775808 ≤ x) (h1 : x ≤ 9223372036854775807) : wrap64 ((uN x % 2 ^ 64 : Nat) : Int) = x := by
  have h := uN_lt x
  rw [Nat.mod_eq_of_lt h]
  unfold uN wrap64
  omega
theorem onesR_mk (k : Nat) (hk : k ≤ 4) (R : List Bool) : onesR 4 (mkB k ++ R) = some (k, R) := by
  rcases k with _ | _ | _ | _ | _ | k
  · rfl
  · rfl
  · rfl
  · rfl
  · rfl
  · omega
theorem chgR_enc (e : Int) (R : List Bool) (h0 : -1000000000000000000 ≤ e) (h1 : e ≤ 1000000000000000000) : chgR (encE e ++ R) = some (e, R) := by
  unfold chgR encE
  rw [List.append_assoc, onesR_mk _ (wk_le e)]
  simp only [Option.bind_some, getR_bits, Option.map_some]
  have key : wrap64 (wrap64 ((uN (e + ws (wk e)) % 2 ^ wb (wk e) : Nat) : Int) - ws (wk e)) = e := by
    unfold wk
    split
    · rename_i h; subst h; decide +kernel
    · split
      · simp only [ws, wb]
        rw [uN_small _ 7 (by omega) (by omega) (by decide)]
        unfold wrap64; omega
      · split
        · simp only [ws, wb]
          rw [uN_small _ 9 (by omega) (by omega) (by decide)]
          unfold wrap64; omega
        · split
          · simp only [ws, wb]
            rw [uN_small _ 12 (by omega) (by omega) (by decide)]
            unfold wrap64; omega
          · simp only [ws, wb]
            rw [uN_whole _ (by omega) (by omega)]
            unfold wrap64; omega
  rw [key]

/-- What was told is read again. -/
theorem readT_enc (r : List Int) : ∀ (p g : Int) (Z : List Bool) (acc : List Int), acc ≠ [] → rise p r → -9007199254740992 ≤ p → p ≤ 9007199254740992 → -18014398509481984 ≤ g → g ≤ 18014398509481984 →
    readT r.length (encT p g r ++ Z) g p acc = some (acc ++ r) := by
  induction r with
  | nil => intro p g Z acc _ _ _ _ _ _; simp [readT]
  | cons t r ih =>
    intro p g Z acc ha hr h1 h2 h3 h4
    obtain ⟨hr1, hr2, hr3⟩ := hr
    simp only [readT, encT, List.length_cons, List.append_assoc]
    rw [if_neg ha, chgR_enc _ _ (by omega) (by omega)]
    have e1 : wrap64 (g + (t - p - g)) = t - p := by unfold wrap64; omega
    have e2 : wrap64 (p + (t - p)) = t := by unfold wrap64; omega
    simp only [Option.bind_some, e1, e2]
    rw [ih t (t - p) Z (acc ++ [t]) (by simp) hr3 (by omega) hr2 (by omega) (by omega)]
    simp
theorem readT_all {l : List Int} (h : Rising l) (Z : List Bool) : readT l.length (allB l ++ Z) 0 0 [] = some l := by
  cases l with
  | nil => simp [readT]
  | cons t r =>
    have h0 := h.at (i := 0) (by simp)
    have hr := rise_of h r.length 0 (by simp) (by simp; omega)
    simp only [List.getElem_cons_zero, Nat.zero_add, List.drop_succ_cons, List.drop_zero] at h0 hr
    simp only [readT, allB, List.length_cons, List.append_assoc]
    rw [if_pos trivial, getR_bits, uN_whole _ (by omega) (by omega)]
    simp only [Option.bind_some, List.nil_append]
    exact readT_enc r t 0 Z [t] (by simp) hr h0.1 h0.2 (by omega) (by omega)

/-- What the bytes of times are, and what bytes are as times. -/
def Packs (l : List Int) (bs : List UInt8) (x : Int) : Prop :=
  (120 < l.length ∧ bs = [] ∧ x = 2) ∨ (l.length ≤ 120 ∧ ¬ Rising l ∧ bs = [] ∧ x = 21) ∨ (l.length ≤ 120 ∧ Rising l ∧ bs = packL (allB l) ∧ x = 0)
def Reads (bs : List UInt8) (n : Int) (l : List Int) (x : Int) : Prop :=
  (120 < n ∧ l = [] ∧ x = 2) ∨ (n < 0 ∧ l = [] ∧ x = 1) ∨
  (0 ≤ n ∧ n ≤ 120 ∧ ((readT n.toNat (unpackL bs) 0 0 [] = none ∧ l = [] ∧ x = 5) ∨
    ∃ m, readT n.toNat (unpackL bs) 0 0 [] = some m ∧ ((¬ Packs m bs 0 ∧ l = [] ∧ x = 5) ∨ (Packs m bs 0 ∧ l = m ∧ x = 0))))
theorem Packs.inj {l : List Int} {bs bs' : List UInt8} {x x' : Int} (h : Packs l bs x) (h' : Packs l bs' x') : bs = bs' ∧ x = x' := by
  rcases h with ⟨h1, h2, h3⟩ | ⟨h0, h1, h2, h3⟩ | ⟨h0, h1, h2, h3⟩ <;> rcases h' with ⟨k1, k2, k3⟩ | ⟨k0, k1, k2, k3⟩ | ⟨k0, k1, k2, k3⟩ <;> first | omega | (subst h2; subst k2; subst h3; subst k3; exact ⟨rfl, rfl⟩) | exact absurd h1 k1 | exact absurd k1 h1
theorem Reads.inj {bs : List UInt8} {n : Int} {l l' : List Int} {x x' : Int} (h : Reads bs n l x) (h' : Reads bs n l' x') : l = l' ∧ x = x' := by
  rcases h with ⟨h1, h2, h3⟩ | ⟨h1, h2, h3⟩ | ⟨h0, h1, ⟨h4, h2, h3⟩ | ⟨m, hm, ⟨h4, h2, h3⟩ | ⟨h4, h2, h3⟩⟩⟩ <;>
    rcases h' with ⟨k1, k2, k3⟩ | ⟨k1, k2, k3⟩ | ⟨k0, k1, ⟨k4, k2, k3⟩ | ⟨m', km, ⟨k4, k2, k3⟩ | ⟨k4, k2, k3⟩⟩⟩ <;>
    first
    | omega
    | (subst h2; subst k2; subst h3; subst k3; exact ⟨rfl, rfl⟩)
    | (rw [h4] at km; cases km)
    | (rw [k4] at hm; cases hm)
    | (rw [hm] at km; cases km; first | exact absurd h4 k4 | exact absurd k4 h4 | (subst h2; subst k2; subst h3; subst k3; exact ⟨rfl, rfl⟩))
/-- What is packed is read again. -/
theorem reads_packs {l : List Int} {bs : List UInt8} (h : Packs l bs 0) : Reads bs (l.length : Int) l 0 := by
  have h' := h
  rcases h with ⟨h1, h2, h3⟩ | ⟨h0, h1, h2, h3⟩ | ⟨h0, h1, h2, h3⟩
  · omega
  · omega
  · obtain ⟨z, hz, e⟩ := unpack_pack (allB l)
    refine .inr (.inr ⟨by omega, by omega, .inr ⟨l, ?_, .inr ⟨h', rfl, rfl⟩⟩⟩)
    rw [h2, e]
    exact readT_all h1 _

/-- Times that go by one step. -/
theorem encT_steady (s : Int) (n : Nat) : ∀ p : Int, (encT p s ((List.range n).map (fun i : Nat => p + s + (i : Int) * s))).length = n := by
  induction n with
  | zero => intro p; rfl
  | succ n ih =>
    intro p
    rw [List.range_succ_eq_map, List.map_cons, List.map_map]
    have e : ((fun i : Nat => p + s + (i : Int) * s) ∘ Nat.succ) = fun i : Nat => (p + s) + s + (i : Int) * s := by
      funext i
      have e5 : ((i.succ : Nat) : Int) * s = (i : Int) * s + s := by
        rw [show ((i.succ : Nat) : Int) = (i : Int) + 1 by omega, Int.add_mul, Int.one_mul]
      show p + s + ((i.succ : Nat) : Int) * s = _
      omega
    rw [e]
    have e3 : p + s + ((0 : Nat) : Int) * s = p + s := by simp
    rw [e3]
    simp only [encT, List.length_append]
    have e2 : p + s - p = s := by omega
    rw [e2, ih (p + s)]
    have e4 : (encE (s - s)).length = 1 := by
      rw [Int.sub_self]
      decide
    omega
end Go.Proofs.Ytghofnopdcklnaa
