/-
  The float that is nearest to a fixed-point number: the conversion and the quotient by 2^32, by the words of the format.
-/
import Derived.Test.YtcpgamhekelamaaDoorFalive
import Derived.Laws.FloatArith
namespace Go.Proofs.YtcpgamhekelamaaDoor
open Go.RowKit
set_option linter.unusedVariables false

theorem w_sign : Ieee.double.signWeight = 9223372036854775808 := by decide
theorem w_bin : Ieee.double.binade = 4503599627370496 := by decide
theorem w_inf : Ieee.double.infRung = 9218868437227405312 := by decide
theorem w_least : Ieee.double.leastPlace = -1074 := by decide
theorem w_frac : Ieee.double.fractionBits = 52 := rfl

theorem word_facts (neg : Bool) (g : Nat) (h0 : 4503599627370496 ≤ g) (h1 : g ≤ 9218868437227405312) :
    Ieee.double.word neg g < 18446744073709551616 ∧ nanF (Ieee.double.word neg g : Nat) = false ∧ Ieee.double.word neg g ≠ 9223372036854775808 ∧ Ieee.double.word neg g / 9223372036854775808 % 2 = neg.toNat ∧ Ieee.double.word neg g % 9223372036854775808 = g ∧ negF (Ieee.double.word neg g : Nat) = neg := by
  unfold Ieee.Format.word nanF negF
  rw [w_sign]
  cases neg
  · simp only [Bool.false_eq_true, if_false, decide_eq_false_iff_not, Bool.toNat_false]
    omega
  · simp only [if_true, decide_eq_false_iff_not, Bool.toNat_true, decide_eq_true_eq]
    omega

theorem nearest_ok (neg : Bool) (mag : Nat) (place : Int) (t : Nat) (h : mag ≠ 0) (t1 : 1 ≤ t) (t2 : t ≤ 2046) (hn : (t : Int) ≤ place + mag.log2 + 1022) :
    ∃ g, Ieee.double.nearest neg mag place = Ieee.double.word neg g ∧ t * 4503599627370496 ≤ g ∧ g ≤ 9218868437227405312 := by
  unfold Ieee.Format.nearest
  rw [if_neg h]
  refine ⟨_, rfl, ?_, ?_⟩
  · rw [w_frac, w_least, w_bin, w_inf]
    generalize Ieee.Toward.even.cut _ _ _ = kept
    obtain ⟨v, hv⟩ : ∃ v, (max (place + mag.log2 - 52) (-1074) - -1074).toNat = v := ⟨_, rfl⟩
    have v1 : t ≤ v := by omega
    rw [show ((52 : Nat) : Int) = 52 from rfl, hv]
    have : t * 4503599627370496 ≤ v * 4503599627370496 := Nat.mul_le_mul_right _ v1
    have : t * 4503599627370496 ≤ 2046 * 4503599627370496 := Nat.mul_le_mul_right _ t2
    omega
  · rw [w_inf]; exact Nat.min_le_right _ _

theorem read_word (neg : Bool) (g : Nat) (h0 : 4503599627370496 ≤ g) (h1 : g ≤ 9218868437227405312) :
    Ieee.double.read (Ieee.double.word neg g) = if g = 9218868437227405312 then .infinity neg else .number neg (4503599627370496 + g % 4503599627370496) (-1074 + ((g / 4503599627370496 - 1 : Nat) : Int)) := by
  obtain ⟨f1, f2, f3, f4, f5, f6⟩ := word_facts neg g h0 h1
  unfold Ieee.Format.read
  simp only [w_sign, w_bin, w_inf, w_least, f4, f5]
  have hb : (neg.toNat == 1) = neg := by cases neg <;> rfl
  rw [hb, if_neg (by omega)]
  by_cases c : g = 9218868437227405312
  · rw [if_neg (by omega), if_pos c, if_pos c]
  · rw [if_pos (by omega), if_neg c]

theorem log_of (m k : Nat) (h0 : 2 ^ k ≤ m) (h1 : m < 2 ^ (k + 1)) : m.log2 = k := (Nat.log2_eq_iff (by have := Nat.two_pow_pos k; omega)).mpr ⟨h0, h1⟩
theorem cut_exact (neg : Bool) (m d : Nat) (hd : d ≤ m.log2 + 2 + d) (hm : m ≠ 0) : Ieee.Toward.even.cut neg (m * 2 ^ d) d = m := by
  have hp : 0 < 2 ^ d := Nat.two_pow_pos d
  have hl : (m * 2 ^ d).log2 + 2 ≥ d := by
    have : 2 ^ d ≤ m * 2 ^ d := Nat.le_mul_of_pos_left _ (by omega)
    have := (Nat.le_log2 (by have := Nat.mul_pos (show 0 < m by omega) hp; omega)).mpr this
    omega
  unfold Ieee.Toward.cut
  dsimp only
  rw [Nat.min_eq_left hl, Nat.one_shiftLeft, Nat.mul_div_cancel _ hp, Nat.mul_mod_left]
  have c2 : (2 ^ d == 2 * 0) = false := by simp
  rw [c2]
  simp

theorem read_pow : Ieee.double.read 4751297606875873280 = .number false 4503599627370496 (-20) := by decide +kernel

theorem div_word (neg : Bool) (g : Nat) (h0 : 4503599627370496 ≤ g) (h1 : g ≤ 9218868437227405312) (hp : 4602678819172646912 ≤ g) :
    ∃ r, Ieee.double.div (Ieee.double.word neg g) 4751297606875873280 = some r ∧ (∃ k, r = Ieee.double.word neg k ∧ 4503599627370496 ≤ k ∧ k ≤ 9218868437227405312) ∧
      (g ≠ 9218868437227405312 → r = Ieee.double.nearest neg (8 * (4503599627370496 + g % 4503599627370496)) (-1074 + ((g / 4503599627370496 - 1 : Nat) : Int) - 35)) := by
  unfold Ieee.Format.div
  rw [read_word neg g h0 h1, read_pow, w_frac]
  by_cases c : g = 9218868437227405312
  · rw [if_pos c]
    refine ⟨Ieee.double.word neg 9218868437227405312, ?_, ⟨_, rfl, by decide, by decide⟩, fun h => absurd c h⟩
    cases neg <;> decide +kernel
  · rw [if_neg c]
    obtain ⟨m, hm⟩ : ∃ m, 4503599627370496 + g % 4503599627370496 = m := ⟨_, rfl⟩
    obtain ⟨i, hi⟩ : ∃ i, -1074 + ((g / 4503599627370496 - 1 : Nat) : Int) = i := ⟨_, rfl⟩
    rw [hm, hi]
    have m0 : 2 ^ 52 ≤ m := by omega
    have m1 : m < 2 ^ 53 := by omega
    have l1 := log_of m 52 m0 m1
    have l2 : (4503599627370496 : Nat).log2 = 52 := log_of _ 52 (by decide) (by decide)
    have hq : Ieee.Datum.quotient (52 + 2) (.number neg m i) (.number false 4503599627370496 (-20)) = some (.number neg (8 * m) (i - 35)) := by
      have d1 : m <<< 54 / 4503599627370496 = 4 * m := by rw [Nat.shiftLeft_eq]; omega
      have d2 : m <<< 54 % 4503599627370496 = 0 := by rw [Nat.shiftLeft_eq]; omega
      have key : ∀ (n : Nat) (j : Int), n ≠ 0 → n.log2 = 52 → m <<< 54 / n = 4 * m → m <<< 54 % n = 0 → j = -20 → Ieee.Datum.quotient 54 (.number neg m i) (.number false n j) = some (.number neg (8 * m) (i - 35)) := by
        intro n j k1 k2 k3 k4 k5
        unfold Ieee.Datum.quotient
        dsimp only
        rw [if_neg k1, k2, l1, show 54 + 52 - 52 = 54 from rfl, k3, k4, k5, Bool.xor_false, show 2 * (4 * m) + ((0 : Nat) != 0).toNat = 8 * m by simp; omega, show i - -20 - ((54 : Nat) : Int) - 1 = i - 35 by omega]
      exact key 4503599627370496 (-20) (by decide) l2 d1 d2 rfl
    rw [hq]
    refine ⟨_, rfl, ?_, fun _ => rfl⟩
    have l3 : (8 * m).log2 = 55 := log_of _ 55 (by omega) (by omega)
    obtain ⟨k, k1, k2, k3⟩ := nearest_ok neg (8 * m) (i - 35) 1 (by omega) (by decide) (by decide) (by rw [l3]; omega)
    exact ⟨k, k1, by omega, k3⟩

set_option maxRecDepth 100000 in
theorem back_exact (neg : Bool) (m : Nat) (i : Int) (m0 : 4503599627370496 ≤ m) (m1 : m < 9007199254740992) (i0 : -900 ≤ i) (i1 : i ≤ 900) :
    Ieee.double.nearest neg (8 * m) (i - 35) = Ieee.double.word neg ((i + 1042).toNat * 4503599627370496 + m) := by
  have l3 : (8 * m).log2 = 55 := log_of _ 55 (by omega) (by omega)
  unfold Ieee.Format.nearest
  rw [if_neg (by omega), l3, w_frac, w_least, w_bin, w_inf]
  dsimp only
  have e1 : max (i - 35 + ((55 : Nat) : Int) - ((52 : Nat) : Int)) (-1074) = i - 32 := by omega
  rw [e1, show (i - 35 - (i - 32)).toNat = 0 by omega, show (i - 32 - (i - 35)).toNat = 3 by omega, Nat.shiftLeft_zero]
  have := cut_exact neg m 3 (by omega) (by omega)
  rw [show 8 * m = m * 2 ^ 3 by omega, this, show (i - 32 - -1074).toNat = (i + 1042).toNat by omega]
  have h1 : (i + 1042).toNat ≤ 1942 := by omega
  have h2 : (i + 1042).toNat * 4503599627370496 + m ≤ 9218868437227405312 := by
    generalize (i + 1042).toNat = y at *
    clear e1 l3 this
    omega
  rw [Nat.min_eq_left h2]

set_option maxRecDepth 100000 in
theorem int_exact (neg : Bool) (mag L : Nat) (h : mag ≠ 0) (hL : mag.log2 = L) (hl : L ≤ 52) : Ieee.double.nearest neg mag 0 = Ieee.double.word neg ((L + 1022) * 4503599627370496 + mag * 2 ^ (52 - L)) := by
  obtain ⟨b0, b1⟩ := (Nat.log2_eq_iff h).mp hL
  have hk : mag * 2 ^ (52 - L) < 2 ^ 53 := by
    have : mag * 2 ^ (52 - L) < 2 ^ (L + 1) * 2 ^ (52 - L) := Nat.mul_lt_mul_of_pos_right b1 (Nat.two_pow_pos _)
    rw [← Nat.pow_add, show L + 1 + (52 - L) = 53 by omega] at this
    exact this
  have hz : mag * 2 ^ (52 - L) ≠ 0 := Nat.mul_ne_zero h (by have := Nat.two_pow_pos (52 - L); omega)
  unfold Ieee.Format.nearest
  rw [if_neg h, hL, w_frac, w_least, w_bin, w_inf]
  dsimp only
  have e1 : max ((0 : Int) + (L : Int) - ((52 : Nat) : Int)) (-1074) = (L : Int) - 52 := by omega
  rw [e1, show ((0 : Int) - ((L : Int) - 52)).toNat = 52 - L by omega, show ((L : Int) - 52 - 0).toNat = 0 by omega, Nat.shiftLeft_eq]
  have := cut_exact neg (mag * 2 ^ (52 - L)) 0 (by omega) hz
  rw [Nat.pow_zero, Nat.mul_one] at this
  rw [this, show ((L : Int) - 52 - -1074).toNat = L + 1022 by omega]
  have h2 : (L + 1022) * 4503599627370496 + mag * 2 ^ (52 - L) ≤ 9218868437227405312 := by
    clear e1 this b0 b1 hz
    generalize mag * 2 ^ (52 - L) = y at *
    have hk' : y < 9007199254740992 := hk
    clear hk
    omega
  rw [Nat.min_eq_left h2]

set_option maxRecDepth 100000 in
theorem of_word (neg : Bool) (L M mag : Nat) (hL : L ≤ 52) (hM : M = mag * 2 ^ (52 - L)) (m0 : 4503599627370496 ≤ M) (m1 : M < 9007199254740992) :
    ofF ((Ieee.double.word neg ((L + 990) * 4503599627370496 + M) : Nat) : Int) = if neg then -(mag : Int) else mag := by
  have g1 : (L + 990) * 4503599627370496 + M ≤ 9218868437227405312 := by clear hM; omega
  obtain ⟨f1, f2, f3, f4, f5, f6⟩ := word_facts neg ((L + 990) * 4503599627370496 + M) (by omega) g1
  have e1 : expF ((Ieee.double.word neg ((L + 990) * 4503599627370496 + M) : Nat) : Int) = (L : Int) + 991 := by
    unfold expF
    generalize Ieee.double.word neg ((L + 990) * 4503599627370496 + M) = r at *
    omega
  have e2 : manF ((Ieee.double.word neg ((L + 990) * 4503599627370496 + M) : Nat) : Int) = (M : Int) := by
    unfold manF
    rw [e1, if_neg (by omega)]
    generalize Ieee.double.word neg ((L + 990) * 4503599627370496 + M) = r at *
    omega
  have e3 : upF ((Ieee.double.word neg ((L + 990) * 4503599627370496 + M) : Nat) : Int) = (L : Int) - 52 := by
    unfold upF
    rw [e1, if_neg (by omega)]
    omega
  unfold ofF
  rw [e2, e3, f6, if_neg (by omega)]
  by_cases c : L = 52
  · subst c
    have : M = mag := by rw [hM]; simp
    rw [if_pos (by omega), this]
    unfold downZ
    cases neg <;> simp
  · rw [if_neg (by omega), show (-((L : Int) - 52)).toNat = 52 - L by omega]
    have hm : (M : Int) = (mag : Int) * 2 ^ (52 - L) := by rw [hM, Int.natCast_mul, Int.natCast_pow]; rfl
    have p0 : (0 : Int) < 2 ^ (52 - L) := Int.pow_pos (by decide)
    rw [hm, Int.mul_ediv_cancel _ (Int.ne_of_gt p0), Int.mul_emod_left]
    unfold downZ
    cases neg <;> simp

theorem rung_top (L M : Nat) (hl : L ≤ 52) (M1 : M < 9007199254740992) : (L + 1022) * 4503599627370496 + M ≤ 9218868437227405312 := by omega
set_option maxRecDepth 100000 in
theorem back_num (x : Int) (h0 : -9223372036854775808 ≤ x) (h1 : x ≤ 9223372036854775807) (hx : x ≠ 0) :
    ∃ r : Nat, floatBits .quo .f64 (floatOfInt .f64 x) 4751297606875873280 = some r ∧ r < 18446744073709551616 ∧ nanF r = false ∧ r ≠ 9223372036854775808 ∧ (-9007199254740992 ≤ x → x ≤ 9007199254740992 → ofF r = x) := by
  have ef : floatOfInt .f64 x = Ieee.double.nearest (decide (x < 0)) x.natAbs 0 := rfl
  have ed : ∀ a b, floatBits .quo .f64 a b = Ieee.double.div a b := fun _ _ => rfl
  rw [ed, ef]
  obtain ⟨g, n1, n2, n3⟩ := nearest_ok (decide (x < 0)) x.natAbs 0 1022 (by omega) (by decide) (by decide) (by omega)
  obtain ⟨r, d1, ⟨k, d2, d3, d4⟩, d5⟩ := div_word (decide (x < 0)) g (by omega) n3 (by omega)
  obtain ⟨f1, f2, f3, f4, f5, f6⟩ := word_facts (decide (x < 0)) k d3 d4
  refine ⟨r, by rw [n1, d1], by rw [d2]; exact f1, by rw [d2]; exact f2, by rw [d2]; exact f3, fun b0 b1 => ?_⟩
  by_cases hb : x = 9007199254740992 ∨ x = -9007199254740992
  · rcases hb with hb | hb
    · subst hb
      have e : Ieee.double.div (Ieee.double.nearest (decide ((9007199254740992 : Int) < 0)) (9007199254740992 : Int).natAbs 0) 4751297606875873280 = some 4701758010974797824 := by decide +kernel
      rw [n1, d1] at e
      rw [Option.some.inj e]
      decide +kernel
    · subst hb
      have e : Ieee.double.div (Ieee.double.nearest (decide ((-9007199254740992 : Int) < 0)) (-9007199254740992 : Int).natAbs 0) 4751297606875873280 = some 13925130047829573632 := by decide +kernel
      rw [n1, d1] at e
      rw [Option.some.inj e]
      decide +kernel
  · have hm : x.natAbs ≠ 0 := by omega
    obtain ⟨L, hL⟩ : ∃ L, x.natAbs.log2 = L := ⟨_, rfl⟩
    obtain ⟨l0, l1⟩ := (Nat.log2_eq_iff hm).mp hL
    have hl : L ≤ 52 := by
      rcases Nat.lt_or_ge 52 L with c | c
      · have : 2 ^ 53 ≤ 2 ^ L := Nat.pow_le_pow_right (by decide) c
        omega
      · exact c
    have ix := int_exact (decide (x < 0)) x.natAbs L hm hL hl
    obtain ⟨M, hM⟩ : ∃ M, x.natAbs * 2 ^ (52 - L) = M := ⟨_, rfl⟩
    have M0 : 4503599627370496 ≤ M := by
      have : 2 ^ L * 2 ^ (52 - L) ≤ x.natAbs * 2 ^ (52 - L) := Nat.mul_le_mul_right _ l0
      rw [← Nat.pow_add, show L + (52 - L) = 52 by omega, hM] at this
      exact this
    have M1 : M < 9007199254740992 := by
      have : x.natAbs * 2 ^ (52 - L) < 2 ^ (L + 1) * 2 ^ (52 - L) := Nat.mul_lt_mul_of_pos_right l1 (Nat.two_pow_pos _)
      rw [← Nat.pow_add, show L + 1 + (52 - L) = 53 by omega, hM] at this
      exact this
    rw [hM, n1] at ix
    have g1 := rung_top L M hl M1
    have hg : g = (L + 1022) * 4503599627370496 + M := by
      have a1 := (word_facts (decide (x < 0)) g (by omega) n3).2.2.2.2.1
      have a2 := (word_facts (decide (x < 0)) ((L + 1022) * 4503599627370496 + M) (by omega) g1).2.2.2.2.1
      rw [ix, a2] at a1
      exact a1.symm
    have h5 := d5 (by omega)
    rw [show 4503599627370496 + g % 4503599627370496 = M by omega, show -1074 + ((g / 4503599627370496 - 1 : Nat) : Int) - 35 = ((L : Int) - 52) - 35 by omega, back_exact (decide (x < 0)) M ((L : Int) - 52) M0 M1 (by omega) (by omega), show ((L : Int) - 52 + 1042).toNat = L + 990 by omega] at h5
    rw [h5, of_word (decide (x < 0)) L M x.natAbs hl hM.symm M0 M1]
    by_cases c : x < 0
    · simp [c]; omega
    · simp [c]; omega
end Go.Proofs.YtcpgamhekelamaaDoor
