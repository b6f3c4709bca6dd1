/-
  What package floats makes of a float: its sign, mantissa and exponent, and the fixed-point number that is not above it, cut.
-/
import Derived.Test.YtcpgamhekelamaaDoorFbase
import Derived.Lib.ItoaNum
namespace Go.Proofs.YtcpgamhekelamaaDoor
open Go.RowKit
set_option linter.unusedVariables false

theorem run_bits (n : Nat) (w : World) : (callFunc 15 #[.float .f64 n]).run Tryd.prog w = .ok (.value (.int .u64 (n : Int))) w := by
  rw [run_callFunc_extern Tryd.func15 (by kernel_rfl) (by kernel_rfl) (by kernel_rfl) (e := Extern.MathFloatBits.float64bits) (by kernel_rfl)]
  rfl
theorem run_from (n : Int) (w : World) : (callFunc 10 #[.int .u64 n]).run Tryd.prog w = .ok (.value (.float .f64 n.toNat)) w := by
  rw [run_callFunc_extern Tryd.func10 (by kernel_rfl) (by kernel_rfl) (by kernel_rfl) (e := Extern.MathFloatBits.float64frombits) (by kernel_rfl)]
  rfl

def expF (x : Int) : Int := x / 4503599627370496 % 2048
def manF (x : Int) : Int := if expF x = 0 then x % 4503599627370496 else x % 4503599627370496 + 4503599627370496
def upF (x : Int) : Int := (if expF x = 0 then 1 else expF x) - 1043
def negF (x : Int) : Bool := decide (9223372036854775808 ≤ x)
def nanF (x : Int) : Bool := decide (9218868437227405312 < x % 9223372036854775808)
def ofF (x : Int) : Int :=
  if 11 ≤ upF x then endZ (negF x)
  else if 0 ≤ upF x then downZ (negF x) (manF x * 2 ^ (upF x).toNat) false
  else downZ (negF x) (manF x / 2 ^ (-(upF x)).toNat) (manF x % 2 ^ (-(upF x)).toNat != 0)

theorem man_bd (x : Int) : 0 ≤ manF x ∧ manF x ≤ 9007199254740991 := by unfold manF; split <;> omega
theorem up_bd (x : Int) : -1042 ≤ upF x ∧ upF x ≤ 1004 := by unfold upF expF; split <;> omega

theorem read_self (n : Nat) : (FloatKind.f64.format.order n n != some .eq) = nanF (n : Int) := by
  have h : ∀ d : Ieee.Datum, d.isNaN = false → d.order d = some .eq := by
    intro d hd
    cases d with
    | number s m e => simp [Ieee.Datum.order]
    | infinity s => simp [Ieee.Datum.order]
    | nan s f => simp [Ieee.Datum.isNaN] at hd
  have h' : ∀ d : Ieee.Datum, d.isNaN = true → d.order d = none := by
    intro d hd
    cases d with
    | number s m e => simp [Ieee.Datum.isNaN] at hd
    | infinity s => simp [Ieee.Datum.isNaN] at hd
    | nan s f => rfl
  have hn : (FloatKind.f64.format.read n).isNaN = nanF (n : Int) := by
    unfold Ieee.Format.read nanF
    have e1 : FloatKind.f64.format.signWeight = 9223372036854775808 := by decide
    have e2 : FloatKind.f64.format.binade = 4503599627370496 := by decide
    have e3 : FloatKind.f64.format.infRung = 9218868437227405312 := by decide
    simp only [e1, e2, e3]
    split
    · simp [Ieee.Datum.isNaN]; omega
    · split
      · simp [Ieee.Datum.isNaN]; omega
      · split
        · simp [Ieee.Datum.isNaN]; omega
        · simp [Ieee.Datum.isNaN]; omega
  unfold Ieee.Format.order
  cases hb : nanF (n : Int)
  · rw [h _ (by rw [hn, hb])]; rfl
  · rw [h' _ (by rw [hn, hb])]; rfl

theorem mask_u (a : Int) (k : Nat) (hk : k ≤ 63) (h0 : 0 ≤ a) (h1 : a ≤ 18446744073709551615) : bits .and .u64 a ((2 ^ k - 1 : Nat) : Int) = a % (2 ^ k : Nat) := by
  obtain ⟨n, rfl⟩ : ∃ n : Nat, a = n := ⟨a.toNat, by omega⟩
  have hp : 2 ^ k ≤ 2 ^ 63 := Nat.pow_le_pow_right (by decide) hk
  rw [bits_and_u64_nat _ _ (by omega) (by omega), Nat.and_two_pow_sub_one_eq_mod]
  exact Int.natCast_emod _ _
theorem or_hidden (a : Int) (h0 : 0 ≤ a) (h1 : a ≤ 4503599627370495) : bits .or .u64 a 4503599627370496 = a + 4503599627370496 := by
  obtain ⟨n, rfl⟩ : ∃ n : Nat, a = n := ⟨a.toNat, by omega⟩
  have := bits_or_u64_nat n 4503599627370496 (by omega) (by omega)
  rw [show ((4503599627370496 : Nat) : Int) = 4503599627370496 from rfl] at this
  rw [this, Nat.or_comm]
  have e := Nat.two_pow_add_eq_or_of_lt (i := 52) (b := n) (by omega) 1
  simp at e
  rw [← e]
  omega

theorem apart_any (n : Nat) (w : World) (h : n < 18446744073709551616) :
    Calls Tryd.prog 23 #[.float .f64 n] w fun e w' => e = .returned (.tuple #[.bool (negF n), .int .u64 (manF n), .int .i64 (upF n - 32)]) ∧ w' = w := by
  have hb := run_bits
  have h1 : bits .and .u64 (n : Int) 4503599627370495 = (n : Int) % 4503599627370496 := mask_u (n : Int) 52 (by decide) (by omega) (by omega)
  have h2 : bits .and .u64 ((n : Int) / 4503599627370496) 2047 = (n : Int) / 4503599627370496 % 2048 := mask_u ((n : Int) / 4503599627370496) 11 (by decide) (by omega) (by omega)
  have h3 := or_hidden ((n : Int) % 4503599627370496) (by omega) (by omega)
  have hneg : ((n : Int) / 9223372036854775808 != 0) = negF n := by
    unfold negF
    by_cases hc : (9223372036854775808 : Int) ≤ n
    · simp [hc]; omega
    · simp [hc]; omega
  have ee : (n : Int) / 4503599627370496 % 2048 = expF n := rfl
  have em : (n : Int) % 4503599627370496 = (n : Int) % 4503599627370496 := rfl
  have hm : manF n = if expF n = 0 then (n : Int) % 4503599627370496 else (n : Int) % 4503599627370496 + 4503599627370496 := rfl
  have hu : upF n = (if expF n = 0 then 1 else expF n) - 1043 := rfl
  have x0 : 0 ≤ expF n := by rw [← ee]; omega
  have x1 : expF n ≤ 2047 := by rw [← ee]; omega
  rw [ee] at h2
  generalize (n : Int) % 4503599627370496 = m at *
  generalize hE : expF n = E at *
  clear ee hE em
  by_cases hz : E = 0
  · subst hz
    simp only [if_true] at hm hu
    rw [hm, hu]
    go_enter Tryd.func23, Tryd.ntmps23
    go_wp2
    exact bodyPost_ret (v := .tuple #[.bool (negF n), .int .u64 m, .int .i64 (1 - 1043 - 32)]) (by simp [results, Tryd.results23, go_sem]) rfl ⟨rfl, rfl⟩
  · rw [if_neg hz] at hm hu
    rw [hm, hu]
    have hz' : (E == 0) = false := by simp [hz]
    go_enter Tryd.func23, Tryd.ntmps23
    go_wp2
    exact bodyPost_ret (v := .tuple #[.bool (negF n), .int .u64 (m + 4503599627370496), .int .i64 (E - 1043 - 32)]) (by simp [results, Tryd.results23, go_sem]; omega) rfl ⟨rfl, rfl⟩

theorem of_nan (n : Nat) (w : World) (h : nanF n = true) :
    Calls Tryd.prog 11 #[.float .f64 n] w fun e w' => e = .returned (.tuple #[.int .i64 0, .int .i64 3]) ∧ w' = w := by
  have ho : (FloatKind.f64.format.order n n != some .eq) = true := by rw [read_self, h]
  go_enter Tryd.func11, Tryd.ntmps11
  go_wp2
  exact bodyPost_ret (v := .tuple #[.int .i64 0, .int .i64 3]) (by simp [results, Tryd.results11, go_sem]) rfl ⟨rfl, rfl⟩

theorem of_less (n : Nat) (s : Bool) (m e q l : Int) (w : World) (ho : (FloatKind.f64.format.order n n != some .eq) = false) (e0 : -1074 ≤ e) (e1 : e < -32) (q0 : 0 ≤ q) (q1 : q ≤ 9007199254740991)
    (hv : ∀ w, Calls Tryd.prog 23 #[.float .f64 n] w fun e' w' => e' = .returned (.tuple #[.bool s, .int .u64 m, .int .i64 e]) ∧ w' = w)
    (hr : ∀ w, (Op.shift .shr .u64 m .i64 (-(e + 32))).run Tryd.prog w = .ok (.int .u64 q) w) (hl : ∀ w, (Op.shift .shl .u64 q .i64 (-(e + 32))).run Tryd.prog w = .ok (.int .u64 l) w) :
    Calls Tryd.prog 11 #[.float .f64 n] w fun e w' => e = .returned (.tuple #[.int .i64 (downZ s q (l != m)), .int .i64 0]) ∧ w' = w := by
  go_enter Tryd.func11, Tryd.ntmps11
  go_wp2_with (first | (go_at_call 23; refine (hv _).mono ?_; rintro e w' ⟨rfl, rfl⟩) | (go_at_call 25; refine (down_any _ _ _ _ (by omega) (by omega)).mono ?_; rintro e w' ⟨rfl, rfl⟩))
  exact bodyPost_ret (v := .tuple #[.int .i64 (downZ s q (l != m)), .int .i64 0]) (by simp [results, Tryd.results11, go_sem]) rfl ⟨rfl, rfl⟩

theorem of_mid (n : Nat) (s : Bool) (m e l : Int) (w : World) (ho : (FloatKind.f64.format.order n n != some .eq) = false) (e0 : -32 ≤ e) (e1 : e < -21) (l0 : 0 ≤ l) (l1 : l ≤ 9223372036854775807)
    (hv : ∀ w, Calls Tryd.prog 23 #[.float .f64 n] w fun e' w' => e' = .returned (.tuple #[.bool s, .int .u64 m, .int .i64 e]) ∧ w' = w)
    (hl : IntKind.u64.wrap (m * 2 ^ (e + 32).toNat) = l) :
    Calls Tryd.prog 11 #[.float .f64 n] w fun e w' => e = .returned (.tuple #[.int .i64 (downZ s l false), .int .i64 0]) ∧ w' = w := by
  go_enter Tryd.func11, Tryd.ntmps11
  go_wp2_with (first | (go_at_call 23; refine (hv _).mono ?_; rintro e w' ⟨rfl, rfl⟩) | (go_at_call 25; refine (down_any _ _ _ _ (by omega) (by omega)).mono ?_; rintro e w' ⟨rfl, rfl⟩))
  exact bodyPost_ret (v := .tuple #[.int .i64 (downZ s l false), .int .i64 0]) (by simp [results, Tryd.results11, go_sem]) rfl ⟨rfl, rfl⟩

theorem of_great (n : Nat) (s : Bool) (m e : Int) (w : World) (ho : (FloatKind.f64.format.order n n != some .eq) = false) (e0 : -21 ≤ e) (e1 : e < 1000)
    (hv : ∀ w, Calls Tryd.prog 23 #[.float .f64 n] w fun e' w' => e' = .returned (.tuple #[.bool s, .int .u64 m, .int .i64 e]) ∧ w' = w) :
    Calls Tryd.prog 11 #[.float .f64 n] w fun e w' => e = .returned (.tuple #[.int .i64 (endZ s), .int .i64 0]) ∧ w' = w := by
  go_enter Tryd.func11, Tryd.ntmps11
  go_wp2_with (first | (go_at_call 23; refine (hv _).mono ?_; rintro e w' ⟨rfl, rfl⟩) | (go_at_call 24; refine (end_any _ _).mono ?_; rintro e w' ⟨rfl, rfl⟩))
  exact bodyPost_ret (v := .tuple #[.int .i64 (endZ s), .int .i64 0]) (by simp [results, Tryd.results11, go_sem]) rfl ⟨rfl, rfl⟩

theorem shr_run {P : Program} (m t : Int) (m0 : 0 ≤ m) (m1 : m ≤ 9007199254740991) (t0 : 0 ≤ t) (w : World) : (Op.shift .shr .u64 m .i64 t).run P w = .ok (.int .u64 (m / 2 ^ t.toNat)) w := by
  rw [shift_shr_any _ _ _ _ t0]
  show Result.ok _ _ = _
  congr 2
  by_cases h : t.toNat ≤ 64
  · rw [Nat.min_eq_left (by exact h)]
  · have e : min t.toNat IntKind.u64.bits = 64 := Nat.min_eq_right (by show 64 ≤ _; omega)
    rw [e]
    have p : (2 : Int) ^ 64 ≤ 2 ^ t.toNat := by
      have : (2 : Nat) ^ 64 ≤ 2 ^ t.toNat := Nat.pow_le_pow_right (by decide) (by omega)
      have h2 : ((2 ^ 64 : Nat) : Int) ≤ ((2 ^ t.toNat : Nat) : Int) := by omega
      simpa using h2
    rw [Int.ediv_eq_zero_of_lt m0 (by omega), Int.ediv_eq_zero_of_lt m0 (by omega)]

theorem shl_run {P : Program} (q m t : Int) (q0 : 0 ≤ q) (t0 : 0 ≤ t) (h : q * 2 ^ t.toNat ≤ m) (m1 : m ≤ 18446744073709551615) (w : World) : (Op.shift .shl .u64 q .i64 t).run P w = .ok (.int .u64 (q * 2 ^ t.toNat)) w := by
  rw [shift_shl_any _ _ _ _ t0]
  show Result.ok _ _ = _
  congr 2
  rw [IntKind.wrap_u64]
  have pos : (0 : Int) < 2 ^ t.toNat := Int.pow_pos (by decide)
  by_cases h2 : t.toNat ≤ 64
  · rw [Nat.min_eq_left (by exact h2)]
    exact Int.emod_eq_of_lt (Int.mul_nonneg q0 (Int.le_of_lt pos)) (by omega)
  · have e : min t.toNat IntKind.u64.bits = 64 := Nat.min_eq_right (by show 64 ≤ _; omega)
    rw [e]
    have p : (2 : Int) ^ 64 ≤ 2 ^ t.toNat := by
      have : (2 : Nat) ^ 64 ≤ 2 ^ t.toNat := Nat.pow_le_pow_right (by decide) (by omega)
      have h2 : ((2 ^ 64 : Nat) : Int) ≤ ((2 ^ t.toNat : Nat) : Int) := by omega
      simpa using h2
    have hq : q = 0 := by
      rcases Int.lt_or_le 0 q with hq | hq
      · have : 1 * 2 ^ t.toNat ≤ q * 2 ^ t.toNat := Int.mul_le_mul_of_nonneg_right (by omega) (Int.le_of_lt pos)
        omega
      · omega
    subst hq
    simp

theorem of_num (n : Nat) (w : World) (h : n < 18446744073709551616) (hn : nanF n = false) :
    Calls Tryd.prog 11 #[.float .f64 n] w fun e w' => e = .returned (.tuple #[.int .i64 (ofF n), .int .i64 0]) ∧ w' = w := by
  have ho : (FloatKind.f64.format.order n n != some .eq) = false := by rw [read_self, hn]
  have hv := fun w => apart_any n w h
  obtain ⟨m0, m1⟩ := man_bd (n : Int)
  obtain ⟨u0, u1⟩ := up_bd (n : Int)
  unfold ofF
  generalize hu : upF (n : Int) = u at *
  generalize hm : manF (n : Int) = m at *
  generalize hs : negF (n : Int) = s at *
  by_cases h1 : 11 ≤ u
  · rw [if_pos h1]
    exact of_great n s m (u - 32) w ho (by omega) (by omega) hv
  · rw [if_neg h1]
    by_cases h2 : 0 ≤ u
    · rw [if_pos h2]
      have hp : (2 : Int) ^ u.toNat ≤ 1024 := by
        have : (2 : Nat) ^ u.toNat ≤ 2 ^ 10 := Nat.pow_le_pow_right (by decide) (by omega)
        have h2 : ((2 ^ u.toNat : Nat) : Int) ≤ ((2 ^ 10 : Nat) : Int) := by omega
        simpa using h2
      have hp0 : (0 : Int) < 2 ^ u.toNat := Int.pow_pos (by decide)
      have l0 : 0 ≤ m * 2 ^ u.toNat := Int.mul_nonneg m0 (Int.le_of_lt hp0)
      have l1 : m * 2 ^ u.toNat ≤ 9007199254740991 * 1024 := Int.mul_le_mul m1 hp (Int.le_of_lt hp0) (by decide)
      refine of_mid n s m (u - 32) _ w ho (by omega) (by omega) l0 (by omega) hv ?_
      rw [show u - 32 + 32 = u by omega, IntKind.wrap_u64]
      exact Int.emod_eq_of_lt l0 (by omega)
    · rw [if_neg h2]
      have hp0 : (0 : Int) < 2 ^ (-u).toNat := Int.pow_pos (by decide)
      have q0 : 0 ≤ m / 2 ^ (-u).toNat := Int.ediv_nonneg m0 (Int.le_of_lt hp0)
      have q1 : m / 2 ^ (-u).toNat ≤ m := Int.ediv_le_self _ m0
      have hle : m / 2 ^ (-u).toNat * 2 ^ (-u).toNat ≤ m := Int.ediv_mul_le m (Int.ne_of_gt hp0)
      have hb : (m / 2 ^ (-u).toNat * 2 ^ (-u).toNat != m) = (m % 2 ^ (-u).toNat != 0) := by
        have e := Int.mul_ediv_add_emod m (2 ^ (-u).toNat)
        rw [Int.mul_comm] at e
        rw [bne, bne]
        congr 1
        rw [Bool.eq_iff_iff]
        simp only [beq_iff_eq]
        omega
      rw [← hb]
      refine of_less n s m (u - 32) _ _ w ho (by omega) (by omega) q0 (by omega) hv (fun w => ?_) (fun w => ?_)
      · rw [show -(u - 32 + 32) = -u by omega]
        exact shr_run m (-u) m0 m1 (by omega) w
      · rw [show -(u - 32 + 32) = -u by omega]
        exact shl_run _ m (-u) q0 (by omega) hle (by omega) w
end Go.Proofs.YtcpgamhekelamaaDoor
