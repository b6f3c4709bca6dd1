/-
  What the document's own answer returns for the fixed-point number of a float, by its bits.
-/
import Derived.Test.YtcpgamhekelamaaDoorFref
namespace Go.Proofs.YtcpgamhekelamaaDoor
open Go.RowKit
set_option linter.unusedVariables false

theorem rof_nan (n : Nat) (w : World) (h : nanF n = true) :
    Calls Tryd.prog 12 #[.float .f64 n] w fun e w' => e = .returned (.tuple #[.int .i64 0, .int .i64 3]) ∧ Stay w w' := by
  have ho : (FloatKind.f64.format.order n n != some .eq) = true := by rw [read_self, h]
  go_enter Tryd.func12, Tryd.ntmps12
  go_wp2
  exact bodyPost_ret (v := .tuple #[.int .i64 0, .int .i64 3]) (by simp [results, Tryd.results12, go_sem]) rfl ⟨rfl, Stay.refl _⟩

theorem rof_inf (n : Nat) (s : Bool) (E M : Int) (w : World) (ho : (FloatKind.f64.format.order n n != some .eq) = false) (hs : ((n : Int) / 9223372036854775808 == 1) = s) (h2 : bits .and .u64 ((n : Int) / 4503599627370496) 2047 = E) (h1 : bits .and .u64 (n : Int) 4503599627370495 = M)
    (hb : ∀ w, (callFunc 15 #[.float .f64 n]).run Tryd.prog w = .ok (.value (.int .u64 (n : Int))) w) (m0 : 0 ≤ M) (m1 : M ≤ 4503599627370495) (e0 : E = 2047) :
    Calls Tryd.prog 12 #[.float .f64 n] w fun e w' => e = .returned (.tuple #[.int .i64 (scut s 18446744073709551616), .int .i64 0]) ∧ Stay w w' := by
  subst e0
  go_enter Tryd.func12, Tryd.ntmps12
  go_wp2_with (go_at_call 26; refine (back_any _ _ _ _ (by omega) (by omega) (by omega) (by omega)).mono ?_; rintro e w1 ⟨rfl, hg⟩)
  exact bodyPost_ret (v := .tuple #[.int .i64 (scut s 18446744073709551616), .int .i64 0]) (by simp [results, Tryd.results12, go_sem]) rfl ⟨rfl, hg⟩

theorem rof_great (n : Nat) (s : Bool) (E M : Int) (w : World) (ho : (FloatKind.f64.format.order n n != some .eq) = false) (hs : ((n : Int) / 9223372036854775808 == 1) = s) (h2 : bits .and .u64 ((n : Int) / 4503599627370496) 2047 = E) (h1 : bits .and .u64 (n : Int) 4503599627370495 = M)
    (hb : ∀ w, (callFunc 15 #[.float .f64 n]).run Tryd.prog w = .ok (.value (.int .u64 (n : Int))) w) (m0 : 0 ≤ M) (m1 : M ≤ 4503599627370495) (h3 : bits .or .u64 M 4503599627370496 = M + 4503599627370496) (e0 : 1055 ≤ E) (e1 : E ≤ 2046) :
    Calls Tryd.prog 12 #[.float .f64 n] w fun e w' => e = .returned (.tuple #[.int .i64 (scut s 18446744073709551616), .int .i64 0]) ∧ Stay w w' := by
  have hz : (M + 4503599627370496 == 0) = false := by simp; omega
  go_enter Tryd.func12, Tryd.ntmps12
  go_wp2_with (go_at_call 26; refine (back_any _ _ _ _ (by omega) (by omega) (by omega) (by omega)).mono ?_; rintro e w1 ⟨rfl, hg⟩)
  exact bodyPost_ret (v := .tuple #[.int .i64 (scut s 18446744073709551616), .int .i64 0]) (by simp [results, Tryd.results12, go_sem]) rfl ⟨rfl, hg⟩

theorem rof_mid (n : Nat) (s : Bool) (E M : Int) (w : World) (ho : (FloatKind.f64.format.order n n != some .eq) = false) (hs : ((n : Int) / 9223372036854775808 == 1) = s) (h2 : bits .and .u64 ((n : Int) / 4503599627370496) 2047 = E) (h1 : bits .and .u64 (n : Int) 4503599627370495 = M)
    (hb : ∀ w, (callFunc 15 #[.float .f64 n]).run Tryd.prog w = .ok (.value (.int .u64 (n : Int))) w) (m0 : 0 ≤ M) (m1 : M ≤ 4503599627370495) (l : Int) (h3 : bits .or .u64 M 4503599627370496 = M + 4503599627370496) (e0 : 1043 ≤ E) (e1 : E ≤ 1054) (hl : IntKind.u64.wrap ((M + 4503599627370496) * 2 ^ (E - 1043).toNat) = l) (l0 : 0 ≤ l) (l1 : l ≤ 18446744073709551615) :
    Calls Tryd.prog 12 #[.float .f64 n] w fun e w' => e = .returned (.tuple #[.int .i64 (scut s l), .int .i64 0]) ∧ Stay w w' := by
  have e4 : scut s (0 * 18446744073709551616 + l) = scut s l := by congr 1; omega
  rw [← e4]
  clear e4
  go_enter Tryd.func12, Tryd.ntmps12
  go_wp2_with (go_at_call 26; refine (back_any _ _ _ _ (by omega) (by omega) (by omega) (by omega)).mono ?_; rintro e w1 ⟨rfl, hg⟩)
  exact bodyPost_ret (v := .tuple #[.int .i64 (scut s (0 * 18446744073709551616 + l)), .int .i64 0]) (by simp [results, Tryd.results12, go_sem]) rfl ⟨rfl, hg⟩

theorem rof_less (n : Nat) (s t : Bool) (E M q l : Int) (w : World) (ho : (FloatKind.f64.format.order n n != some .eq) = false) (hs : ((n : Int) / 9223372036854775808 == 1) = s) (h2 : bits .and .u64 ((n : Int) / 4503599627370496) 2047 = E) (h1 : bits .and .u64 (n : Int) 4503599627370495 = M)
    (hb : ∀ w, (callFunc 15 #[.float .f64 n]).run Tryd.prog w = .ok (.value (.int .u64 (n : Int))) w) (m0 : 0 ≤ M) (m1 : M ≤ 4503599627370495)
    (h3 : bits .or .u64 M 4503599627370496 = M + 4503599627370496) (e0 : 980 ≤ E) (e1 : E ≤ 1042) (hq : (M + 4503599627370496) / 2 ^ (-(E - 1043)).toNat = q) (q0 : 0 ≤ q) (q1 : q ≤ 9007199254740991) (hl : IntKind.u64.wrap (q * 2 ^ (-(E - 1043)).toNat) = l) (ht : (l != M + 4503599627370496) = t) :
    Calls Tryd.prog 12 #[.float .f64 n] w fun e w' => e = .returned (.tuple #[.int .i64 (scut s (q + (if s && t then 1 else 0))), .int .i64 0]) ∧ Stay w w' := by
  cases s
  · rw [show scut false (q + (if false && t then 1 else 0)) = scut false (0 * 18446744073709551616 + q) by congr 1; simp]
    go_enter Tryd.func12, Tryd.ntmps12
    go_wp2_with (go_at_call 26; refine (back_any _ _ _ _ (by omega) (by omega) (by omega) (by omega)).mono ?_; rintro e w1 ⟨rfl, hg⟩)
    exact bodyPost_ret (v := .tuple #[.int .i64 (scut false (0 * 18446744073709551616 + q)), .int .i64 0]) (by simp [results, Tryd.results12, go_sem]) rfl ⟨rfl, ((Stay.refl _).alloc _).trans hg⟩
  · cases t
    · rw [show scut true (q + (if true && false then 1 else 0)) = scut true (0 * 18446744073709551616 + q) by congr 1; simp]
      go_enter Tryd.func12, Tryd.ntmps12
      go_wp2_with (go_at_call 26; refine (back_any _ _ _ _ (by omega) (by omega) (by omega) (by omega)).mono ?_; rintro e w1 ⟨rfl, hg⟩)
      exact bodyPost_ret (v := .tuple #[.int .i64 (scut true (0 * 18446744073709551616 + q)), .int .i64 0]) (by simp [results, Tryd.results12, go_sem]) rfl ⟨rfl, ((Stay.refl _).alloc _).trans hg⟩
    · rw [show scut true (q + (if true && true then 1 else 0)) = scut true (0 * 18446744073709551616 + (q + 1)) by congr 1; simp]
      go_enter Tryd.func12, Tryd.ntmps12
      go_wp2_with fail
      refine (more_in _ _ _ (by omega) (by omega) (by omega) (by omega)).mono ?_
      rintro e w1 ⟨rfl, hg1⟩
      have c0 := hg1.cell (b := w.heap.size) (off := 0) (v := .int .u64 0) (by simp)
      have c1 := hg1.cell (b := w.heap.size) (off := 1) (v := .int .u64 q) (by simp)
      have f0 := hg1.frozen (a := ⟨w.heap.size, 0, none⟩) (by simp) (by simp)
      have f1 := hg1.frozen (a := ⟨w.heap.size, 1, none⟩) (by simp) (by simp)
      have hg2 : Stay w w1 := ((Stay.refl _).alloc _).trans hg1
      go_wp2_with (go_at_call 26; refine (back_any _ _ _ _ (by omega) (by omega) (by omega) (by omega)).mono ?_; rintro e w2 ⟨rfl, hg⟩)
      exact bodyPost_ret (v := .tuple #[.int .i64 (scut true (0 * 18446744073709551616 + (q + 1))), .int .i64 0]) (by simp [results, Tryd.results12, go_sem]) rfl ⟨rfl, ((hg2.setCell (Nat.le_refl _) _).setCell (Nat.le_refl _) _).trans hg⟩

theorem rof_tiny (n : Nat) (s : Bool) (E M : Int) (w : World) (ho : (FloatKind.f64.format.order n n != some .eq) = false) (hs : ((n : Int) / 9223372036854775808 == 1) = s) (h2 : bits .and .u64 ((n : Int) / 4503599627370496) 2047 = E) (h1 : bits .and .u64 (n : Int) 4503599627370495 = M)
    (hb : ∀ w, (callFunc 15 #[.float .f64 n]).run Tryd.prog w = .ok (.value (.int .u64 (n : Int))) w) (m0 : 0 ≤ M) (m1 : M ≤ 4503599627370495)
    (h3 : bits .or .u64 M 4503599627370496 = M + 4503599627370496) (e0 : 0 ≤ E) (e1 : E < 980) (hz : E = 0 → M ≠ 0) :
    Calls Tryd.prog 12 #[.float .f64 n] w fun e w' => e = .returned (.tuple #[.int .i64 (scut s (if s then 1 else 0)), .int .i64 0]) ∧ Stay w w' := by
  have hz' : (M + 4503599627370496 == 0) = false := by simp; omega
  by_cases hE : E = 0
  · have hM : (M == 0) = false := by simpa using hz hE
    clear hz
    subst hE
    cases s
    · go_enter Tryd.func12, Tryd.ntmps12
      go_wp2_with (go_at_call 26; refine (back_any _ _ _ _ (by omega) (by omega) (by omega) (by omega)).mono ?_; rintro e w1 ⟨rfl, hg⟩)
      exact bodyPost_ret (v := .tuple #[.int .i64 (scut false 0), .int .i64 0]) (by simp [results, Tryd.results12, go_sem]) rfl ⟨rfl, ((Stay.refl _).alloc _).trans hg⟩
    · go_enter Tryd.func12, Tryd.ntmps12
      go_wp2_with fail
      refine (more_in _ _ _ (by omega) (by omega) (by omega) (by omega)).mono ?_
      rintro e w1 ⟨rfl, hg1⟩
      have c0 := hg1.cell (b := w.heap.size) (off := 0) (v := .int .u64 0) (by simp)
      have c1 := hg1.cell (b := w.heap.size) (off := 1) (v := .int .u64 0) (by simp)
      have f0 := hg1.frozen (a := ⟨w.heap.size, 0, none⟩) (by simp) (by simp)
      have f1 := hg1.frozen (a := ⟨w.heap.size, 1, none⟩) (by simp) (by simp)
      have hg2 : Stay w w1 := ((Stay.refl _).alloc _).trans hg1
      go_wp2_with (go_at_call 26; refine (back_any _ _ _ _ (by omega) (by omega) (by omega) (by omega)).mono ?_; rintro e w2 ⟨rfl, hg⟩)
      exact bodyPost_ret (v := .tuple #[.int .i64 (scut true 1), .int .i64 0]) (by simp [results, Tryd.results12, go_sem]) rfl ⟨rfl, ((hg2.setCell (Nat.le_refl _) _).setCell (Nat.le_refl _) _).trans hg⟩
  · have hE' : 0 < E := by omega
    clear hz hE
    cases s
    · go_enter Tryd.func12, Tryd.ntmps12
      go_wp2_with (go_at_call 26; refine (back_any _ _ _ _ (by omega) (by omega) (by omega) (by omega)).mono ?_; rintro e w1 ⟨rfl, hg⟩)
      exact bodyPost_ret (v := .tuple #[.int .i64 (scut false 0), .int .i64 0]) (by simp [results, Tryd.results12, go_sem]) rfl ⟨rfl, ((Stay.refl _).alloc _).trans hg⟩
    · go_enter Tryd.func12, Tryd.ntmps12
      go_wp2_with fail
      refine (more_in _ _ _ (by omega) (by omega) (by omega) (by omega)).mono ?_
      rintro e w1 ⟨rfl, hg1⟩
      have c0 := hg1.cell (b := w.heap.size) (off := 0) (v := .int .u64 0) (by simp)
      have c1 := hg1.cell (b := w.heap.size) (off := 1) (v := .int .u64 0) (by simp)
      have f0 := hg1.frozen (a := ⟨w.heap.size, 0, none⟩) (by simp) (by simp)
      have f1 := hg1.frozen (a := ⟨w.heap.size, 1, none⟩) (by simp) (by simp)
      have hg2 : Stay w w1 := ((Stay.refl _).alloc _).trans hg1
      go_wp2_with (go_at_call 26; refine (back_any _ _ _ _ (by omega) (by omega) (by omega) (by omega)).mono ?_; rintro e w2 ⟨rfl, hg⟩)
      exact bodyPost_ret (v := .tuple #[.int .i64 (scut true 1), .int .i64 0]) (by simp [results, Tryd.results12, go_sem]) rfl ⟨rfl, ((hg2.setCell (Nat.le_refl _) _).setCell (Nat.le_refl _) _).trans hg⟩

theorem rof_zero (n : Nat) (s : Bool) (w : World) (ho : (FloatKind.f64.format.order n n != some .eq) = false) (hs : ((n : Int) / 9223372036854775808 == 1) = s) (h2 : bits .and .u64 ((n : Int) / 4503599627370496) 2047 = 0) (h1 : bits .and .u64 (n : Int) 4503599627370495 = 0)
    (hb : ∀ w, (callFunc 15 #[.float .f64 n]).run Tryd.prog w = .ok (.value (.int .u64 (n : Int))) w) :
    Calls Tryd.prog 12 #[.float .f64 n] w fun e w' => e = .returned (.tuple #[.int .i64 (scut s 0), .int .i64 0]) ∧ Stay w w' := by
  cases s
  all_goals
    go_enter Tryd.func12, Tryd.ntmps12
    go_wp2_with (go_at_call 26; refine (back_any _ _ _ _ (by omega) (by omega) (by omega) (by omega)).mono ?_; rintro e w1 ⟨rfl, hg⟩)
    exact bodyPost_ret (v := .tuple #[.int .i64 (scut _ 0), .int .i64 0]) (by simp [results, Tryd.results12, go_sem]) rfl ⟨rfl, ((Stay.refl _).alloc _).trans hg⟩

theorem end_scut (s : Bool) (x : Int) (h : 9223372036854775808 ≤ x) : scut s x = endZ s := by
  unfold scut endZ
  cases s
  · simp; rw [cut_hi (by omega)]
  · simp; rw [cut_lo (by omega)]
theorem down_scut (s t : Bool) (q : Int) (h0 : 0 ≤ q) (h1 : q ≤ 9223372036854775807) : scut s (q + (if s && t then 1 else 0)) = downZ s q t := by
  unfold scut downZ
  cases s <;> cases t <;> simp <;> rw [cut_in (by omega) (by omega)] <;> omega

theorem rof_num (n : Nat) (w : World) (h : n < 18446744073709551616) (hn : nanF n = false) :
    Calls Tryd.prog 12 #[.float .f64 n] w fun e w' => e = .returned (.tuple #[.int .i64 (ofF n), .int .i64 0]) ∧ Stay w w' := by
  have ho : (FloatKind.f64.format.order n n != some .eq) = false := by rw [read_self, hn]
  have hb := run_bits n
  have h1 : bits .and .u64 (n : Int) 4503599627370495 = (n : Int) % 4503599627370496 := mask_u (n : Int) 52 (by decide) (by omega) (by omega)
  have h2 : bits .and .u64 ((n : Int) / 4503599627370496) 2047 = expF n := mask_u ((n : Int) / 4503599627370496) 11 (by decide) (by omega) (by omega)
  have h3 := or_hidden ((n : Int) % 4503599627370496) (by omega) (by omega)
  have hs : ((n : Int) / 9223372036854775808 == 1) = negF n := by
    unfold negF
    by_cases hc : (9223372036854775808 : Int) ≤ n
    · simp [hc]; omega
    · simp [hc]; omega
  have m0 : 0 ≤ (n : Int) % 4503599627370496 := by omega
  have m1 : (n : Int) % 4503599627370496 ≤ 4503599627370495 := by omega
  have x0 : 0 ≤ expF n := by unfold expF; omega
  have x1 : expF n ≤ 2047 := by unfold expF; omega
  unfold ofF upF manF
  generalize hM : (n : Int) % 4503599627370496 = M at *
  generalize hE : expF n = E at *
  generalize negF n = s at *
  clear hM hE
  by_cases c1 : E = 2047
  · have hE0 : E ≠ 0 := by omega
    rw [if_neg hE0, if_pos (by omega), ← end_scut s 18446744073709551616 (by decide)]
    exact rof_inf n s E M w ho hs h2 h1 hb m0 m1 c1
  by_cases c2 : 1055 ≤ E
  · have hE0 : E ≠ 0 := by omega
    rw [if_neg hE0, if_pos (by omega), ← end_scut s 18446744073709551616 (by decide)]
    exact rof_great n s E M w ho hs h2 h1 hb m0 m1 h3 c2 (by omega)
  by_cases c3 : 1043 ≤ E
  · have hE0 : E ≠ 0 := by omega
    rw [if_neg hE0, if_neg hE0]
    have hp : (2 : Int) ^ (E - 1043).toNat ≤ 2048 := by
      have : (2 : Nat) ^ (E - 1043).toNat ≤ 2 ^ 11 := Nat.pow_le_pow_right (by decide) (by omega)
      have h2 : ((2 ^ (E - 1043).toNat : Nat) : Int) ≤ ((2 ^ 11 : Nat) : Int) := by omega
      simpa using h2
    have hp0 : (0 : Int) < 2 ^ (E - 1043).toNat := Int.pow_pos (by decide)
    have l0 : 0 ≤ (M + 4503599627370496) * 2 ^ (E - 1043).toNat := Int.mul_nonneg (by omega) (Int.le_of_lt hp0)
    have l1 : (M + 4503599627370496) * 2 ^ (E - 1043).toNat ≤ 9007199254740991 * 2048 := Int.mul_le_mul (by omega) hp (Int.le_of_lt hp0) (by decide)
    have hl : IntKind.u64.wrap ((M + 4503599627370496) * 2 ^ (E - 1043).toNat) = (M + 4503599627370496) * 2 ^ (E - 1043).toNat := by rw [IntKind.wrap_u64]; exact Int.emod_eq_of_lt l0 (by omega)
    have := rof_mid n s E M w ho hs h2 h1 hb m0 m1 _ h3 c3 (by omega) hl l0 (by omega)
    by_cases c4 : 1054 ≤ E
    · have e : E = 1054 := by omega
      subst e
      rw [if_pos (by omega), ← end_scut s ((M + 4503599627370496) * 2 ^ ((1054 : Int) - 1043).toNat) (by show _ ≤ (M + 4503599627370496) * 2048; omega)]
      exact this
    · rw [if_neg (by omega), if_pos (by omega)]
      have hp' : (2 : Int) ^ (E - 1043).toNat ≤ 1024 := by
        have : (2 : Nat) ^ (E - 1043).toNat ≤ 2 ^ 10 := Nat.pow_le_pow_right (by decide) (by omega)
        have h2 : ((2 ^ (E - 1043).toNat : Nat) : Int) ≤ ((2 ^ 10 : Nat) : Int) := by omega
        simpa using h2
      have l2 : (M + 4503599627370496) * 2 ^ (E - 1043).toNat ≤ 9007199254740991 * 1024 := Int.mul_le_mul (by omega) hp' (Int.le_of_lt hp0) (by decide)
      rw [← down_scut s false _ l0 (by omega)]
      simpa using this
  by_cases c4 : 980 ≤ E
  · have hE0 : E ≠ 0 := by omega
    rw [if_neg hE0, if_neg hE0, if_neg (by omega), if_neg (by omega)]
    generalize hm : M + 4503599627370496 = m at *
    have mm0 : 0 ≤ m := by omega
    have mm1 : m ≤ 9007199254740991 := by omega
    have hp0 : (0 : Int) < 2 ^ (-(E - 1043)).toNat := Int.pow_pos (by decide)
    have q0 : 0 ≤ m / 2 ^ (-(E - 1043)).toNat := Int.ediv_nonneg mm0 (Int.le_of_lt hp0)
    have q1 : m / 2 ^ (-(E - 1043)).toNat ≤ m := Int.ediv_le_self _ mm0
    have hle : m / 2 ^ (-(E - 1043)).toNat * 2 ^ (-(E - 1043)).toNat ≤ m := Int.ediv_mul_le m (Int.ne_of_gt hp0)
    have hge : 0 ≤ m / 2 ^ (-(E - 1043)).toNat * 2 ^ (-(E - 1043)).toNat := Int.mul_nonneg q0 (Int.le_of_lt hp0)
    have hbb : (m / 2 ^ (-(E - 1043)).toNat * 2 ^ (-(E - 1043)).toNat != m) = (m % 2 ^ (-(E - 1043)).toNat != 0) := by
      have e := Int.mul_ediv_add_emod m (2 ^ (-(E - 1043)).toNat)
      rw [Int.mul_comm] at e
      rw [bne, bne]
      congr 1
      rw [Bool.eq_iff_iff]
      simp only [beq_iff_eq]
      omega
    rw [← hbb, ← down_scut s _ _ q0 (by omega)]
    refine rof_less n s _ E M _ _ w ho hs h2 h1 hb m0 m1 (by rw [h3, hm]) c4 (by omega) (by rw [hm]) q0 (by omega) ?_ (by rw [hm])
    rw [IntKind.wrap_u64]
    exact Int.emod_eq_of_lt hge (by omega)
  · by_cases c5 : E = 0 ∧ M = 0
    · obtain ⟨rfl, rfl⟩ := c5
      rw [if_pos rfl, if_pos rfl, if_neg (by omega), if_neg (by omega)]
      have := rof_zero n s w ho hs h2 h1 hb
      rw [show downZ s (0 / 2 ^ (-((1 : Int) - 1043)).toNat) ((0 : Int) % 2 ^ (-((1 : Int) - 1043)).toNat != 0) = scut s 0 by rw [Int.zero_ediv, Int.zero_emod]; cases s <;> decide]
      exact this
    · have := rof_tiny n s E M w ho hs h2 h1 hb m0 m1 h3 x0 (by omega) (fun h k => c5 ⟨h, k⟩)
      have key : ∀ (m : Int) (u : Int), 0 < m → m ≤ 9007199254740991 → u < -63 → downZ s (m / 2 ^ (-u).toNat) (m % 2 ^ (-u).toNat != 0) = scut s (if s then 1 else 0) := by
        intro m u k0 k1 k2
        have p : (2 : Int) ^ 64 ≤ 2 ^ (-u).toNat := by
          have : (2 : Nat) ^ 64 ≤ 2 ^ (-u).toNat := Nat.pow_le_pow_right (by decide) (by omega)
          have h2 : ((2 ^ 64 : Nat) : Int) ≤ ((2 ^ (-u).toNat : Nat) : Int) := by omega
          simpa using h2
        rw [Int.ediv_eq_zero_of_lt (by omega) (by omega), Int.emod_eq_of_lt (by omega) (by omega)]
        have hb : (m != 0) = true := by simp; omega
        rw [hb]
        cases s <;> decide
      by_cases c6 : E = 0
      · rw [if_pos c6, if_pos c6, if_neg (by omega), if_neg (by omega), key M _ (by have : M ≠ 0 := fun k => c5 ⟨c6, k⟩; omega) (by omega) (by omega)]
        exact this
      · rw [if_neg c6, if_neg c6, if_neg (by omega), if_neg (by omega), key _ _ (by omega) (by omega) (by omega)]
        exact this

theorem rof_ans (x : Int) (w : World) (h0 : 0 ≤ x) (h1 : x ≤ 18446744073709551615) :
    Calls Tryd.prog 12 #[.float .f64 x.toNat] w fun e w' => e = .returned (.tuple #[.int .i64 (numF x), .int .i64 (errF x)]) ∧ Stay w w' := by
  have e : ((x.toNat : Nat) : Int) = x := by omega
  unfold numF errF
  cases hn : nanF x
  · have := rof_num x.toNat w (by omega) (by rw [e]; exact hn)
    rw [e] at this
    exact this
  · exact rof_nan x.toNat w (by rw [e]; exact hn)
end Go.Proofs.YtcpgamhekelamaaDoor
