/-
  What the document's own answers for quotients return, for all numbers: rounded down, or up, and cut; by nought what the sign tells.
-/
import Derived.Test.YtnagkbdnondklaaOver
namespace Go.Proofs.Ytnagkbdnondklaa
open Go.RowKit
set_option linter.unusedVariables false

theorem quo_scut (up : Bool) (a b : Int) (hb : b ≠ 0) : quoZ up a b = scut (oppB a b) (absZ a * 4294967296 / absZ b + (if oppB a b ≠ up ∧ absZ a * 4294967296 % absZ b ≠ 0 then 1 else 0)) := by
  rw [quo_signed up a b hb]
  unfold scut
  generalize absZ a * 4294967296 / absZ b = q
  by_cases hr : absZ a * 4294967296 % absZ b = 0
  · cases up <;> cases oppB a b <;> simp [hr]
  · cases up <;> cases oppB a b <;> simp [hr] <;> (congr 1; omega)

theorem over_two (a b : Int) (w : World) (a0 : 0 ≤ a) (a1 : a ≤ 9223372036854775808) (b0 : 0 < b) (b1 : b ≤ 9223372036854775808) :
    Calls Try.prog 41 #[.int .u64 a, .int .u64 b] w fun e w' => e = .returned (.tuple #[.agg #[.int .u64 (a * 4294967296 / b / 18446744073709551616), .int .u64 (a * 4294967296 / b % 18446744073709551616)], .bool (a * 4294967296 % b != 0)]) ∧ Grown w w' := by
  refine (over_any a b w a0 a1 b0 b1).mono ?_
  rintro e w' ⟨qh, ql, rfl, hq, ⟨q0, q1, l0, l1⟩, hg⟩
  rw [← hq, show (qh * 18446744073709551616 + ql) / 18446744073709551616 = qh by omega, show (qh * 18446744073709551616 + ql) % 18446744073709551616 = ql by omega]
  exact ⟨rfl, hg⟩

theorem rdiv_zero (a : Int) (w : World) :
    Calls Try.prog 19 #[.int .i64 a, .int .i64 0] w fun e w' => e = .returned (.int .i64 (quoZ false a 0)) ∧ w' = w := by
  rw [← quo_zero]
  go_enter Try.func19, Try.ntmps19
  go_wp2_with (go_at_call 40; refine (rnone_any _ _).mono ?_; rintro e w' ⟨rfl, rfl⟩)
  go_ret
  exact ⟨rfl, rfl⟩

theorem rdiv_plain (s rb : Bool) (a b x y : Int) (w : World) (ha : -9223372036854775808 ≤ a) (ha' : a ≤ 9223372036854775807) (hb : -9223372036854775808 ≤ b) (hb' : b ≤ 9223372036854775807) (h0 : (b == 0) = false)
    (hs : oppB a b = s)
    (ht : ∀ w, Calls Try.prog 41 #[.int .u64 (absZ a), .int .u64 (absZ b)] w fun e w' => e = .returned (.tuple #[.agg #[.int .u64 x, .int .u64 y], .bool rb]) ∧ Grown w w')
    (hx : 0 ≤ x) (hx' : x < 4294967296) (hy : 0 ≤ y) (hy' : y ≤ 18446744073709551615) (hr : s = false ∨ rb = false) :
    Calls Try.prog 19 #[.int .i64 a, .int .i64 b] w fun e w' => e = .returned (.int .i64 (scut s (x * 18446744073709551616 + y))) ∧ Grown w w' := by
  unfold oppB at hs
  by_cases ka : a < 0 <;> by_cases kb : b < 0
  all_goals
    simp [ka, kb] at hs
    subst hs
    cases rb
    · clear hr
      go_enter Try.func19, Try.ntmps19
      go_wp2_with (first | (go_at_call 36; refine (rsize_any _ _ (by omega) (by omega)).mono ?_; rintro e w' ⟨rfl, rfl⟩) | (go_at_call 41; refine (ht _).mono ?_; rintro e w1 ⟨rfl, hg1⟩) | (go_at_call 38; refine (back_any _ _ _ _ (by omega) (by omega) (by omega) (by omega)).mono ?_; rintro e w2 ⟨rfl, hg2⟩))
      go_ret
      exact ⟨rfl, grown_trans (hg1.alloc _ _) hg2⟩
    · first
        | (exfalso; revert hr; decide)
        | (clear hr
           go_enter Try.func19, Try.ntmps19
           go_wp2_with (first | (go_at_call 36; refine (rsize_any _ _ (by omega) (by omega)).mono ?_; rintro e w' ⟨rfl, rfl⟩) | (go_at_call 41; refine (ht _).mono ?_; rintro e w1 ⟨rfl, hg1⟩) | (go_at_call 38; refine (back_any _ _ _ _ (by omega) (by omega) (by omega) (by omega)).mono ?_; rintro e w2 ⟨rfl, hg2⟩))
           go_ret
           exact ⟨rfl, grown_trans (hg1.alloc _ _) hg2⟩)

theorem rdiv_more (a b x y N : Int) (w : World) (ha : -9223372036854775808 ≤ a) (ha' : a ≤ 9223372036854775807) (hb : -9223372036854775808 ≤ b) (hb' : b ≤ 9223372036854775807) (h0 : (b == 0) = false)
    (hs : oppB a b = !false)
    (ht : ∀ w, Calls Try.prog 41 #[.int .u64 (absZ a), .int .u64 (absZ b)] w fun e w' => e = .returned (.tuple #[.agg #[.int .u64 x, .int .u64 y], .bool true]) ∧ Grown w w')
    (hx : 0 ≤ x) (hx' : x < 4294967296) (hy : 0 ≤ y) (hy' : y ≤ 18446744073709551615) (hN : N = x * 18446744073709551616 + y) :
    Calls Try.prog 19 #[.int .i64 a, .int .i64 b] w fun e w' => e = .returned (.int .i64 (scut (!false) (N + 1))) ∧ Grown w w' := by
  have HN : Hid (N = x * 18446744073709551616 + y) := hN
  have eN : Hid ((N + 1) / 18446744073709551616 * 18446744073709551616 + (N + 1) % 18446744073709551616 = N + 1) := by show _ = _; omega
  have N0 : 0 ≤ N := by omega
  have N1 : N < 18446744073709551616 * 4294967296 := by omega
  clear hN
  unfold oppB at hs
  by_cases ka : a < 0 <;> by_cases kb : b < 0
  all_goals simp [ka, kb] at hs
  all_goals
    go_enter Try.func19, Try.ntmps19
    go_wp2_with (first | (go_at_call 36; refine (rsize_any _ _ (by omega) (by omega)).mono ?_; rintro e w' ⟨rfl, rfl⟩) | (go_at_call 41; refine (ht _).mono ?_; rintro e w1 ⟨rfl, hg1⟩))
    refine (more_any _ _ N _ HN.out (by omega) (by omega) (by omega) (by omega)).mono ?_
    rintro e w2 ⟨rfl, hg2⟩
    have c0 := grown_cell hg2 (b := w1.heap.size) (off := 0) (v := .int .u64 x) (by simp)
    have c1 := grown_cell hg2 (b := w1.heap.size) (off := 1) (v := .int .u64 y) (by simp)
    have f0 := grown_frozen hg2 (a := ⟨w1.heap.size, 0, none⟩) (by simp)
    have f1 := grown_frozen hg2 (a := ⟨w1.heap.size, 1, none⟩) (by simp)
    have s1 := grown_size hg1
    have hg3 := grown_trans (hg1.alloc _ _) hg2
    go_wp2_with (go_at_call 38; refine (back_any _ _ _ _ (by omega) (by omega) (by omega) (by omega)).mono ?_; rintro e w3 ⟨rfl, hg4⟩)
    go_ret
    rw [eN.out]
    exact ⟨rfl, grown_trans ((hg3.setCell (by simp; omega) _).setCell (by simp; omega) _) hg4⟩

theorem rdiv_quo (a b : Int) (w : World) (ha : -9223372036854775808 ≤ a) (ha' : a ≤ 9223372036854775807) (hb : -9223372036854775808 ≤ b) (hb' : b ≤ 9223372036854775807) :
    Calls Try.prog 19 #[.int .i64 a, .int .i64 b] w fun e w' => e = .returned (.int .i64 (quoZ false a b)) ∧ Grown w w' := by
  by_cases h0 : b = 0
  · subst h0
    refine (rdiv_zero a w).mono ?_
    rintro e w' ⟨rfl, rfl⟩
    exact ⟨rfl, Grown.refl _⟩
  · have a0 := abs_nonneg a
    have a1 := abs_bd ha ha'
    have d0 : 0 < absZ b := by unfold absZ; omega
    have d1 := abs_bd hb hb'
    have hz : (b == 0) = false := by simpa using h0
    have ht := fun w => over_two (absZ a) (absZ b) w a0 a1 d0 d1
    have Q0 : 0 ≤ absZ a * 4294967296 / absZ b := Int.ediv_nonneg (by omega) (by omega)
    have Q1 : absZ a * 4294967296 / absZ b ≤ absZ a * 4294967296 := Int.ediv_le_self _ (by omega)
    rw [quo_scut false a b h0]
    have eq : ∀ Q : Int, Q = Q / 18446744073709551616 * 18446744073709551616 + Q % 18446744073709551616 := fun Q => by omega
    generalize absZ a * 4294967296 / absZ b = Q at *
    generalize absZ a * 4294967296 % absZ b = R at *
    by_cases hr : oppB a b ≠ false ∧ R ≠ 0
    · have ho : oppB a b = !false := by have h1 := hr.1; revert h1; cases oppB a b <;> decide
      rw [if_pos hr, ho]
      have hR : (R != 0) = true := by simpa using hr.2
      rw [hR] at ht
      exact rdiv_more a b _ _ Q w ha ha' hb hb' hz ho ht (by omega) (by omega) (by omega) (by omega) (eq Q)
    · rw [if_neg hr]
      have := rdiv_plain (oppB a b) (R != 0) a b _ _ w ha ha' hb hb' hz rfl ht (by omega) (by omega) (by omega) (by omega) (by
        by_cases h : oppB a b = false
        · exact Or.inl h
        · right
          by_cases hR : R = 0
          · simp [hR]
          · exact absurd ⟨h, hR⟩ hr)
      rw [← eq Q] at this
      rw [Int.add_zero]
      exact this

theorem rcdiv_zero (a : Int) (w : World) :
    Calls Try.prog 21 #[.int .i64 a, .int .i64 0] w fun e w' => e = .returned (.int .i64 (quoZ true a 0)) ∧ w' = w := by
  rw [← quo_zero]
  go_enter Try.func21, Try.ntmps21
  go_wp2_with (go_at_call 40; refine (rnone_any _ _).mono ?_; rintro e w' ⟨rfl, rfl⟩)
  go_ret
  exact ⟨rfl, rfl⟩

theorem rcdiv_plain (s rb : Bool) (a b x y : Int) (w : World) (ha : -9223372036854775808 ≤ a) (ha' : a ≤ 9223372036854775807) (hb : -9223372036854775808 ≤ b) (hb' : b ≤ 9223372036854775807) (h0 : (b == 0) = false)
    (hs : oppB a b = s)
    (ht : ∀ w, Calls Try.prog 41 #[.int .u64 (absZ a), .int .u64 (absZ b)] w fun e w' => e = .returned (.tuple #[.agg #[.int .u64 x, .int .u64 y], .bool rb]) ∧ Grown w w')
    (hx : 0 ≤ x) (hx' : x < 4294967296) (hy : 0 ≤ y) (hy' : y ≤ 18446744073709551615) (hr : s = true ∨ rb = false) :
    Calls Try.prog 21 #[.int .i64 a, .int .i64 b] w fun e w' => e = .returned (.int .i64 (scut s (x * 18446744073709551616 + y))) ∧ Grown w w' := by
  unfold oppB at hs
  by_cases ka : a < 0 <;> by_cases kb : b < 0
  all_goals
    simp [ka, kb] at hs
    subst hs
    cases rb
    · clear hr
      go_enter Try.func21, Try.ntmps21
      go_wp2_with (first | (go_at_call 36; refine (rsize_any _ _ (by omega) (by omega)).mono ?_; rintro e w' ⟨rfl, rfl⟩) | (go_at_call 41; refine (ht _).mono ?_; rintro e w1 ⟨rfl, hg1⟩) | (go_at_call 38; refine (back_any _ _ _ _ (by omega) (by omega) (by omega) (by omega)).mono ?_; rintro e w2 ⟨rfl, hg2⟩))
      go_ret
      exact ⟨rfl, grown_trans (hg1.alloc _ _) hg2⟩
    · first
        | (exfalso; revert hr; decide)
        | (clear hr
           go_enter Try.func21, Try.ntmps21
           go_wp2_with (first | (go_at_call 36; refine (rsize_any _ _ (by omega) (by omega)).mono ?_; rintro e w' ⟨rfl, rfl⟩) | (go_at_call 41; refine (ht _).mono ?_; rintro e w1 ⟨rfl, hg1⟩) | (go_at_call 38; refine (back_any _ _ _ _ (by omega) (by omega) (by omega) (by omega)).mono ?_; rintro e w2 ⟨rfl, hg2⟩))
           go_ret
           exact ⟨rfl, grown_trans (hg1.alloc _ _) hg2⟩)

theorem rcdiv_more (a b x y N : Int) (w : World) (ha : -9223372036854775808 ≤ a) (ha' : a ≤ 9223372036854775807) (hb : -9223372036854775808 ≤ b) (hb' : b ≤ 9223372036854775807) (h0 : (b == 0) = false)
    (hs : oppB a b = !true)
    (ht : ∀ w, Calls Try.prog 41 #[.int .u64 (absZ a), .int .u64 (absZ b)] w fun e w' => e = .returned (.tuple #[.agg #[.int .u64 x, .int .u64 y], .bool true]) ∧ Grown w w')
    (hx : 0 ≤ x) (hx' : x < 4294967296) (hy : 0 ≤ y) (hy' : y ≤ 18446744073709551615) (hN : N = x * 18446744073709551616 + y) :
    Calls Try.prog 21 #[.int .i64 a, .int .i64 b] w fun e w' => e = .returned (.int .i64 (scut (!true) (N + 1))) ∧ Grown w w' := by
  have HN : Hid (N = x * 18446744073709551616 + y) := hN
  have eN : Hid ((N + 1) / 18446744073709551616 * 18446744073709551616 + (N + 1) % 18446744073709551616 = N + 1) := by show _ = _; omega
  have N0 : 0 ≤ N := by omega
  have N1 : N < 18446744073709551616 * 4294967296 := by omega
  clear hN
  unfold oppB at hs
  by_cases ka : a < 0 <;> by_cases kb : b < 0
  all_goals simp [ka, kb] at hs
  all_goals
    go_enter Try.func21, Try.ntmps21
    go_wp2_with (first | (go_at_call 36; refine (rsize_any _ _ (by omega) (by omega)).mono ?_; rintro e w' ⟨rfl, rfl⟩) | (go_at_call 41; refine (ht _).mono ?_; rintro e w1 ⟨rfl, hg1⟩))
    refine (more_any _ _ N _ HN.out (by omega) (by omega) (by omega) (by omega)).mono ?_
    rintro e w2 ⟨rfl, hg2⟩
    have c0 := grown_cell hg2 (b := w1.heap.size) (off := 0) (v := .int .u64 x) (by simp)
    have c1 := grown_cell hg2 (b := w1.heap.size) (off := 1) (v := .int .u64 y) (by simp)
    have f0 := grown_frozen hg2 (a := ⟨w1.heap.size, 0, none⟩) (by simp)
    have f1 := grown_frozen hg2 (a := ⟨w1.heap.size, 1, none⟩) (by simp)
    have s1 := grown_size hg1
    have hg3 := grown_trans (hg1.alloc _ _) hg2
    go_wp2_with (go_at_call 38; refine (back_any _ _ _ _ (by omega) (by omega) (by omega) (by omega)).mono ?_; rintro e w3 ⟨rfl, hg4⟩)
    go_ret
    rw [eN.out]
    exact ⟨rfl, grown_trans ((hg3.setCell (by simp; omega) _).setCell (by simp; omega) _) hg4⟩

theorem rcdiv_quo (a b : Int) (w : World) (ha : -9223372036854775808 ≤ a) (ha' : a ≤ 9223372036854775807) (hb : -9223372036854775808 ≤ b) (hb' : b ≤ 9223372036854775807) :
    Calls Try.prog 21 #[.int .i64 a, .int .i64 b] w fun e w' => e = .returned (.int .i64 (quoZ true a b)) ∧ Grown w w' := by
  by_cases h0 : b = 0
  · subst h0
    refine (rcdiv_zero a w).mono ?_
    rintro e w' ⟨rfl, rfl⟩
    exact ⟨rfl, Grown.refl _⟩
  · have a0 := abs_nonneg a
    have a1 := abs_bd ha ha'
    have d0 : 0 < absZ b := by unfold absZ; omega
    have d1 := abs_bd hb hb'
    have hz : (b == 0) = false := by simpa using h0
    have ht := fun w => over_two (absZ a) (absZ b) w a0 a1 d0 d1
    have Q0 : 0 ≤ absZ a * 4294967296 / absZ b := Int.ediv_nonneg (by omega) (by omega)
    have Q1 : absZ a * 4294967296 / absZ b ≤ absZ a * 4294967296 := Int.ediv_le_self _ (by omega)
    rw [quo_scut true a b h0]
    have eq : ∀ Q : Int, Q = Q / 18446744073709551616 * 18446744073709551616 + Q % 18446744073709551616 := fun Q => by omega
    generalize absZ a * 4294967296 / absZ b = Q at *
    generalize absZ a * 4294967296 % absZ b = R at *
    by_cases hr : oppB a b ≠ true ∧ R ≠ 0
    · have ho : oppB a b = !true := by have h1 := hr.1; revert h1; cases oppB a b <;> decide
      rw [if_pos hr, ho]
      have hR : (R != 0) = true := by simpa using hr.2
      rw [hR] at ht
      exact rcdiv_more a b _ _ Q w ha ha' hb hb' hz ho ht (by omega) (by omega) (by omega) (by omega) (eq Q)
    · rw [if_neg hr]
      have := rcdiv_plain (oppB a b) (R != 0) a b _ _ w ha ha' hb hb' hz rfl ht (by omega) (by omega) (by omega) (by omega) (by
        by_cases h : oppB a b = true
        · exact Or.inl h
        · right
          by_cases hR : R = 0
          · simp [hR]
          · exact absurd ⟨h, hR⟩ hr)
      rw [← eq Q] at this
      rw [Int.add_zero]
      exact this

theorem rdiv_any (a b : Int) (w : World) (ha : -9223372036854775808 ≤ a) (ha' : a ≤ 9223372036854775807) (hb : -9223372036854775808 ≤ b) (hb' : b ≤ 9223372036854775807) :
    Calls Try.prog 19 #[.int .i64 a, .int .i64 b] w fun e w' => e = .returned (.int .i64 (divZ a b)) ∧ Grown w w' := by
  rw [← quo_down]; exact rdiv_quo a b w ha ha' hb hb'
theorem rcdiv_any (a b : Int) (w : World) (ha : -9223372036854775808 ≤ a) (ha' : a ≤ 9223372036854775807) (hb : -9223372036854775808 ≤ b) (hb' : b ≤ 9223372036854775807) :
    Calls Try.prog 21 #[.int .i64 a, .int .i64 b] w fun e w' => e = .returned (.int .i64 (cdivZ a b)) ∧ Grown w w' := by
  rw [← quo_up]; exact rcdiv_quo a b w ha ha' hb hb'
end Go.Proofs.Ytnagkbdnondklaa
