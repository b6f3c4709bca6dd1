/-
  What fixed.Div and fixed.CeilDiv return, for all numbers: the quotient rounded down, or up, and cut; by nought what the sign tells.
-/
import Derived.Test.YtnagkbdnondklabDiv64b
namespace Go.Proofs.Ytnagkbdnondklab
open Go.RowKit
set_option linter.unusedVariables false

theorem grown_trans {a b c : World} (h : Grown a b) (k : Grown b c) : Grown a c :=
  ⟨World.keptBut_trans h.1 k.1, fun x => (k.2.1 x).trans (h.2.1 x), Nat.le_trans h.2.2 k.2.2⟩
theorem lt_of_cell {w : World} {b off : Nat} {v : Value} (h : w.cell? ⟨b, off, none⟩ = some v) : b < w.heap.size := by
  unfold World.cell? at h
  rcases Nat.lt_or_ge b w.heap.size with g | g
  · exact g
  · rw [Array.getElem?_eq_none (by simpa using g)] at h
    simp at h
theorem grown_cell {w w' : World} (h : Grown w w') {b off : Nat} {v : Value} (hc : w.cell? ⟨b, off, none⟩ = some v) : w'.cell? ⟨b, off, none⟩ = some v := by
  rw [h.1.cell (lt_of_cell hc) (fun f => f.elim)]; exact hc

def quoZ (up : Bool) (a b : Int) : Int := if up then cdivZ a b else divZ a b

theorem neg_ediv {N D : Int} (hD : 0 < D) : (-N) / D = -(N / D) - (if N % D = 0 then 0 else 1) := by
  have e := Int.mul_ediv_add_emod N D
  have m0 := Int.emod_nonneg N (Int.ne_of_gt hD)
  have m1 := Int.emod_lt_of_pos N hD
  by_cases h : N % D = 0
  · rw [if_pos h]
    have := (Int.ediv_emod_unique hD (a := -N) (q := -(N / D)) (r := 0)).mpr ⟨by rw [Int.mul_neg]; omega, by omega, by omega⟩
    rw [this.1]; omega
  · rw [if_neg h]
    have := (Int.ediv_emod_unique hD (a := -N) (q := -(N / D) - 1) (r := D - N % D)).mpr ⟨by rw [Int.mul_sub, Int.mul_neg, Int.mul_one]; omega, by omega, by omega⟩
    rw [this.1]

theorem fq_abs (a b : Int) (hb : b ≠ 0) : fq (a * 4294967296) b = if oppB a b then (-(absZ a * 4294967296)) / absZ b else absZ a * 4294967296 / absZ b := by
  unfold fq oppB
  rcases Int.lt_or_le a 0 with ha | ha <;> rcases Int.lt_or_le b 0 with hb' | hb'
  · rw [if_neg (by omega), abs_neg ha, abs_neg hb']; simp [ha, hb', Int.neg_mul]
  · rw [if_pos (by omega), abs_neg ha, abs_pos hb']; simp [ha, Int.not_lt.mpr hb', Int.neg_mul]
  · rw [if_neg (by omega), abs_pos ha, abs_neg hb']; simp [hb', Int.not_lt.mpr ha]
  · rw [if_pos (by omega), abs_pos ha, abs_pos hb']; simp [Int.not_lt.mpr ha, Int.not_lt.mpr hb']
theorem fq_abs_neg (a b : Int) (hb : b ≠ 0) : fq (-(a * 4294967296)) b = if oppB a b then absZ a * 4294967296 / absZ b else (-(absZ a * 4294967296)) / absZ b := by
  unfold fq oppB
  rcases Int.lt_or_le a 0 with ha | ha <;> rcases Int.lt_or_le b 0 with hb' | hb'
  · rw [if_neg (by omega), abs_neg ha, abs_neg hb']; simp [ha, hb', Int.neg_mul]
  · rw [if_pos (by omega), abs_neg ha, abs_pos hb']; simp [ha, Int.not_lt.mpr hb', Int.neg_mul]
  · rw [if_neg (by omega), abs_pos ha, abs_neg hb']; simp [hb', Int.not_lt.mpr ha]
  · rw [if_pos (by omega), abs_pos ha, abs_pos hb']; simp [Int.not_lt.mpr ha, Int.not_lt.mpr hb']

theorem quo_zero (up : Bool) (a : Int) : signZ a = quoZ up a 0 := by unfold quoZ cdivZ divZ; cases up <;> simp
theorem quo_signed (up : Bool) (a b : Int) (hb : b ≠ 0) : quoZ up a b = cutZ (if oppB a b
    then -(absZ a * 4294967296 / absZ b) - (if up then 0 else if absZ a * 4294967296 % absZ b = 0 then 0 else 1)
    else absZ a * 4294967296 / absZ b + (if up then if absZ a * 4294967296 % absZ b = 0 then 0 else 1 else 0)) := by
  have hD : 0 < absZ b := by unfold absZ; omega
  unfold quoZ cdivZ divZ
  rw [if_neg hb, if_neg hb, fq_abs a b hb, fq_abs_neg a b hb, neg_ediv hD]
  cases up <;> cases oppB a b <;> simp
  congr 1; omega
theorem quo_over (up : Bool) (a b : Int) (hb : b ≠ 0) (h : absZ b ≤ absZ a / 4294967296) : scut (oppB a b) 9223372036854775808 = quoZ up a b := by
  rw [quo_signed up a b hb]
  have hD : 0 < absZ b := by unfold absZ; omega
  have hq : 18446744073709551616 ≤ absZ a * 4294967296 / absZ b := by
    apply (Int.le_ediv_iff_mul_le hD).mpr
    have := Int.mul_le_mul_of_nonneg_left h (show (0:Int) ≤ 18446744073709551616 by decide)
    omega
  unfold scut
  generalize absZ a * 4294967296 / absZ b = q at *
  cases oppB a b
  · simp only [Bool.false_eq_true, if_false]; rw [cut_hi (by omega), cut_hi (by split <;> (try split) <;> omega)]
  · simp only [if_true]; rw [cut_lo (by omega), cut_lo (by split <;> (try split) <;> omega)]
theorem quo_meet (up : Bool) (a b : Int) (hb : b ≠ 0) : rndZ up (oppB a b) (absZ a * 4294967296 / absZ b) (absZ a * 4294967296 % absZ b) = quoZ up a b := by
  rw [quo_signed up a b hb]
  have hD : 0 < absZ b := by unfold absZ; omega
  have hq : 0 ≤ absZ a * 4294967296 / absZ b := Int.ediv_nonneg (by have := abs_nonneg a; omega) (by omega)
  unfold rndZ scut
  generalize absZ a * 4294967296 / absZ b = q at *
  generalize absZ a * 4294967296 % absZ b = r at *
  by_cases hr : r = 0
  · cases up <;> cases oppB a b <;> simp [hr]
  · by_cases hw : q < 9223372036854775808
    · cases up <;> cases oppB a b <;> simp [hr, hw]
      congr 1; omega
    · cases up <;> cases oppB a b <;> simp [hr, hw]
      · rw [cut_lo (by omega), cut_lo (by omega)]
      · rw [cut_hi (by omega), cut_hi (by omega)]

theorem divide_zero (up : Bool) (a : Int) (f : Value) (w : World) :
    Calls Try.prog 21 #[.int .i64 a, .int .i64 0, f] w fun e w' => e = .returned (.int .i64 (quoZ up a 0)) ∧ w' = w := by
  rw [← quo_zero]
  go_enter Try.func21, Try.ntmps21
  go_wp2_with (go_at_call 23; refine (sign_any _ _).mono ?_; rintro e w' ⟨rfl, rfl⟩)
  go_ret
  exact ⟨rfl, rfl⟩

theorem divide_over (up : Bool) (a b D A : Int) (f : Value) (w : World) (ha : -9223372036854775808 ≤ a) (ha' : a ≤ 9223372036854775807) (hb : -9223372036854775808 ≤ b) (hb' : b ≤ 9223372036854775807) (h0 : (b == 0) = false)
    (eA : absZ a = A) (eD : absZ b = D) (A0 : 0 ≤ A) (A1 : A ≤ 9223372036854775808) (h : D ≤ A / 4294967296) :
    Calls Try.prog 21 #[.int .i64 a, .int .i64 b, f] w fun e w' => e = .returned (.int .i64 (scut (oppB a b) 9223372036854775808)) ∧ w' = w := by
  go_enter Try.func21, Try.ntmps21
  go_wp2_with (first | (go_at_call 17; refine (size_any _ _ (by omega) (by omega)).mono ?_; rintro e w' ⟨rfl, rfl⟩) | (go_at_call 19; refine (opp_any _ _ _).mono ?_; rintro e w' ⟨rfl, rfl⟩) | (go_at_call 18; refine (cut_any _ _ _ (by omega) (by omega)).mono ?_; rintro e w' ⟨rfl, rfl⟩))
  go_ret
  exact ⟨rfl, rfl⟩

theorem divide_in (up : Bool) (a b D A Q R : Int) (blk : Nat) (w : World) (ha : -9223372036854775808 ≤ a) (ha' : a ≤ 9223372036854775807) (hb : -9223372036854775808 ≤ b) (hb' : b ≤ 9223372036854775807) (h0 : (b == 0) = false)
    (hcell : w.cell? ⟨blk, 0, none⟩ = some (.bool up)) (eA : absZ a = A) (eD : absZ b = D) (A0 : 0 ≤ A) (A1 : A ≤ 9223372036854775808) (D1 : D ≤ 9223372036854775808) (h : A / 4294967296 < D) (Q0 : 0 ≤ Q) (Q1 : Q ≤ 18446744073709551615)
    (h64 : ∀ w, Calls Try.prog 24 #[.int .u64 (A / 4294967296), .int .u64 (IntKind.u64.wrap (A * 4294967296)), .int .u64 D] w fun e w' => e = .returned (.tuple #[.int .u64 Q, .int .u64 R]) ∧ Grown w w') :
    Calls Try.prog 21 #[.int .i64 a, .int .i64 b, .func (.func 22) #[] #[.pointer (some ⟨blk, 0, none⟩)]] w fun e w' => e = .returned (.int .i64 (rndZ up (oppB a b) Q R)) ∧ Grown w w' := by
  go_enter Try.func21, Try.ntmps21
  go_wp2_with (first | (go_at_call 17; refine (size_any _ _ (by omega) (by omega)).mono ?_; rintro e w' ⟨rfl, rfl⟩) | (go_at_call 19; refine (opp_any _ _ _).mono ?_; rintro e w' ⟨rfl, rfl⟩))
  refine (h64 _).mono ?_
  rintro e w1 ⟨rfl, hg⟩
  have hc1 := grown_cell hg hcell
  clear h64
  go_wp2_with (go_at_call 22; refine (round_any up _ _ _ _ _ hc1 (by omega) (by omega)).mono ?_; rintro e w' ⟨rfl, rfl⟩)
  go_ret
  exact ⟨rfl, hg⟩

theorem divide_any (up : Bool) (a b : Int) (blk : Nat) (w : World) (ha : -9223372036854775808 ≤ a) (ha' : a ≤ 9223372036854775807) (hb : -9223372036854775808 ≤ b) (hb' : b ≤ 9223372036854775807)
    (hcell : w.cell? ⟨blk, 0, none⟩ = some (.bool up)) :
    Calls Try.prog 21 #[.int .i64 a, .int .i64 b, .func (.func 22) #[] #[.pointer (some ⟨blk, 0, none⟩)]] w fun e w' => e = .returned (.int .i64 (quoZ up a b)) ∧ Grown w w' := by
  by_cases h0 : b = 0
  · subst h0
    refine (divide_zero up a _ w).mono ?_
    rintro e w' ⟨rfl, rfl⟩
    exact ⟨rfl, Grown.refl _⟩
  · have a0 := abs_nonneg a
    have a1 := abs_bd ha ha'
    have d0 : 0 < absZ b := by unfold absZ; omega
    have d1 := abs_bd hb hb'
    have hz : (b == 0) = false := by simpa using h0
    by_cases h : absZ b ≤ absZ a / 4294967296
    · rw [← quo_over up a b h0 h]
      refine (divide_over up a b _ _ _ w ha ha' hb hb' hz rfl rfl a0 a1 h).mono ?_
      rintro e w' ⟨rfl, rfl⟩
      exact ⟨rfl, Grown.refl _⟩
    · rw [← quo_meet up a b h0]
      have eN : absZ a / 4294967296 * 18446744073709551616 + IntKind.u64.wrap (absZ a * 4294967296) = absZ a * 4294967296 := by rw [IntKind.wrap_u64]; omega
      have wb : 0 ≤ IntKind.u64.wrap (absZ a * 4294967296) ∧ IntKind.u64.wrap (absZ a * 4294967296) ≤ 18446744073709551615 := by rw [IntKind.wrap_u64]; omega
      refine divide_in up a b (absZ b) (absZ a) _ _ blk w ha ha' hb hb' hz hcell rfl rfl a0 a1 d1 (by omega) (Int.ediv_nonneg (by omega) (by omega)) ?_ ?_
      · have : absZ a * 4294967296 / absZ b < 18446744073709551616 := by
          apply Int.ediv_lt_of_lt_mul d0
          omega
        omega
      · intro w
        have := div64_any (absZ a / 4294967296) (IntKind.u64.wrap (absZ a * 4294967296)) (absZ b) w (by omega) (by omega) wb.1 wb.2 (by omega)
        rw [eN] at this
        exact this

theorem quo_bd (up : Bool) (a b : Int) : -9223372036854775808 ≤ quoZ up a b ∧ quoZ up a b ≤ 9223372036854775807 := by
  unfold quoZ; split; exact cdiv_bd a b; exact div_bd a b

theorem quo_down (a b : Int) : quoZ false a b = divZ a b := by simp [quoZ]
theorem quo_up (a b : Int) : quoZ true a b = cdivZ a b := by simp [quoZ]

theorem div_any (a b : Int) (w : World) (ha : -9223372036854775808 ≤ a) (ha' : a ≤ 9223372036854775807) (hb : -9223372036854775808 ≤ b) (hb' : b ≤ 9223372036854775807) :
    Calls Try.prog 10 #[.int .i64 a, .int .i64 b] w fun e w' => e = .returned (.int .i64 (divZ a b)) ∧ Grown w w' := by
  rw [← quo_down]
  go_enter Try.func10, Try.ntmps10
  go_wp2_with (go_at_call 20; go_in)
  refine (divide_any false a b _ _ ha ha' hb hb' (by simp)).mono ?_
  rintro e w1 ⟨rfl, hg⟩
  go_wp2
  go_ret
  exact ⟨rfl, grown_trans ((Grown.refl _).alloc _ _) hg⟩

theorem cdiv_any (a b : Int) (w : World) (ha : -9223372036854775808 ≤ a) (ha' : a ≤ 9223372036854775807) (hb : -9223372036854775808 ≤ b) (hb' : b ≤ 9223372036854775807) :
    Calls Try.prog 11 #[.int .i64 a, .int .i64 b] w fun e w' => e = .returned (.int .i64 (cdivZ a b)) ∧ Grown w w' := by
  rw [← quo_up]
  go_enter Try.func11, Try.ntmps11
  go_wp2_with (go_at_call 20; go_in)
  refine (divide_any true a b _ _ ha ha' hb hb' (by simp)).mono ?_
  rintro e w1 ⟨rfl, hg⟩
  go_wp2
  go_ret
  exact ⟨rfl, grown_trans ((Grown.refl _).alloc _ _) hg⟩

theorem alive_any (w : World) : Calls Try.prog 7 #[] w fun e w' => e = .returned (.bool true) ∧ Grown w w' := by
  have c1 : mulZ 6442450944 8589934592 = 12884901888 := by decide
  have c2 : divZ (-4294967296) 12884901888 = -1431655766 := by decide
  have c3 : ofZ 1099511627776 = 9223372036854775807 := by decide
  have c4 : floorZ (-1) = -1 := by decide
  have c5 : ceilZ (-1) = 0 := by decide
  go_enter Try.func7, Try.ntmps7
  go_wp2_with (go_at_call 9; refine (mul_any _ _ _ (by decide) (by decide) (by decide) (by decide)).mono ?_; rintro e w1 ⟨rfl, hg1⟩; rw [c1])
  go_wp2_with (go_at_call 10; refine (div_any _ _ _ (by decide) (by decide) (by decide) (by decide)).mono ?_; rintro e w2 ⟨rfl, hg2⟩; rw [c2])
  go_wp2_with (go_at_call 13; refine (of_any _ _ (by decide) (by decide)).mono ?_; rintro e w3 ⟨rfl, hg3⟩; rw [c3])
  go_wp2_with (go_at_call 15; refine (floor_any _ _ (by decide) (by decide)).mono ?_; rintro e w4 ⟨rfl, hg4⟩; rw [c4])
  go_wp2_with (go_at_call 12; refine (ceil_any _ _ (by decide) (by decide)).mono ?_; rintro e w5 ⟨rfl, hg5⟩; rw [c5])
  subst hg3 hg4 hg5
  go_ret
  exact ⟨rfl, grown_trans hg1 hg2⟩
end Go.Proofs.Ytnagkbdnondklab
