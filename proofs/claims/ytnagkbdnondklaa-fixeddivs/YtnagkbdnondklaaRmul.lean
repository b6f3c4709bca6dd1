/-
  What the document's own answer for products returns: the product, rounded down and cut.
-/
import Derived.Test.YtnagkbdnondklaaWide
namespace Go.Proofs.Ytnagkbdnondklaa
open Go.RowKit
set_option linter.unusedVariables false

theorem or_comm_u64 (x y : Int) (h0 : 0 ≤ x) (h1 : x ≤ 18446744073709551615) (h2 : 0 ≤ y) (h3 : y ≤ 18446744073709551615) : bits .or .u64 x y = bits .or .u64 y x := by
  obtain ⟨a, rfl⟩ : ∃ n : Nat, x = n := ⟨x.toNat, by omega⟩
  obtain ⟨b, rfl⟩ : ∃ n : Nat, y = n := ⟨y.toNat, by omega⟩
  rw [bits_or_u64_nat _ _ (by omega) (by omega), bits_or_u64_nat _ _ (by omega) (by omega), Nat.or_comm]
theorem mul_signed (a b : Int) : mulZ a b = scut (oppB a b) (absZ a * absZ b / 4294967296 + (if oppB a b ∧ absZ a * absZ b % 4294967296 ≠ 0 then 1 else 0)) := by
  have e := abs_mul a b
  rw [e]
  unfold mulZ scut
  cases oppB a b
  · simp
  · simp
    congr 1
    generalize a * b = p
    split <;> omega

theorem grown_frozen {w w' : World} (h : Grown w w') {a : Addr} (hf : w.frozen? a = false) : w'.frozen? a = false := (h.2.1 a).trans hf
theorem grown_size {w w' : World} (h : Grown w w') : w.heap.size ≤ w'.heap.size := h.2.2

theorem rmul_plain (s : Bool) (a b x y L : Int) (w : World) (ha : -9223372036854775808 ≤ a) (ha' : a ≤ 9223372036854775807) (hb : -9223372036854775808 ≤ b) (hb' : b ≤ 9223372036854775807)
    (hs : oppB a b = s)
    (ht : ∀ w, Calls Try.prog 35 #[.int .u64 (absZ a), .int .u64 (absZ b)] w fun e w' => e = .returned (.agg #[.int .u64 x, .int .u64 y]) ∧ Grown w w')
    (hx : 0 ≤ x) (hx' : x ≤ 18446744073709551615) (hy : 0 ≤ y) (hy' : y ≤ 18446744073709551615) (hm : bits .and .u64 y 4294967295 = y % 4294967296)
    (hL : bits .or .u64 (y / 4294967296) (IntKind.u64.wrap (x * 4294967296)) = L) (hl0 : 0 ≤ L) (hl1 : L ≤ 18446744073709551615) (hr : s = false ∨ y % 4294967296 = 0) :
    Calls Try.prog 17 #[.int .i64 a, .int .i64 b] w fun e w' => e = .returned (.int .i64 (scut s (x / 4294967296 * 18446744073709551616 + L))) ∧ Grown w w' := by
  have h0 : s = true → (y % 4294967296 != 0) = false := fun h => by rcases hr with k | k <;> simp_all
  clear hr
  unfold oppB at hs
  by_cases ka : a < 0 <;> by_cases kb : b < 0
  all_goals
    simp [ka, kb] at hs
    subst hs
    simp at h0
    go_enter Try.func17, Try.ntmps17
    go_wp2_with (first | (go_at_call 36; refine (rsize_any _ _ (by omega) (by omega)).mono ?_; rintro e w' ⟨rfl, rfl⟩) | (go_at_call 35; refine (ht _).mono ?_; rintro e w1 ⟨rfl, hg1⟩) | (go_at_call 38; refine (back_any _ _ _ _ (by omega) (by omega) (by omega) (by omega)).mono ?_; rintro e w2 ⟨rfl, hg2⟩))
    go_ret
    exact ⟨rfl, grown_trans ((hg1.alloc _ _).alloc _ _) hg2⟩

theorem rmul_more (a b x y L N : Int) (w : World) (ha : -9223372036854775808 ≤ a) (ha' : a ≤ 9223372036854775807) (hb : -9223372036854775808 ≤ b) (hb' : b ≤ 9223372036854775807)
    (hs : oppB a b = true)
    (ht : ∀ w, Calls Try.prog 35 #[.int .u64 (absZ a), .int .u64 (absZ b)] w fun e w' => e = .returned (.agg #[.int .u64 x, .int .u64 y]) ∧ Grown w w')
    (hx : 0 ≤ x) (hx' : x ≤ 18446744073709551615) (hy : 0 ≤ y) (hy' : y ≤ 18446744073709551615) (hm : bits .and .u64 y 4294967295 = y % 4294967296)
    (hL : bits .or .u64 (y / 4294967296) (IntKind.u64.wrap (x * 4294967296)) = L) (hl0 : 0 ≤ L) (hl1 : L ≤ 18446744073709551615) (hr : (y % 4294967296 != 0) = true)
    (hN : N = x / 4294967296 * 18446744073709551616 + L) :
    Calls Try.prog 17 #[.int .i64 a, .int .i64 b] w fun e w' => e = .returned (.int .i64 (scut true (N + 1))) ∧ Grown w w' := by
  have HN : Hid (N = x / 4294967296 * 18446744073709551616 + L) := hN
  have eN : Hid ((N + 1) / 18446744073709551616 * 18446744073709551616 + (N + 1) % 18446744073709551616 = N + 1) := by show _ = _; omega
  have N0 : 0 ≤ N := by omega
  have N1 : N < 18446744073709551616 * 4294967296 := by omega
  clear hN
  unfold oppB at hs
  by_cases ka : a < 0 <;> by_cases kb : b < 0
  all_goals simp [ka, kb] at hs
  all_goals
    go_enter Try.func17, Try.ntmps17
    go_wp2_with (first | (go_at_call 36; refine (rsize_any _ _ (by omega) (by omega)).mono ?_; rintro e w' ⟨rfl, rfl⟩) | (go_at_call 35; refine (ht _).mono ?_; rintro e w1 ⟨rfl, hg1⟩))
    refine (more_any _ _ N _ HN.out (by omega) (by omega) (by omega) (by omega)).mono ?_
    rintro e w2 ⟨rfl, hg2⟩
    have c0 := grown_cell hg2 (b := w1.heap.size + 1) (off := 0) (v := .int .u64 (x / 4294967296)) (by simp)
    have c1 := grown_cell hg2 (b := w1.heap.size + 1) (off := 1) (v := .int .u64 L) (by simp)
    have f0 := grown_frozen hg2 (a := ⟨w1.heap.size + 1, 0, none⟩) (by simp)
    have f1 := grown_frozen hg2 (a := ⟨w1.heap.size + 1, 1, none⟩) (by simp)
    have s1 := grown_size hg1
    have hg3 := grown_trans ((hg1.alloc _ _).alloc _ _) hg2
    go_wp2_with (go_at_call 38; refine (back_any _ _ _ _ (by omega) (by omega) (by omega) (by omega)).mono ?_; rintro e w3 ⟨rfl, hg4⟩)
    go_ret
    rw [eN.out]
    exact ⟨rfl, grown_trans ((hg3.setCell (by simp; omega) _).setCell (by simp; omega) _) hg4⟩

theorem rmul_any (a b : Int) (w : World) (ha : -9223372036854775808 ≤ a) (ha' : a ≤ 9223372036854775807) (hb : -9223372036854775808 ≤ b) (hb' : b ≤ 9223372036854775807) :
    Calls Try.prog 17 #[.int .i64 a, .int .i64 b] w fun e w' => e = .returned (.int .i64 (mulZ a b)) ∧ Grown w w' := by
  have a0 := abs_nonneg a
  have a1 := abs_bd ha ha'
  have b0 := abs_nonneg b
  have b1 := abs_bd hb hb'
  have hh := hi_bd (absZ a) (absZ b) a0 (by omega) b0 (by omega)
  have hl := lo_bd (absZ a) (absZ b)
  have ht := fun w => times_any (absZ a) (absZ b) w a0 (by omega) b0 (by omega)
  have hP : absZ a * absZ b = hi64 (absZ a) (absZ b) * 18446744073709551616 + lo64 (absZ a) (absZ b) := by unfold hi64 lo64; omega
  have hm := mask_u64 (lo64 (absZ a) (absZ b)) hl.1 hl.2
  rw [mul_signed, hP]
  generalize hi64 (absZ a) (absZ b) = x at *
  generalize lo64 (absZ a) (absZ b) = y at *
  have hL : bits .or .u64 (y / 4294967296) (IntKind.u64.wrap (x * 4294967296)) = x % 4294967296 * 4294967296 + y / 4294967296 := by
    rw [show IntKind.u64.wrap (x * 4294967296) = x % 4294967296 * 4294967296 by rw [IntKind.wrap_u64]; omega, or_comm_u64 _ _ (by omega) (by omega) (by omega) (by omega)]
    exact join_u64 _ _ (by omega) (by omega) (by omega) (by omega)
  by_cases hr : oppB a b = true ∧ (x * 18446744073709551616 + y) % 4294967296 ≠ 0
  · rw [if_pos hr, hr.1]
    have e : (x * 18446744073709551616 + y) / 4294967296 = x / 4294967296 * 18446744073709551616 + (x % 4294967296 * 4294967296 + y / 4294967296) := by omega
    rw [e]
    exact rmul_more a b x y _ _ w ha ha' hb hb' hr.1 ht hh.1 hh.2 hl.1 hl.2 hm hL (by omega) (by omega) (by have := hr.2; simp; omega) rfl
  · rw [if_neg hr]
    have e : (x * 18446744073709551616 + y) / 4294967296 + 0 = x / 4294967296 * 18446744073709551616 + (x % 4294967296 * 4294967296 + y / 4294967296) := by omega
    rw [e]
    refine rmul_plain _ a b x y _ w ha ha' hb hb' rfl ht hh.1 hh.2 hl.1 hl.2 hm hL (by omega) (by omega) ?_
    cases ho : oppB a b
    · exact Or.inl rfl
    · right
      by_cases hz : (x * 18446744073709551616 + y) % 4294967296 = 0
      · omega
      · exact absurd ⟨ho, hz⟩ hr
end Go.Proofs.Ytnagkbdnondklaa
