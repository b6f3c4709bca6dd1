/-
  What the document's own answers return for the product of two words, for one more, and for a number of a sign and a size, cut.
-/
import Derived.Test.YtnagkbdnondklaaRef
namespace Go.Proofs.Ytnagkbdnondklaa
open Go.RowKit
set_option linter.unusedVariables false

theorem rsize_any (n : Int) (w : World) (h0 : -9223372036854775808 ≤ n) (h1 : n ≤ 9223372036854775807) :
    Calls Try.prog 36 #[.int .i64 n] w fun e w' => e = .returned (.int .u64 (absZ n)) ∧ w' = w := by
  go_enter Try.func36, Try.ntmps36
  go_wp2
  all_goals
    go_ret
    exact ⟨ret_int (by unfold absZ; omega), rfl⟩

theorem rnone_any (a : Int) (w : World) :
    Calls Try.prog 40 #[.int .i64 a] w fun e w' => e = .returned (.int .i64 (signZ a)) ∧ w' = w := by
  go_enter Try.func40, Try.ntmps40
  go_wp2
  all_goals
    go_ret
    exact ⟨ret_int (by unfold signZ; first | (rw [if_pos (by omega)]; done) | (rw [if_neg (by omega), if_pos (by omega)]; done) | (rw [if_neg (by omega), if_neg (by omega)]; done)), rfl⟩

theorem back_any (s : Bool) (h l : Int) (w : World) (h0 : 0 ≤ h) (h1 : h ≤ 18446744073709551615) (l0 : 0 ≤ l) (l1 : l ≤ 18446744073709551615) :
    Calls Try.prog 38 #[.bool s, .agg #[.int .u64 h, .int .u64 l]] w fun e w' => e = .returned (.int .i64 (scut s (h * 18446744073709551616 + l))) ∧ Grown w w' := by
  have hs : ∀ x, scut true x = cutZ (-x) := fun x => by simp [scut]
  have hs' : ∀ x, scut false x = cutZ x := fun x => by simp [scut]
  cases s
  · rw [hs']
    clear hs hs'
    by_cases hh : 0 < h <;> by_cases hl : 9223372036854775807 < l
    all_goals
      go_enter Try.func38, Try.ntmps38
      go_wp2
      go_ret
      exact ⟨ret_int (by first | (rw [cut_in (by omega) (by omega)]; omega) | (rw [cut_hi (by omega)]; done)), (Grown.refl _).alloc _ _⟩
  · rw [hs]
    clear hs hs'
    by_cases hh : 0 < h <;> by_cases hl : 9223372036854775808 < l <;> by_cases hk : l = 9223372036854775808
    all_goals first | (exfalso; omega) | skip
    all_goals
      go_enter Try.func38, Try.ntmps38
      go_wp2
      go_ret
      exact ⟨ret_int (by first | (rw [cut_in (by omega) (by omega)]; omega) | (rw [cut_lo (by omega)]; done)), (Grown.refl _).alloc _ _⟩

theorem more_in (h l : Int) (w : World) (h0 : 0 ≤ h) (h1 : h ≤ 18446744073709551615) (l0 : 0 ≤ l) (l1 : l < 18446744073709551615) :
    Calls Try.prog 37 #[.agg #[.int .u64 h, .int .u64 l]] w fun e w' => e = .returned (.agg #[.int .u64 h, .int .u64 (l + 1)]) ∧ Grown w w' := by
  go_enter Try.func37, Try.ntmps37
  go_wp2
  exact bodyPost_ret (v := .agg #[.int .u64 h, .int .u64 (l + 1)]) (by simp [results, Try.results37, go_sem]) rfl ⟨rfl, ((Grown.refl _).alloc _ _).alloc _ _⟩

theorem more_out (h : Int) (w : World) (h0 : 0 ≤ h) (h1 : h < 18446744073709551615) :
    Calls Try.prog 37 #[.agg #[.int .u64 h, .int .u64 18446744073709551615]] w fun e w' => e = .returned (.agg #[.int .u64 (h + 1), .int .u64 0]) ∧ Grown w w' := by
  go_enter Try.func37, Try.ntmps37
  go_wp2
  have hw : IntKind.u64.wrap 18446744073709551616 = 0 := by rw [IntKind.wrap_u64]; decide
  exact bodyPost_ret (v := .agg #[.int .u64 (h + 1), .int .u64 0]) (by simp [results, Try.results37, go_sem, hw]) rfl ⟨rfl, ((Grown.refl _).alloc _ _).alloc _ _⟩

def wideV (x : Int) : Value := .agg #[.int .u64 (x / 18446744073709551616), .int .u64 (x % 18446744073709551616)]
theorem wide_mk {h l x : Int} (h0 : x = h * 18446744073709551616 + l) (l0 : 0 ≤ l) (l1 : l ≤ 18446744073709551615) : Value.agg #[.int .u64 h, .int .u64 l] = wideV x := by
  unfold wideV
  rw [show x / 18446744073709551616 = h by omega, show x % 18446744073709551616 = l by omega]

theorem more_any (h l x : Int) (w : World) (hx : x = h * 18446744073709551616 + l) (h0 : 0 ≤ h) (h1 : h < 18446744073709551615) (l0 : 0 ≤ l) (l1 : l ≤ 18446744073709551615) :
    Calls Try.prog 37 #[.agg #[.int .u64 h, .int .u64 l]] w fun e w' => e = .returned (.agg #[.int .u64 ((x + 1) / 18446744073709551616), .int .u64 ((x + 1) % 18446744073709551616)]) ∧ Grown w w' := by
  by_cases hl : l = 18446744073709551615
  · subst hl
    refine (more_out h w h0 h1).mono ?_
    rintro e w' ⟨rfl, hg⟩
    rw [show (x + 1) / 18446744073709551616 = h + 1 by omega, show (x + 1) % 18446744073709551616 = 0 by omega]
    exact ⟨rfl, hg⟩
  · refine (more_in h l w h0 (by omega) l0 (by omega)).mono ?_
    rintro e w' ⟨rfl, hg⟩
    rw [show (x + 1) / 18446744073709551616 = h by omega, show (x + 1) % 18446744073709551616 = l + 1 by omega]
    exact ⟨rfl, hg⟩

/- The product by halves of words. -/
theorem times_math {a b ll lh hl hh mid : Int} (a0 : 0 ≤ a) (b0 : 0 ≤ b)
    (e1 : a % 4294967296 * (b % 4294967296) = ll) (e2 : a % 4294967296 * (b / 4294967296) = lh) (e3 : a / 4294967296 * (b % 4294967296) = hl) (e4 : a / 4294967296 * (b / 4294967296) = hh)
    (em : ll / 4294967296 + lh % 4294967296 + hl % 4294967296 = mid) (l0 : 0 ≤ ll) (l1 : 0 ≤ lh) (l2 : 0 ≤ hl) :
    hh + lh / 4294967296 + hl / 4294967296 + mid / 4294967296 = hi64 a b ∧ mid % 4294967296 * 4294967296 + ll % 4294967296 = lo64 a b := by
  have e : a * b = hh * 18446744073709551616 + (lh + hl) * 4294967296 + ll := by
    rw [← e1, ← e2, ← e3, ← e4]
    have ea : a = a / 4294967296 * 4294967296 + a % 4294967296 := by omega
    have eb : b = b / 4294967296 * 4294967296 + b % 4294967296 := by omega
    generalize a / 4294967296 = x1 at *
    generalize a % 4294967296 = x0 at *
    generalize b / 4294967296 = y1 at *
    generalize b % 4294967296 = y0 at *
    subst ea eb
    grind
  unfold hi64 lo64
  rw [e]
  omega

theorem times_core (a b al ah bl bh ll lh hl hh mid lo : Int) (w : World) (ha : bits .and .u64 a 4294967295 = al) (ha' : a / 4294967296 = ah) (hb : bits .and .u64 b 4294967295 = bl) (hb' : b / 4294967296 = bh)
    (e1 : al * bl = ll) (e2 : al * bh = lh) (e3 : ah * bl = hl) (e4 : ah * bh = hh) (b1 : 0 ≤ ll ∧ ll ≤ 18446744065119617025) (b2 : 0 ≤ lh ∧ lh ≤ 18446744065119617025) (b3 : 0 ≤ hl ∧ hl ≤ 18446744065119617025) (b4 : 0 ≤ hh ∧ hh ≤ 18446744065119617025)
    (m1 : bits .and .u64 lh 4294967295 = lh % 4294967296) (m2 : bits .and .u64 hl 4294967295 = hl % 4294967296) (m3 : bits .and .u64 ll 4294967295 = ll % 4294967296)
    (em : ll / 4294967296 + lh % 4294967296 + hl % 4294967296 = mid) (el : bits .or .u64 (IntKind.u64.wrap (mid * 4294967296)) (ll % 4294967296) = lo) :
    Calls Try.prog 35 #[.int .u64 a, .int .u64 b] w fun e w' => e = .returned (.agg #[.int .u64 (hh + lh / 4294967296 + hl / 4294967296 + mid / 4294967296), .int .u64 lo]) ∧ Grown w w' := by
  have M0 : 0 ≤ mid := by omega
  have M1 : mid ≤ 12884901885 := by omega
  have H1 : hh + lh / 4294967296 + hl / 4294967296 + mid / 4294967296 ≤ 18446744073709551615 := by omega
  go_enter Try.func35, Try.ntmps35
  go_wp2
  exact bodyPost_ret (v := .agg #[.int .u64 (hh + lh / 4294967296 + hl / 4294967296 + mid / 4294967296), .int .u64 lo]) (by simp [results, Try.results35, go_sem]) rfl ⟨rfl, (Grown.refl _).alloc _ _⟩

theorem half_bd {x y : Int} (h0 : 0 ≤ x) (h1 : x ≤ 4294967295) (h2 : 0 ≤ y) (h3 : y ≤ 4294967295) : 0 ≤ x * y ∧ x * y ≤ 18446744065119617025 :=
  ⟨Int.mul_nonneg h0 h2, by have := Int.mul_le_mul h1 h3 h2 (by decide); simpa using this⟩

theorem times_any (a b : Int) (w : World) (a0 : 0 ≤ a) (a1 : a ≤ 18446744073709551615) (b0 : 0 ≤ b) (b1 : b ≤ 18446744073709551615) :
    Calls Try.prog 35 #[.int .u64 a, .int .u64 b] w fun e w' => e = .returned (.agg #[.int .u64 (hi64 a b), .int .u64 (lo64 a b)]) ∧ Grown w w' := by
  have h1 := half_bd (x := a % 4294967296) (y := b % 4294967296) (by omega) (by omega) (by omega) (by omega)
  have h2 := half_bd (x := a % 4294967296) (y := b / 4294967296) (by omega) (by omega) (by omega) (by omega)
  have h3 := half_bd (x := a / 4294967296) (y := b % 4294967296) (by omega) (by omega) (by omega) (by omega)
  have h4 := half_bd (x := a / 4294967296) (y := b / 4294967296) (by omega) (by omega) (by omega) (by omega)
  obtain ⟨ll, e1⟩ : ∃ x, a % 4294967296 * (b % 4294967296) = x := ⟨_, rfl⟩
  obtain ⟨lh, e2⟩ : ∃ x, a % 4294967296 * (b / 4294967296) = x := ⟨_, rfl⟩
  obtain ⟨hl, e3⟩ : ∃ x, a / 4294967296 * (b % 4294967296) = x := ⟨_, rfl⟩
  obtain ⟨hh, e4⟩ : ∃ x, a / 4294967296 * (b / 4294967296) = x := ⟨_, rfl⟩
  rw [e1] at h1; rw [e2] at h2; rw [e3] at h3; rw [e4] at h4
  obtain ⟨mid, em⟩ : ∃ x, ll / 4294967296 + lh % 4294967296 + hl % 4294967296 = x := ⟨_, rfl⟩
  obtain ⟨t1, t2⟩ := times_math a0 b0 e1 e2 e3 e4 em h1.1 h2.1 h3.1
  have el : bits .or .u64 (IntKind.u64.wrap (mid * 4294967296)) (ll % 4294967296) = mid % 4294967296 * 4294967296 + ll % 4294967296 := by
    rw [show IntKind.u64.wrap (mid * 4294967296) = mid % 4294967296 * 4294967296 by rw [IntKind.wrap_u64]; omega]
    exact join_u64 _ _ (by omega) (by omega) (by omega) (by omega)
  rw [← t1, ← t2]
  exact times_core a b _ _ _ _ ll lh hl hh mid _ w (mask_u64 a a0 a1) rfl (mask_u64 b b0 b1) rfl e1 e2 e3 e4 h1 h2 h3 h4 (mask_u64 lh (by omega) (by omega)) (mask_u64 hl (by omega) (by omega)) (mask_u64 ll (by omega) (by omega)) em el
end Go.Proofs.Ytnagkbdnondklaa
