/-
  The law FloatsOrder, walked.
-/
import Derived.Test.YtcpgamhekelamabDoorForder
namespace Go.Proofs.YtcpgamhekelamabDoor
open Go.RowKit
set_option linter.unusedVariables false

set_option maxHeartbeats 3200000 in
theorem order_num (a b : Int) (n m z : Nat) (A B C : Int) (O : Option Ordering) (w : World)
    (hn : (IntKind.u64.wrap a).toNat = n) (hm : (IntKind.u64.wrap b).toNat = m) (hz : Op.negFloat .f64 n = z)
    (fx : (FloatKind.f64.format.order n n != some .eq) = false) (fy : (FloatKind.f64.format.order m m != some .eq) = false) (fo : FloatKind.f64.format.order n m = O)
    (h1 : O = some .lt → A ≤ B) (h2 : O = some .eq → A = B)
    (A0 : -9223372036854775808 ≤ A) (A1 : A ≤ 9223372036854775807)
    (h3 : A = 9223372036854775807 ∨ A = -9223372036854775808 ∨ C = 9223372036854775807 ∨ C = -9223372036854775808 ∨ C = -A ∨ C = -A - 1)
    (cx : ∀ w, Calls Tryd.prog 12 #[.float .f64 n] w fun e w' => e = .returned (.tuple #[.int .i64 A, .int .i64 0]) ∧ w' = w)
    (cy : ∀ w, Calls Tryd.prog 12 #[.float .f64 m] w fun e w' => e = .returned (.tuple #[.int .i64 B, .int .i64 0]) ∧ w' = w)
    (cz : ∀ w, Calls Tryd.prog 12 #[.float .f64 z] w fun e w' => e = .returned (.tuple #[.int .i64 C, .int .i64 0]) ∧ w' = w) :
    Calls Tryd.prog 4 #[.int .i64 a, .int .i64 b] w fun e w' => e = .returned (.bool true) ∧ Stay w w' := by
  have hf := run_from
  have hu : ∀ w, (Op.unary .neg (.float .f64 n)).run Tryd.prog w = .ok (.float .f64 z) w := fun w => by subst hz; rfl
  clear hz
  have key : ((A == 9223372036854775807) = true) ∨ ((A == 9223372036854775807) = false ∧ (A == -9223372036854775808) = true) ∨ ((A == 9223372036854775807) = false ∧ (A == -9223372036854775808) = false ∧ (C == 9223372036854775807) = true) ∨ ((A == 9223372036854775807) = false ∧ (A == -9223372036854775808) = false ∧ (C == 9223372036854775807) = false ∧ (C == -9223372036854775808) = true) ∨ ((A == 9223372036854775807) = false ∧ (A == -9223372036854775808) = false ∧ (C == 9223372036854775807) = false ∧ (C == -9223372036854775808) = false ∧ -9223372036854775807 ≤ A ∧ (C == -A) = true) ∨ ((A == 9223372036854775807) = false ∧ (A == -9223372036854775808) = false ∧ (C == 9223372036854775807) = false ∧ (C == -9223372036854775808) = false ∧ -9223372036854775807 ≤ A ∧ (C == -A) = false ∧ (C == -A - 1) = true) := by
    simp only [beq_iff_eq, beq_eq_false_iff_ne]
    omega
  clear h3
  have ho : (O = some .lt ∧ A ≤ B) ∨ (O = some .eq ∧ A = B) ∨ O = some .gt ∨ O = none := by
    cases O with
    | none => right; right; right; rfl
    | some o =>
      cases o with
      | lt => left; exact ⟨rfl, h1 rfl⟩
      | eq => right; left; exact ⟨rfl, h2 rfl⟩
      | gt => right; right; left; rfl
  clear h1 h2
  have CX : Hid _ := cx
  have CY : Hid _ := cy
  have CZ : Hid _ := cz
  clear cx cy cz
  rcases ho with ⟨rfl, hl⟩ | ⟨rfl, rfl⟩ | rfl | rfl
  all_goals
    rcases key with k1 | ⟨k1, k2⟩ | ⟨k1, k2, k3⟩ | ⟨k1, k2, k3, k4⟩ | ⟨k1, k2, k3, k4, k5, k6⟩ | ⟨k1, k2, k3, k4, k5, k6, k7⟩
  all_goals
    go_enter Tryd.func4, Tryd.ntmps4
    go_wp2_with (go_at_call 6; refine (alive_any _).mono ?_; rintro e w1 ⟨rfl, hg⟩)
    refine (CX.out _).mono ?_
    rintro e w' ⟨rfl, rfl⟩
    go_wp2_with fail
    refine (CY.out _).mono ?_
    rintro e w' ⟨rfl, rfl⟩
    go_wp2_with fail
    refine (CZ.out _).mono ?_
    rintro e w' ⟨rfl, rfl⟩
    go_wp2_with (go_at_call 9; refine (num_any _ _).mono ?_; rintro e w' ⟨rfl, rfl⟩)
    go_ret
    exact ⟨rfl, hg⟩

set_option maxHeartbeats 1600000 in
theorem order_nan (a b : Int) (n m z : Nat) (X Y : Bool) (A B C e g c : Int) (w : World)
    (hn : (IntKind.u64.wrap a).toNat = n) (hm : (IntKind.u64.wrap b).toNat = m) (hz : Op.negFloat .f64 n = z)
    (fx : (FloatKind.f64.format.order n n != some .eq) = X) (fy : (FloatKind.f64.format.order m m != some .eq) = Y) (hXY : X = true ∨ Y = true) (he : (e == 3) = X) (hg : (g == 3) = Y)
    (cx : ∀ w, Calls Tryd.prog 12 #[.float .f64 n] w fun e' w' => e' = .returned (.tuple #[.int .i64 A, .int .i64 e]) ∧ w' = w)
    (cy : ∀ w, Calls Tryd.prog 12 #[.float .f64 m] w fun e' w' => e' = .returned (.tuple #[.int .i64 B, .int .i64 g]) ∧ w' = w)
    (cz : ∀ w, Calls Tryd.prog 12 #[.float .f64 z] w fun e' w' => e' = .returned (.tuple #[.int .i64 C, .int .i64 c]) ∧ w' = w) :
    Calls Tryd.prog 4 #[.int .i64 a, .int .i64 b] w fun e w' => e = .returned (.bool true) ∧ Stay w w' := by
  have hf := run_from
  have hu : ∀ w, (Op.unary .neg (.float .f64 n)).run Tryd.prog w = .ok (.float .f64 z) w := fun w => by subst hz; rfl
  clear hz
  have CX : Hid _ := cx
  have CY : Hid _ := cy
  have CZ : Hid _ := cz
  clear cx cy cz
  cases X <;> cases Y
  · exact absurd hXY (by decide)
  all_goals
    clear hXY
    go_enter Tryd.func4, Tryd.ntmps4
    go_wp2_with (go_at_call 6; refine (alive_any _).mono ?_; rintro e w1 ⟨rfl, hg1⟩)
    refine (CX.out _).mono ?_
    rintro e w' ⟨rfl, rfl⟩
    go_wp2_with fail
    refine (CY.out _).mono ?_
    rintro e w' ⟨rfl, rfl⟩
    go_wp2_with fail
    refine (CZ.out _).mono ?_
    rintro e w' ⟨rfl, rfl⟩
    go_wp2_with (go_at_call 9; refine (num_any _ _).mono ?_; rintro e w' ⟨rfl, rfl⟩)
    go_ret
    exact ⟨rfl, hg1⟩

theorem order_any (a b : Int) (w : World) :
    Calls Tryd.prog 4 #[.int .i64 a, .int .i64 b] w fun e w' => e = .returned (.bool true) ∧ Stay w w' := by
  have bd : ∀ v : Int, 0 ≤ IntKind.u64.wrap v ∧ IntKind.u64.wrap v ≤ 18446744073709551615 := fun v => by rw [IntKind.wrap_u64]; omega
  obtain ⟨x0, x1⟩ := bd a
  obtain ⟨y0, y1⟩ := bd b
  obtain ⟨n, hn⟩ : ∃ n, (IntKind.u64.wrap a).toNat = n := ⟨_, rfl⟩
  obtain ⟨m, hm⟩ : ∃ n, (IntKind.u64.wrap b).toNat = n := ⟨_, rfl⟩
  have n1 : n < 18446744073709551616 := by omega
  have m1 : m < 18446744073709551616 := by omega
  obtain ⟨z, hz, z1, zn, ze, zv⟩ := neg_word n n1
  have cn : ∀ (k : Nat), k < 18446744073709551616 → ∀ w, Calls Tryd.prog 12 #[.float .f64 k] w fun e w' => e = .returned (.tuple #[.int .i64 (numF k), .int .i64 (errF k)]) ∧ w' = w := fun k hk w => by
    have := of_ans (k : Int) w (by omega) (by omega)
    rw [Int.toNat_natCast] at this
    exact this
  have hx := read_self n
  have hy := read_self m
  have er : ∀ k : Int, (errF k == 3) = nanF k := fun k => by unfold errF; cases nanF k <;> rfl
  by_cases hc : nanF n = true ∨ nanF m = true
  · exact order_nan a b n m z (nanF n) (nanF m) _ _ _ _ _ _ w hn hm hz hx hy hc (er _) (er _) (cn n n1) (cn m m1) (cn z z1)
  · have c1 : nanF n = false := by cases h : nanF (n : Int); rfl; exact absurd (Or.inl h) hc
    have c2 : nanF m = false := by cases h : nanF (m : Int); rfl; exact absurd (Or.inr h) hc
    have v : ∀ (k : Nat), k < 18446744073709551616 → nanF k = false → ∀ w, Calls Tryd.prog 12 #[.float .f64 k] w fun e w' => e = .returned (.tuple #[.int .i64 (ofF k), .int .i64 0]) ∧ w' = w := fun k hk hn w => of_num k w hk hn
    obtain ⟨o1, o2⟩ := order_le n m n1 m1 c1 c2
    obtain ⟨r0, r1⟩ := of_range (n : Int)
    rw [c1] at hx
    rw [c2] at hy
    exact order_num a b n m z _ _ _ _ w hn hm hz hx hy rfl (fun h => o1 (by rw [h]; rfl)) (fun h => o2 (by rw [h]; rfl)) r0 r1 (opp_of n z ze.symm zv) (v n n1 c1) (v m m1 c2) (v z z1 (by rw [zn]; exact c1))
end Go.Proofs.YtcpgamhekelamabDoor
