/-
  Wchange.
-/
import Derived.Test.YtbhpmeeknbbmmaaQ11

/-
  A change, laid down by the window or with its own.
-/
namespace Go.Proofs.Ytbhpmeeknbbmmaa.V
open Go.RowKit Go.Proofs.Lys
set_option linter.unusedVariables false

theorem uN0 : uN 0 = 0 := by decide +kernel
theorem uN2 : uN 2 = 2 := by decide +kernel
theorem uN3 : uN 3 = 3 := by decide +kernel
theorem shr_int (x t : Nat) : (x : Int) / 2 ^ t = ((x >>> t : Nat) : Int) := by rw [Nat.shiftRight_eq_div_pow]; simp
theorem shr_lt {x : Nat} (t : Nat) (hx : x < 18446744073709551616) : x >>> t < 18446744073709551616 := by
  rw [Nat.shiftRight_eq_div_pow]
  exact Nat.lt_of_le_of_lt (Nat.div_le_self _ _) hx

set_option maxRecDepth 100000 in
set_option maxHeartbeats 1600000 in
theorem change_zero {w : World} {b : Nat} {W : Win} {v : Value} {l : List Bool} (h : PkAt w b W v l) (hl : l.length ≤ 900000) :
    Calls Try.prog 40 #[.pointer (some ⟨b, 0, none⟩), .int .u64 0] w fun e w' => e = .returned (.tuple #[]) ∧ ∃ v', PkS w b v w' W v' (l ++ bitsL 0 1) := by
  go_enter Try.func40, Try.ntmps40
  go_wp2_with fail
  refine (pk_put h 0 1 1 (.inr (.inr ⟨rfl, by decide⟩)) (by omega)).mono ?_
  rintro e w1 ⟨rfl, v1, h1, k1, n1⟩
  go_wp2_with fail
  (try simp only [Exit.inBlock, Exit.then])
  refine bodyPost_ret (results_none rfl _ _ _) rfl ?_
  rw [uN0] at h1
  exact ⟨rfl, v1, h.start.put h1 k1 n1⟩

set_option maxRecDepth 100000 in
set_option maxHeartbeats 3200000 in
theorem change_fit {w : World} {b z t : Nat} {v : Value} {l : List Bool} (h : PkAt w b ⟨true, z, t⟩ v l) (hl : l.length ≤ 900000) {x : Nat} (hx : x < 18446744073709551616) (h0 : x ≠ 0) (hz : z ≤ lead x) (ht : t ≤ trail x) :
    Calls Try.prog 40 #[.pointer (some ⟨b, 0, none⟩), .int .u64 (x : Int)] w fun e w' => e = .returned (.tuple #[]) ∧ ∃ v', PkS w b v w' ⟨true, z, t⟩ v' (l ++ (bitsL 2 2 ++ bodyB z t x)) := by
  have hx0 : ((x : Int) == 0) = false := by simp; omega
  have ha := around_any w x hx h0
  have hb := both_lt hx h0
  have hz31 := lead_le x
  have HX := hid hx
  obtain ⟨Z, hZ⟩ : ∃ Z, lead x = Z := ⟨_, rfl⟩
  obtain ⟨T, hT⟩ : ∃ T, trail x = T := ⟨_, rfl⟩
  rw [hZ, hT] at ha hb
  rw [hZ] at hz31 hz
  rw [hT] at ht
  have HZ := hid hZ
  have HT := hid hT
  have H := hid h
  clear hZ hT h h0 hx
  go_enter Try.func40, Try.ntmps40
  go_wp2_with fail
  refine ha.mono ?_
  rintro e w1 ⟨rfl, k1⟩
  clear ha
  have HS : Hid (PkS w b v (w1.alloc (.cells #[.int .i64 (Z : Int), .int .i64 (T : Int)] 76)) ⟨true, z, t⟩ v l) := H.out.start.stay (k1.alloc _)
  have HO : Hid (Blk (w1.alloc (.cells #[.int .i64 (Z : Int), .int .i64 (T : Int)] 76)) w1.heap.size [.int .i64 (Z : Int), .int .i64 (T : Int)] 76) := Blk.new w1 _ _
  go_wp2_with fail
  generalize w1.alloc (.cells #[.int .i64 (Z : Int), .int .i64 (T : Int)] 76) = w2 at HS HO ⊢
  generalize w1.heap.size = B at HO ⊢
  have c0 := HS.out.at_.blk.cell 0 rfl
  have c1 := HS.out.at_.blk.cell 1 rfl
  have c4 := HS.out.at_.blk.cell 4 rfl
  have d0 := HO.out.cell 0 rfl
  have d1 := HO.out.cell 1 rfl
  have hzt : z + t < 64 := by omega
  have hY := shr_int x t
  obtain ⟨Y, hYe⟩ : ∃ Y, x >>> t = Y := ⟨_, rfl⟩
  rw [hYe] at hY
  have HY : Hid (uN (wrap64 (Y : Int)) = x >>> t) := by show _ = _; rw [← hYe]; exact uN_wrap64 (shr_lt t HX.out)
  clear hYe
  have hlen6 : Hid ((l ++ bitsL (uN 2) 2).length ≤ 1000000) := by show _ ≤ _; rw [List.length_append, bitsL_length]; omega
  go_region_with (go_at_call 56; refine (holds_any _ z t Z T (by omega) (by omega) (by omega) (by omega)).mono ?_; rintro e w3 ⟨rfl, k3⟩)
  all_goals
    have HS3 := hid (HS.out.stay ((Only.refl (fun _ => False) w2).drew.trans k3 (fun _ _ f => f)))
    clear k3 c0 c1 c4 d0 d1
    go_wp2_with fail
    refine (pk_put HS3.out.at_ 2 2 2 (.inr (.inr ⟨rfl, by decide⟩)) (by omega)).mono ?_
    rintro e w4 ⟨rfl, v4, h4, k4, n4⟩
    have HS4 := hid (HS3.out.put h4 k4 n4)
    clear h4 k4 n4
    have c0 := HS4.out.at_.blk.cell 0 rfl
    have c1 := HS4.out.at_.blk.cell 1 rfl
    go_wp2_with fail
    refine wp_region_noPanic ?_
    refine wp_region_last (L := 1000) (S := fun w' => w'.cell? ⟨b, 0, none⟩ = some (.int .i64 (z : Int)) ∧ w'.cell? ⟨b, 1, none⟩ = some (.int .i64 (t : Int))) (by kernel_rfl) ?_
    have hS : (fun w' : World => w'.cell? ⟨b, 0, none⟩ = some (.int .i64 (z : Int)) ∧ w'.cell? ⟨b, 1, none⟩ = some (.int .i64 (t : Int))) w4.drew := ⟨c0, c1⟩
    refine wpAnyN_take (i := 0) (v := .pointer (some ⟨b, 0, none⟩)) rfl (by kernel_rfl) (by kernel_rfl) (by kernel_rfl) (by decide) (by kernel_rfl) (fun _ _ _ h => h) (Or.inl ⟨by rfl, ?_⟩) hS ?_
    · (intro w' hSw; go_simp)
    go_frame
    refine wpAnyN_take (i := 1) (v := .pointer (some ⟨b, 0, none⟩)) rfl (by kernel_rfl) (by kernel_rfl) (by kernel_rfl) (by decide) (by kernel_rfl) (fun _ _ _ h => h) (Or.inl ⟨by rfl, ?_⟩) hS ?_
    · (intro w' hSw; go_simp)
    go_frame
    refine wpAnyN_take (i := 2) (v := .pointer (some ⟨b, 2, none⟩)) rfl (by kernel_rfl) (by kernel_rfl) (by kernel_rfl) (by decide) (by kernel_rfl) (fun _ _ _ h => h) (Or.inl ⟨by rfl, ?_⟩) hS ?_
    · (intro w' hSw; go_simp)
    go_frame
    refine wpAnyN_take (i := 3) (v := .int .u64 (x : Int)) rfl (by kernel_rfl) (by kernel_rfl) (by kernel_rfl) (by decide) (by kernel_rfl) (fun _ _ _ h => h) (Or.inl ⟨by rfl, ?_⟩) hS ?_
    · (intro w' hSw; go_simp)
    go_frame
    refine wpAnyN_take (i := 4) (v := .pointer (some ⟨b, 0, none⟩)) rfl (by kernel_rfl) (by kernel_rfl) (by kernel_rfl) (by decide) (by kernel_rfl) (fun _ _ _ h => h) (Or.inl ⟨by rfl, ?_⟩) hS ?_
    · (intro w' hSw; go_simp)
    go_frame
    refine wpAnyN_take (i := 5) (v := .pointer (some ⟨b, 0, none⟩)) rfl (by kernel_rfl) (by kernel_rfl) (by kernel_rfl) (by decide) (by kernel_rfl) (fun _ _ _ h => h) (Or.inl ⟨by rfl, ?_⟩) hS ?_
    · (intro w' hSw; go_simp)
    go_frame
    refine wpAnyN_take (i := 6) (v := .pointer (some ⟨b, 0, none⟩)) rfl (by kernel_rfl) (by kernel_rfl) (by kernel_rfl) (by decide) (by kernel_rfl) (fun _ _ _ h => h) (Or.inl ⟨by rfl, ?_⟩) hS ?_
    · (intro w' hSw; go_simp)
    go_frame
    refine wpAnyN_take (i := 7) (v := .pointer (some ⟨b, 1, none⟩)) rfl (by kernel_rfl) (by kernel_rfl) (by kernel_rfl) (by decide) (by kernel_rfl) (fun _ _ _ h => h) (Or.inl ⟨by rfl, ?_⟩) hS ?_
    · (intro w' hSw; go_simp)
    go_frame
    refine wpAnyN_take (i := 8) (v := .int .i64 (t : Int)) rfl (by kernel_rfl) (by kernel_rfl) (by kernel_rfl) (by decide) (by kernel_rfl) (fun _ _ _ h => h) (Or.inl ⟨by rfl, ?_⟩) hS ?_
    · (intro w' hSw; go_simp)
    go_frame
    refine wpAnyN_take (i := 9) (v := .int .u64 (Y : Int)) rfl (by kernel_rfl) (by kernel_rfl) (by kernel_rfl) (by decide) (by kernel_rfl) (fun _ _ _ h => h) (Or.inl ⟨by rfl, ?_⟩) hS ?_
    · (intro w' hSw; go_simp)
    go_frame
    refine wpAnyN_take (i := 10) (v := .int .i64 (wrap64 (Y : Int))) rfl (by kernel_rfl) (by kernel_rfl) (by kernel_rfl) (by decide) (by kernel_rfl) (fun _ _ _ h => h) (Or.inl ⟨by rfl, ?_⟩) hS ?_
    · (intro w' hSw; go_simp; exact wrap_is _)
    go_frame
    refine wpAnyN_take (i := 11) (v := .pointer (some ⟨b, 0, none⟩)) rfl (by kernel_rfl) (by kernel_rfl) (by kernel_rfl) (by decide) (by kernel_rfl) (fun _ _ _ h => h) (Or.inl ⟨by rfl, ?_⟩) hS ?_
    · (intro w' hSw; go_simp)
    go_frame
    refine wpAnyN_take (i := 12) (v := .pointer (some ⟨b, 0, none⟩)) rfl (by kernel_rfl) (by kernel_rfl) (by kernel_rfl) (by decide) (by kernel_rfl) (fun _ _ _ h => h) (Or.inl ⟨by rfl, ?_⟩) hS ?_
    · (intro w' hSw; go_simp)
    go_frame
    refine wpAnyN_take (i := 13) (v := .pointer (some ⟨b, 0, none⟩)) rfl (by kernel_rfl) (by kernel_rfl) (by kernel_rfl) (by decide) (by kernel_rfl) (fun _ _ _ h => h) (Or.inl ⟨by rfl, ?_⟩) hS ?_
    · (intro w' hSw; go_simp)
    go_frame
    refine wpAnyN_take (i := 14) (v := .agg #[.int .i64 (z : Int), .int .i64 (t : Int)]) rfl (by kernel_rfl) (by kernel_rfl) (by kernel_rfl) (by decide) (by kernel_rfl) (fun _ _ _ h => h) (Or.inl ⟨by rfl, ?_⟩) hS ?_
    · (intro w' hSw; go_simp)
    go_frame
    refine wpAnyL_one (i := 15) (by kernel_rfl) rfl rfl ?_
    go_simp
    refine (count_any _ z t (by omega)).mono ?_
    rintro e w6 ⟨rfl, k6⟩
    have HS6 := hid (HS4.out.stay ((Only.refl (fun _ => False) w4).drew.trans k6 (fun _ _ f => f)))
    refine ⟨⟨HS6.out.at_.blk.cell 0 rfl, HS6.out.at_.blk.cell 1 rfl⟩, ?_⟩
    refine wpAnyL_one (i := 16) (by kernel_rfl) rfl rfl ?_
    go_simp
    refine (pk_put HS6.out.at_ (wrap64 (Y : Int)) _ (64 - z - t) (.inr (.inr ⟨rfl, by omega⟩)) hlen6.out).mono ?_
    rintro e w61 ⟨rfl, v61, h61, k61, n61⟩
    have HE := hid (HS6.out.put h61 k61 n61)
    refine ⟨⟨HE.out.at_.blk.cell 0 rfl, HE.out.at_.blk.cell 1 rfl⟩, ?_⟩
    refine wpAnyN_done (by kernel_rfl) ?_
    refine NoPanic.normal ?_
    clear hS
    go_wp2_with fail
    (try simp only [Exit.inBlock, Exit.then])
    go_end0
    have h9 := HE.out
    rw [uN2, HY.out, List.append_assoc] at h9
    exact ⟨rfl, _, h9⟩
end Go.Proofs.Ytbhpmeeknbbmmaa.V
