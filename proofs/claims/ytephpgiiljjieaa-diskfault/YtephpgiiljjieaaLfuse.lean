/-
  The walk of the law DiskFuse.
-/
import Derived.Test.YtephpgiiljjieaaDalive
namespace Go.Proofs.Ytephpgiiljjieaa
open Go.RowKit Go.Proofs.Lys Go.Maps Go.Shelf
set_option linter.unusedVariables false

/-- A disk of one file. -/
def oneF (B : List UInt8) (u s : Nat) (off : Bool) (fu fa : Option Nat) : DModel := ⟨[⟨B, u⟩], [([97], 0)], [], [⟨0, [97], [], 0⟩], 1048576, s, off, fu, fa⟩
theorem one_start : DModel.start 1048576 = ⟨[], [], [], [], 1048576, 0, false, none, none⟩ := by kernel_rfl
theorem one_one : (DModel.mk [] [] [] [] 1048576 0 false none none).doOp ⟨0, [97], [], []⟩ = (0, oneF [] 0 1 false none none) := by kernel_rfl
theorem one_own (B bs : List UInt8) (u s : Nat) (off : Bool) (fu fa : Option Nat) (h : B.length + bs.length ≤ 1048576) : (oneF B u s off fu fa).own ⟨1, [97], [], bs⟩ = 0 := by
  have hu : (oneF B u s off fu fa).used = B.length := by show B.length + 0 = _; omega
  show (if 16777216 < B.length + bs.length then 2 else if 1048576 < (oneF B u s off fu fa).used + bs.length then 11 else 0) = _
  rw [if_neg (by omega), hu, if_neg (by omega)]
theorem one_ok (B bs : List UInt8) (u s : Nat) (fu fa : Option Nat) (h : B.length + bs.length ≤ 1048576) (h1 : fu ≠ some 0) (h2 : fa ≠ some 0) :
    (oneF B u s false fu fa).doOp ⟨1, [97], [], bs⟩ = (0, oneF (B ++ bs) u (s + 1) false (fu.map (· - 1)) (fa.map (· - 1))) := by
  rw [do_done (show (0 : Int) ≤ 1 by decide) (show (1 : Int) ≤ 5 by decide) rfl h1 (one_own B bs u s false fu fa h) h2]
  rfl
theorem one_blown (B bs : List UInt8) (u s : Nat) (fa : Option Nat) : (oneF B u s false (some 0) fa).doOp ⟨1, [97], [], bs⟩ = (12, oneF B u s true (some 0) fa) := by
  rw [do_blown (show (0 : Int) ≤ 1 by decide) (show (1 : Int) ≤ 5 by decide) rfl rfl]
  rfl
theorem one_off (B bs : List UInt8) (u s : Nat) (fu fa : Option Nat) : (oneF B u s true fu fa).doOp ⟨1, [97], [], bs⟩ = (12, oneF B u s true fu fa) :=
  do_off (show (0 : Int) ≤ 1 by decide) (show (1 : Int) ≤ 5 by decide) rfl
theorem one_fault (B bs : List UInt8) (u s : Nat) (fu : Option Nat) (h : B.length + bs.length ≤ 1048576) (h1 : fu ≠ some 0) : (oneF B u s false fu (some 0)).doOp ⟨1, [97], [], bs⟩ = (10, oneF B u s false fu none) := by
  rw [do_fault (show (0 : Int) ≤ 1 by decide) (show (1 : Int) ≤ 5 by decide) rfl h1 (one_own B bs u s false fu (some 0) h) rfl]
  rfl
theorem one_none (B : List UInt8) (u s : Nat) (fu fa : Option Nat) (h1 : fu ≠ some 0) {n : List UInt8} (hn : ([97] == n) = false) : (oneF B u s false fu fa).doOp ⟨2, n, [], []⟩ = (6, oneF B u s false fu fa) := by
  have hl : DD.look [([97], 0)] n = none := by simp [DD.look, hn]
  have ho : (oneF B u s false fu fa).own ⟨2, n, [], []⟩ = 6 := by
    show (if (DD.look [([97], 0)] n).isSome then 0 else 6) = _
    rw [hl]
    rfl
  rw [do_own (show (0 : Int) ≤ 2 by decide) (show (2 : Int) ≤ 5 by decide) rfl h1 (by rw [ho]; decide), ho]
theorem one_few (B : List UInt8) (u s : Nat) (off : Bool) (fu fa : Option Nat) (h : s ≤ 1000) : (oneF B u s off fu fa).few := ⟨by show s ≤ _; omega, by show 1 + 0 + 1 < _; decide⟩
theorem one_crash (B : List UInt8) (u s : Nat) (off : Bool) (fu fa : Option Nat) (st : Int) : (oneF B u s off fu fa).crash [1, st, 0] = ⟨[(DModel.settleF ⟨B, u⟩ [st, 0]).1], [([97], 0)], [([97], 0)], [], 1048576, s, false, none, none⟩ := by kernel_rfl
theorem one_len (B : List UInt8) (u st : Nat) (h : u ≤ B.length) : (DModel.settleF ⟨B, u⟩ [(st : Int), 0]).1.b.length = u + min st (B.length - u) := by
  unfold DModel.settleF
  split
  · rename_i e
    have e' : B.length = u := e
    show B.length = _
    omega
  · show (if DModel.oddB 0 = true then DModel.spoil (B.take (u + DModel.stays (st : Int) (B.length - u))) u else B.take (u + DModel.stays (st : Int) (B.length - u))).length = _
    rw [if_neg (by decide), List.length_take]
    have : DModel.stays (st : Int) (B.length - u) = min st (B.length - u) := by
      unfold DModel.stays
      rw [if_neg (by omega), Int.toNat_natCast]
    omega

theorem stay_mark (W : World) (o : Obj) : Kept W (W.alloc o) := (Only.refl _ W).alloc o

set_option maxRecDepth 100000 in
set_option maxHeartbeats 1600000 in
theorem fuse_out (w : World) (n a : Int) (hq : (n < 0 ∨ 100 < n) ∨ (a < 1 ∨ 20 < a)) : Calls Try.prog 7 #[.int .i64 n, .int .i64 a] w fun e w' => e = .returned (.bool true) ∧ Kept w w' := by
  have hnot : ∀ (x : Bool) (w : World), (Op.unary .not (.bool x)).run Try.prog w = .ok (.bool (!x)) w := fun _ _ => rfl
  rcases hq with (hq | hq) | (hq | hq)
  all_goals
    go_enter Try.func7, Try.ntmps7
    go_wp2_with (go_at_call 9; refine (alive3_any _).mono ?_; rintro e w1 ⟨rfl, hk⟩)
    all_goals
      go_ret
      exact ⟨rfl, hk⟩

set_option maxRecDepth 100000 in
set_option maxHeartbeats 3200000 in
theorem fuse_walk (w : World) (n a : Int) : Calls Try.prog 7 #[.int .i64 n, .int .i64 a] w fun e w' => e = .returned (.bool true) ∧ Kept w w' := by
  have hnot : ∀ (x : Bool) (w : World), (Op.unary .not (.bool x)).run Try.prog w = .ok (.bool (!x)) w := fun _ _ => rfl
  have hcv := fun (w : World) (C : Array Value) (n c : Nat) => Lib.run_convert_bytes_const (P := Try.prog) w 29 5 C n c Try.underlying29 Try.underlying5
  by_cases hq : (n < 0 ∨ 100 < n) ∨ (a < 1 ∨ 20 < a)
  · exact fuse_out w n a hq
  obtain ⟨N, rfl⟩ : ∃ N : Nat, n = (N : Int) := ⟨n.toNat, by omega⟩
  obtain ⟨A, rfl⟩ : ∃ A : Nat, a = (A : Int) := ⟨a.toNat, by omega⟩
  have n1 : N ≤ 100 := by omega
  have a0 : 1 ≤ A := by omega
  have a1 : A ≤ 20 := by omega
  have d0 : decide ((N : Int) < 0) = false := by simp
  have d1 : decide (100 < (N : Int)) = false := by simp; omega
  have d2 : decide ((A : Int) < 1) = false := by simp; omega
  have d3 : decide (20 < (A : Int)) = false := by simp; omega
  clear hq
  go_enter Try.func7, Try.ntmps7
  go_wp2_with fail
  refine (alive3_any _).mono ?_
  rintro e w1 ⟨rfl, hk1⟩
  go_wp2_with fail
  refine (up_new hk1 1048576).mono ?_
  rintro e w2 ⟨rfl, h2⟩
  rw [one_start] at h2
  have H2 := Hid.mk h2
  clear h2
  go_wp2_with fail
  refine (up_create H2.out (small _ (by decide)) ⟨by show (0 : Nat) ≤ _; decide, by show 0 + 0 + 0 < _; decide⟩).mono ?_
  rintro e w3 ⟨rfl, h3⟩
  have H3 : Hid (Up w w3 w1.heap.size (oneF [] 0 1 false none none)) := by
    have h4 : Up w w3 w1.heap.size ((DModel.mk [] [] [] [] 1048576 0 false none none).doOp ⟨0, [97], [], []⟩).2 := h3
    rw [one_one] at h4
    exact h4
  clear h3 H2
  go_wp2_with fail
  refine (up_fuse H3.out (N : Int) (by omega)).mono ?_
  rintro e w4 ⟨rfl, h4⟩
  have H4 : Hid (Up w w4 w1.heap.size (oneF [] 0 1 false (some N) none)) := by
    have e : DModel.lay (N : Int) = some N := by unfold DModel.lay; rw [if_neg (by omega), Int.toNat_natCast]
    rw [e] at h4
    exact h4
  clear h4 H3 hk1
  go_wp2_with fail
  go_loopw [7] (fun i wr => ∃ (k : Nat) (B : List UInt8), k ≤ N ∧ i = .int .i64 (k : Int) ∧ B.length = k ∧ Up w wr w1.heap.size (oneF B 0 (k + 1) false (some (N - k)) none)) (fun i _ => N - (intOf i).toNat)
  case atStart => exact ⟨0, [], by omega, rfl, rfl, H4.out⟩
  case round =>
    obtain ⟨k, B, hk, rfl, hBl, hU⟩ := hrel
    by_cases hlt : k < N
    · have HU := Hid.mk hU
      have HB := Hid.mk hBl
      have e5 := one_ok B [120] 0 (k + 1) (some (N - k)) none (by rw [hBl]; simp; omega) (by intro e; have := Option.some.inj e; omega) (by intro e; cases e)
      have E5 : Hid ((oneF B 0 (k + 1) false (some (N - k)) none).doOp ⟨1, [97], [], [120]⟩ = (0, oneF (B ++ [120]) 0 (k + 1 + 1) false (some (N - k - 1)) none)) := e5
      clear hU hBl e5
      go_wp2_with fail
      refine (up_append (m := oneF B 0 (k + 1) false (some (N - k)) none) (HU.out.stay (stay_mark _ _)) (small _ (by decide)) (src_lit [120] wr rfl) (by decide) (one_few _ _ _ _ _ _ (by omega))).mono ?_
      rintro e w5 ⟨rfl, h5⟩
      have e6 : (oneF B 0 (k + 1) false (some (N - k)) none).doOp ⟨1, (⟨#[97]⟩ : ByteArray).data.toList, [], [120]⟩ = _ := E5.out
      rw [e6] at h5 ⊢
      have H5 := Hid.mk h5
      have hon := up_on h5
      have Hon := Hid.mk hon
      clear h5 HU e6 hon
      go_wp2_with (first
        | (go_at_call 15; refine (num3_any _ _).mono ?_; rintro e w' ⟨rfl, hw⟩; replace hw := hw.symm; subst hw)
        | (go_at_call 33; refine Hon.out.mono ?_; rintro e w' ⟨rfl, hw⟩; replace hw := hw.symm; subst hw))
      go_roundw
      case rel => exact ⟨k + 1, B ++ [120], by omega, by go_num, by rw [List.length_append, HB.out]; rfl, by rw [show N - (k + 1) = N - k - 1 by omega]; exact H5.out⟩
      case measure => simp [intOf]; omega
    · have hkN : k = N := by omega
      subst hkN
      rw [Nat.sub_self] at hU
      have HU := Hid.mk hU
      have HB := Hid.mk hBl
      clear hU hBl
      go_wp2_with fail
      go_loopw [9] (fun i wr => ∃ (j : Nat) (off : Bool), j ≤ A ∧ i = .int .i64 (j : Int) ∧ (off = false → j = 0) ∧ Up w wr w1.heap.size (oneF B 0 (k + 1) off (some 0) none)) (fun i _ => A - (intOf i).toNat)
      case atStart => exact ⟨0, false, by omega, rfl, fun _ => rfl, HU.out⟩
      case round =>
        obtain ⟨j, off, hj, rfl, hjo, hU⟩ := hrel
        have HU := Hid.mk hU
        have HJ := Hid.mk hjo
        clear hU hjo
        by_cases hjl : j < A
        · have E5 : Hid ((oneF B 0 (k + 1) off (some 0) none).doOp ⟨1, [97], [], [120]⟩ = (12, oneF B 0 (k + 1) true (some 0) none)) := by
            cases off
            · exact one_blown B [120] 0 (k + 1) none
            · exact one_off B [120] 0 (k + 1) (some 0) none
          go_wp2_with fail
          refine (up_append (m := oneF B 0 (k + 1) off (some 0) none) (HU.out.stay (stay_mark _ _)) (small _ (by decide)) (src_lit [120] wr rfl) (by decide) (one_few _ _ _ _ _ _ (by omega))).mono ?_
          rintro e w5 ⟨rfl, h5⟩
          have e6 : (oneF B 0 (k + 1) off (some 0) none).doOp ⟨1, (⟨#[97]⟩ : ByteArray).data.toList, [], [120]⟩ = _ := E5.out
          rw [e6] at h5 ⊢
          have H5 := Hid.mk h5
          clear h5 HU e6
          go_wp2_with fail
          refine (up_read H5.out (small _ (by decide))).mono ?_
          rintro e w6 ⟨v6, rfl, ho6, hk6, h6⟩
          have er : (oneF B 0 (k + 1) true (some 0) none).read (⟨#[97]⟩ : ByteArray).data.toList = (12, []) := rfl
          rw [er]
          obtain ⟨va, vc, rfl⟩ := own_slice ho6
          have Hon := Hid.mk (up_on h6)
          have hls := up_list h6 (one_few _ _ _ _ _ _ (by omega))
          have el : (oneF B 0 (k + 1) true (some 0) none).list = [] := rfl
          rw [el] at hls
          have HLs := Hid.mk hls
          clear h6 ho6 er el hls H5
          go_wp2_with (first
            | (go_at_call 15; refine (num3_any _ _).mono ?_; rintro e w' ⟨rfl, hw⟩; replace hw := hw.symm; subst hw)
            | (go_at_call 33; refine Hon.out.mono ?_; rintro e w' ⟨rfl, hw⟩; replace hw := hw.symm; subst hw)
            | (go_at_call 32; refine HLs.out.mono ?_; rintro e w9 ⟨v9, rfl, ho9, hk9, h9⟩; obtain ⟨vb, vd, rfl⟩ := own_slice ho9; have H9 := Hid.mk h9; clear ho9 h9))
          go_roundw
          case rel => exact ⟨j + 1, true, by omega, by go_num, (fun e => by cases e), H9.out⟩
          case measure => simp [intOf]; omega
        · have hoff : off = true := by
            cases off
            · have := HJ.out rfl
              omega
            · rfl
          subst hoff
          go_wp2_with fail
          refine (up_crash_lit (keep := [1, (k : Int), 0]) HU.out (one_few _ _ _ _ _ _ (by omega)) (by simp) rfl).mono ?_
          rintro e w7 ⟨rfl, h7⟩
          rw [one_crash] at h7
          have hl := one_len B 0 k (Nat.zero_le _)
          rw [HB.out] at hl
          generalize DModel.settleF ⟨B, 0⟩ [(k : Int), 0] = F at h7 hl
          have H7 := Hid.mk h7
          clear h7 HU
          go_wp2_with fail
          refine (up_read H7.out (small _ (by decide))).mono ?_
          rintro e w8 ⟨v8, rfl, ho8, hk8, h8⟩
          have er : (DModel.mk [F.1] [([97], 0)] [([97], 0)] [] 1048576 (k + 1) false none none).read (⟨#[97]⟩ : ByteArray).data.toList = (0, F.1.b) := rfl
          rw [er] at ho8 ⊢
          simp only at ho8
          rw [hl, show 0 + min k (k - 0) = k by omega] at ho8
          obtain ⟨va, vc, rfl⟩ := own_slice ho8
          have Hon := Hid.mk (up_on h8)
          have Hst := Hid.mk (up_steps h8)
          have H8 := Hid.mk h8
          clear h8 ho8 er hl H7
          go_wp2_with (first
            | (go_at_call 15; refine (num3_any _ _).mono ?_; rintro e w' ⟨rfl, hw⟩; replace hw := hw.symm; subst hw)
            | (go_at_call 33; refine Hon.out.mono ?_; rintro e w' ⟨rfl, hw⟩; replace hw := hw.symm; subst hw)
            | (go_at_call 30; refine Hst.out.mono ?_; rintro e w' ⟨rfl, hw⟩; replace hw := hw.symm; subst hw))
          go_ret
          exact ⟨by simp, H8.out.kept⟩
end Go.Proofs.Ytephpgiiljjieaa
