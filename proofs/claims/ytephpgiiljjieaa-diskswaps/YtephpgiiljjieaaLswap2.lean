/-
  The walk of the law DiskSwaps.
-/
import Derived.Test.YtephpgiiljjieaaLswap
namespace Go.Proofs.Ytephpgiiljjieaa
open Go.RowKit Go.Proofs.Lys Go.Maps Go.Shelf
set_option linter.unusedVariables false

theorem sw_next (i j : Nat) (A F : List UInt8) (off : Bool) (fu : Option Nat) (hi4 : i ≤ 4) (hj : j ≤ i) (hi : off = false → j = i) (h : A.length + F.length ≤ 20000) :
    ∃ (r j' : Nat) (off' : Bool) (fu' : Option Nat), (sw j A F off fu).doOp (swO F i) = (r, sw j' A F off' fu') ∧ j' ≤ i + 1 ∧ (off' = false → j' = i + 1) ∧ ((r = 0 ∧ off' = false) ∨ r = 12) := by
  rcases sw_any j i A F off fu (by omega) (fun e => (hi e).symm) h with ⟨fu', e, ho, hij⟩ | ⟨off', fu', e, ho⟩
  · exact ⟨0, j + 1, false, fu', e, by omega, (fun _ => by omega), .inl ⟨rfl, rfl⟩⟩
  · exact ⟨12, j, off', fu', e, by omega, (fun e => by rw [ho] at e; cases e), .inr rfl⟩

def swA (s : Nat) (B : List UInt8) (u : Nat) : DModel := ⟨[⟨B, u⟩], [([97], 0)], [], [⟨0, [97], [], 0⟩], 20000, s, false, none, none⟩
theorem sw_start : DModel.start 20000 = ⟨[], [], [], [], 20000, 0, false, none, none⟩ := by kernel_rfl
theorem sw_one : (DModel.mk [] [] [] [] 20000 0 false none none).doOp ⟨0, [97], [], []⟩ = (0, swA 1 [] 0) := by kernel_rfl
theorem sw_appA (s : Nat) (B bs : List UInt8) (u : Nat) (h : B.length + bs.length ≤ 20000) : (swA s B u).doOp ⟨1, [97], [], bs⟩ = (0, swA (s + 1) (B ++ bs) u) := by
  have hu : (swA s B u).used = B.length := by show B.length + 0 = _; omega
  have ho : (swA s B u).own ⟨1, [97], [], bs⟩ = 0 := by
    show (if 16777216 < B.length + bs.length then 2 else if 20000 < (swA s B u).used + bs.length then 11 else 0) = _
    rw [if_neg (by omega), hu, if_neg (by omega)]
  rw [do_done (show (0 : Int) ≤ 1 by decide) (show (1 : Int) ≤ 5 by decide) rfl (fun e => by cases e) ho (fun e => by cases e)]
  rfl
theorem sw_sync (s : Nat) (B : List UInt8) (u : Nat) : (swA s B u).doOp ⟨2, [97], [], []⟩ = (0, swA (s + 1) B B.length) := by kernel_rfl
theorem sw_dir (B F : List UInt8) : (swA 3 B B.length).doOp ⟨5, [], [], []⟩ = (0, sw 0 B F false none) := by kernel_rfl
theorem few_w (s : Nat) (B : List UInt8) (u : Nat) (h : s ≤ 100) : (swA s B u).few := ⟨by show s ≤ _; omega, by show 1 + 0 + 1 < _; decide⟩
theorem sw_fuse (A F : List UInt8) (fu : Option Nat) : ({ sw 0 A F false none with fuse := fu } : DModel) = sw 0 A F false fu := rfl

set_option maxRecDepth 100000 in
set_option maxHeartbeats 1600000 in
theorem swap_out (w : World) (a0 a1 a2 : Option Addr) (S M K c0 c1 c2 : Nat) (f : Int) (hq : 3000 < S ∨ 3000 < M ∨ 100 < K ∨ 1000 < f) :
    Calls Try.prog 6 #[.slice a0 S c0, .slice a1 M c1, .slice a2 K c2, .int .i64 f] w fun e w' => e = .returned (.bool true) ∧ Kept w w' := by
  have hnot : ∀ (x : Bool) (w : World), (Op.unary .not (.bool x)).run Try.prog w = .ok (.bool (!x)) w := fun _ _ => rfl
  rcases hq with hq | hq | hq | hq
  all_goals
    go_enter Try.func6, Try.ntmps6
    go_wp2_with (go_at_call 9; refine (alive3_any _).mono ?_; rintro e w1 ⟨rfl, hk⟩)
    all_goals
      go_ret
      exact ⟨rfl, hk⟩

set_option maxRecDepth 100000 in
set_option maxHeartbeats 3200000 in
theorem swap_walk (w : World) (v0 v1 v2 : Value) (A F : List UInt8) (keep : List Int) (f : Int) (h0 : SrcOf w v0 (A.map bV)) (h1 : SrcOf w v1 (F.map bV)) (h2 : NumSrc w v2 keep) :
    Calls Try.prog 6 #[v0, v1, v2, .int .i64 f] w fun e w' => e = .returned (.bool true) ∧ Kept w w' := by
  have hnot : ∀ (x : Bool) (w : World), (Op.unary .not (.bool x)).run Try.prog w = .ok (.bool (!x)) w := fun _ _ => rfl
  obtain ⟨a0, c0, e0⟩ := h0.len
  obtain ⟨a1, c1, e1⟩ := h1.len
  obtain ⟨a2, c2, e2⟩ := h2.1.len
  rw [List.length_map] at e0 e1 e2
  obtain ⟨LA, hLA⟩ : ∃ n, A.length = n := ⟨_, rfl⟩
  obtain ⟨LF, hLF⟩ : ∃ n, F.length = n := ⟨_, rfl⟩
  obtain ⟨LK, hLK⟩ : ∃ n, keep.length = n := ⟨_, rfl⟩
  rw [hLA] at e0
  rw [hLF] at e1
  rw [hLK] at e2
  subst e0 e1 e2
  by_cases hq : 3000 < LA ∨ 3000 < LF ∨ 100 < LK ∨ 1000 < f
  · exact swap_out w a0 a1 a2 LA LF LK c0 c1 c2 f hq
  have q0 : LA ≤ 3000 := by omega
  have q1 : LF ≤ 3000 := by omega
  have q2 : LK ≤ 100 := by omega
  have q3 : f ≤ 1000 := by omega
  clear hq
  have HA := Hid.mk hLA
  have HF := Hid.mk hLF
  have H0 := Hid.mk h0
  have H1 := Hid.mk h1
  have H2 := Hid.mk h2
  have hsz : A.length + F.length ≤ 20000 := by omega
  obtain ⟨r1, j1, o1, f1, E1, J1, I1, R1⟩ := sw_next 0 0 A F false (DModel.lay f) (by omega) (by omega) (fun _ => rfl) hsz
  obtain ⟨r2, j2, o2, f2, E2, J2, I2, R2⟩ := sw_next 1 j1 A F o1 f1 (by omega) J1 I1 hsz
  obtain ⟨r3, j3, o3, f3, E3, J3, I3, R3⟩ := sw_next 2 j2 A F o2 f2 (by omega) J2 I2 hsz
  obtain ⟨r4, j4, o4, f4, E4, J4, I4, R4⟩ := sw_next 3 j3 A F o3 f3 (by omega) J3 I3 hsz
  obtain ⟨r5, j5, o5, f5, E5, J5, I5, R5⟩ := sw_next 4 j4 A F o4 f4 (by omega) J4 I4 hsz
  obtain ⟨B3, b3, b3c, _⟩ := sw_read j3 A F o3 f3 (by omega) keep
  obtain ⟨B5, b5, b5c, b5d⟩ := sw_read j5 A F o5 f5 (by omega) keep
  have HE1 := Hid.mk E1
  have HE2 := Hid.mk E2
  have HE3 := Hid.mk E3
  have HE4 := Hid.mk E4
  have HE5 := Hid.mk E5
  have HB3 := Hid.mk b3
  have HB5 := Hid.mk b5
  have HC3 := Hid.mk b3c
  have HC5 := Hid.mk b5c
  have HD5 : Hid (r5 = 0 → B5 = F) := fun h => b5d (I5 (by rcases R5 with ⟨_, h2⟩ | h2; exact h2; omega))
  have HR3 : Hid (r3 = 0 ∨ r3 = 12) := by rcases R3 with ⟨h, _⟩ | h; exact .inl h; exact .inr h
  have HR5 : Hid (r5 = 0 ∨ r5 = 12) := by rcases R5 with ⟨h, _⟩ | h; exact .inl h; exact .inr h
  clear h0 h1 h2 hLA hLF hLK E1 E2 E3 E4 E5 b3 b5 b3c b5c b5d R1 R2 R3 R4 R5 I1 I2 I3 I4 I5 J1 J2 J3 J4 J5
  go_enter Try.func6, Try.ntmps6
  go_wp2_with fail
  refine (alive3_any _).mono ?_
  rintro e w1 ⟨rfl, hk1⟩
  go_wp2_with fail
  refine (up_new hk1 20000).mono ?_
  rintro e w2 ⟨rfl, h2⟩
  rw [sw_start] at h2
  have U2 := Hid.mk h2
  clear h2 hk1
  go_wp2_with fail
  refine (up_create U2.out (small _ (by decide)) ⟨by show (0 : Nat) ≤ _; decide, by show 0 + 0 + 0 < _; decide⟩).mono ?_
  rintro e w3 ⟨rfl, h3⟩
  have U3 : Hid (Up w w3 w1.heap.size (swA 1 [] 0)) := by
    have h4 : Up w w3 w1.heap.size ((DModel.mk [] [] [] [] 20000 0 false none none).doOp ⟨0, [97], [], []⟩).2 := h3
    rw [sw_one] at h4
    exact h4
  clear h3 U2
  go_wp2_with fail
  refine (up_append U3.out (small _ (by decide)) (src_at (H0.out.stay U3.out.kept)) (by rw [HA.out]; omega) (few_w _ _ _ (by omega))).mono ?_
  rintro e w4 ⟨rfl, h4⟩
  have U4 : Hid (Up w w4 w1.heap.size (swA 2 A 0)) := by
    have h5 : Up w w4 w1.heap.size ((swA 1 [] 0).doOp ⟨1, [97], [], A⟩).2 := h4
    rw [sw_appA _ _ _ _ (by rw [HA.out]; simp; omega)] at h5
    exact h5
  clear h4 U3
  go_wp2_with fail
  refine (up_sync U4.out (small _ (by decide)) (few_w _ _ _ (by omega))).mono ?_
  rintro e w5 ⟨rfl, h5⟩
  have U5 : Hid (Up w w5 w1.heap.size (swA 3 A A.length)) := by
    have h6 : Up w w5 w1.heap.size ((swA 2 A 0).doOp ⟨2, [97], [], []⟩).2 := h5
    rw [sw_sync] at h6
    exact h6
  clear h5 U4
  go_wp2_with fail
  refine (up_syncdir U5.out (few_w _ _ _ (by omega))).mono ?_
  rintro e w6 ⟨rfl, h6⟩
  have U6 : Hid (Up w w6 w1.heap.size (sw 0 A F false none)) := by
    rw [sw_dir A F] at h6
    exact h6
  clear h6 U5
  go_wp2_with fail
  refine (up_fuse U6.out f (by omega)).mono ?_
  rintro e w7 ⟨rfl, h7⟩
  have U7 : Hid (Up w w7 w1.heap.size (sw 0 A F false (DModel.lay f))) := h7
  clear h7 U6
  go_wp2_with fail
  refine (up_create U7.out (small _ (by decide)) (sw_few _ _ _ _ _)).mono ?_
  rintro e w8 ⟨rfl, h8⟩
  have e8 : (sw 0 A F false (DModel.lay f)).doOp ⟨0, (⟨#[110, 101, 119]⟩ : ByteArray).data.toList, [], []⟩ = _ := HE1.out
  rw [e8] at h8 ⊢
  have U8 := Hid.mk h8
  clear h8 U7 e8
  go_wp2_with fail
  refine (up_append U8.out (small _ (by decide)) (src_at (H1.out.stay U8.out.kept)) (by rw [HF.out]; omega) (sw_few _ _ _ _ _)).mono ?_
  rintro e w9 ⟨rfl, h9⟩
  have e9 : (sw j1 A F o1 f1).doOp ⟨1, (⟨#[110, 101, 119]⟩ : ByteArray).data.toList, [], F⟩ = _ := HE2.out
  rw [e9] at h9 ⊢
  have U9 := Hid.mk h9
  clear h9 U8 e9
  go_wp2_with fail
  refine (up_sync U9.out (small _ (by decide)) (sw_few _ _ _ _ _)).mono ?_
  rintro e w10 ⟨rfl, h10⟩
  have e10 : (sw j2 A F o2 f2).doOp ⟨2, (⟨#[110, 101, 119]⟩ : ByteArray).data.toList, [], []⟩ = _ := HE3.out
  rw [e10] at h10 ⊢
  have U10 := Hid.mk h10
  clear h10 U9 e10
  rcases HR3.out with hr3 | hr3
  · subst hr3
    go_wp2_with (go_at_call 15; refine (num3_any _ _).mono ?_; rintro e w' ⟨rfl, hw⟩; replace hw := hw.symm; subst hw)
    refine (up_rename U10.out (small _ (by decide)) (small _ (by decide)) (sw_few _ _ _ _ _)).mono ?_
    rintro e w11 ⟨rfl, h11⟩
    have e11 : (sw j3 A F o3 f3).doOp ⟨3, (⟨#[110, 101, 119]⟩ : ByteArray).data.toList, (⟨#[97]⟩ : ByteArray).data.toList, []⟩ = _ := HE4.out
    rw [e11] at h11 ⊢
    have U11 := Hid.mk h11
    clear h11 U10 e11
    go_wp2_with fail
    refine (up_syncdir U11.out (sw_few _ _ _ _ _)).mono ?_
    rintro e w12 ⟨rfl, h12⟩
    have e12 : (sw j4 A F o4 f4).doOp ⟨5, [], [], []⟩ = _ := HE5.out
    rw [e12] at h12 ⊢
    have U12 := Hid.mk h12
    clear h12 U11 e12
    rcases HR5.out with hr5 | hr5
    · subst hr5
      go_wp2_with (go_at_call 15; refine (num3_any _ _).mono ?_; rintro e w' ⟨rfl, hw⟩; replace hw := hw.symm; subst hw)
      refine (up_crash U12.out (fun O c m _ hO => SrcOf.ints H2.out.1 H2.out.2 U12.out.kept hO) (sw_few _ _ _ _ _)).mono ?_
      rintro e w20 ⟨rfl, h20⟩
      have U20 := Hid.mk h20
      clear h20 U12
      go_wp2_with fail
      refine (up_read U20.out (small _ (by decide))).mono ?_
      rintro e w21 ⟨v21, rfl, ho21, hk21, h21⟩
      have er : ((sw j5 A F o5 f5).crash keep).read (⟨#[97]⟩ : ByteArray).data.toList = _ := HB5.out
      rw [er] at ho21 ⊢
      simp only at ho21
      have cB := text_own ho21
      have cA := SrcOf.conv (H0.out.stay h21.kept)
      have cF := SrcOf.conv (H1.out.stay h21.kept)
      have U21 := Hid.mk h21
      obtain ⟨ra, rc, rfl⟩ := own_slice ho21
      clear h21 ho21 er U20 hk21
      have eB := HD5.out (by first | exact rfl | trivial)
      subst eB
      go_wp2_with (go_at_call 15; refine (num3_any _ _).mono ?_; rintro e w' ⟨rfl, hw⟩; replace hw := hw.symm; subst hw)
      go_ret
      exact ⟨rfl, U21.out.kept⟩
    · subst hr5
      go_wp2_with (go_at_call 15; refine (num3_any _ _).mono ?_; rintro e w' ⟨rfl, hw⟩; replace hw := hw.symm; subst hw)
      refine (up_crash U12.out (fun O c m _ hO => SrcOf.ints H2.out.1 H2.out.2 U12.out.kept hO) (sw_few _ _ _ _ _)).mono ?_
      rintro e w20 ⟨rfl, h20⟩
      have U20 := Hid.mk h20
      clear h20 U12
      go_wp2_with fail
      refine (up_read U20.out (small _ (by decide))).mono ?_
      rintro e w21 ⟨v21, rfl, ho21, hk21, h21⟩
      have er : ((sw j5 A F o5 f5).crash keep).read (⟨#[97]⟩ : ByteArray).data.toList = _ := HB5.out
      rw [er] at ho21 ⊢
      simp only at ho21
      have cB := text_own ho21
      have cA := SrcOf.conv (H0.out.stay h21.kept)
      have cF := SrcOf.conv (H1.out.stay h21.kept)
      have U21 := Hid.mk h21
      obtain ⟨ra, rc, rfl⟩ := own_slice ho21
      clear h21 ho21 er U20 hk21
      rcases HC5.out with eB | eB
      · subst eB
        go_wp2_with (go_at_call 15; refine (num3_any _ _).mono ?_; rintro e w' ⟨rfl, hw⟩; replace hw := hw.symm; subst hw)
        all_goals
          go_ret
          exact ⟨by simp_all, U21.out.kept⟩
      · subst eB
        go_wp2_with (go_at_call 15; refine (num3_any _ _).mono ?_; rintro e w' ⟨rfl, hw⟩; replace hw := hw.symm; subst hw)
        all_goals
          go_ret
          exact ⟨by simp_all, U21.out.kept⟩
  · subst hr3
    go_wp2_with (go_at_call 15; refine (num3_any _ _).mono ?_; rintro e w' ⟨rfl, hw⟩; replace hw := hw.symm; subst hw)
    refine (up_crash U10.out (fun O c m _ hO => SrcOf.ints H2.out.1 H2.out.2 U10.out.kept hO) (sw_few _ _ _ _ _)).mono ?_
    rintro e w20 ⟨rfl, h20⟩
    have U20 := Hid.mk h20
    clear h20 U10
    go_wp2_with fail
    refine (up_read U20.out (small _ (by decide))).mono ?_
    rintro e w21 ⟨v21, rfl, ho21, hk21, h21⟩
    have er : ((sw j3 A F o3 f3).crash keep).read (⟨#[97]⟩ : ByteArray).data.toList = _ := HB3.out
    rw [er] at ho21 ⊢
    simp only at ho21
    have cB := text_own ho21
    have cA := SrcOf.conv (H0.out.stay h21.kept)
    have cF := SrcOf.conv (H1.out.stay h21.kept)
    have U21 := Hid.mk h21
    obtain ⟨ra, rc, rfl⟩ := own_slice ho21
    clear h21 ho21 er U20 hk21
    rcases HC3.out with eB | eB
    · subst eB
      go_wp2_with (go_at_call 15; refine (num3_any _ _).mono ?_; rintro e w' ⟨rfl, hw⟩; replace hw := hw.symm; subst hw)
      all_goals
        go_ret
        exact ⟨by simp_all, U21.out.kept⟩
    · subst eB
      go_wp2_with (go_at_call 15; refine (num3_any _ _).mono ?_; rintro e w' ⟨rfl, hw⟩; replace hw := hw.symm; subst hw)
      all_goals
        go_ret
        exact ⟨by simp_all, U21.out.kept⟩
end Go.Proofs.Ytephpgiiljjieaa
