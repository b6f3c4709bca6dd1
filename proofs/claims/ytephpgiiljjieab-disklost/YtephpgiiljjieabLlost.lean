/-
  The walk of the law DiskLost.
-/
import Derived.Test.YtephpgiiljjieabLroom
namespace Go.Proofs.Ytephpgiiljjieab
open Go.RowKit Go.Proofs.Lys Go.Maps Go.Shelf
set_option linter.unusedVariables false

def ls (s : Nat) (B : List UInt8) (u : Nat) : DModel := ⟨[⟨B, u⟩], [([97], 0)], [], [⟨0, [97], [], 0⟩], 1048576, s, false, none, none⟩
theorem ls_start : DModel.start 1048576 = ⟨[], [], [], [], 1048576, 0, false, none, none⟩ := by kernel_rfl
theorem ls_one : (DModel.mk [] [] [] [] 1048576 0 false none none).doOp ⟨0, [97], [], []⟩ = (0, ls 1 [] 0) := by kernel_rfl
theorem ls_app (s : Nat) (B bs : List UInt8) (u : Nat) (h : B.length + bs.length ≤ 1048576) : (ls s B u).doOp ⟨1, [97], [], bs⟩ = (0, ls (s + 1) (B ++ bs) u) := by
  have hu : (ls s B u).used = B.length := by show B.length + 0 = _; omega
  have ho : (ls s B u).own ⟨1, [97], [], bs⟩ = 0 := by
    show (if 16777216 < B.length + bs.length then 2 else if 1048576 < (ls s B u).used + bs.length then 11 else 0) = _
    rw [if_neg (by omega), hu, if_neg (by omega)]
  rw [do_done (show (0 : Int) ≤ 1 by decide) (show (1 : Int) ≤ 5 by decide) rfl (fun e => by cases e) ho (fun e => by cases e)]
  rfl
theorem ls_sync (s : Nat) (B : List UInt8) (u : Nat) : (ls s B u).doOp ⟨2, [97], [], []⟩ = (0, ls (s + 1) B B.length) := by kernel_rfl
theorem ls_yes (s : Nat) (B : List UInt8) (u : Nat) (st : Int) : (ls s B u).crash [1, st, 0] = ⟨[(DModel.settleF ⟨B, u⟩ [st, 0]).1], [([97], 0)], [([97], 0)], [], 1048576, s, false, none, none⟩ := by kernel_rfl
theorem ls_no (s : Nat) (B : List UInt8) (u : Nat) (st : Int) : (ls s B u).crash [0, st, 0] = ⟨[⟨B, u⟩], [], [], [], 1048576, s, false, none, none⟩ := by kernel_rfl
theorem ls_len (B : List UInt8) (u st : Nat) (h : u ≤ B.length) : (DModel.settleF ⟨B, u⟩ [(st : Int), 0]).1.b.length = u + min st (B.length - u) := by
  unfold DModel.settleF
  split
  · rename_i e
    have e' : B.length = u := e
    show B.length = _
    omega
  · show (if DModel.oddB 0 = true then DModel.spoil (B.take (u + DModel.stays (st : Int) (B.length - u))) u else B.take (u + DModel.stays (st : Int) (B.length - u))).length = _
    rw [if_neg (by decide), List.length_take]
    have : DModel.stays (st : Int) (B.length - u) = min st (B.length - u) := by
      unfold DModel.stays
      rw [if_neg (by omega), Int.toNat_natCast]
    omega
theorem few_l (s : Nat) (B : List UInt8) (u : Nat) (h : s ≤ 100) : (ls s B u).few := ⟨by show s ≤ _; omega, by show 1 + 0 + 1 < _; decide⟩

set_option maxRecDepth 100000 in
set_option maxHeartbeats 1600000 in
theorem lost_out (w : World) (s m st : Int) (k : Bool) (hq : (s < 0 ∨ 2000 < s) ∨ (m < 0 ∨ 2000 < m) ∨ (st < 0 ∨ 4000 < st)) : Calls Try.prog 4 #[.int .i64 s, .int .i64 m, .bool k, .int .i64 st] w fun e w' => e = .returned (.bool true) ∧ Kept w w' := by
  have hnot : ∀ (x : Bool) (w : World), (Op.unary .not (.bool x)).run Try.prog w = .ok (.bool (!x)) w := fun _ _ => rfl
  rcases hq with (hq | hq) | (hq | hq) | (hq | hq)
  all_goals
    go_enter Try.func4, Try.ntmps4
    go_wp2_with (go_at_call 8; refine (alive3_any _).mono ?_; rintro e w1 ⟨rfl, hk⟩)
    all_goals
      go_ret
      exact ⟨rfl, hk⟩

set_option maxRecDepth 100000 in
set_option maxHeartbeats 1600000 in
theorem lost_walk (w : World) (s m st : Int) (k : Bool) : Calls Try.prog 4 #[.int .i64 s, .int .i64 m, .bool k, .int .i64 st] w fun e w' => e = .returned (.bool true) ∧ Kept w w' := by
  have hnot : ∀ (x : Bool) (w : World), (Op.unary .not (.bool x)).run Try.prog w = .ok (.bool (!x)) w := fun _ _ => rfl
  by_cases hq : (s < 0 ∨ 2000 < s) ∨ (m < 0 ∨ 2000 < m) ∨ (st < 0 ∨ 4000 < st)
  · exact lost_out w s m st k hq
  obtain ⟨S, rfl⟩ : ∃ S : Nat, s = (S : Int) := ⟨s.toNat, by omega⟩
  obtain ⟨M, rfl⟩ : ∃ M : Nat, m = (M : Int) := ⟨m.toNat, by omega⟩
  obtain ⟨T, rfl⟩ : ∃ T : Nat, st = (T : Int) := ⟨st.toNat, by omega⟩
  have s1 : S ≤ 2000 := by omega
  have m1 : M ≤ 2000 := by omega
  have t1 : T ≤ 4000 := by omega
  clear hq
  have hmA := make_bytes_run S (by omega)
  have hmB := make_bytes_run M (by omega)
  go_enter Try.func4, Try.ntmps4
  go_wp2_with fail
  refine (alive3_any _).mono ?_
  rintro e w1 ⟨rfl, hk1⟩
  go_wp2_with fail
  refine (up_new hk1 1048576).mono ?_
  rintro e w2 ⟨rfl, h2⟩
  rw [ls_start] at h2
  have H2 := Hid.mk h2
  clear h2
  go_wp2_with fail
  refine (up_create H2.out (small _ (by decide)) ⟨by show (0 : Nat) ≤ _; decide, by show 0 + 0 + 0 < _; decide⟩).mono ?_
  rintro e w3 ⟨rfl, h3⟩
  have H3 : Hid (Up w w3 w1.heap.size (ls 1 [] 0)) := by
    have h4 : Up w w3 w1.heap.size ((DModel.mk [] [] [] [] 1048576 0 false none none).doOp ⟨0, [97], [], []⟩).2 := h3
    rw [ls_one] at h4
    exact h4
  clear h3 H2
  go_wp2_with fail
  refine (up_append (m := ls 1 [] 0) (H3.out.stay ((Only.refl _ _).alloc _)) (small _ (by decide)) (made_src S w3) (by simp; omega) (few_l _ _ _ (by omega))).mono ?_
  rintro e w4 ⟨rfl, h4⟩
  have H4 : Hid (Up w w4 w1.heap.size (ls 2 (List.replicate S 0) 0)) := by
    have h5 : Up w w4 w1.heap.size ((ls 1 [] 0).doOp ⟨1, [97], [], List.replicate S 0⟩).2 := h4
    rw [ls_app _ _ _ _ (by simp; omega)] at h5
    exact h5
  clear h4 H3
  go_wp2_with fail
  refine (up_sync H4.out (small _ (by decide)) (few_l _ _ _ (by omega))).mono ?_
  rintro e w5 ⟨rfl, h5⟩
  have H5 : Hid (Up w w5 w1.heap.size (ls 3 (List.replicate S 0) S)) := by
    have h6 : Up w w5 w1.heap.size ((ls 2 (List.replicate S 0) 0).doOp ⟨2, [97], [], []⟩).2 := h5
    rw [ls_sync, List.length_replicate] at h6
    exact h6
  clear h5 H4
  go_wp2_with fail
  refine (up_append (m := ls 3 (List.replicate S 0) S) (H5.out.stay ((Only.refl _ _).alloc _)) (small _ (by decide)) (made_src M w5) (by simp; omega) (few_l _ _ _ (by omega))).mono ?_
  rintro e w6 ⟨rfl, h6⟩
  have H6 : Hid (Up w w6 w1.heap.size (ls 4 (List.replicate S 0 ++ List.replicate M 0) S)) := by
    have h7 : Up w w6 w1.heap.size ((ls 3 (List.replicate S 0) S).doOp ⟨1, [97], [], List.replicate M 0⟩).2 := h6
    rw [ls_app _ _ _ _ (by simp; omega)] at h7
    exact h7
  clear h6 H5
  have hl := ls_len (List.replicate S 0 ++ List.replicate M 0) S T (by simp)
  simp only [List.length_append, List.length_replicate] at hl
  generalize List.replicate S (0 : UInt8) ++ List.replicate M 0 = B at H6 hl
  cases k with
  | false =>
    go_wp2_with fail
    refine (up_crash_lit (keep := [0, (T : Int), 0]) H6.out (few_l _ _ _ (by omega)) (by simp) rfl).mono ?_
    rintro e w7 ⟨rfl, h7⟩
    rw [ls_no] at h7
    have H7 := Hid.mk h7
    clear h7 H6
    go_wp2_with fail
    refine (up_read H7.out (small _ (by decide))).mono ?_
    rintro e w8 ⟨v, rfl, ho, hk8, h8⟩
    obtain ⟨va, vc, rfl⟩ := own_slice ho
    have er : (DModel.mk [⟨B, S⟩] [] [] [] 1048576 4 false none none).read (⟨#[97]⟩ : ByteArray).data.toList = (6, []) := rfl
    rw [er]
    have hls := up_list h8 ⟨by show (4 : Nat) ≤ _; decide, by show 0 + 0 + 0 < _; decide⟩
    have el : (DModel.mk [⟨B, S⟩] [] [] [] 1048576 4 false none none).list = [] := rfl
    rw [el] at hls
    have HLs := Hid.mk hls
    clear h8 ho er el hls
    go_wp2_with (go_at_call 12; refine (num3_any _ _).mono ?_; rintro e w' ⟨rfl, hw⟩; replace hw := hw.symm; subst hw)
    refine HLs.out.mono ?_
    rintro e w9 ⟨v9, rfl, ho9, hk9, h9⟩
    obtain ⟨vb, vd, rfl⟩ := own_slice ho9
    clear HLs ho9
    go_wp2_with fail
    go_ret
    exact ⟨rfl, h9.kept⟩
  | true =>
    go_wp2_with fail
    refine (up_crash_lit (keep := [1, (T : Int), 0]) H6.out (few_l _ _ _ (by omega)) (by simp) rfl).mono ?_
    rintro e w7 ⟨rfl, h7⟩
    rw [ls_yes] at h7
    generalize DModel.settleF ⟨B, S⟩ [(T : Int), 0] = F at h7 hl
    have H7 := Hid.mk h7
    clear h7 H6
    go_wp2_with fail
    refine (up_read H7.out (small _ (by decide))).mono ?_
    rintro e w8 ⟨v, rfl, ho, hk8, h8⟩
    have er : (DModel.mk [F.1] [([97], 0)] [([97], 0)] [] 1048576 4 false none none).read (⟨#[97]⟩ : ByteArray).data.toList = (0, F.1.b) := rfl
    rw [er] at ho ⊢
    simp only at ho
    rw [hl] at ho
    obtain ⟨va, vc, rfl⟩ := own_slice ho
    have H8 := Hid.mk h8
    obtain ⟨L, hL⟩ : ∃ L, S + min T (S + M - S) = L := ⟨_, rfl⟩
    rw [hL]
    clear h8 ho er
    by_cases hTM : M < T
    · have e1 : L = S + M := by omega
      subst e1
      clear hL hl
      go_wp2_with (go_at_call 12; refine (num3_any _ _).mono ?_; rintro e w' ⟨rfl, hw⟩; replace hw := hw.symm; subst hw)
      go_ret
      exact ⟨rfl, H8.out.kept⟩
    · have e1 : L = S + T := by omega
      subst e1
      clear hL hl
      go_wp2_with (go_at_call 12; refine (num3_any _ _).mono ?_; rintro e w' ⟨rfl, hw⟩; replace hw := hw.symm; subst hw)
      go_ret
      exact ⟨rfl, H8.out.kept⟩
end Go.Proofs.Ytephpgiiljjieab
