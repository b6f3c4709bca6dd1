/-
  The walk of the law DiskRoom, within its bounds.
-/
import Derived.Test.YtephpgiiljjieabLroom
namespace Go.Proofs.Ytephpgiiljjieab
open Go.RowKit Go.Proofs.Lys Go.Maps Go.Shelf
set_option linter.unusedVariables false

set_option maxRecDepth 100000 in
set_option maxHeartbeats 1600000 in
theorem room_walk (w : World) (q a b : Int) : Calls Try.prog 3 #[.int .i64 q, .int .i64 a, .int .i64 b] w fun e w' => e = .returned (.bool true) ∧ Kept w w' := by
  have hnot : ∀ (x : Bool) (w : World), (Op.unary .not (.bool x)).run Try.prog w = .ok (.bool (!x)) w := fun _ _ => rfl
  by_cases hq : (q < 0 ∨ 5000 < q) ∨ (a < 0 ∨ 5000 < a) ∨ (b < 0 ∨ 5000 < b)
  · exact room_out w q a b hq
  · obtain ⟨Q, rfl⟩ : ∃ Q : Nat, q = (Q : Int) := ⟨q.toNat, by omega⟩
    obtain ⟨A, rfl⟩ : ∃ A : Nat, a = (A : Int) := ⟨a.toNat, by omega⟩
    obtain ⟨B, rfl⟩ : ∃ B : Nat, b = (B : Int) := ⟨b.toNat, by omega⟩
    have q1 : Q ≤ 5000 := by omega
    have a1 : A ≤ 5000 := by omega
    have b1 : B ≤ 5000 := by omega
    clear hq
    have hmA := make_bytes_run A (by omega)
    have hmB := make_bytes_run B (by omega)
    obtain ⟨X, rA, hX⟩ : ∃ (X : List UInt8) (rA : Nat), (rmS Q 2 [] []).doOp ⟨1, [97], [], List.replicate A 0⟩ = (rA, rmS Q (2 + (if rA = 0 then 1 else 0)) X []) ∧ ((rA = 11 ∧ Q < A ∧ 0 = X.length) ∨ (rA = 0 ∧ A ≤ Q ∧ A = X.length)) := by
      rw [rm_a _ _ _ _ _ (by simp; omega)]
      by_cases h : Q < A
      · exact ⟨[], 11, by rw [if_pos (by simp; omega)]; rfl, .inl ⟨rfl, h, rfl⟩⟩
      · exact ⟨List.replicate A 0, 0, by rw [if_neg (by simp; omega)]; rfl, .inr ⟨rfl, by omega, by simp⟩⟩
    obtain ⟨hXe, hXc⟩ := hX
    obtain ⟨s3, hs3⟩ : ∃ s3, 2 + (if rA = 0 then 1 else 0) = s3 := ⟨_, rfl⟩
    have hs3' : s3 ≤ 3 := by rw [← hs3]; split <;> omega
    rw [hs3] at hXe
    obtain ⟨Y, rB, hYe, hYc⟩ : ∃ (Y : List UInt8) (rB : Nat), (rmS Q s3 X []).doOp ⟨1, [98], [], List.replicate B 0⟩ = (rB, rmS Q (s3 + (if rB = 0 then 1 else 0)) X Y) ∧ ((rB = 11 ∧ Q < X.length + B ∧ 0 = Y.length) ∨ (rB = 0 ∧ X.length + B ≤ Q ∧ B = Y.length)) := by
      rw [rm_b _ _ _ _ _ (by simp; omega)]
      by_cases h : Q < X.length + B
      · exact ⟨[], 11, by rw [if_pos (by simp; omega)]; rfl, .inl ⟨rfl, h, rfl⟩⟩
      · exact ⟨List.replicate B 0, 0, by rw [if_neg (by simp; omega)]; rfl, .inr ⟨rfl, by omega, by simp⟩⟩
    obtain ⟨s4, hs4⟩ : ∃ s4, s3 + (if rB = 0 then 1 else 0) = s4 := ⟨_, rfl⟩
    have hs4' : s4 ≤ 4 := by rw [← hs4]; split <;> omega
    rw [hs4] at hYe
    have HX := Hid.mk hXe
    have HY := Hid.mk hYe
    have hu4 : Hid (((rmS Q s4 X Y).quota : Int) - ((rmS Q s4 X Y).used : Int) = (Q : Int) - ((X.length + Y.length : Nat) : Int)) := by show _ = _; rw [rm_used]; rfl
    have hu6 : Hid (((rmU Q (s4 + 1 + 1) X Y).quota : Int) - ((rmU Q (s4 + 1 + 1) X Y).used : Int) = (Q : Int)) := by show (Q : Int) - ((0 : Nat) : Int) = _; omega
    clear hXe hYe hs3 hs4
    obtain ⟨x, hx⟩ : ∃ x, X.length = x := ⟨_, rfl⟩
    obtain ⟨y, hy⟩ : ∃ y, Y.length = y := ⟨_, rfl⟩
    rw [hx] at hXc hYc hu4
    rw [hy] at hYc hu4
    clear hx hy
    rcases hXc with ⟨rfl, hA, rfl⟩ | ⟨rfl, hA, rfl⟩ <;> rcases hYc with ⟨rfl, hB, rfl⟩ | ⟨rfl, hB, rfl⟩
    all_goals
      go_enter Try.func3, Try.ntmps3
      go_wp2_with fail
      refine (alive3_any _).mono ?_
      rintro e w1 ⟨rfl, hk1⟩
      go_wp2_with fail
      refine (up_new hk1 (Q : Int)).mono ?_
      rintro e w2 ⟨rfl, h2⟩
      rw [rm_start Q (by omega)] at h2
      have H2 := Hid.mk h2
      clear h2
      go_wp2_with fail
      refine (up_create H2.out (small _ (by decide)) ⟨by show (0 : Nat) ≤ _; decide, by show 0 + 0 + 0 < _; decide⟩).mono ?_
      rintro e w3 ⟨rfl, h3⟩
      have H3 : Hid (Up w w3 w1.heap.size ⟨[⟨[], 0⟩], [([97], 0)], [], [⟨0, [97], [], 0⟩], Q, 1, false, none, none⟩) := by
        have e := rm_one Q
        have h4 : Up w w3 w1.heap.size ((DModel.mk [] [] [] [] Q 0 false none none).doOp ⟨0, [97], [], []⟩).2 := h3
        rw [e] at h4
        exact h4
      clear h3 H2
      go_wp2_with fail
      refine (up_create H3.out (small _ (by decide)) ⟨by show (1 : Nat) ≤ _; decide, by show 1 + 0 + 1 < _; decide⟩).mono ?_
      rintro e w4 ⟨rfl, h4⟩
      have H4 : Hid (Up w w4 w1.heap.size (rmS Q 2 [] [])) := by
        have e := rm_two Q
        have h5 : Up w w4 w1.heap.size ((DModel.mk [⟨[], 0⟩] [([97], 0)] [] [⟨0, [97], [], 0⟩] Q 1 false none none).doOp ⟨0, [98], [], []⟩).2 := h4
        rw [e] at h5
        exact h5
      clear h4 H3
      go_wp2_with fail
      refine (up_append (m := rmS Q 2 [] []) (H4.out.stay ((Only.refl _ _).alloc _)) (small _ (by decide)) (made_src A w4) (by simp; omega) (few_s _ _ _ _ (by omega))).mono ?_
      rintro e w5 ⟨rfl, h5⟩
      have eX : (rmS Q 2 [] []).doOp ⟨1, (⟨#[97]⟩ : ByteArray).data.toList, [], List.replicate A 0⟩ = _ := HX.out
      rw [eX] at h5 ⊢
      have H5 := Hid.mk h5
      clear h5 H4 eX
      go_wp2_with (go_at_call 12; refine (num3_any _ _).mono ?_; rintro e w' ⟨rfl, hw⟩; replace hw := hw.symm; subst hw)
      refine (up_append (m := rmS Q s3 X []) (H5.out.stay ((Only.refl _ _).alloc _)) (small _ (by decide)) (made_src B w5) (by simp; omega) (few_s _ _ _ _ (by omega))).mono ?_
      rintro e w6 ⟨rfl, h6⟩
      have eY : (rmS Q s3 X []).doOp ⟨1, (⟨#[98]⟩ : ByteArray).data.toList, [], List.replicate B 0⟩ = _ := HY.out
      rw [eY] at h6 ⊢
      have H6 := Hid.mk h6
      clear h6 H5 eY
      have hroom := up_room H6.out (few_s _ _ _ _ (by omega))
      rw [hu4.out] at hroom
      have HRm := Hid.mk hroom
      clear hroom
      go_wp2_with (first
        | (go_at_call 12; refine (num3_any _ _).mono ?_; rintro e w' ⟨rfl, hw⟩; replace hw := hw.symm; subst hw)
        | (go_at_call 13; refine HRm.out.mono ?_; rintro e w7 ⟨rfl, hk7, h7⟩; have H7 := Hid.mk h7; clear h7))
      refine (up_remove H7.out (small _ (by decide)) (few_s _ _ _ _ (by omega))).mono ?_
      rintro e w8 ⟨rfl, h8⟩
      have H8 : Hid (Up w w8 w1.heap.size (rmT Q (s4 + 1) X Y)) := by
        have e := rm_three Q s4 X Y
        have h9 : Up w w8 w1.heap.size ((rmS Q s4 X Y).doOp ⟨4, [97], [], []⟩).2 := h8
        rw [e] at h9
        exact h9
      clear h8
      go_wp2_with fail
      refine (up_remove H8.out (small _ (by decide)) (few_t _ _ _ _ (by omega))).mono ?_
      rintro e w9 ⟨rfl, h9⟩
      have H9 : Hid (Up w w9 w1.heap.size (rmU Q (s4 + 1 + 1) X Y)) := by
        have e := rm_four Q (s4 + 1) X Y
        have h10 : Up w w9 w1.heap.size ((rmT Q (s4 + 1) X Y).doOp ⟨4, [98], [], []⟩).2 := h9
        rw [e] at h10
        exact h10
      clear h9
      have hroom := up_room H9.out (few_u _ _ _ _ (by omega))
      rw [hu6.out] at hroom
      go_wp2_with fail
      refine hroom.mono ?_
      rintro e w10 ⟨rfl, hk10, h10⟩
      clear hroom
      go_wp2_with fail
      go_ret
      exact ⟨rfl, h10.kept⟩
end Go.Proofs.Ytephpgiiljjieab
