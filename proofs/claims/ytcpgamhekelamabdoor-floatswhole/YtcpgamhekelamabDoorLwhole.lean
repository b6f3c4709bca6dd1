/-
  The law FloatsWhole, walked: a whole number with its sign, noughts ahead and noughts behind.
-/
import Derived.Test.YtcpgamhekelamabDoorRnum
namespace Go.Proofs.YtcpgamhekelamabDoor
open Go.RowKit
set_option linter.unusedVariables false

set_option maxHeartbeats 1600000 in
theorem whole_pos (n : Int) (c : UInt8) (S : ByteArray) (D : List UInt8) (k : Nat) (w : World) (n0 : 0 ≤ n) (n1 : n ≤ 1000000000000) (hk : k ≤ 10) (hl : S.size ≤ 20) (hs0 : 0 < S.size) (hi : S[0] = c) (hS : Hid (S.data.toList = D)) (hc : (((c.toNat : Nat) : Int) == 45) = false)
    (hN : ∀ w, Calls Tryd.prog 7 #[.int .i64 n] w fun e w' => e = .returned (.string S) ∧ Stay w w')
    (hP : ∀ (X : ByteArray) w, X.data.toList = wholeT false D k → Calls Tryd.prog 8 #[.string X] w fun e w' => e = .returned (.tuple #[.int .i64 (ofZ n), .int .i64 0]) ∧ Stay w w') :
    Calls Tryd.prog 3 #[.int .i64 n, .int .i64 k] w fun e w' => e = .returned (.bool true) ∧ Stay w w' := by
  go_enter Tryd.func3, Tryd.ntmps3
  go_wp2_with (first | (go_at_call 6; refine (alive_any _).mono ?_; rintro e w1 ⟨rfl, hg⟩) | (go_at_call 7; refine (hN _).mono ?_; rintro e w2 ⟨rfl, hg2⟩))
  have hg3 : Hid _ := Stay.trans hg hg2
  clear hg hg2 hN hi
  go_loop [8, 9, 10] (fun a b i => ∃ j : Nat, j ≤ k ∧ i = .int .i64 j ∧ a = .string ⟨(zeros j).toArray⟩ ∧ b = .string ⟨(zeros j).toArray⟩) (fun _ _ i => (k - intOf i).toNat)
  case atStart => exact ⟨0, by omega, rfl, rfl, rfl⟩
  case round =>
    obtain ⟨j, j1, rfl, rfl, rfl⟩ := hrel
    have hz := zeros_size j
    by_cases hj : j < k
    · have hp := zeros_push j
      have HP : Hid _ := hp
      generalize ByteArray.mk (zeros j).toArray = A at *
      clear hp
      go_wp2
      go_round
      case rel => exact ⟨j + 1, by omega, by go_num, by rw [← HP.out], by rw [← HP.out]⟩
      case measure => simp [intOf]; omega
    · have ej : j = k := by omega
      subst ej
      have hA : Hid ((ByteArray.mk (zeros j).toArray).data.toList = zeros j) := rfl
      generalize ByteArray.mk (zeros j).toArray = A at *
      by_cases j0 : j = 0
      · have hj' : ¬ (0 : Int) < (j : Int) := by omega
        have hA0 : A.size = 0 := by omega
        go_wp2_with fail
        refine (hP _ _ ?_).mono ?_
        · unfold wholeT behindL signL
          simp [ByteArray.data_append, hS.out, hA.out, j0, zeros]
        rintro e w5 ⟨rfl, hg5⟩
        go_wp2_with (first | (go_at_call 9; refine (num_any _ _).mono ?_; rintro e w' ⟨rfl, rfl⟩) | (go_at_call 10; refine (rof_any _ _ (by omega) (by omega)).mono ?_; rintro e w' ⟨rfl, rfl⟩))
        go_ret
        exact ⟨rfl, Stay.trans hg3.out hg5⟩
      · have hj' : (0 : Int) < (j : Int) := by omega
        have hB : (ByteArray.mk #[46] ++ A).size ≤ 11 := by rw [ByteArray.size_append]; show 1 + A.size ≤ 11; omega
        have hC : (A ++ S).size ≤ 30 := by rw [ByteArray.size_append]; omega
        go_wp2_with fail
        refine (hP _ _ ?_).mono ?_
        · unfold wholeT behindL signL
          simp [ByteArray.data_append, hS.out, hA.out, j0]
        rintro e w5 ⟨rfl, hg5⟩
        go_wp2_with (first | (go_at_call 9; refine (num_any _ _).mono ?_; rintro e w' ⟨rfl, rfl⟩) | (go_at_call 10; refine (rof_any _ _ (by omega) (by omega)).mono ?_; rintro e w' ⟨rfl, rfl⟩))
        go_ret
        exact ⟨rfl, Stay.trans hg3.out hg5⟩
set_option maxHeartbeats 1600000 in
theorem whole_neg (n : Int) (S T : ByteArray) (D : List UInt8) (k : Nat) (w : World) (n0 : n < 0) (n1 : -1000000000000 ≤ n) (hk : k ≤ 10) (hl : S.size ≤ 20) (hs0 : 0 < S.size) (hi : S[0] = 45) (hT : S.extract 1 S.size = T) (ht : T.size ≤ 20) (hS : Hid (T.data.toList = D))
    (hN : ∀ w, Calls Tryd.prog 7 #[.int .i64 n] w fun e w' => e = .returned (.string S) ∧ Stay w w')
    (hP : ∀ (X : ByteArray) w, X.data.toList = wholeT true D k → Calls Tryd.prog 8 #[.string X] w fun e w' => e = .returned (.tuple #[.int .i64 (ofZ n), .int .i64 0]) ∧ Stay w w') :
    Calls Tryd.prog 3 #[.int .i64 n, .int .i64 k] w fun e w' => e = .returned (.bool true) ∧ Stay w w' := by
  go_enter Tryd.func3, Tryd.ntmps3
  go_wp2_with (first | (go_at_call 6; refine (alive_any _).mono ?_; rintro e w1 ⟨rfl, hg⟩) | (go_at_call 7; refine (hN _).mono ?_; rintro e w2 ⟨rfl, hg2⟩))
  have hg3 : Hid _ := Stay.trans hg hg2
  clear hg hg2 hN hi
  go_loop [8, 9, 10] (fun a b i => ∃ j : Nat, j ≤ k ∧ i = .int .i64 j ∧ a = .string ⟨(zeros j).toArray⟩ ∧ b = .string ⟨(zeros j).toArray⟩) (fun _ _ i => (k - intOf i).toNat)
  case atStart => exact ⟨0, by omega, rfl, rfl, rfl⟩
  case round =>
    obtain ⟨j, j1, rfl, rfl, rfl⟩ := hrel
    have hz := zeros_size j
    by_cases hj : j < k
    · have hp := zeros_push j
      have HP : Hid _ := hp
      generalize ByteArray.mk (zeros j).toArray = A at *
      clear hp
      go_wp2
      go_round
      case rel => exact ⟨j + 1, by omega, by go_num, by rw [← HP.out], by rw [← HP.out]⟩
      case measure => simp [intOf]; omega
    · have ej : j = k := by omega
      subst ej
      have hA : Hid ((ByteArray.mk (zeros j).toArray).data.toList = zeros j) := rfl
      generalize ByteArray.mk (zeros j).toArray = A at *
      by_cases j0 : j = 0
      · have hj' : ¬ (0 : Int) < (j : Int) := by omega
        have hA0 : A.size = 0 := by omega
        have hC : (ByteArray.mk #[45] ++ A).size ≤ 11 := by rw [ByteArray.size_append]; show 1 + A.size ≤ 11; omega
        have hE : (ByteArray.mk #[45] ++ A ++ T).size ≤ 40 := by rw [ByteArray.size_append]; omega
        go_wp2_with fail
        refine (hP _ _ ?_).mono ?_
        · unfold wholeT behindL signL
          simp [ByteArray.data_append, hS.out, hA.out, j0, zeros]
        rintro e w5 ⟨rfl, hg5⟩
        go_wp2_with (first | (go_at_call 9; refine (num_any _ _).mono ?_; rintro e w' ⟨rfl, rfl⟩) | (go_at_call 10; refine (rof_any _ _ (by omega) (by omega)).mono ?_; rintro e w' ⟨rfl, rfl⟩))
        go_ret
        exact ⟨rfl, Stay.trans hg3.out hg5⟩
      · have hj' : (0 : Int) < (j : Int) := by omega
        have hB : (ByteArray.mk #[46] ++ A).size ≤ 11 := by rw [ByteArray.size_append]; show 1 + A.size ≤ 11; omega
        have hC : (ByteArray.mk #[45] ++ A).size ≤ 11 := by rw [ByteArray.size_append]; show 1 + A.size ≤ 11; omega
        have hE : (ByteArray.mk #[45] ++ A ++ T).size ≤ 40 := by rw [ByteArray.size_append]; omega
        go_wp2_with fail
        refine (hP _ _ ?_).mono ?_
        · unfold wholeT behindL signL
          simp [ByteArray.data_append, hS.out, hA.out, j0]
        rintro e w5 ⟨rfl, hg5⟩
        go_wp2_with (first | (go_at_call 9; refine (num_any _ _).mono ?_; rintro e w' ⟨rfl, rfl⟩) | (go_at_call 10; refine (rof_any _ _ (by omega) (by omega)).mono ?_; rintro e w' ⟨rfl, rfl⟩))
        go_ret
        exact ⟨rfl, Stay.trans hg3.out hg5⟩

theorem whole_any (n k : Int) (w : World) (h0 : -9223372036854775808 ≤ n) (h1 : n ≤ 9223372036854775807) :
    Calls Tryd.prog 3 #[.int .i64 n, .int .i64 k] w fun e w' => e = .returned (.bool true) ∧ Stay w w' := by
  by_cases ho : n < -1000000000000 ∨ 1000000000000 < n ∨ k < 0 ∨ 10 < k
  · exact whole_out n k w ho
  obtain ⟨m, rfl⟩ : ∃ m : Nat, k = m := ⟨k.toNat, by omega⟩
  obtain ⟨e1, e2⟩ := whole_meet n m (by omega) (by omega) (by omega)
  obtain ⟨d1, d2, d3⟩ := dec_all n.natAbs
  have d4 := dec_len 12 n.natAbs (by show _ < 10000000000000; omega)
  have hN := fun w => rnum_any n w h0 h1
  have hP : ∀ (X : ByteArray) w, X.data.toList = wholeT (decide (n < 0)) (Lib.decDigits n.natAbs) m → Calls Tryd.prog 8 #[.string X] w fun e w' => e = .returned (.tuple #[.int .i64 (ofZ n), .int .i64 0]) ∧ Stay w w' := by
    intro X w hX
    have hs : X.size ≤ 9223372036854775806 := by
      rw [Lib.size_eq, hX]
      unfold wholeT behindL signL zeros
      simp only [List.length_append, List.length_replicate]
      split <;> split <;> simp <;> omega
    have := parse_any X w hs
    rw [hX, e1, e2] at this
    exact this
  generalize Lib.decDigits n.natAbs = D at *
  by_cases hn : n < 0
  · simp only [hn, decide_true] at hN hP
    refine whole_neg n ⟨(45 :: D).toArray⟩ ⟨D.toArray⟩ D m w hn (by omega) (by omega) (by show D.length + 1 ≤ 20; omega) (Nat.succ_pos _) rfl ?_ (by show D.length ≤ 20; omega) rfl hN hP
    rw [Lib.extract_eq]
    show ByteArray.mk ((D).take (D.length + 1 - 1)).toArray = _
    rw [List.take_of_length_le (by omega)]
  · simp only [hn, decide_false] at hN hP
    cases D with
    | nil => simp at d3
    | cons c D =>
      have hc : isDig c = true := List.all_eq_true.mp d1 c (List.mem_cons_self ..)
      have := dig_num hc
      exact whole_pos n c ⟨(c :: D).toArray⟩ (c :: D) m w (by omega) (by omega) (by omega) (by show D.length + 1 ≤ 20; simp at d4; omega) (Nat.succ_pos _) rfl rfl (by simp; omega) hN hP
end Go.Proofs.YtcpgamhekelamabDoor
