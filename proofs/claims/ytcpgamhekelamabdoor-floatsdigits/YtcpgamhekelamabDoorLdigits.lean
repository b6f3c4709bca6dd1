/-
  The law FloatsDigits, walked: one digit more behind the point, and the same with a sign.
-/
import Derived.Test.YtcpgamhekelamabDoorRnum
namespace Go.Proofs.YtcpgamhekelamabDoor
open Go.RowKit
set_option linter.unusedVariables false

theorem tailN (p : Nat) (d : Int) (d0 : 0 ≤ d) (d1 : d ≤ 9) (hp : p ≤ 20) : decOk (zeros p ++ [digB d]) = true ∧ numL (zeros p ++ [digB d]) = d ∧ (zeros p ++ [digB d]).length = p + 1 := by
  obtain ⟨g1, g2⟩ := digit_ok d.toNat (by omega)
  have hl : (zeros p ++ [digB d]).length = p + 1 := by rw [List.length_append]; unfold zeros; rw [List.length_replicate]; rfl
  refine ⟨?_, ?_, hl⟩
  · have : allDig (zeros p ++ [digB d]) = true := by
      have z := zeros_all p
      unfold allDig at *
      rw [List.all_append, z]
      show (true && ([digB d]).all isDig) = true
      unfold digB
      rw [List.all_cons, g1]
      rfl
    unfold decOk
    rw [this, hl]
    simp
    omega
  · rw [numL_more, zeros_num]
    unfold digB
    rw [g2]
    omega

theorem digits_meet (N d : Int) (p : Nat) (n0 : 0 ≤ N) (n1 : N ≤ 1000000) (d0 : 0 ≤ d) (d1 : d ≤ 8) (hp : p ≤ 20) : ∃ a b c : Int,
    (parseN (Lib.decDigits N.natAbs ++ 46 :: (zeros p ++ [digB d])) = a ∧ parseE (Lib.decDigits N.natAbs ++ 46 :: (zeros p ++ [digB d])) = 0) ∧
    (parseN (Lib.decDigits N.natAbs ++ 46 :: (zeros p ++ [digB (d + 1)])) = b ∧ parseE (Lib.decDigits N.natAbs ++ 46 :: (zeros p ++ [digB (d + 1)])) = 0) ∧
    (parseN (45 :: (Lib.decDigits N.natAbs ++ 46 :: (zeros p ++ [digB d]))) = c ∧ parseE (45 :: (Lib.decDigits N.natAbs ++ 46 :: (zeros p ++ [digB d]))) = 0) ∧
    N * 4294967296 ≤ a ∧ a ≤ b ∧ b < (N + 1) * 4294967296 ∧ (c = -a ∨ c = -a - 1) := by
  obtain ⟨t1, t2, t3⟩ := tailN p d d0 (by omega) hp
  obtain ⟨u1, u2, u3⟩ := tailN p (d + 1) (by omega) (by omega) hp
  have hD := dec_ok N.natAbs (by show _ < 100000000000000000000; omega)
  obtain ⟨e1, e2, e3⟩ := dec_all N.natAbs
  have q1 := parse_point false _ _ hD t1
  have q2 := parse_point false _ _ hD u1
  have q3 := parse_point true _ _ hD t1
  obtain ⟨b1, b2⟩ := part_bd (dec_parts t1).1
  obtain ⟨b3, b4⟩ := part_bd (dec_parts u1).1
  have hm : partL (zeros p ++ [digB d]) ≤ partL (zeros p ++ [digB (d + 1)]) := by
    unfold partL
    rw [t2, t3, u2, u3]
    exact Int.ediv_le_ediv (ten_pos _) (by omega)
  have hN : ((N.natAbs : Nat) : Int) = N := by omega
  have r1 : readZ false (Lib.decDigits N.natAbs) (zeros p ++ [digB d]) = N * 4294967296 + partL (zeros p ++ [digB d]) := by
    unfold readZ; rw [e2, hN, if_neg (by omega)]; rfl
  have r2 : readZ false (Lib.decDigits N.natAbs) (zeros p ++ [digB (d + 1)]) = N * 4294967296 + partL (zeros p ++ [digB (d + 1)]) := by
    unfold readZ; rw [e2, hN, if_neg (by omega)]; rfl
  have r3 : readZ true (Lib.decDigits N.natAbs) (zeros p ++ [digB d]) = downZ true (N * 4294967296 + partL (zeros p ++ [digB d])) (leftL (zeros p ++ [digB d])) := by
    unfold readZ; rw [e2, hN, if_neg (by omega)]
  rw [r1] at q1
  rw [r2] at q2
  rw [r3] at q3
  refine ⟨_, _, _, q1, q2, q3, by omega, by omega, by omega, ?_⟩
  unfold downZ
  cases leftL (zeros p ++ [digB d])
  · left; rfl
  · right; rfl

set_option maxHeartbeats 3200000 in
theorem digits_in (N d a b c : Int) (p : Nat) (D : List UInt8) (w : World) (n0 : 0 ≤ N) (n1 : N ≤ 1000000) (d0 : 0 ≤ d) (d1 : d ≤ 8) (hp : p ≤ 20) (hl : (ByteArray.mk D.toArray).size ≤ 20) (f1 : N * 4294967296 ≤ a) (f2 : a ≤ b) (f3 : b < (N + 1) * 4294967296) (f4 : c = -a ∨ c = -a - 1)
    (hN : ∀ w, Calls Tryd.prog 7 #[.int .i64 N] w fun e w' => e = .returned (.string ⟨D.toArray⟩) ∧ Stay w w')
    (h1 : ∀ (X : ByteArray) w, X.data.toList = D ++ 46 :: (zeros p ++ [digB d]) → Calls Tryd.prog 8 #[.string X] w fun e w' => e = .returned (.tuple #[.int .i64 a, .int .i64 0]) ∧ Stay w w')
    (h2 : ∀ (X : ByteArray) w, X.data.toList = D ++ 46 :: (zeros p ++ [digB (d + 1)]) → Calls Tryd.prog 8 #[.string X] w fun e w' => e = .returned (.tuple #[.int .i64 b, .int .i64 0]) ∧ Stay w w')
    (h3 : ∀ (X : ByteArray) w, X.data.toList = 45 :: (D ++ 46 :: (zeros p ++ [digB d])) → Calls Tryd.prog 8 #[.string X] w fun e w' => e = .returned (.tuple #[.int .i64 c, .int .i64 0]) ∧ Stay w w') :
    Calls Tryd.prog 5 #[.int .i64 N, .int .i64 d, .int .i64 p] w fun e w' => e = .returned (.bool true) ∧ Stay w w' := by
  have HD : Hid (ByteArray.mk D.toArray ++ ByteArray.mk #[46] = ByteArray.mk (D ++ 46 :: zeros 0).toArray) := mk_app D [46]
  have H1 : Hid _ := h1
  have H2 : Hid _ := h2
  have H3 : Hid _ := h3
  have HF : Hid (c = -a ∨ c = -a - 1) := f4
  have hlD : Hid (D.length ≤ 20) := hl
  have hp1 : ofZ N = N * 4294967296 := cut_in (by omega) (by omega)
  have hp2 : ofZ (N + 1) = (N + 1) * 4294967296 := cut_in (by omega) (by omega)
  have k1 := fun w => num_slice .i64 d w d0 (by omega)
  have k2 : ∀ w, (Instr.slice 9 (.string ⟨#[48, 49, 50, 51, 52, 53, 54, 55, 56, 57]⟩) (some (.int .i64 (d + 1))) (some (.int .i64 (d + 2))) none).run Tryd.prog w = .ok (.string (ByteArray.mk [digB (d + 1)].toArray)) w := fun w => by
    have := num_slice .i64 (d + 1) w (by omega) (by omega)
    rw [show d + 1 + 1 = d + 2 by omega] at this
    exact this
  obtain ⟨g1, G1⟩ : ∃ g, ByteArray.mk [digB d].toArray = g := ⟨_, rfl⟩
  obtain ⟨g2, G2⟩ : ∃ g, ByteArray.mk [digB (d + 1)].toArray = g := ⟨_, rfl⟩
  have gs1 : g1.size = 1 := by rw [← G1]; rfl
  have gs2 : g2.size = 1 := by rw [← G2]; rfl
  have gd1 : Hid (g1.data.toList = [digB d]) := by show _ = _; rw [← G1]
  have gd2 : Hid (g2.data.toList = [digB (d + 1)]) := by show _ = _; rw [← G2]
  simp only [G1] at k1
  simp only [G2] at k2
  clear G1 G2 h1 h2 h3 f4
  generalize hS : ByteArray.mk D.toArray = S at *
  clear hS
  go_enter Tryd.func5, Tryd.ntmps5
  go_wp2_with (first | (go_at_call 6; refine (alive_any _).mono ?_; rintro e w1 ⟨rfl, hg⟩) | (go_at_call 7; refine (hN _).mono ?_; rintro e w2 ⟨rfl, hg2⟩))
  have hg3 : Hid _ := Stay.trans hg hg2
  clear hg hg2 hN
  go_loop [8, 9] (fun s i => ∃ j : Nat, j ≤ p ∧ i = .int .i64 j ∧ s = .string ⟨(D ++ 46 :: zeros j).toArray⟩) (fun _ i => (p - intOf i).toNat)
  case atStart => exact ⟨0, by omega, rfl, by rw [← HD.out]⟩
  case round =>
    obtain ⟨j, j1, rfl, rfl⟩ := hrel
    have hz : (ByteArray.mk (D ++ 46 :: zeros j).toArray).size ≤ 41 := by
      show (D ++ 46 :: zeros j).length ≤ 41
      have := hlD.out
      rw [List.length_append, List.length_cons]; unfold zeros; rw [List.length_replicate]; omega
    by_cases hj : j < p
    · have HP : Hid (ByteArray.mk (D ++ 46 :: zeros j).toArray ++ ByteArray.mk #[48] = ByteArray.mk (D ++ 46 :: zeros (j + 1)).toArray) := by
        show _ = _
        rw [show ByteArray.mk #[48] = ByteArray.mk [48].toArray from rfl, mk_app, List.append_assoc, List.cons_append, zeros_more]
      generalize ByteArray.mk (D ++ 46 :: zeros j).toArray = A at *
      go_wp2
      go_round
      case rel => exact ⟨j + 1, by omega, by go_num, by rw [← HP.out]⟩
      case measure => simp [intOf]; omega
    · have ej : j = p := by omega
      subst ej
      have hA : Hid ((ByteArray.mk (D ++ 46 :: zeros j).toArray).data.toList = D ++ 46 :: zeros j) := rfl
      generalize ByteArray.mk (D ++ 46 :: zeros j).toArray = A at *
      have hB : (ByteArray.mk #[45] ++ A).size ≤ 42 := by rw [ByteArray.size_append]; show 1 + A.size ≤ 42; omega
      go_wp2_with fail
      refine (H1.out _ _ (by simp [ByteArray.data_append, hA.out, gd1.out])).mono ?_
      rintro e w5 ⟨rfl, hg5⟩
      go_wp2_with fail
      refine (H2.out _ _ (by simp [ByteArray.data_append, hA.out, gd2.out])).mono ?_
      rintro e w6 ⟨rfl, hg6⟩
      go_wp2_with fail
      refine (H3.out _ _ (by simp [ByteArray.data_append, hA.out, gd1.out])).mono ?_
      rintro e w7 ⟨rfl, hg7⟩
      have hgg : Hid _ := Stay.trans (Stay.trans (Stay.trans hg3.out hg5) hg6) hg7
      clear hg5 hg6 hg7
      rcases HF.out with hf | hf
      · subst hf
        go_wp2_with (first | (go_at_call 9; refine (num_any _ _).mono ?_; rintro e w' ⟨rfl, rfl⟩) | (go_at_call 10; refine (rof_any _ _ (by omega) (by omega)).mono ?_; rintro e w' ⟨rfl, rfl⟩; (first | rewrite [hp1] | rewrite [hp2])))
        go_ret
        exact ⟨rfl, hgg.out⟩
      · subst hf
        have hne : (-a - 1 == -a) = false := by simp; omega
        go_wp2_with (first | (go_at_call 9; refine (num_any _ _).mono ?_; rintro e w' ⟨rfl, rfl⟩) | (go_at_call 10; refine (rof_any _ _ (by omega) (by omega)).mono ?_; rintro e w' ⟨rfl, rfl⟩; (first | rewrite [hp1] | rewrite [hp2])))
        go_ret
        exact ⟨rfl, hgg.out⟩

theorem digits_out (N d p : Int) (w : World) (h : N < 0 ∨ 1000000 < N ∨ d < 0 ∨ 8 < d ∨ p < 0 ∨ 20 < p) :
    Calls Tryd.prog 5 #[.int .i64 N, .int .i64 d, .int .i64 p] w fun e w' => e = .returned (.bool true) ∧ Stay w w' := by
  have key : (N < 0 ∨ (0 ≤ N ∧ 1000000 < N) ∨ (0 ≤ N ∧ N ≤ 1000000 ∧ d < 0) ∨ (0 ≤ N ∧ N ≤ 1000000 ∧ 0 ≤ d ∧ 8 < d) ∨ (0 ≤ N ∧ N ≤ 1000000 ∧ 0 ≤ d ∧ d ≤ 8 ∧ p < 0) ∨ (0 ≤ N ∧ N ≤ 1000000 ∧ 0 ≤ d ∧ d ≤ 8 ∧ 0 ≤ p ∧ 20 < p)) := by omega
  clear h
  rcases key with h1 | ⟨h1, h2⟩ | ⟨h1, h2, h3⟩ | ⟨h1, h2, h3, h4⟩ | ⟨h1, h2, h3, h4, h5⟩ | ⟨h1, h2, h3, h4, h5, h6⟩
  all_goals
    go_enter Tryd.func5, Tryd.ntmps5
    go_wp2_with (go_at_call 6; refine (alive_any _).mono ?_; rintro e w1 ⟨rfl, hg⟩)
    go_ret
    exact ⟨rfl, hg⟩

theorem digits_any (N d p : Int) (w : World) (h0 : -9223372036854775808 ≤ N) (h1 : N ≤ 9223372036854775807) :
    Calls Tryd.prog 5 #[.int .i64 N, .int .i64 d, .int .i64 p] w fun e w' => e = .returned (.bool true) ∧ Stay w w' := by
  by_cases ho : N < 0 ∨ 1000000 < N ∨ d < 0 ∨ 8 < d ∨ p < 0 ∨ 20 < p
  · exact digits_out N d p w ho
  obtain ⟨m, rfl⟩ : ∃ m : Nat, p = m := ⟨p.toNat, by omega⟩
  obtain ⟨a, b, c, ⟨a1, a2⟩, ⟨b1, b2⟩, ⟨c1, c2⟩, f1, f2, f3, f4⟩ := digits_meet N d m (by omega) (by omega) (by omega) (by omega) (by omega)
  have d4 := dec_len 12 N.natAbs (by show _ < 10000000000000; omega)
  have hN := fun w => rnum_any N w h0 h1
  have hn : ¬ N < 0 := by omega
  simp only [hn, decide_false] at hN
  have hP : ∀ (X : ByteArray) w (x : Int) (l : List UInt8), l.length ≤ 60 → parseN l = x → parseE l = 0 → X.data.toList = l → Calls Tryd.prog 8 #[.string X] w fun e w' => e = .returned (.tuple #[.int .i64 x, .int .i64 0]) ∧ Stay w w' := by
    intro X w x l hl k1 k2 hX
    have := parse_any X w (by rw [Lib.size_eq, hX]; omega)
    rw [hX, k1, k2] at this
    exact this
  have hl : ∀ e : Int, (Lib.decDigits N.natAbs ++ 46 :: (zeros m ++ [digB e])).length ≤ 50 := fun e => by
    rw [List.length_append, List.length_cons, List.length_append]; unfold zeros; rw [List.length_replicate]; simp; omega
  exact digits_in N d a b c m _ w (by omega) (by omega) (by omega) (by omega) (by omega) (by show (Lib.decDigits N.natAbs).length ≤ 20; omega) f1 f2 f3 f4 hN
    (fun X w h => hP X w a _ (by have := hl d; omega) a1 a2 h) (fun X w h => hP X w b _ (by have := hl (d + 1); omega) b1 b2 h) (fun X w h => hP X w c _ (by rw [List.length_cons]; have := hl d; omega) c1 c2 h)
end Go.Proofs.YtcpgamhekelamabDoor
