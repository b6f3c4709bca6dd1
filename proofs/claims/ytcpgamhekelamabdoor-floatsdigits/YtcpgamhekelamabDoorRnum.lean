/-
  What the document's own answer prints of a whole number; and the law FloatsWhole, walked.
-/
import Derived.Test.YtcpgamhekelamabDoorRdec
namespace Go.Proofs.YtcpgamhekelamabDoor
open Go.RowKit
set_option linter.unusedVariables false

theorem rsize_any (n : Int) (w : World) (h0 : -9223372036854775808 ≤ n) (h1 : n ≤ 9223372036854775807) :
    Calls Tryd.prog 16 #[.int .i64 n] w fun e w' => e = .returned (.int .u64 (absZ n)) ∧ w' = w := by
  go_enter Tryd.func16, Tryd.ntmps16
  go_wp2
  all_goals
    go_ret
    exact ⟨ret_int (by unfold absZ; omega), rfl⟩
theorem rof_any (n : Int) (w : World) (h0 : -9223372036854775808 ≤ n) (h1 : n ≤ 9223372036854775807) :
    Calls Tryd.prog 10 #[.int .i64 n] w fun e w' => e = .returned (.int .i64 (ofZ n)) ∧ w' = w := by
  go_enter Tryd.func10, Tryd.ntmps10
  go_wp2
  all_goals
    go_ret
    exact ⟨ret_int (by unfold ofZ; first | (rw [cut_in (by omega) (by omega)]; done) | (rw [cut_hi (by omega)]; done) | (rw [cut_lo (by omega)]; done)), rfl⟩

theorem rnum_core (n u : Int) (D : List UInt8) (w : World) (h0 : -9223372036854775808 ≤ n) (h1 : n ≤ 9223372036854775807) (hu : absZ n = u) (u0 : 0 ≤ u) (hn : n < 0 → u = -n) (hp : 0 ≤ n → u = n) (hl : (ByteArray.mk D.toArray).size ≤ 20)
    (hd : ∀ w, Calls Tryd.prog 15 #[.int .u64 u] w fun e w' => e = .returned (.string ⟨D.toArray⟩) ∧ Stay w w') :
    Calls Tryd.prog 7 #[.int .i64 n] w fun e w' => e = .returned (.string ⟨(signL (decide (n < 0)) ++ D).toArray⟩) ∧ Stay w w' := by
  by_cases h : n < 0
  · have e : ByteArray.mk (signL (decide (n < 0)) ++ D).toArray = ByteArray.mk #[45] ++ ByteArray.mk D.toArray := by
      rw [show ByteArray.mk #[45] = ByteArray.mk [45].toArray from rfl, mk_app]
      simp [signL, h]
    rw [e]
    generalize ByteArray.mk D.toArray = g at *
    clear e hn hp
    go_enter Tryd.func7, Tryd.ntmps7
    go_wp2_with (first | (go_at_call 16; refine (rsize_any _ _ (by omega) (by omega)).mono ?_; rintro e w' ⟨rfl, rfl⟩; rewrite [hu]) | (go_at_call 15; refine (hd _).mono ?_; rintro e w1 ⟨rfl, hg⟩))
    go_ret
    exact ⟨rfl, hg⟩
  · have e : ByteArray.mk (signL (decide (n < 0)) ++ D).toArray = ByteArray.mk D.toArray := by simp [signL, h]
    rw [e]
    have hun := hp (by omega)
    subst hun
    generalize ByteArray.mk D.toArray = g at *
    clear e hn hp hu
    go_enter Tryd.func7, Tryd.ntmps7
    go_wp2_with (first | (go_at_call 15; refine (hd _).mono ?_; rintro e w1 ⟨rfl, hg⟩))
    go_ret
    exact ⟨rfl, hg⟩
theorem rnum_any (n : Int) (w : World) (h0 : -9223372036854775808 ≤ n) (h1 : n ≤ 9223372036854775807) :
    Calls Tryd.prog 7 #[.int .i64 n] w fun e w' => e = .returned (.string ⟨(signL (decide (n < 0)) ++ Lib.decDigits n.natAbs).toArray⟩) ∧ Stay w w' := by
  refine rnum_core n (n.natAbs : Int) _ w h0 h1 rfl (by omega) (by omega) (by omega) ?_ fun w => rdec_any n.natAbs w (by omega)
  have := dec_len 19 n.natAbs (by show _ < 100000000000000000000; omega)
  exact this

def behindL (k : Nat) : List UInt8 := if k = 0 then [] else 46 :: zeros k
def wholeT (neg : Bool) (D : List UInt8) (k : Nat) : List UInt8 := signL neg ++ (zeros k ++ D ++ behindL k)
theorem whole_meet (n : Int) (k : Nat) (h0 : -1000000000000 ≤ n) (h1 : n ≤ 1000000000000) (hk : k ≤ 10) :
    parseN (wholeT (decide (n < 0)) (Lib.decDigits n.natAbs) k) = ofZ n ∧ parseE (wholeT (decide (n < 0)) (Lib.decDigits n.natAbs) k) = 0 := by
  obtain ⟨d1, d2, d3⟩ := dec_all n.natAbs
  have d4 := dec_len 12 n.natAbs (by show _ < 10000000000000; omega)
  have zl : (zeros k).length = k := List.length_replicate ..
  have hA : decOk (zeros k ++ Lib.decDigits n.natAbs) = true := by
    have : allDig (zeros k ++ Lib.decDigits n.natAbs) = true := by unfold allDig at *; rw [List.all_append, d1]; have := zeros_all k; unfold allDig at this; rw [this]; rfl
    unfold decOk
    rw [this, List.length_append, zl]
    simp
    omega
  have hN : numL (zeros k ++ Lib.decDigits n.natAbs) = (n.natAbs : Int) := by rw [numL_append, zeros_num, d2]; simp
  have hp : partL (zeros k) = 0 ∧ leftL (zeros k) = false := by unfold partL leftL; rw [zeros_num]; simp
  have key : ∀ B, partL B = 0 → leftL B = false → readZ (decide (n < 0)) (zeros k ++ Lib.decDigits n.natAbs) B = ofZ n := by
    intro B b1 b2
    unfold readZ
    rw [hN, b1, b2]
    unfold ofZ
    by_cases c : 2147483648 ≤ (n.natAbs : Int)
    · rw [if_pos c]
      by_cases hn : n < 0
      · simp [hn, endZ]; rw [cut_lo (by omega)]
      · simp [hn, endZ]; rw [cut_hi (by omega)]
    · rw [if_neg c, cut_in (by omega) (by omega)]
      by_cases hn : n < 0
      · simp [hn, downZ]; omega
      · simp [hn, downZ]; omega
  unfold wholeT behindL
  by_cases k0 : k = 0
  · subst k0
    rw [if_pos rfl, List.append_nil]
    obtain ⟨p1, p2⟩ := parse_digits (decide (n < 0)) _ hA
    rw [p1, p2, key [] rfl rfl]
    exact ⟨rfl, rfl⟩
  · rw [if_neg k0]
    have hB : decOk (zeros k) = true := by unfold decOk; rw [zeros_all, zl]; simp; omega
    obtain ⟨p1, p2⟩ := parse_point (decide (n < 0)) _ _ hA hB
    rw [p1, p2, key _ hp.1 hp.2]
    exact ⟨rfl, rfl⟩

theorem zeros_size (j : Nat) : (ByteArray.mk (zeros j).toArray).size = j := List.length_replicate ..
theorem zeros_push (j : Nat) : ByteArray.mk (zeros j).toArray ++ ByteArray.mk #[48] = ByteArray.mk (zeros (j + 1)).toArray := by
  rw [show ByteArray.mk #[48] = ByteArray.mk [48].toArray from rfl, mk_app, zeros_more]

theorem whole_out (n k : Int) (w : World) (h : n < -1000000000000 ∨ 1000000000000 < n ∨ k < 0 ∨ 10 < k) :
    Calls Tryd.prog 3 #[.int .i64 n, .int .i64 k] w fun e w' => e = .returned (.bool true) ∧ Stay w w' := by
  by_cases h1 : n < -1000000000000 <;> by_cases h2 : 1000000000000 < n <;> by_cases h3 : k < 0 <;> by_cases h4 : 10 < k
  all_goals first | (exfalso; omega) | skip
  all_goals
    clear h
    go_enter Tryd.func3, Tryd.ntmps3
    go_wp2_with (go_at_call 6; refine (alive_any _).mono ?_; rintro e w1 ⟨rfl, hg⟩)
    go_ret
    exact ⟨rfl, hg⟩
end Go.Proofs.YtcpgamhekelamabDoor
