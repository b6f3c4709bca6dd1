/-
  The roads of the document's own Parse that end ahead of its loops.
-/
import Derived.Test.YtcpgamhekelamaaDoorRdbl
namespace Go.Proofs.YtcpgamhekelamaaDoor
open Go.RowKit
set_option linter.unusedVariables false

set_option maxHeartbeats 1600000 in
set_option maxRecDepth 100000 in
theorem rp_nan (s : ByteArray) (n m : Nat) (w : World) (hm : s.size ≤ 1000) (hnan : (s.toList == [110, 97, 110]) = true) :
    Calls Tryd.prog 20 #[.string s] w fun e w' => e = .returned (.tuple #[.int .i64 0, .int .i64 3]) ∧ Stay w w' := by
  go_enter Tryd.func20, Tryd.ntmps20
  go_wp2
  exact bodyPost_ret (v := .tuple #[.int .i64 0, .int .i64 3]) (by simp [results, Tryd.results20, go_sem]) rfl ⟨rfl, Stay.refl _⟩

set_option maxHeartbeats 1600000 in
set_option maxRecDepth 100000 in
theorem rp_inf_n (s : ByteArray) (n m : Nat) (w : World) (hm : s.size ≤ 1000) (hnan : (s.toList == [110, 97, 110]) = false) (h0 : 0 < s.size) (hc1 : (((s[0].toNat : Nat) : Int) == 45) = false) (hc2 : (((s[0].toNat : Nat) : Int) == 43) = false) (hinf : ((s.extract 0 s.size).toList == [105, 110, 102]) = true) (hinf2 : (s.toList == [105, 110, 102]) = true) :
    Calls Tryd.prog 20 #[.string s] w fun e w' => e = .returned (.tuple #[.int .i64 (scut false 18446744073709551616), .int .i64 0]) ∧ Stay w w' := by
  go_enter Tryd.func20, Tryd.ntmps20
  go_wp2_with (go_at_call 26; refine (back_any _ _ _ _ (by omega) (by omega) (by omega) (by omega)).mono ?_; rintro e w1 ⟨rfl, hg⟩)
  exact bodyPost_ret (v := .tuple #[.int .i64 (scut false 18446744073709551616), .int .i64 0]) (by simp [results, Tryd.results20, go_sem]) rfl ⟨rfl, hg⟩

set_option maxHeartbeats 1600000 in
set_option maxRecDepth 100000 in
theorem rp_inf_m (s : ByteArray) (n m : Nat) (w : World) (hm : s.size ≤ 1000) (hnan : (s.toList == [110, 97, 110]) = false) (h0 : 0 < s.size) (hc1 : (((s[0].toNat : Nat) : Int) == 45) = true) (hinf : ((s.extract 1 s.size).toList == [105, 110, 102]) = true) :
    Calls Tryd.prog 20 #[.string s] w fun e w' => e = .returned (.tuple #[.int .i64 (scut true 18446744073709551616), .int .i64 0]) ∧ Stay w w' := by
  go_enter Tryd.func20, Tryd.ntmps20
  go_wp2_with (go_at_call 26; refine (back_any _ _ _ _ (by omega) (by omega) (by omega) (by omega)).mono ?_; rintro e w1 ⟨rfl, hg⟩)
  exact bodyPost_ret (v := .tuple #[.int .i64 (scut true 18446744073709551616), .int .i64 0]) (by simp [results, Tryd.results20, go_sem]) rfl ⟨rfl, hg⟩

set_option maxHeartbeats 1600000 in
set_option maxRecDepth 100000 in
theorem rp_inf_p (s : ByteArray) (n m : Nat) (w : World) (hm : s.size ≤ 1000) (hnan : (s.toList == [110, 97, 110]) = false) (h0 : 0 < s.size) (hc1 : (((s[0].toNat : Nat) : Int) == 45) = false) (hc2 : (((s[0].toNat : Nat) : Int) == 43) = true) (hinf : ((s.extract 1 s.size).toList == [105, 110, 102]) = true) :
    Calls Tryd.prog 20 #[.string s] w fun e w' => e = .returned (.tuple #[.int .i64 (scut false 18446744073709551616), .int .i64 0]) ∧ Stay w w' := by
  go_enter Tryd.func20, Tryd.ntmps20
  go_wp2_with (go_at_call 26; refine (back_any _ _ _ _ (by omega) (by omega) (by omega) (by omega)).mono ?_; rintro e w1 ⟨rfl, hg⟩)
  exact bodyPost_ret (v := .tuple #[.int .i64 (scut false 18446744073709551616), .int .i64 0]) (by simp [results, Tryd.results20, go_sem]) rfl ⟨rfl, hg⟩

set_option maxHeartbeats 1600000 in
set_option maxRecDepth 100000 in
theorem rp_few_n (s : ByteArray) (n m : Nat) (w : World) (hm : s.size ≤ 1000) (hnan : (s.toList == [110, 97, 110]) = false) (h0 : 0 < s.size) (hc1 : (((s[0].toNat : Nat) : Int) == 45) = false) (hc2 : (((s[0].toNat : Nat) : Int) == 43) = false) (hinf : ((s.extract 0 s.size).toList == [105, 110, 102]) = false) (hinf2 : (s.toList == [105, 110, 102]) = false) (hn : n < 1)
    (hd : ∀ w, Calls Tryd.prog 34 #[.string s, .int .i64 0] w fun e w' => e = .returned (.int .i64 (n : Int)) ∧ w' = w) :
    Calls Tryd.prog 20 #[.string s] w fun e w' => e = .returned (.tuple #[.int .i64 0, .int .i64 4]) ∧ Stay w w' := by
  go_enter Tryd.func20, Tryd.ntmps20
  go_wp2_with (go_at_call 34; refine (hd _).mono ?_; rintro e w' ⟨rfl, rfl⟩)
  exact bodyPost_ret (v := .tuple #[.int .i64 0, .int .i64 4]) (by simp [results, Tryd.results20, go_sem]) rfl ⟨rfl, Stay.refl _⟩

set_option maxHeartbeats 1600000 in
set_option maxRecDepth 100000 in
theorem rp_many_n (s : ByteArray) (n m : Nat) (w : World) (hm : s.size ≤ 1000) (hnan : (s.toList == [110, 97, 110]) = false) (h0 : 0 < s.size) (hc1 : (((s[0].toNat : Nat) : Int) == 45) = false) (hc2 : (((s[0].toNat : Nat) : Int) == 43) = false) (hinf : ((s.extract 0 s.size).toList == [105, 110, 102]) = false) (hinf2 : (s.toList == [105, 110, 102]) = false) (hn : 30 < n)
    (hd : ∀ w, Calls Tryd.prog 34 #[.string s, .int .i64 0] w fun e w' => e = .returned (.int .i64 (n : Int)) ∧ w' = w) :
    Calls Tryd.prog 20 #[.string s] w fun e w' => e = .returned (.tuple #[.int .i64 0, .int .i64 4]) ∧ Stay w w' := by
  go_enter Tryd.func20, Tryd.ntmps20
  go_wp2_with (go_at_call 34; refine (hd _).mono ?_; rintro e w' ⟨rfl, rfl⟩)
  exact bodyPost_ret (v := .tuple #[.int .i64 0, .int .i64 4]) (by simp [results, Tryd.results20, go_sem]) rfl ⟨rfl, Stay.refl _⟩

set_option maxHeartbeats 1600000 in
set_option maxRecDepth 100000 in
theorem rp_few_m (s : ByteArray) (n m : Nat) (w : World) (hm : s.size ≤ 1000) (hnan : (s.toList == [110, 97, 110]) = false) (h0 : 0 < s.size) (hc1 : (((s[0].toNat : Nat) : Int) == 45) = true) (hinf : ((s.extract 1 s.size).toList == [105, 110, 102]) = false) (hn : n < 1)
    (hd : ∀ w, Calls Tryd.prog 34 #[.string s, .int .i64 1] w fun e w' => e = .returned (.int .i64 (n : Int)) ∧ w' = w) :
    Calls Tryd.prog 20 #[.string s] w fun e w' => e = .returned (.tuple #[.int .i64 0, .int .i64 4]) ∧ Stay w w' := by
  go_enter Tryd.func20, Tryd.ntmps20
  go_wp2_with (go_at_call 34; refine (hd _).mono ?_; rintro e w' ⟨rfl, rfl⟩)
  exact bodyPost_ret (v := .tuple #[.int .i64 0, .int .i64 4]) (by simp [results, Tryd.results20, go_sem]) rfl ⟨rfl, Stay.refl _⟩

set_option maxHeartbeats 1600000 in
set_option maxRecDepth 100000 in
theorem rp_many_m (s : ByteArray) (n m : Nat) (w : World) (hm : s.size ≤ 1000) (hnan : (s.toList == [110, 97, 110]) = false) (h0 : 0 < s.size) (hc1 : (((s[0].toNat : Nat) : Int) == 45) = true) (hinf : ((s.extract 1 s.size).toList == [105, 110, 102]) = false) (hn : 30 < n)
    (hd : ∀ w, Calls Tryd.prog 34 #[.string s, .int .i64 1] w fun e w' => e = .returned (.int .i64 (n : Int)) ∧ w' = w) :
    Calls Tryd.prog 20 #[.string s] w fun e w' => e = .returned (.tuple #[.int .i64 0, .int .i64 4]) ∧ Stay w w' := by
  go_enter Tryd.func20, Tryd.ntmps20
  go_wp2_with (go_at_call 34; refine (hd _).mono ?_; rintro e w' ⟨rfl, rfl⟩)
  exact bodyPost_ret (v := .tuple #[.int .i64 0, .int .i64 4]) (by simp [results, Tryd.results20, go_sem]) rfl ⟨rfl, Stay.refl _⟩

set_option maxHeartbeats 1600000 in
set_option maxRecDepth 100000 in
theorem rp_few_p (s : ByteArray) (n m : Nat) (w : World) (hm : s.size ≤ 1000) (hnan : (s.toList == [110, 97, 110]) = false) (h0 : 0 < s.size) (hc1 : (((s[0].toNat : Nat) : Int) == 45) = false) (hc2 : (((s[0].toNat : Nat) : Int) == 43) = true) (hinf : ((s.extract 1 s.size).toList == [105, 110, 102]) = false) (hn : n < 1)
    (hd : ∀ w, Calls Tryd.prog 34 #[.string s, .int .i64 1] w fun e w' => e = .returned (.int .i64 (n : Int)) ∧ w' = w) :
    Calls Tryd.prog 20 #[.string s] w fun e w' => e = .returned (.tuple #[.int .i64 0, .int .i64 4]) ∧ Stay w w' := by
  go_enter Tryd.func20, Tryd.ntmps20
  go_wp2_with (go_at_call 34; refine (hd _).mono ?_; rintro e w' ⟨rfl, rfl⟩)
  exact bodyPost_ret (v := .tuple #[.int .i64 0, .int .i64 4]) (by simp [results, Tryd.results20, go_sem]) rfl ⟨rfl, Stay.refl _⟩

set_option maxHeartbeats 1600000 in
set_option maxRecDepth 100000 in
theorem rp_many_p (s : ByteArray) (n m : Nat) (w : World) (hm : s.size ≤ 1000) (hnan : (s.toList == [110, 97, 110]) = false) (h0 : 0 < s.size) (hc1 : (((s[0].toNat : Nat) : Int) == 45) = false) (hc2 : (((s[0].toNat : Nat) : Int) == 43) = true) (hinf : ((s.extract 1 s.size).toList == [105, 110, 102]) = false) (hn : 30 < n)
    (hd : ∀ w, Calls Tryd.prog 34 #[.string s, .int .i64 1] w fun e w' => e = .returned (.int .i64 (n : Int)) ∧ w' = w) :
    Calls Tryd.prog 20 #[.string s] w fun e w' => e = .returned (.tuple #[.int .i64 0, .int .i64 4]) ∧ Stay w w' := by
  go_enter Tryd.func20, Tryd.ntmps20
  go_wp2_with (go_at_call 34; refine (hd _).mono ?_; rintro e w' ⟨rfl, rfl⟩)
  exact bodyPost_ret (v := .tuple #[.int .i64 0, .int .i64 4]) (by simp [results, Tryd.results20, go_sem]) rfl ⟨rfl, Stay.refl _⟩

set_option maxHeartbeats 1600000 in
set_option maxRecDepth 100000 in
theorem rp_few_e (s : ByteArray) (n m : Nat) (w : World) (hm : s.size ≤ 1000) (hnan : (s.toList == [110, 97, 110]) = false) (h0 : s.size = 0) (hinf : ((s.extract 0 s.size).toList == [105, 110, 102]) = false) (hinf2 : (s.toList == [105, 110, 102]) = false) (hn : n < 1)
    (hd : ∀ w, Calls Tryd.prog 34 #[.string s, .int .i64 0] w fun e w' => e = .returned (.int .i64 (n : Int)) ∧ w' = w) :
    Calls Tryd.prog 20 #[.string s] w fun e w' => e = .returned (.tuple #[.int .i64 0, .int .i64 4]) ∧ Stay w w' := by
  go_enter Tryd.func20, Tryd.ntmps20
  go_wp2_with (go_at_call 34; refine (hd _).mono ?_; rintro e w' ⟨rfl, rfl⟩)
  exact bodyPost_ret (v := .tuple #[.int .i64 0, .int .i64 4]) (by simp [results, Tryd.results20, go_sem]) rfl ⟨rfl, Stay.refl _⟩
end Go.Proofs.YtcpgamhekelamaaDoor
