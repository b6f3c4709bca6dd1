/-
  The roads of the document's own Parse that end ahead of its loops, behind its first digits.
-/
import Derived.Test.YtcpgamhekelamaaDoorRroads
namespace Go.Proofs.YtcpgamhekelamaaDoor
open Go.RowKit
set_option linter.unusedVariables false

set_option maxHeartbeats 1600000 in
set_option maxRecDepth 100000 in
theorem rp_other_n (s W : ByteArray) (n m q : Nat) (w : World) (hm : s.size ≤ 1000) (hnan : (s.toList == [110, 97, 110]) = false) (h0 : 0 < s.size) (hc1 : (((s[0].toNat : Nat) : Int) == 45) = false) (hc2 : (((s[0].toNat : Nat) : Int) == 43) = false) (hinf : ((s.extract 0 s.size).toList == [105, 110, 102]) = false) (hinf2 : (s.toList == [105, 110, 102]) = false) (hn1 : 1 ≤ n) (hn2 : n ≤ 30)
    (hd : ∀ w, Calls Tryd.prog 34 #[.string s, .int .i64 0] w fun e w' => e = .returned (.int .i64 (n : Int)) ∧ w' = w)
    (hsl : ∀ w, (Instr.slice 9 (.string s) (some (.int .i64 0)) (some (.int .i64 (n : Int))) none).run Tryd.prog w = .ok (.string W) w) (hp : n < s.size) (hpt : (((s[n].toNat : Nat) : Int) == 46) = false) (hne : (((n : Nat) : Int) == (s.size : Int)) = false) :
    Calls Tryd.prog 20 #[.string s] w fun e w' => e = .returned (.tuple #[.int .i64 0, .int .i64 4]) ∧ Stay w w' := by
  go_enter Tryd.func20, Tryd.ntmps20
  go_wp2_with fail
  refine (hd _).mono ?_
  rintro e w' ⟨rfl, rfl⟩
  go_wp2
  exact bodyPost_ret (v := .tuple #[.int .i64 0, .int .i64 4]) (by simp [results, Tryd.results20, go_sem]) rfl ⟨rfl, Stay.refl _⟩

set_option maxHeartbeats 1600000 in
set_option maxRecDepth 100000 in
theorem rp_mfew_n (s W : ByteArray) (n m q : Nat) (w : World) (hm : s.size ≤ 1000) (hnan : (s.toList == [110, 97, 110]) = false) (h0 : 0 < s.size) (hc1 : (((s[0].toNat : Nat) : Int) == 45) = false) (hc2 : (((s[0].toNat : Nat) : Int) == 43) = false) (hinf : ((s.extract 0 s.size).toList == [105, 110, 102]) = false) (hinf2 : (s.toList == [105, 110, 102]) = false) (hn1 : 1 ≤ n) (hn2 : n ≤ 30)
    (hd : ∀ w, Calls Tryd.prog 34 #[.string s, .int .i64 0] w fun e w' => e = .returned (.int .i64 (n : Int)) ∧ w' = w)
    (hsl : ∀ w, (Instr.slice 9 (.string s) (some (.int .i64 0)) (some (.int .i64 (n : Int))) none).run Tryd.prog w = .ok (.string W) w)
    (hd2 : ∀ w, Calls Tryd.prog 34 #[.string s, .int .i64 ((n : Int) + 1)] w fun e w' => e = .returned (.int .i64 (m : Int)) ∧ w' = w) (hp : n < s.size) (hpt : (((s[n].toNat : Nat) : Int) == 46) = true) (hmm : m < 1) :
    Calls Tryd.prog 20 #[.string s] w fun e w' => e = .returned (.tuple #[.int .i64 0, .int .i64 4]) ∧ Stay w w' := by
  go_enter Tryd.func20, Tryd.ntmps20
  go_wp2_with fail
  refine (hd _).mono ?_
  rintro e w' ⟨rfl, rfl⟩
  go_wp2_with fail
  refine (hd2 _).mono ?_
  rintro e w' ⟨rfl, rfl⟩
  go_wp2
  exact bodyPost_ret (v := .tuple #[.int .i64 0, .int .i64 4]) (by simp [results, Tryd.results20, go_sem]) rfl ⟨rfl, Stay.refl _⟩

set_option maxHeartbeats 1600000 in
set_option maxRecDepth 100000 in
theorem rp_mmany_n (s W : ByteArray) (n m q : Nat) (w : World) (hm : s.size ≤ 1000) (hnan : (s.toList == [110, 97, 110]) = false) (h0 : 0 < s.size) (hc1 : (((s[0].toNat : Nat) : Int) == 45) = false) (hc2 : (((s[0].toNat : Nat) : Int) == 43) = false) (hinf : ((s.extract 0 s.size).toList == [105, 110, 102]) = false) (hinf2 : (s.toList == [105, 110, 102]) = false) (hn1 : 1 ≤ n) (hn2 : n ≤ 30)
    (hd : ∀ w, Calls Tryd.prog 34 #[.string s, .int .i64 0] w fun e w' => e = .returned (.int .i64 (n : Int)) ∧ w' = w)
    (hsl : ∀ w, (Instr.slice 9 (.string s) (some (.int .i64 0)) (some (.int .i64 (n : Int))) none).run Tryd.prog w = .ok (.string W) w)
    (hd2 : ∀ w, Calls Tryd.prog 34 #[.string s, .int .i64 ((n : Int) + 1)] w fun e w' => e = .returned (.int .i64 (m : Int)) ∧ w' = w) (hp : n < s.size) (hpt : (((s[n].toNat : Nat) : Int) == 46) = true) (hmm : 30 < m) :
    Calls Tryd.prog 20 #[.string s] w fun e w' => e = .returned (.tuple #[.int .i64 0, .int .i64 4]) ∧ Stay w w' := by
  go_enter Tryd.func20, Tryd.ntmps20
  go_wp2_with fail
  refine (hd _).mono ?_
  rintro e w' ⟨rfl, rfl⟩
  go_wp2_with fail
  refine (hd2 _).mono ?_
  rintro e w' ⟨rfl, rfl⟩
  go_wp2
  exact bodyPost_ret (v := .tuple #[.int .i64 0, .int .i64 4]) (by simp [results, Tryd.results20, go_sem]) rfl ⟨rfl, Stay.refl _⟩

set_option maxHeartbeats 1600000 in
set_option maxRecDepth 100000 in
theorem rp_short_n (F : ByteArray) (s W : ByteArray) (n m q : Nat) (w : World) (hm : s.size ≤ 1000) (hnan : (s.toList == [110, 97, 110]) = false) (h0 : 0 < s.size) (hc1 : (((s[0].toNat : Nat) : Int) == 45) = false) (hc2 : (((s[0].toNat : Nat) : Int) == 43) = false) (hinf : ((s.extract 0 s.size).toList == [105, 110, 102]) = false) (hinf2 : (s.toList == [105, 110, 102]) = false) (hn1 : 1 ≤ n) (hn2 : n ≤ 30)
    (hd : ∀ w, Calls Tryd.prog 34 #[.string s, .int .i64 0] w fun e w' => e = .returned (.int .i64 (n : Int)) ∧ w' = w)
    (hsl : ∀ w, (Instr.slice 9 (.string s) (some (.int .i64 0)) (some (.int .i64 (n : Int))) none).run Tryd.prog w = .ok (.string W) w)
    (hd2 : ∀ w, Calls Tryd.prog 34 #[.string s, .int .i64 ((n : Int) + 1)] w fun e w' => e = .returned (.int .i64 (m : Int)) ∧ w' = w) (hp : n < s.size) (hpt : (((s[n].toNat : Nat) : Int) == 46) = true) (hmm : 1 ≤ m) (hmm2 : m ≤ 30) (hne : ((((n : Nat) : Int) + 1 + (m : Int)) == (s.size : Int)) = false)
    (hsl2 : ∀ w, (Instr.slice 9 (.string s) (some (.int .i64 ((n : Int) + 1))) (some (.int .i64 ((n : Int) + 1 + (m : Int)))) none).run Tryd.prog w = .ok (.string F) w) :
    Calls Tryd.prog 20 #[.string s] w fun e w' => e = .returned (.tuple #[.int .i64 0, .int .i64 4]) ∧ Stay w w' := by
  go_enter Tryd.func20, Tryd.ntmps20
  go_wp2_with fail
  refine (hd _).mono ?_
  rintro e w' ⟨rfl, rfl⟩
  go_wp2_with fail
  refine (hd2 _).mono ?_
  rintro e w' ⟨rfl, rfl⟩
  go_wp2
  exact bodyPost_ret (v := .tuple #[.int .i64 0, .int .i64 4]) (by simp [results, Tryd.results20, go_sem]) rfl ⟨rfl, Stay.refl _⟩

set_option maxHeartbeats 1600000 in
set_option maxRecDepth 100000 in
theorem rp_other_m (s W : ByteArray) (n m q : Nat) (w : World) (hm : s.size ≤ 1000) (hnan : (s.toList == [110, 97, 110]) = false) (h0 : 0 < s.size) (hc1 : (((s[0].toNat : Nat) : Int) == 45) = true) (hinf : ((s.extract 1 s.size).toList == [105, 110, 102]) = false) (hn1 : 1 ≤ n) (hn2 : n ≤ 30) (hq : (1 : Int) + (n : Int) = (q : Int))
    (hd : ∀ w, Calls Tryd.prog 34 #[.string s, .int .i64 1] w fun e w' => e = .returned (.int .i64 (n : Int)) ∧ w' = w)
    (hsl : ∀ w, (Instr.slice 9 (.string s) (some (.int .i64 1)) (some (.int .i64 (q : Int))) none).run Tryd.prog w = .ok (.string W) w) (hp : q < s.size) (hpt : (((s[q].toNat : Nat) : Int) == 46) = false) (hne : (((q : Nat) : Int) == (s.size : Int)) = false) :
    Calls Tryd.prog 20 #[.string s] w fun e w' => e = .returned (.tuple #[.int .i64 0, .int .i64 4]) ∧ Stay w w' := by
  go_enter Tryd.func20, Tryd.ntmps20
  go_wp2_with fail
  refine (hd _).mono ?_
  rintro e w' ⟨rfl, rfl⟩
  go_wp2
  exact bodyPost_ret (v := .tuple #[.int .i64 0, .int .i64 4]) (by simp [results, Tryd.results20, go_sem]) rfl ⟨rfl, Stay.refl _⟩

set_option maxHeartbeats 1600000 in
set_option maxRecDepth 100000 in
theorem rp_mfew_m (s W : ByteArray) (n m q : Nat) (w : World) (hm : s.size ≤ 1000) (hnan : (s.toList == [110, 97, 110]) = false) (h0 : 0 < s.size) (hc1 : (((s[0].toNat : Nat) : Int) == 45) = true) (hinf : ((s.extract 1 s.size).toList == [105, 110, 102]) = false) (hn1 : 1 ≤ n) (hn2 : n ≤ 30) (hq : (1 : Int) + (n : Int) = (q : Int))
    (hd : ∀ w, Calls Tryd.prog 34 #[.string s, .int .i64 1] w fun e w' => e = .returned (.int .i64 (n : Int)) ∧ w' = w)
    (hsl : ∀ w, (Instr.slice 9 (.string s) (some (.int .i64 1)) (some (.int .i64 (q : Int))) none).run Tryd.prog w = .ok (.string W) w)
    (hd2 : ∀ w, Calls Tryd.prog 34 #[.string s, .int .i64 ((q : Int) + 1)] w fun e w' => e = .returned (.int .i64 (m : Int)) ∧ w' = w) (hp : q < s.size) (hpt : (((s[q].toNat : Nat) : Int) == 46) = true) (hmm : m < 1) :
    Calls Tryd.prog 20 #[.string s] w fun e w' => e = .returned (.tuple #[.int .i64 0, .int .i64 4]) ∧ Stay w w' := by
  go_enter Tryd.func20, Tryd.ntmps20
  go_wp2_with fail
  refine (hd _).mono ?_
  rintro e w' ⟨rfl, rfl⟩
  go_wp2_with fail
  refine (hd2 _).mono ?_
  rintro e w' ⟨rfl, rfl⟩
  go_wp2
  exact bodyPost_ret (v := .tuple #[.int .i64 0, .int .i64 4]) (by simp [results, Tryd.results20, go_sem]) rfl ⟨rfl, Stay.refl _⟩

set_option maxHeartbeats 1600000 in
set_option maxRecDepth 100000 in
theorem rp_mmany_m (s W : ByteArray) (n m q : Nat) (w : World) (hm : s.size ≤ 1000) (hnan : (s.toList == [110, 97, 110]) = false) (h0 : 0 < s.size) (hc1 : (((s[0].toNat : Nat) : Int) == 45) = true) (hinf : ((s.extract 1 s.size).toList == [105, 110, 102]) = false) (hn1 : 1 ≤ n) (hn2 : n ≤ 30) (hq : (1 : Int) + (n : Int) = (q : Int))
    (hd : ∀ w, Calls Tryd.prog 34 #[.string s, .int .i64 1] w fun e w' => e = .returned (.int .i64 (n : Int)) ∧ w' = w)
    (hsl : ∀ w, (Instr.slice 9 (.string s) (some (.int .i64 1)) (some (.int .i64 (q : Int))) none).run Tryd.prog w = .ok (.string W) w)
    (hd2 : ∀ w, Calls Tryd.prog 34 #[.string s, .int .i64 ((q : Int) + 1)] w fun e w' => e = .returned (.int .i64 (m : Int)) ∧ w' = w) (hp : q < s.size) (hpt : (((s[q].toNat : Nat) : Int) == 46) = true) (hmm : 30 < m) :
    Calls Tryd.prog 20 #[.string s] w fun e w' => e = .returned (.tuple #[.int .i64 0, .int .i64 4]) ∧ Stay w w' := by
  go_enter Tryd.func20, Tryd.ntmps20
  go_wp2_with fail
  refine (hd _).mono ?_
  rintro e w' ⟨rfl, rfl⟩
  go_wp2_with fail
  refine (hd2 _).mono ?_
  rintro e w' ⟨rfl, rfl⟩
  go_wp2
  exact bodyPost_ret (v := .tuple #[.int .i64 0, .int .i64 4]) (by simp [results, Tryd.results20, go_sem]) rfl ⟨rfl, Stay.refl _⟩

set_option maxHeartbeats 1600000 in
set_option maxRecDepth 100000 in
theorem rp_short_m (F : ByteArray) (s W : ByteArray) (n m q : Nat) (w : World) (hm : s.size ≤ 1000) (hnan : (s.toList == [110, 97, 110]) = false) (h0 : 0 < s.size) (hc1 : (((s[0].toNat : Nat) : Int) == 45) = true) (hinf : ((s.extract 1 s.size).toList == [105, 110, 102]) = false) (hn1 : 1 ≤ n) (hn2 : n ≤ 30) (hq : (1 : Int) + (n : Int) = (q : Int))
    (hd : ∀ w, Calls Tryd.prog 34 #[.string s, .int .i64 1] w fun e w' => e = .returned (.int .i64 (n : Int)) ∧ w' = w)
    (hsl : ∀ w, (Instr.slice 9 (.string s) (some (.int .i64 1)) (some (.int .i64 (q : Int))) none).run Tryd.prog w = .ok (.string W) w)
    (hd2 : ∀ w, Calls Tryd.prog 34 #[.string s, .int .i64 ((q : Int) + 1)] w fun e w' => e = .returned (.int .i64 (m : Int)) ∧ w' = w) (hp : q < s.size) (hpt : (((s[q].toNat : Nat) : Int) == 46) = true) (hmm : 1 ≤ m) (hmm2 : m ≤ 30) (hne : ((((q : Nat) : Int) + 1 + (m : Int)) == (s.size : Int)) = false)
    (hsl2 : ∀ w, (Instr.slice 9 (.string s) (some (.int .i64 ((q : Int) + 1))) (some (.int .i64 ((q : Int) + 1 + (m : Int)))) none).run Tryd.prog w = .ok (.string F) w) :
    Calls Tryd.prog 20 #[.string s] w fun e w' => e = .returned (.tuple #[.int .i64 0, .int .i64 4]) ∧ Stay w w' := by
  go_enter Tryd.func20, Tryd.ntmps20
  go_wp2_with fail
  refine (hd _).mono ?_
  rintro e w' ⟨rfl, rfl⟩
  go_wp2_with fail
  refine (hd2 _).mono ?_
  rintro e w' ⟨rfl, rfl⟩
  go_wp2
  exact bodyPost_ret (v := .tuple #[.int .i64 0, .int .i64 4]) (by simp [results, Tryd.results20, go_sem]) rfl ⟨rfl, Stay.refl _⟩

set_option maxHeartbeats 1600000 in
set_option maxRecDepth 100000 in
theorem rp_other_p (s W : ByteArray) (n m q : Nat) (w : World) (hm : s.size ≤ 1000) (hnan : (s.toList == [110, 97, 110]) = false) (h0 : 0 < s.size) (hc1 : (((s[0].toNat : Nat) : Int) == 45) = false) (hc2 : (((s[0].toNat : Nat) : Int) == 43) = true) (hinf : ((s.extract 1 s.size).toList == [105, 110, 102]) = false) (hn1 : 1 ≤ n) (hn2 : n ≤ 30) (hq : (1 : Int) + (n : Int) = (q : Int))
    (hd : ∀ w, Calls Tryd.prog 34 #[.string s, .int .i64 1] w fun e w' => e = .returned (.int .i64 (n : Int)) ∧ w' = w)
    (hsl : ∀ w, (Instr.slice 9 (.string s) (some (.int .i64 1)) (some (.int .i64 (q : Int))) none).run Tryd.prog w = .ok (.string W) w) (hp : q < s.size) (hpt : (((s[q].toNat : Nat) : Int) == 46) = false) (hne : (((q : Nat) : Int) == (s.size : Int)) = false) :
    Calls Tryd.prog 20 #[.string s] w fun e w' => e = .returned (.tuple #[.int .i64 0, .int .i64 4]) ∧ Stay w w' := by
  go_enter Tryd.func20, Tryd.ntmps20
  go_wp2_with fail
  refine (hd _).mono ?_
  rintro e w' ⟨rfl, rfl⟩
  go_wp2
  exact bodyPost_ret (v := .tuple #[.int .i64 0, .int .i64 4]) (by simp [results, Tryd.results20, go_sem]) rfl ⟨rfl, Stay.refl _⟩

set_option maxHeartbeats 1600000 in
set_option maxRecDepth 100000 in
theorem rp_mfew_p (s W : ByteArray) (n m q : Nat) (w : World) (hm : s.size ≤ 1000) (hnan : (s.toList == [110, 97, 110]) = false) (h0 : 0 < s.size) (hc1 : (((s[0].toNat : Nat) : Int) == 45) = false) (hc2 : (((s[0].toNat : Nat) : Int) == 43) = true) (hinf : ((s.extract 1 s.size).toList == [105, 110, 102]) = false) (hn1 : 1 ≤ n) (hn2 : n ≤ 30) (hq : (1 : Int) + (n : Int) = (q : Int))
    (hd : ∀ w, Calls Tryd.prog 34 #[.string s, .int .i64 1] w fun e w' => e = .returned (.int .i64 (n : Int)) ∧ w' = w)
    (hsl : ∀ w, (Instr.slice 9 (.string s) (some (.int .i64 1)) (some (.int .i64 (q : Int))) none).run Tryd.prog w = .ok (.string W) w)
    (hd2 : ∀ w, Calls Tryd.prog 34 #[.string s, .int .i64 ((q : Int) + 1)] w fun e w' => e = .returned (.int .i64 (m : Int)) ∧ w' = w) (hp : q < s.size) (hpt : (((s[q].toNat : Nat) : Int) == 46) = true) (hmm : m < 1) :
    Calls Tryd.prog 20 #[.string s] w fun e w' => e = .returned (.tuple #[.int .i64 0, .int .i64 4]) ∧ Stay w w' := by
  go_enter Tryd.func20, Tryd.ntmps20
  go_wp2_with fail
  refine (hd _).mono ?_
  rintro e w' ⟨rfl, rfl⟩
  go_wp2_with fail
  refine (hd2 _).mono ?_
  rintro e w' ⟨rfl, rfl⟩
  go_wp2
  exact bodyPost_ret (v := .tuple #[.int .i64 0, .int .i64 4]) (by simp [results, Tryd.results20, go_sem]) rfl ⟨rfl, Stay.refl _⟩

set_option maxHeartbeats 1600000 in
set_option maxRecDepth 100000 in
theorem rp_mmany_p (s W : ByteArray) (n m q : Nat) (w : World) (hm : s.size ≤ 1000) (hnan : (s.toList == [110, 97, 110]) = false) (h0 : 0 < s.size) (hc1 : (((s[0].toNat : Nat) : Int) == 45) = false) (hc2 : (((s[0].toNat : Nat) : Int) == 43) = true) (hinf : ((s.extract 1 s.size).toList == [105, 110, 102]) = false) (hn1 : 1 ≤ n) (hn2 : n ≤ 30) (hq : (1 : Int) + (n : Int) = (q : Int))
    (hd : ∀ w, Calls Tryd.prog 34 #[.string s, .int .i64 1] w fun e w' => e = .returned (.int .i64 (n : Int)) ∧ w' = w)
    (hsl : ∀ w, (Instr.slice 9 (.string s) (some (.int .i64 1)) (some (.int .i64 (q : Int))) none).run Tryd.prog w = .ok (.string W) w)
    (hd2 : ∀ w, Calls Tryd.prog 34 #[.string s, .int .i64 ((q : Int) + 1)] w fun e w' => e = .returned (.int .i64 (m : Int)) ∧ w' = w) (hp : q < s.size) (hpt : (((s[q].toNat : Nat) : Int) == 46) = true) (hmm : 30 < m) :
    Calls Tryd.prog 20 #[.string s] w fun e w' => e = .returned (.tuple #[.int .i64 0, .int .i64 4]) ∧ Stay w w' := by
  go_enter Tryd.func20, Tryd.ntmps20
  go_wp2_with fail
  refine (hd _).mono ?_
  rintro e w' ⟨rfl, rfl⟩
  go_wp2_with fail
  refine (hd2 _).mono ?_
  rintro e w' ⟨rfl, rfl⟩
  go_wp2
  exact bodyPost_ret (v := .tuple #[.int .i64 0, .int .i64 4]) (by simp [results, Tryd.results20, go_sem]) rfl ⟨rfl, Stay.refl _⟩

set_option maxHeartbeats 1600000 in
set_option maxRecDepth 100000 in
theorem rp_short_p (F : ByteArray) (s W : ByteArray) (n m q : Nat) (w : World) (hm : s.size ≤ 1000) (hnan : (s.toList == [110, 97, 110]) = false) (h0 : 0 < s.size) (hc1 : (((s[0].toNat : Nat) : Int) == 45) = false) (hc2 : (((s[0].toNat : Nat) : Int) == 43) = true) (hinf : ((s.extract 1 s.size).toList == [105, 110, 102]) = false) (hn1 : 1 ≤ n) (hn2 : n ≤ 30) (hq : (1 : Int) + (n : Int) = (q : Int))
    (hd : ∀ w, Calls Tryd.prog 34 #[.string s, .int .i64 1] w fun e w' => e = .returned (.int .i64 (n : Int)) ∧ w' = w)
    (hsl : ∀ w, (Instr.slice 9 (.string s) (some (.int .i64 1)) (some (.int .i64 (q : Int))) none).run Tryd.prog w = .ok (.string W) w)
    (hd2 : ∀ w, Calls Tryd.prog 34 #[.string s, .int .i64 ((q : Int) + 1)] w fun e w' => e = .returned (.int .i64 (m : Int)) ∧ w' = w) (hp : q < s.size) (hpt : (((s[q].toNat : Nat) : Int) == 46) = true) (hmm : 1 ≤ m) (hmm2 : m ≤ 30) (hne : ((((q : Nat) : Int) + 1 + (m : Int)) == (s.size : Int)) = false)
    (hsl2 : ∀ w, (Instr.slice 9 (.string s) (some (.int .i64 ((q : Int) + 1))) (some (.int .i64 ((q : Int) + 1 + (m : Int)))) none).run Tryd.prog w = .ok (.string F) w) :
    Calls Tryd.prog 20 #[.string s] w fun e w' => e = .returned (.tuple #[.int .i64 0, .int .i64 4]) ∧ Stay w w' := by
  go_enter Tryd.func20, Tryd.ntmps20
  go_wp2_with fail
  refine (hd _).mono ?_
  rintro e w' ⟨rfl, rfl⟩
  go_wp2_with fail
  refine (hd2 _).mono ?_
  rintro e w' ⟨rfl, rfl⟩
  go_wp2
  exact bodyPost_ret (v := .tuple #[.int .i64 0, .int .i64 4]) (by simp [results, Tryd.results20, go_sem]) rfl ⟨rfl, Stay.refl _⟩
end Go.Proofs.YtcpgamhekelamaaDoor
