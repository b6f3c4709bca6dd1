/-
  The walk of the law DiskRoom.
-/
import Derived.Test.YtephpgiiljjieabDalive
namespace Go.Proofs.Ytephpgiiljjieab
open Go.RowKit Go.Proofs.Lys Go.Maps Go.Shelf
set_option linter.unusedVariables false

def rmS (Q s : Nat) (X Y : List UInt8) : DModel := ⟨[⟨X, 0⟩, ⟨Y, 0⟩], [([97], 0), ([98], 1)], [], [⟨0, [97], [], 0⟩, ⟨0, [98], [], 1⟩], Q, s, false, none, none⟩
def rmT (Q s : Nat) (X Y : List UInt8) : DModel := ⟨[⟨X, 0⟩, ⟨Y, 0⟩], [([98], 1)], [], [⟨0, [97], [], 0⟩, ⟨0, [98], [], 1⟩, ⟨2, [97], [], 0⟩], Q, s, false, none, none⟩
def rmU (Q s : Nat) (X Y : List UInt8) : DModel := ⟨[⟨X, 0⟩, ⟨Y, 0⟩], [], [], [⟨0, [97], [], 0⟩, ⟨0, [98], [], 1⟩, ⟨2, [97], [], 0⟩, ⟨2, [98], [], 0⟩], Q, s, false, none, none⟩
theorem rm_start (Q : Nat) (h : Q ≤ 67108864) : DModel.start Q = ⟨[], [], [], [], Q, 0, false, none, none⟩ := by unfold DModel.start; congr 1; omega
theorem rm_one (Q : Nat) : (DModel.mk [] [] [] [] Q 0 false none none).doOp ⟨0, [97], [], []⟩ = (0, ⟨[⟨[], 0⟩], [([97], 0)], [], [⟨0, [97], [], 0⟩], Q, 1, false, none, none⟩) := by kernel_rfl
theorem rm_two (Q : Nat) : (DModel.mk [⟨[], 0⟩] [([97], 0)] [] [⟨0, [97], [], 0⟩] Q 1 false none none).doOp ⟨0, [98], [], []⟩ = (0, rmS Q 2 [] []) := by kernel_rfl
theorem rm_used (Q s : Nat) (X Y : List UInt8) : (rmS Q s X Y).used = X.length + Y.length := by
  show (X.length + (Y.length + 0)) = _
  omega
theorem rm_a (Q s : Nat) (X Y bs : List UInt8) (h : X.length + bs.length ≤ 16777216) :
    (rmS Q s X Y).doOp ⟨1, [97], [], bs⟩ = if Q < X.length + Y.length + bs.length then (11, rmS Q s X Y) else (0, rmS Q (s + 1) (X ++ bs) Y) := by
  have ho : (rmS Q s X Y).own ⟨1, [97], [], bs⟩ = if Q < X.length + Y.length + bs.length then 11 else 0 := by
    show (if 16777216 < X.length + bs.length then 2 else if Q < (rmS Q s X Y).used + bs.length then 11 else 0) = _
    rw [if_neg (by omega), rm_used]
  by_cases hq : Q < X.length + Y.length + bs.length
  · rw [if_pos hq] at ho ⊢
    rw [do_own (show (0 : Int) ≤ 1 by decide) (show (1 : Int) ≤ 5 by decide) rfl (fun e => by cases e) (by rw [ho]; decide), ho]
  · rw [if_neg hq] at ho ⊢
    rw [do_done (show (0 : Int) ≤ 1 by decide) (show (1 : Int) ≤ 5 by decide) rfl (fun e => by cases e) ho (fun e => by cases e)]
    rfl
theorem rm_b (Q s : Nat) (X Y bs : List UInt8) (h : Y.length + bs.length ≤ 16777216) :
    (rmS Q s X Y).doOp ⟨1, [98], [], bs⟩ = if Q < X.length + Y.length + bs.length then (11, rmS Q s X Y) else (0, rmS Q (s + 1) X (Y ++ bs)) := by
  have ho : (rmS Q s X Y).own ⟨1, [98], [], bs⟩ = if Q < X.length + Y.length + bs.length then 11 else 0 := by
    show (if 16777216 < Y.length + bs.length then 2 else if Q < (rmS Q s X Y).used + bs.length then 11 else 0) = _
    rw [if_neg (by omega), rm_used]
  by_cases hq : Q < X.length + Y.length + bs.length
  · rw [if_pos hq] at ho ⊢
    rw [do_own (show (0 : Int) ≤ 1 by decide) (show (1 : Int) ≤ 5 by decide) rfl (fun e => by cases e) (by rw [ho]; decide), ho]
  · rw [if_neg hq] at ho ⊢
    rw [do_done (show (0 : Int) ≤ 1 by decide) (show (1 : Int) ≤ 5 by decide) rfl (fun e => by cases e) ho (fun e => by cases e)]
    rfl
theorem rm_three (Q s : Nat) (X Y : List UInt8) : (rmS Q s X Y).doOp ⟨4, [97], [], []⟩ = (0, rmT Q (s + 1) X Y) := by kernel_rfl
theorem rm_four (Q s : Nat) (X Y : List UInt8) : (rmT Q s X Y).doOp ⟨4, [98], [], []⟩ = (0, rmU Q (s + 1) X Y) := by kernel_rfl

theorem made_bytes (K : Nat) : madeCells #[Value.int .u8 0] K = ((List.replicate K (0 : UInt8)).map byteV).toArray := by
  apply Array.ext
  · simp [size_madeCells]
  · intro i h1 h2
    simp [madeCells, byteV, Nat.mod_one]

theorem make_bytes_run (K : Nat) (h : K ≤ 100000) (w : World) : (Instr.makeSlice 28 (.int .i64 (K : Int)) (.int .i64 (K : Int))).run Try.prog w = .ok (.slice (some ⟨w.heap.size, 0, none⟩) K K) (w.alloc (.cells (madeCells #[Value.int .u8 0] K) 5)) := by
  obtain ⟨i0, hi0, hz0, hz1, hz2⟩ := info_parts Try.infoB
  have := run_make (P := Try.prog) w 28 5 i0 (.int .u8 0) Try.underlying28 hi0 hz0 .i64 .i64 (K : Int) (K : Int) (by omega) (by omega) (by rw [hz2]; omega) (by omega)
  rw [hz1] at this
  simp only [Int.toNat_natCast, Nat.mul_one] at this
  exact this
theorem made_src (K : Nat) (W : World) : SrcAt (W.alloc (.cells (madeCells #[Value.int .u8 0] K) 5)) (.slice (some ⟨W.heap.size, 0, none⟩) K K) (List.replicate K 0) := by
  have := src_lit (List.replicate K 0) W (vs := madeCells #[Value.int .u8 0] K) (fz := (0, 0)) (made_bytes K)
  simpa using this

theorem few_s (Q s : Nat) (X Y : List UInt8) (h : s ≤ 100) : (rmS Q s X Y).few := ⟨by show s ≤ _; omega, by show 2 + 0 + 2 < _; decide⟩
theorem few_t (Q s : Nat) (X Y : List UInt8) (h : s ≤ 100) : (rmT Q s X Y).few := ⟨by show s ≤ _; omega, by show 1 + 0 + 3 < _; decide⟩
theorem few_u (Q s : Nat) (X Y : List UInt8) (h : s ≤ 100) : (rmU Q s X Y).few := ⟨by show s ≤ _; omega, by show 0 + 0 + 4 < _; decide⟩

set_option maxRecDepth 100000 in
set_option maxHeartbeats 1600000 in
theorem room_out (w : World) (q a b : Int) (hq : (q < 0 ∨ 5000 < q) ∨ (a < 0 ∨ 5000 < a) ∨ (b < 0 ∨ 5000 < b)) : Calls Try.prog 3 #[.int .i64 q, .int .i64 a, .int .i64 b] w fun e w' => e = .returned (.bool true) ∧ Kept w w' := by
  have hnot : ∀ (x : Bool) (w : World), (Op.unary .not (.bool x)).run Try.prog w = .ok (.bool (!x)) w := fun _ _ => rfl
  rcases hq with (hq | hq) | (hq | hq) | (hq | hq)
  all_goals
    go_enter Try.func3, Try.ntmps3
    go_wp2_with (go_at_call 8; refine (alive3_any _).mono ?_; rintro e w1 ⟨rfl, hk⟩)
    all_goals
      go_ret
      exact ⟨rfl, hk⟩
end Go.Proofs.Ytephpgiiljjieab
