/-
  What the small functions of package fixed and of package floats return: wholes, differences, ends, roundings.
-/
import Derived.Test.YtcpgamhekelamaaDoorProg
import Derived.Test.YtcpgamhekelamaaDoorPlain
import Derived.WalkKit
import Derived.ProofKit
import Derived.WalkLawsBesides
import Derived.Below
namespace Go.Proofs.YtcpgamhekelamaaDoor
open Go.RowKit
set_option linter.unusedVariables false

theorem ret_int {k : IntKind} {a b : Int} (h : a = b) : Ending.returned (.int k a) = .returned (.int k b) := by rw [h]
theorem ret_bool {a b : Bool} (h : a = b) : Ending.returned (.bool a) = .returned (.bool b) := by rw [h]

def Stay (w w' : World) : Prop := Below w.heap.size w w'
theorem Stay.refl (w : World) : Stay w w := Below.refl _ _
theorem Stay.drew {w w' : World} (h : Stay w w') : Stay w w'.drew := Below.drew h
theorem Stay.trans {w w1 w2 : World} (h : Stay w w1) (k : Stay w1 w2) : Stay w w2 := Below.trans h (Below.mono k h.size)
theorem Stay.alloc {w w' : World} (h : Stay w w') (o : Obj) : Stay w (w'.alloc o) := Below.alloc h h.size o
theorem Stay.setCell {w w' : World} (h : Stay w w') {p : Addr} (hp : w.heap.size ≤ p.block) (u : Value) : Stay w (w'.setCell p u) := Below.setCell h hp u
theorem Stay.cell {w w' : World} (h : Stay w w') {b off : Nat} {v : Value} (hc : w.cell? ⟨b, off, none⟩ = some v) : w'.cell? ⟨b, off, none⟩ = some v :=
  (Below.cell h (p := ⟨b, off, none⟩) (World.block_lt_of_cell? w ⟨b, off, none⟩ hc)).trans hc
theorem Stay.frozen {w w' : World} (h : Stay w w') {a : Addr} (ha : a.block < w.heap.size) (hf : w.frozen? a = false) : w'.frozen? a = false := (Below.frozen h ha).trans hf

theorem mask_i64 (n : Int) (h0 : -9223372036854775808 ≤ n) (h1 : n ≤ 9223372036854775807) : bits .and .i64 n 4294967295 = n % 4294967296 := by
  have e : (BitVec.ofInt 64 n &&& BitVec.ofInt 64 4294967295).toNat = (n % 4294967296).toNat := by
    have e2 : (BitVec.ofInt 64 4294967295).toNat = 2 ^ 32 - 1 := by decide
    rw [BitVec.toNat_and, e2, Nat.and_two_pow_sub_one_eq_mod]
    simp only [BitVec.toNat_ofInt]
    omega
  show IntKind.i64.wrap (((BitVec.ofInt 64 n &&& BitVec.ofInt 64 4294967295).toNat : Nat) : Int) = _
  rw [e, IntKind.wrap_i64]
  omega

theorem floor_any (x : Int) (w : World) (h0 : -9223372036854775808 ≤ x) (h1 : x ≤ 9223372036854775807) :
    Calls Tryd.prog 39 #[.int .i64 x] w fun e w' => e = .returned (.int .i64 (floorZ x)) ∧ w' = w := by
  go_enter Tryd.func39, Tryd.ntmps39
  go_wp2
  go_ret
  exact ⟨rfl, rfl⟩

theorem of_any (n : Int) (w : World) (h0 : -9223372036854775808 ≤ n) (h1 : n ≤ 9223372036854775807) :
    Calls Tryd.prog 38 #[.int .i64 n] w fun e w' => e = .returned (.int .i64 (ofZ n)) ∧ w' = w := by
  go_enter Tryd.func38, Tryd.ntmps38
  go_wp2
  all_goals
    go_ret
    exact ⟨ret_int (by unfold ofZ; first | (rw [cut_in (by omega) (by omega)]; done) | (rw [cut_hi (by omega)]; done) | (rw [cut_lo (by omega)]; done)), rfl⟩

theorem ceil_any (n : Int) (w : World) (h0 : -9223372036854775808 ≤ n) (h1 : n ≤ 9223372036854775807) :
    Calls Tryd.prog 35 #[.int .i64 n] w fun e w' => e = .returned (.int .i64 (ceilZ n)) ∧ w' = w := by
  have hm := mask_i64 n h0 h1
  go_enter Tryd.func35, Tryd.ntmps35
  go_wp2
  all_goals
    go_ret
    refine ⟨ret_int ?_, rfl⟩
    unfold ceilZ
    simp at *
    omega

theorem sub_any (a b : Int) (w : World) (ha : -9223372036854775808 ≤ a) (ha' : a ≤ 9223372036854775807) (hb : -9223372036854775808 ≤ b) (hb' : b ≤ 9223372036854775807) :
    Calls Tryd.prog 42 #[.int .i64 a, .int .i64 b] w fun e w' => e = .returned (.int .i64 (subZ a b)) ∧ w' = w := by
  go_enter Tryd.func42, Tryd.ntmps42
  go_wp2
  all_goals
    go_ret
    exact ⟨ret_int (by unfold subZ; first | (rw [cut_in (by omega) (by omega)]; done) | (rw [cut_hi (by omega)]; done) | (rw [cut_lo (by omega)]; done)), rfl⟩

def endZ (neg : Bool) : Int := if neg then -9223372036854775808 else 9223372036854775807
def downZ (neg : Bool) (size : Int) (left : Bool) : Int := if neg then (if left then -size - 1 else -size) else size

theorem end_any (neg : Bool) (w : World) :
    Calls Tryd.prog 24 #[.bool neg] w fun e w' => e = .returned (.int .i64 (endZ neg)) ∧ w' = w := by
  cases neg
  all_goals
    go_enter Tryd.func24, Tryd.ntmps24
    go_wp2
    go_ret
    exact ⟨rfl, rfl⟩

theorem down_any (neg left : Bool) (x : Int) (w : World) (h0 : 0 ≤ x) (h1 : x ≤ 9223372036854775807) :
    Calls Tryd.prog 25 #[.bool neg, .int .i64 x, .bool left] w fun e w' => e = .returned (.int .i64 (downZ neg x left)) ∧ w' = w := by
  cases neg <;> cases left
  all_goals
    go_enter Tryd.func25, Tryd.ntmps25
    go_wp2_with (go_at_call 42; refine (sub_any _ _ _ (by omega) (by omega) (by omega) (by omega)).mono ?_; rintro e w' ⟨rfl, rfl⟩)
    go_ret
    exact ⟨ret_int (by unfold downZ; simp <;> (try (unfold subZ; rw [cut_in (by omega) (by omega)])) <;> omega), rfl⟩
end Go.Proofs.YtcpgamhekelamaaDoor
