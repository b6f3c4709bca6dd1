/-
  Package frame: numbers as four bytes; Put.
-/
import Derived.Test.YtjohnomlhcncnaaDoorGlaw
import Derived.Laws.MakeOwn
import Derived.BigRegion
import Derived.Deep.QuietTactic
import Derived.BigQuiet
namespace Go.Proofs.YtjohnomlhcncnaaDoor.G
open Go.RowKit Go.Proofs.Lys
set_option linter.unusedVariables false

/-- A row of bytes, and bytes that are laid just now behind it. -/
theorem row_lit {w : World} {base : Nat} {v : Value} {xs : List UInt8} (h : w.ownsRow base 5 1 v xs.length (xs.map bV)) (hb : base ≤ w.heap.size) (ys : List UInt8) {vs : Array Value} (hv : vs = (ys.map bV).toArray) (hl : xs.length + ys.length ≤ 1000000) :
    ∃ a cap w1, Hid ((Builtin.append_ #[22, 22] 0 #[v, .slice (some ⟨w.heap.size, 0, none⟩) ys.length ys.length]).run Tryd.prog (w.alloc (.cells vs 5)) = .ok (.slice a (xs.length + ys.length) cap) w1) ∧ w1.ownsRow base 5 1 (.slice a (xs.length + ys.length) cap) (xs ++ ys).length ((xs ++ ys).map bV) ∧ Only (fun k => v.ownBlock = some k) w w1 := by
  have k1 : Kept w (w.alloc (.cells vs 5)) := (Only.refl _ w).alloc _
  obtain ⟨a, cap, w1, hr, ho, hk⟩ := row_app (own_only h k1 (fun _ _ f => f)) (Nat.le_trans hb k1.size) (lit_bsrc ys w hv).1 hl
  exact ⟨a, cap, w1, hr, ho, (k1.mono (fun _ _ f => f.elim)).trans hk (fun _ _ f => f)⟩
theorem bV_ofNat {n : Nat} (h : n < 256) : bV (UInt8.ofNat n) = .int .u8 (n : Int) := by
  unfold bV
  rw [ofNat_toNat h]
theorem four_cells {n : Nat} (h : n < 4294967296) : #[Value.int .u8 ((n : Int) % 256), .int .u8 ((n : Int) / 256 % 256), .int .u8 ((n : Int) / 65536 % 256), .int .u8 ((n : Int) / 16777216)] = ((four n).map bV).toArray := by
  unfold four
  simp only [List.map_cons, List.map_nil]
  rw [bV_ofNat (by omega), bV_ofNat (by omega), bV_ofNat (by omega), bV_ofNat (by omega)]
  rw [show ((n % 256 : Nat) : Int) = (n : Int) % 256 by omega, show ((n / 256 % 256 : Nat) : Int) = (n : Int) / 256 % 256 by omega, show ((n / 65536 % 256 : Nat) : Int) = (n : Int) / 65536 % 256 by omega, show ((n / 16777216 % 256 : Nat) : Int) = (n : Int) / 16777216 by omega]
theorem four_len (n : Nat) : (four n).length = 4 := rfl

set_option maxRecDepth 100000 in
set_option maxHeartbeats 800000 in
theorem appendWord_any (w : World) (base : Nat) (v : Value) (xs : List UInt8) (n : Nat) (hn : n < 4294967296) (h : w.ownsRow base 5 1 v xs.length (xs.map bV)) (hb : base ≤ w.heap.size) (hl : xs.length ≤ 900000) :
    Calls Tryd.prog 19 #[v, .int .i64 (n : Int)] w fun e w' => ∃ a cap, e = .returned (.slice a (xs.length + 4) cap) ∧ w'.ownsRow base 5 1 (.slice a (xs.length + 4) cap) (xs ++ four n).length ((xs ++ four n).map bV) ∧ Only (fun k => v.ownBlock = some k) w w' := by
  obtain ⟨a, cap, w1, Hr, ho, hk⟩ := row_lit h hb (four n) (four_cells hn) (by rw [four_len]; omega)
  rw [four_len] at Hr ho
  have HO := hid ho
  have HK := hid hk
  obtain ⟨va, vc, rfl⟩ := own_slice h
  generalize xs.length = L at *
  clear ho hk h
  go_enter Tryd.func19, Tryd.ntmps19
  go_wp2_with (at_builtin; refine wpList_append_run rfl _ _ _ rfl rfl rfl Hr ?_)
  go_ret
  exact ⟨_, _, rfl, HO.out, HK.out⟩

theorem i64_or_nat (a b : Nat) (ha : a < 9223372036854775808) (hb : b < 9223372036854775808) : bits .or .i64 (a : Int) (b : Int) = ((a ||| b : Nat) : Int) := by
  have hx : a ||| b < 2 ^ 63 := Nat.or_lt_two_pow (by omega) (by omega)
  show IntKind.i64.wrap ((BitVec.ofInt 64 (a : Int) ||| BitVec.ofInt 64 (b : Int)).toNat : Int) = _
  rw [BitVec.toNat_or, ofInt_u64 a (by omega), ofInt_u64 b (by omega), IntKind.wrap_i64]
  omega
theorem or_at (a b i : Nat) (ha : a < 2 ^ i) : a ||| b * 2 ^ i = a + b * 2 ^ i := by
  rw [Nat.or_comm, Nat.mul_comm b, ← Nat.two_pow_add_eq_or_of_lt ha]
  omega
/-- Four bytes as a number, step by step. -/
theorem word_nums (x0 x1 x2 x3 : Nat) (h0 : x0 < 256) (h1 : x1 < 256) (h2 : x2 < 256) (h3 : x3 < 256) : ∃ A B C : Nat,
    bits .or .i64 (x0 : Int) ((x1 : Int) * 256) = (A : Int) ∧ bits .or .i64 (A : Int) ((x2 : Int) * 65536) = (B : Int) ∧ bits .or .i64 (B : Int) ((x3 : Int) * 16777216) = (C : Int) ∧ A < 65536 ∧ B < 16777216 ∧ C < 4294967296 ∧ C = x0 + x1 * 256 + x2 * 65536 + x3 * 16777216 := by
  refine ⟨x0 + x1 * 256, x0 + x1 * 256 + x2 * 65536, x0 + x1 * 256 + x2 * 65536 + x3 * 16777216, ?_, ?_, ?_, by omega, by omega, by omega, rfl⟩
  · have := i64_or_nat x0 (x1 * 256) (by omega) (by omega)
    rw [or_at x0 x1 8 h0] at this
    rw [← this]
    congr 1
  · have := i64_or_nat (x0 + x1 * 256) (x2 * 65536) (by omega) (by omega)
    rw [or_at (x0 + x1 * 256) x2 16 (by omega)] at this
    rw [← this]
    congr 1
  · have := i64_or_nat (x0 + x1 * 256 + x2 * 65536) (x3 * 16777216) (by omega) (by omega)
    rw [or_at (x0 + x1 * 256 + x2 * 65536) x3 24 (by omega)] at this
    rw [← this]
    congr 1
set_option maxRecDepth 100000 in
set_option maxHeartbeats 800000 in
theorem word_any (w : World) (v : Value) (bs : List UInt8) (hs : BSrc w v bs) (h4 : 4 ≤ bs.length) :
    Calls Tryd.prog 24 #[v] w fun e w' => e = .returned (.int .i64 ((le4 (bs.getD 0 0) (bs.getD 1 0) (bs.getD 2 0) (bs.getD 3 0) : Nat) : Int)) ∧ Kept w w' := by
  obtain ⟨a, c, rfl⟩ := hs.len
  obtain ⟨b, o, rfl, c0⟩ := BSrc.cell hs.1 0 (by omega)
  obtain ⟨_, _, e1, c1⟩ := BSrc.cell hs.1 1 (by omega)
  cases e1
  obtain ⟨_, _, e2, c2⟩ := BSrc.cell hs.1 2 (by omega)
  cases e2
  obtain ⟨_, _, e3, c3⟩ := BSrc.cell hs.1 3 (by omega)
  cases e3
  have g : ∀ i (h : i < bs.length), bs.getD i 0 = bs[i] := fun i h => by rw [List.getD_eq_getElem?_getD, List.getElem?_eq_getElem h]; rfl
  rw [g 0 (by omega), g 1 (by omega), g 2 (by omega), g 3 (by omega)]
  generalize bs[0] = x0 at *
  generalize bs[1] = x1 at *
  generalize bs[2] = x2 at *
  generalize bs[3] = x3 at *
  obtain ⟨A, B, C, f1, f2, f3, l1, l2, l3, eC⟩ := word_nums x0.toNat x1.toNat x2.toNat x3.toNat (byte_lt x0) (byte_lt x1) (byte_lt x2) (byte_lt x3)
  have HC : Hid (le4 x0 x1 x2 x3 = C) := eC.symm
  have b0 := byte_lt x0
  have b1 := byte_lt x1
  have b2 := byte_lt x2
  have b3 := byte_lt x3
  generalize x0.toNat = X0 at *
  generalize x1.toNat = X1 at *
  generalize x2.toNat = X2 at *
  generalize x3.toNat = X3 at *
  obtain ⟨L, hL⟩ : ∃ L, bs.length = L := ⟨_, rfl⟩
  rw [hL] at h4 ⊢
  clear hs g hL eC
  rw [HC.out]
  rw [Nat.add_zero] at c0
  go_enter Tryd.func24, Tryd.ntmps24
  go_wp2
  go_quiet (fail)
  go_wp2
  go_ret
  exact ⟨rfl, kept_drewN (Only.refl _ _) nq⟩
end Go.Proofs.YtjohnomlhcncnaaDoor.G
