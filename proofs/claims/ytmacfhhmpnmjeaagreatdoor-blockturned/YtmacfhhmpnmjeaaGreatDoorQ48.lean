/-
  Gput, Gput2, Gref.
-/
import Derived.Test.YtmacfhhmpnmjeaaGreatDoorQ46
import Derived.Laws.MakeOwn
import Derived.BigRegion
import Derived.Deep.QuietTactic
import Derived.BigQuiet

/-
  Package frame: numbers as four bytes; Put.
-/
namespace Go.Proofs.YtmacfhhmpnmjeaaGreatDoor.G
open Go.RowKit Go.Proofs.Lys
set_option linter.unusedVariables false

/-- A row of bytes, and bytes that are laid just now behind it. -/
theorem row_lit {w : World} {base : Nat} {v : Value} {xs : List UInt8} (h : w.ownsRow base 5 1 v xs.length (xs.map bV)) (hb : base ≤ w.heap.size) (ys : List UInt8) {vs : Array Value} (hv : vs = (ys.map bV).toArray) (hl : xs.length + ys.length ≤ 1000000) :
    ∃ a cap w1, Hid ((Builtin.append_ #[28, 28] 0 #[v, .slice (some ⟨w.heap.size, 0, none⟩) ys.length ys.length]).run Tryz.prog (w.alloc (.cells vs 5)) = .ok (.slice a (xs.length + ys.length) cap) w1) ∧ w1.ownsRow base 5 1 (.slice a (xs.length + ys.length) cap) (xs ++ ys).length ((xs ++ ys).map bV) ∧ Only (fun k => v.ownBlock = some k) w w1 := by
  have k1 : Kept w (w.alloc (.cells vs 5)) := (Only.refl _ w).alloc _
  obtain ⟨a, cap, w1, hr, ho, hk⟩ := row_app (own_only h k1 (fun _ _ f => f)) (Nat.le_trans hb k1.size) (lit_bsrc ys w hv).1 hl
  exact ⟨a, cap, w1, hr, ho, (k1.mono (fun _ _ f => f.elim)).trans hk (fun _ _ f => f)⟩
theorem bV_ofNat {n : Nat} (h : n < 256) : bV (UInt8.ofNat n) = .int .u8 (n : Int) := by
  unfold bV
  rw [ofNat_toNat h]
theorem four_cells {n : Nat} (h : n < 4294967296) : #[Value.int .u8 ((n : Int) % 256), .int .u8 ((n : Int) / 256 % 256), .int .u8 ((n : Int) / 65536 % 256), .int .u8 ((n : Int) / 16777216)] = ((four n).map bV).toArray := by
  unfold four
  simp only [List.map_cons, List.map_nil]
  rw [bV_ofNat (by omega), bV_ofNat (by omega), bV_ofNat (by omega), bV_ofNat (by omega)]
  rw [show ((n % 256 : Nat) : Int) = (n : Int) % 256 by omega, show ((n / 256 % 256 : Nat) : Int) = (n : Int) / 256 % 256 by omega, show ((n / 65536 % 256 : Nat) : Int) = (n : Int) / 65536 % 256 by omega, show ((n / 16777216 % 256 : Nat) : Int) = (n : Int) / 16777216 by omega]
theorem four_len (n : Nat) : (four n).length = 4 := rfl

theorem i64_or_nat (a b : Nat) (ha : a < 9223372036854775808) (hb : b < 9223372036854775808) : bits .or .i64 (a : Int) (b : Int) = ((a ||| b : Nat) : Int) := by
  have hx : a ||| b < 2 ^ 63 := Nat.or_lt_two_pow (by omega) (by omega)
  show IntKind.i64.wrap ((BitVec.ofInt 64 (a : Int) ||| BitVec.ofInt 64 (b : Int)).toNat : Int) = _
  rw [BitVec.toNat_or, ofInt_u64 a (by omega), ofInt_u64 b (by omega), IntKind.wrap_i64]
  omega
theorem or_at (a b i : Nat) (ha : a < 2 ^ i) : a ||| b * 2 ^ i = a + b * 2 ^ i := by
  rw [Nat.or_comm, Nat.mul_comm b, ← Nat.two_pow_add_eq_or_of_lt ha]
  omega
/-- Four bytes as a number, step by step. -/
theorem word_nums (x0 x1 x2 x3 : Nat) (h0 : x0 < 256) (h1 : x1 < 256) (h2 : x2 < 256) (h3 : x3 < 256) : ∃ A B C : Nat,
    bits .or .i64 (x0 : Int) ((x1 : Int) * 256) = (A : Int) ∧ bits .or .i64 (A : Int) ((x2 : Int) * 65536) = (B : Int) ∧ bits .or .i64 (B : Int) ((x3 : Int) * 16777216) = (C : Int) ∧ A < 65536 ∧ B < 16777216 ∧ C < 4294967296 ∧ C = x0 + x1 * 256 + x2 * 65536 + x3 * 16777216 := by
  refine ⟨x0 + x1 * 256, x0 + x1 * 256 + x2 * 65536, x0 + x1 * 256 + x2 * 65536 + x3 * 16777216, ?_, ?_, ?_, by omega, by omega, by omega, rfl⟩
  · have := i64_or_nat x0 (x1 * 256) (by omega) (by omega)
    rw [or_at x0 x1 8 h0] at this
    rw [← this]
    congr 1
  · have := i64_or_nat (x0 + x1 * 256) (x2 * 65536) (by omega) (by omega)
    rw [or_at (x0 + x1 * 256) x2 16 (by omega)] at this
    rw [← this]
    congr 1
  · have := i64_or_nat (x0 + x1 * 256 + x2 * 65536) (x3 * 16777216) (by omega) (by omega)
    rw [or_at (x0 + x1 * 256 + x2 * 65536) x3 24 (by omega)] at this
    rw [← this]
    congr 1
end Go.Proofs.YtmacfhhmpnmjeaaGreatDoor.G

/-
  Package frame: Put.
-/
namespace Go.Proofs.YtmacfhhmpnmjeaaGreatDoor.G
open Go.RowKit Go.Proofs.Lys
set_option linter.unusedVariables false

/-- What Put leaves. -/
def PutPost (w : World) (k : Int) (bs : List UInt8) (e : Ending) (w' : World) : Prop :=
  Kept w w' ∧ ∃ u fs x, e = .returned (.tuple #[u, .int .i64 x]) ∧ Puts k bs fs x ∧ w'.ownsRow w.heap.size 5 1 u fs.length (fs.map bV)

/-- The sum of two parts that were laid just now. -/
theorem sumOf_two (w : World) (v u : Value) (xs ys : List UInt8) (hv : BSrc w v xs) (hu : BSrc w u ys) (hx : xs.length ≤ 1000000) (hy : ys.length ≤ 1000000) (hT : Tab w) :
    Calls Tryz.prog 121 #[.slice (some ⟨w.heap.size, 0, none⟩) 2 2] (w.alloc (.cells #[v, u] 28)) fun e w' => e = .returned (.int .i64 (sumL (xs ++ ys))) ∧ w' = w.alloc (.cells #[v, u] 28) := by
  obtain ⟨va, vc, rfl⟩ := hv.len
  obtain ⟨ua, uc, rfl⟩ := hu.len
  have hk : Kept w (w.alloc (.cells #[.slice va xs.length vc, .slice ua ys.length uc] 28)) := (Only.refl _ w).alloc _
  have hc := sumOf_any (w.alloc (.cells #[.slice va xs.length vc, .slice ua ys.length uc] 28)) (.slice (some ⟨w.heap.size, 0, none⟩) 2 2) [.slice va xs.length vc, .slice ua ys.length uc] [xs, ys] (own_src (World.ownsRow_lit w #[.slice va xs.length vc, .slice ua ys.length uc] 2 (Nat.zero_le _) (by decide) rfl)) rfl (by simp) (fun i h => by
    have h2 : i = 0 ∨ i = 1 := by simp at h; omega
    rcases h2 with rfl | rfl
    · exact hv.stay hk
    · exact hu.stay hk) (by
      intro b hb
      simp at hb
      rcases hb with rfl | rfl <;> omega) (hT.stay hk)
  rw [show [xs, ys].flatten = xs ++ ys by simp] at hc
  exact hc

end Go.Proofs.YtmacfhhmpnmjeaaGreatDoor.G

/-
  The document's own: four bytes, a frame.
-/
namespace Go.Proofs.YtmacfhhmpnmjeaaGreatDoor.G
open Go.RowKit Go.Proofs.Lys
set_option linter.unusedVariables false

theorem i64_and255 (n : Int) : bits .and .i64 n 255 = n % 256 := by
  have h255 : (BitVec.ofInt 64 255).toNat = 2 ^ 8 - 1 := by decide
  have key : (BitVec.ofInt 64 n &&& BitVec.ofInt 64 255).toNat = (n % ((2 ^ 64 : Nat) : Int)).toNat % 2 ^ 8 := by
    rw [BitVec.toNat_and, BitVec.toNat_ofInt, h255, Nat.and_two_pow_sub_one_eq_mod]
  show IntKind.i64.wrap ((BitVec.ofInt 64 n &&& BitVec.ofInt 64 255).toNat : Nat) = n % 256
  rw [key, IntKind.wrap_i64]
  omega
set_option maxRecDepth 100000 in
set_option maxHeartbeats 800000 in
theorem rfour_any (w : World) (n : Nat) (hn : n < 4294967296) :
    Calls Tryz.prog 21 #[.int .i64 (n : Int)] w fun e w' => e = .returned (.slice (some ⟨w.heap.size, 0, none⟩) 4 4) ∧ w'.ownsRow w.heap.size 5 1 (.slice (some ⟨w.heap.size, 0, none⟩) 4 4) 4 ((four n).map bV) ∧ Kept w w' := by
  have f0 := i64_and255 (n : Int)
  have f1 := i64_and255 ((n : Int) / 256)
  have f2 := i64_and255 ((n : Int) / 65536)
  have f3 := i64_and255 ((n : Int) / 16777216)
  have hc := four_cells hn
  have hlast : (n : Int) / 16777216 % 256 = (n : Int) / 16777216 := by omega
  have HO : Hid ((w.alloc (.cells ((four n).map bV).toArray 5)).ownsRow w.heap.size 5 1 (.slice (some ⟨w.heap.size, 0, none⟩) 4 4) 4 ((four n).map bV)) := World.ownsRow_lit w ((four n).map bV).toArray 4 (Nat.le_refl _) (by decide) rfl
  rw [← hc] at HO
  have HK : Hid (Kept w (w.alloc (.cells #[Value.int .u8 ((n : Int) % 256), .int .u8 ((n : Int) / 256 % 256), .int .u8 ((n : Int) / 65536 % 256), .int .u8 ((n : Int) / 16777216)] 5))) := (Only.refl _ w).alloc _
  clear hc
  go_enter Tryz.func21, Tryz.ntmps21
  go_wp2
  go_ret
  exact ⟨rfl, HO.out, HK.out⟩
end Go.Proofs.YtmacfhhmpnmjeaaGreatDoor.G
