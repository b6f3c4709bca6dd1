/-
  varint.Put and the document's own Put.
-/
import Derived.Test.YtdgkdgbdkhnpcaaBclone
import Derived.Test.YtdgkdgbdkhnpcaaVplain
import Derived.WalkLawsBesides
import Derived.Laws.BitsAllLaws
import Derived.Laws.ShiftsVarLaws
namespace Go.Proofs.Ytdgkdgbdkhnpcaa.U
open Go.RowKit Go.Proofs.Lys
set_option linter.unusedVariables false

def uN (x : Int) : Nat := (x % 18446744073709551616).toNat
theorem uN_wrap (x : Int) : IntKind.u64.wrap x = ((uN x : Nat) : Int) := by
  unfold uN
  rw [Int.toNat_of_nonneg (Int.emod_nonneg _ (by decide))]
  simp [IntKind.wrap, IntKind.bits, IntKind.signed]
theorem uN_lt (x : Int) : uN x < 18446744073709551616 := by
  unfold uN
  have := Int.emod_nonneg x (b := 18446744073709551616) (by decide)
  have := Int.emod_lt_of_pos x (b := 18446744073709551616) (by decide)
  omega

/-- One byte more of a row that is owned. -/
theorem own_byte {w : World} {base : Nat} {vr : Value} {lr : List UInt8} (hown : w.ownsRow base 5 1 vr lr.length (lr.map bV)) (hb : base ≤ w.heap.size) (hl : lr.length ≤ 100000000) (B : Nat) (hB : B < 256) :
    ∃ g cap w1, Hid ((Builtin.append_ #[78, 78] 0 #[vr, .slice (some ⟨w.heap.size, 0, none⟩) 1 1]).run Try.prog (w.alloc (.cells #[.int .u8 (B : Int)] 5)) = .ok (.slice (some ⟨g, 0, none⟩) (lr.length + 1) cap) w1) ∧ w1.ownsRow base 5 1 (.slice (some ⟨g, 0, none⟩) (lr.length + 1) cap) (lr ++ [UInt8.ofNat B]).length ((lr ++ [UInt8.ofNat B]).map bV) ∧ Only (fun k => vr.ownBlock = some k) w w1 := by
  obtain ⟨v', w1, hrun, hown1, hgrow, hat⟩ := append_src (P := Try.prog) (xv := .slice (some ⟨w.heap.size, 0, none⟩) 1 1) (ys := [.int .u8 (B : Int)]) Try.underlying78 Try.infoB rfl (by decide) (hown.alloc (.cells #[.int .u8 (B : Int)] 5)) (own_src (World.ownsRow_lit w #[.int .u8 (B : Int)] 1 (Nat.zero_le _) (by decide) rfl)) (by intro u hu; simp at hu; subst hu; rfl) (by simp; omega) (by simp; omega)
  obtain ⟨g, cap, rfl⟩ := own_some hown1 (by simp)
  refine ⟨g, cap, w1, hrun, ?_, ((Only.refl _ w).alloc _).grown hgrow (fun j hj _ => hj)⟩
  have e1 : (lr ++ [UInt8.ofNat B]).length = lr.length + [Value.int .u8 (B : Int)].length := by simp
  have e2 : (lr ++ [UInt8.ofNat B]).map bV = lr.map bV ++ [Value.int .u8 (B : Int)] := by
    rw [List.map_append]
    have : bV (UInt8.ofNat B) = .int .u8 (B : Int) := by
      unfold bV
      rw [UInt8.toNat_ofNat', Nat.mod_eq_of_lt hB]
    simp [this]
  rw [e1, e2]
  exact hown1

theorem or_more (u : Nat) : bits .or .u8 ((u : Int) % 256) 128 = ((u % 128 + 128 : Nat) : Int) := by
  have h := u8_or_nat (u % 256) 128 (by omega) (by decide)
  have e : ((u % 256 : Nat) : Int) = (u : Int) % 256 := by simp
  rw [e] at h
  rw [show (128 : Int) = ((128 : Nat) : Int) from rfl, h]
  congr 1
  have h2 : ∀ x, x < 256 → x ||| 128 = x % 128 + 128 := by decide +kernel
  rw [h2 _ (by omega)]
  omega
theorem and_127 (u : Nat) (h : u < 18446744073709551616) : bits .and .u64 (u : Int) 127 = ((u % 128 : Nat) : Int) := by
  have h2 := u64_and_nat u 127 h (by decide)
  rw [show (127 : Int) = ((127 : Nat) : Int) from rfl, h2]
  congr 1
  exact Nat.and_two_pow_sub_one_eq_mod u 7
theorem or_more7 (u : Nat) : bits .or .u8 ((u % 128 : Nat) : Int) 128 = ((u % 128 + 128 : Nat) : Int) := by
  have h := or_more (u % 128)
  rw [show (((u % 128 : Nat) : Int)) % 256 = ((u % 128 : Nat) : Int) by omega, show u % 128 % 128 = u % 128 by omega] at h
  exact h

end Go.Proofs.Ytdgkdgbdkhnpcaa.U
