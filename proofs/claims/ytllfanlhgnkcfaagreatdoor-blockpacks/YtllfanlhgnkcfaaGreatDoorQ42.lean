/-
  Glaw, Gput, Gput2, Gref.
-/
import Derived.Test.YtllfanlhgnkcfaaGreatDoorQ26
import Derived.Lib.SlBytesConst
import Derived.Laws.MakeOwn
import Derived.BigRegion
import Derived.Deep.QuietTactic
import Derived.BigQuiet
namespace Go.Proofs.YtllfanlhgnkcfaaGreatDoor.G
open Go.RowKit Go.Proofs.Lys
set_option linter.unusedVariables false
theorem lit_bsrc (bs : List UInt8) (W : World) {vs : Array Value} {fz : Nat × Nat} (hv : vs = (bs.map bV).toArray) : BSrc (W.alloc (.cells vs 5 fz)) (.slice (some ⟨W.heap.size, 0, none⟩) bs.length bs.length) bs := by
 subst hv
 refine ⟨.inr ⟨⟨W.heap.size, 0, none⟩, bs.length, by rw [List.length_map], fun j u hu => ?_⟩, _, _, rfl, Nat.le_refl _⟩
 rw [add_none, Nat.zero_add]
 have : (W.alloc (.cells (bs.map bV).toArray 5 fz)).heap[W.heap.size]? = some (.cells (bs.map bV).toArray 5 fz) := heap_alloc_new W _
 simp only [World.cell?, this]
 simp [hu]
end Go.Proofs.YtllfanlhgnkcfaaGreatDoor.G
namespace Go.Proofs.YtllfanlhgnkcfaaGreatDoor.G
open Go.RowKit Go.Proofs.Lys
set_option linter.unusedVariables false
theorem bV_ofNat {n : Nat} (h : n < 256) : bV (UInt8.ofNat n) = .int .u8 (n : Int) := by
 unfold bV
 rw [ofNat_toNat h]
theorem four_cells {n : Nat} (h : n < 4294967296) : #[Value.int .u8 ((n : Int) % 256), .int .u8 ((n : Int) / 256 % 256), .int .u8 ((n : Int) / 65536 % 256), .int .u8 ((n : Int) / 16777216)] = ((four n).map bV).toArray := by
 unfold four
 simp only [List.map_cons, List.map_nil]
 rw [bV_ofNat (by omega), bV_ofNat (by omega), bV_ofNat (by omega), bV_ofNat (by omega)]
 rw [show ((n % 256 : Nat) : Int) = (n : Int) % 256 by omega, show ((n / 256 % 256 : Nat) : Int) = (n : Int) / 256 % 256 by omega, show ((n / 65536 % 256 : Nat) : Int) = (n : Int) / 65536 % 256 by omega, show ((n / 16777216 % 256 : Nat) : Int) = (n : Int) / 16777216 by omega]
end Go.Proofs.YtllfanlhgnkcfaaGreatDoor.G
namespace Go.Proofs.YtllfanlhgnkcfaaGreatDoor.G
open Go.RowKit Go.Proofs.Lys
set_option linter.unusedVariables false
def PutPost (w : World) (k : Int) (bs : List UInt8) (e : Ending) (w' : World) : Prop :=
 Kept w w' ∧ ∃ u fs x, e = .returned (.tuple #[u, .int .i64 x]) ∧ Puts k bs fs x ∧ w'.ownsRow w.heap.size 5 1 u fs.length (fs.map bV)
end Go.Proofs.YtllfanlhgnkcfaaGreatDoor.G
namespace Go.Proofs.YtllfanlhgnkcfaaGreatDoor.G
open Go.RowKit Go.Proofs.Lys
set_option linter.unusedVariables false
theorem i64_and255 (n : Int) : bits .and .i64 n 255 = n % 256 := by
 have h255 : (BitVec.ofInt 64 255).toNat = 2 ^ 8 - 1 := by decide
 have key : (BitVec.ofInt 64 n &&& BitVec.ofInt 64 255).toNat = (n % ((2 ^ 64 : Nat) : Int)).toNat % 2 ^ 8 := by
  rw [BitVec.toNat_and, BitVec.toNat_ofInt, h255, Nat.and_two_pow_sub_one_eq_mod]
 show IntKind.i64.wrap ((BitVec.ofInt 64 n &&& BitVec.ofInt 64 255).toNat : Nat) = n % 256
 rw [key, IntKind.wrap_i64]
 omega
set_option maxRecDepth 100000 in
set_option maxHeartbeats 800000 in
theorem rfour_any (w : World) (n : Nat) (hn : n < 4294967296) :
  Calls Tryz.prog 17 #[.int .i64 (n : Int)] w fun e w' => e = .returned (.slice (some ⟨w.heap.size, 0, none⟩) 4 4) ∧ w'.ownsRow w.heap.size 5 1 (.slice (some ⟨w.heap.size, 0, none⟩) 4 4) 4 ((four n).map bV) ∧ Kept w w' := by
 have f0 := i64_and255 (n : Int)
 have f1 := i64_and255 ((n : Int) / 256)
 have f2 := i64_and255 ((n : Int) / 65536)
 have f3 := i64_and255 ((n : Int) / 16777216)
 have hc := four_cells hn
 have hlast : (n : Int) / 16777216 % 256 = (n : Int) / 16777216 := by omega
 have HO : Hid ((w.alloc (.cells ((four n).map bV).toArray 5)).ownsRow w.heap.size 5 1 (.slice (some ⟨w.heap.size, 0, none⟩) 4 4) 4 ((four n).map bV)) := World.ownsRow_lit w ((four n).map bV).toArray 4 (Nat.le_refl _) (by decide) rfl
 rw [← hc] at HO
 have HK : Hid (Kept w (w.alloc (.cells #[Value.int .u8 ((n : Int) % 256), .int .u8 ((n : Int) / 256 % 256), .int .u8 ((n : Int) / 65536 % 256), .int .u8 ((n : Int) / 16777216)] 5))) := (Only.refl _ w).alloc _
 clear hc
 go_enter Tryz.func17, Tryz.ntmps17
 go_wp2
 go_ret
 exact ⟨rfl, HO.out, HK.out⟩
end Go.Proofs.YtllfanlhgnkcfaaGreatDoor.G
