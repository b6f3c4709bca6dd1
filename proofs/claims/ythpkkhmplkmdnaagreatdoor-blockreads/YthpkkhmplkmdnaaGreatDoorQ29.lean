/-
  Gbyt, Glaw, Gput, Gput2, Gref.
-/
import Derived.Test.YthpkkhmplkmdnaaGreatDoorQ28
import Derived.Deep.Slices
import Derived.Lib.SlBytesConst
import Derived.Laws.MakeOwn
import Derived.BigRegion
import Derived.Deep.QuietTactic
import Derived.BigQuiet
namespace Go.Proofs.YthpkkhmplkmdnaaGreatDoor.G
open Go.RowKit Go.Proofs.Lys
set_option linter.unusedVariables false
theorem BSrc.sub {w : World} {v : Value} {bs : List UInt8} (h : BSrc w v bs) {lo hi : Nat} (h1 : lo ≤ hi) (h2 : hi ≤ bs.length) :
  ∃ a' c', (∀ W, (Instr.sliceAt 28 v (some (.int .i64 (lo : Int))) (some (.int .i64 (hi : Int))) none).run Tryz.prog W = .ok (.slice a' (hi - lo) c') W) ∧ BSrc w (.slice a' (hi - lo) c') ((bs.take hi).drop lo) := by
 obtain ⟨hs, a, c, rfl, hc⟩ := h
 have hlen : ((bs.take hi).drop lo).length = hi - lo := by rw [List.length_drop, List.length_take]; omega
 have hz : ∀ W, (sizeOf 5).run Tryz.prog W = .ok 1 W := fun W => by kernel_rfl
 have e2 : hi ≤ c := by omega
 refine ⟨if c = lo then a else a.map (·.add (lo * 1)), c - lo, fun W => ?_, ?_, _, _, by rw [hlen], by rw [hlen]; omega⟩
 ·simp [Instr.sliceAt, Instr.slice, Instr.sliceBounds, Instr.sliceBound, run_underlying Tryz.underlying28, asIntOf, h1, e2, hz, Result.andThen]
 ·rcases hs with ⟨hv, hn⟩ | ⟨x, c2, hv, hcell⟩
  ·simp only [Value.slice.injEq] at hv
   obtain ⟨rfl, _, rfl⟩ := hv
   have hb : bs = [] := List.map_eq_nil_iff.1 hn
   subst hb
   have h0 : hi = 0 := by simpa using h2
   have h3 : lo = 0 := by omega
   subst h0
   subst h3
   exact .inl ⟨rfl, rfl⟩
  ·simp only [Value.slice.injEq] at hv
   obtain ⟨rfl, _, rfl⟩ := hv
   by_cases hcl : c = lo
   ·rw [if_pos hcl]
    have h0 : (bs.take hi).drop lo = [] := List.length_eq_zero_iff.1 (by rw [hlen]; omega)
    refine .inr ⟨x, c - lo, by rw [List.length_map, hlen], fun j u hu => ?_⟩
    rw [h0] at hu
    simp at hu
   ·rw [if_neg hcl]
    refine .inr ⟨x.add lo, c - lo, by rw [List.length_map, hlen, Nat.mul_one]; rfl, fun j u hu => ?_⟩
    rw [Deep.add_add]
    refine hcell (lo + j) u ?_
    rw [List.getElem?_map, List.getElem?_drop, List.getElem?_take] at hu
    rw [List.getElem?_map]
    split at hu
    ·exact hu
    ·cases hu
theorem BSrc.tail {w : World} {v : Value} {bs : List UInt8} (h : BSrc w v bs) {lo : Nat} (h1 : lo ≤ bs.length) :
  ∃ a' c', (∀ W, (Instr.sliceAt 28 v (some (.int .i64 (lo : Int))) none none).run Tryz.prog W = .ok (.slice a' (bs.length - lo) c') W) ∧ BSrc w (.slice a' (bs.length - lo) c') (bs.drop lo) := by
 obtain ⟨a', c', hr, hb⟩ := h.sub h1 (Nat.le_refl _)
 rw [List.take_of_length_le (Nat.le_refl _)] at hb
 refine ⟨a', c', fun W => ?_, hb⟩
 obtain ⟨hs, a, c, rfl, hc⟩ := h
 have h2 := hr W
 have hz : ∀ W, (sizeOf 5).run Tryz.prog W = .ok 1 W := fun W => by kernel_rfl
 simp [Instr.sliceAt, Instr.slice, Instr.sliceBounds, Instr.sliceBound, run_underlying Tryz.underlying28, asIntOf, h1, hc, hz, Result.andThen] at h2 ⊢
 exact h2
theorem row_app {w : World} {base : Nat} {v xv : Value} {xs ys : List UInt8} (h : w.ownsRow base 5 1 v xs.length (xs.map bV)) (hb : base ≤ w.heap.size) (hs : SrcOf w xv (ys.map bV)) (hl : xs.length + ys.length ≤ 1000000) :
  ∃ a cap w1, Hid ((Builtin.append_ #[28, 28] 0 #[v, xv]).run Tryz.prog w = .ok (.slice a (xs.length + ys.length) cap) w1) ∧ w1.ownsRow base 5 1 (.slice a (xs.length + ys.length) cap) (xs ++ ys).length ((xs ++ ys).map bV) ∧ Only (fun k => v.ownBlock = some k) w w1 := by
 obtain ⟨v', w1, hrun, hown1, hgrow, hat⟩ := append_src (P := Tryz.prog) Tryz.underlying28 Tryz.infoB rfl (by decide) h hs (bytes_one ys) (by rw [List.length_map]; omega) hb
 rw [List.length_map] at hown1
 obtain ⟨a, cap, rfl⟩ := own_slice hown1
 refine ⟨a, cap, w1, hrun, ?_, (Only.refl _ w).grown hgrow (fun j hj _ => hj)⟩
 have e1 : (xs ++ ys).length = xs.length + ys.length := List.length_append
 have e2 : (xs ++ ys).map bV = xs.map bV ++ ys.map bV := List.map_append
 rw [e1, e2]
 exact hown1
theorem only_kept {w0 w w1 : World} {base : Nat} {v : Value} {n : Nat} {xs : List Value} (hk : Kept w0 w) (h : w.ownsRow base 5 1 v n xs) (hb : w0.heap.size ≤ base) (ho : Only (fun k => v.ownBlock = some k) w w1) : Kept w0 w1 :=
 hk.trans ho (fun j hj e => by have := (h.lt j e).1; omega)
theorem src_cells {w : World} {b o n c : Nat} {xs : List Value} (h : SrcOf w (.slice (some ⟨b, o, none⟩) n c) xs) : ∀ j u, xs[j]? = some u → w.cell? ⟨b, o + j, none⟩ = some u := by
 intro j u hu
 rcases h with ⟨h, _⟩ | ⟨a, c', h, hc⟩
 ·cases h
 ·cases h
  rw [← add_none]
  exact hc j u hu
theorem kept_drewN {w w' : World} (h : Kept w w') (n : Nat) : Kept w (w'.drewN n) := by
 induction n with
 | zero => exact h
 | succ n ih => exact ih.drew
theorem bytes_str {w : World} {v : Value} {bs : List UInt8} (h : SrcOf w v (bs.map bV)) : (convert 28 9 v).run Tryz.prog w = .ok (.string ⟨bs.toArray⟩) w := by
 rcases h with ⟨rfl, e⟩ | ⟨a, c, rfl, hc⟩
 ·have : bs = [] := List.map_eq_nil_iff.1 e
  subst this
  exact run_convert_bytes_nil (P := Tryz.prog) w 28 5 Tryz.underlying28 Tryz.underlying5 0 0 9 Tryz.underlying9
 ·rw [List.length_map]
  refine run_convert_bytes_back (P := Tryz.prog) w 28 9 5 a c bs Tryz.underlying28 Tryz.underlying5 Tryz.underlying9 (fun j hj => ?_)
  exact hc j _ (by rw [List.getElem?_map, List.getElem?_eq_getElem hj]; rfl)
theorem str_eq (a b : List UInt8) : ((⟨a.toArray⟩ : ByteArray).toList == (⟨b.toArray⟩ : ByteArray).toList) = decide (a = b) := by
 rw [ByteArray.toList_eq, ByteArray.toList_eq]
 by_cases h : a = b <;> simp [h]
theorem wrap_is (x : Int) : IntKind.i64.wrap x = wrap64 x := Go.IntWalk.i64_left x
theorem BSrc.len {w : World} {v : Value} {bs : List UInt8} (h : BSrc w v bs) : ∃ a c, v = .slice a bs.length c := by
 obtain ⟨_, a, c, e, _⟩ := h
 exact ⟨a, c, e⟩
end Go.Proofs.YthpkkhmplkmdnaaGreatDoor.G
namespace Go.Proofs.YthpkkhmplkmdnaaGreatDoor.G
open Go.RowKit Go.Proofs.Lys
set_option linter.unusedVariables false
theorem lit_bsrc (bs : List UInt8) (W : World) {vs : Array Value} {fz : Nat × Nat} (hv : vs = (bs.map bV).toArray) : BSrc (W.alloc (.cells vs 5 fz)) (.slice (some ⟨W.heap.size, 0, none⟩) bs.length bs.length) bs := by
 subst hv
 refine ⟨.inr ⟨⟨W.heap.size, 0, none⟩, bs.length, by rw [List.length_map], fun j u hu => ?_⟩, _, _, rfl, Nat.le_refl _⟩
 rw [add_none, Nat.zero_add]
 have : (W.alloc (.cells (bs.map bV).toArray 5 fz)).heap[W.heap.size]? = some (.cells (bs.map bV).toArray 5 fz) := heap_alloc_new W _
 simp only [World.cell?, this]
 simp [hu]
end Go.Proofs.YthpkkhmplkmdnaaGreatDoor.G
namespace Go.Proofs.YthpkkhmplkmdnaaGreatDoor.G
open Go.RowKit Go.Proofs.Lys
set_option linter.unusedVariables false
theorem bV_ofNat {n : Nat} (h : n < 256) : bV (UInt8.ofNat n) = .int .u8 (n : Int) := by
 unfold bV
 rw [ofNat_toNat h]
theorem four_cells {n : Nat} (h : n < 4294967296) : #[Value.int .u8 ((n : Int) % 256), .int .u8 ((n : Int) / 256 % 256), .int .u8 ((n : Int) / 65536 % 256), .int .u8 ((n : Int) / 16777216)] = ((four n).map bV).toArray := by
 unfold four
 simp only [List.map_cons, List.map_nil]
 rw [bV_ofNat (by omega), bV_ofNat (by omega), bV_ofNat (by omega), bV_ofNat (by omega)]
 rw [show ((n % 256 : Nat) : Int) = (n : Int) % 256 by omega, show ((n / 256 % 256 : Nat) : Int) = (n : Int) / 256 % 256 by omega, show ((n / 65536 % 256 : Nat) : Int) = (n : Int) / 65536 % 256 by omega, show ((n / 16777216 % 256 : Nat) : Int) = (n : Int) / 16777216 by omega]
end Go.Proofs.YthpkkhmplkmdnaaGreatDoor.G
namespace Go.Proofs.YthpkkhmplkmdnaaGreatDoor.G
open Go.RowKit Go.Proofs.Lys
set_option linter.unusedVariables false
def PutPost (w : World) (k : Int) (bs : List UInt8) (e : Ending) (w' : World) : Prop :=
 Kept w w' ∧ ∃ u fs x, e = .returned (.tuple #[u, .int .i64 x]) ∧ Puts k bs fs x ∧ w'.ownsRow w.heap.size 5 1 u fs.length (fs.map bV)
end Go.Proofs.YthpkkhmplkmdnaaGreatDoor.G
namespace Go.Proofs.YthpkkhmplkmdnaaGreatDoor.G
open Go.RowKit Go.Proofs.Lys
set_option linter.unusedVariables false
theorem i64_and255 (n : Int) : bits .and .i64 n 255 = n % 256 := by
 have h255 : (BitVec.ofInt 64 255).toNat = 2 ^ 8 - 1 := by decide
 have key : (BitVec.ofInt 64 n &&& BitVec.ofInt 64 255).toNat = (n % ((2 ^ 64 : Nat) : Int)).toNat % 2 ^ 8 := by
  rw [BitVec.toNat_and, BitVec.toNat_ofInt, h255, Nat.and_two_pow_sub_one_eq_mod]
 show IntKind.i64.wrap ((BitVec.ofInt 64 n &&& BitVec.ofInt 64 255).toNat : Nat) = n % 256
 rw [key, IntKind.wrap_i64]
 omega
set_option maxRecDepth 100000 in
set_option maxHeartbeats 800000 in
theorem rfour_any (w : World) (n : Nat) (hn : n < 4294967296) :
  Calls Tryz.prog 20 #[.int .i64 (n : Int)] w fun e w' => e = .returned (.slice (some ⟨w.heap.size, 0, none⟩) 4 4) ∧ w'.ownsRow w.heap.size 5 1 (.slice (some ⟨w.heap.size, 0, none⟩) 4 4) 4 ((four n).map bV) ∧ Kept w w' := by
 have f0 := i64_and255 (n : Int)
 have f1 := i64_and255 ((n : Int) / 256)
 have f2 := i64_and255 ((n : Int) / 65536)
 have f3 := i64_and255 ((n : Int) / 16777216)
 have hc := four_cells hn
 have hlast : (n : Int) / 16777216 % 256 = (n : Int) / 16777216 := by omega
 have HO : Hid ((w.alloc (.cells ((four n).map bV).toArray 5)).ownsRow w.heap.size 5 1 (.slice (some ⟨w.heap.size, 0, none⟩) 4 4) 4 ((four n).map bV)) := World.ownsRow_lit w ((four n).map bV).toArray 4 (Nat.le_refl _) (by decide) rfl
 rw [← hc] at HO
 have HK : Hid (Kept w (w.alloc (.cells #[Value.int .u8 ((n : Int) % 256), .int .u8 ((n : Int) / 256 % 256), .int .u8 ((n : Int) / 65536 % 256), .int .u8 ((n : Int) / 16777216)] 5))) := (Only.refl _ w).alloc _
 clear hc
 go_enter Tryz.func20, Tryz.ntmps20
 go_wp2
 go_ret
 exact ⟨rfl, HO.out, HK.out⟩
end Go.Proofs.YthpkkhmplkmdnaaGreatDoor.G
