/-
  Gbyt.
-/
import Derived.Test.YtllfanlhgnkcfaaGreatDoorQ25
import Derived.Deep.Slices
namespace Go.Proofs.YtllfanlhgnkcfaaGreatDoor.G
open Go.RowKit Go.Proofs.Lys
set_option linter.unusedVariables false
theorem BSrc.sub {w : World} {v : Value} {bs : List UInt8} (h : BSrc w v bs) {lo hi : Nat} (h1 : lo ≤ hi) (h2 : hi ≤ bs.length) :
  ∃ a' c', (∀ W, (Instr.sliceAt 28 v (some (.int .i64 (lo : Int))) (some (.int .i64 (hi : Int))) none).run Tryz.prog W = .ok (.slice a' (hi - lo) c') W) ∧ BSrc w (.slice a' (hi - lo) c') ((bs.take hi).drop lo) := by
 obtain ⟨hs, a, c, rfl, hc⟩ := h
 have hlen : ((bs.take hi).drop lo).length = hi - lo := by rw [List.length_drop, List.length_take]; omega
 have hz : ∀ W, (sizeOf 5).run Tryz.prog W = .ok 1 W := fun W => by kernel_rfl
 have e2 : hi ≤ c := by omega
 refine ⟨if c = lo then a else a.map (·.add (lo * 1)), c - lo, fun W => ?_, ?_, _, _, by rw [hlen], by rw [hlen]; omega⟩
 ·simp [Instr.sliceAt, Instr.slice, Instr.sliceBounds, Instr.sliceBound, run_underlying Tryz.underlying28, asIntOf, h1, e2, hz, Result.andThen]
 ·rcases hs with ⟨hv, hn⟩ | ⟨x, c2, hv, hcell⟩
  ·simp only [Value.slice.injEq] at hv
   obtain ⟨rfl, _, rfl⟩ := hv
   have hb : bs = [] := List.map_eq_nil_iff.1 hn
   subst hb
   have h0 : hi = 0 := by simpa using h2
   have h3 : lo = 0 := by omega
   subst h0
   subst h3
   exact .inl ⟨rfl, rfl⟩
  ·simp only [Value.slice.injEq] at hv
   obtain ⟨rfl, _, rfl⟩ := hv
   by_cases hcl : c = lo
   ·rw [if_pos hcl]
    have h0 : (bs.take hi).drop lo = [] := List.length_eq_zero_iff.1 (by rw [hlen]; omega)
    refine .inr ⟨x, c - lo, by rw [List.length_map, hlen], fun j u hu => ?_⟩
    rw [h0] at hu
    simp at hu
   ·rw [if_neg hcl]
    refine .inr ⟨x.add lo, c - lo, by rw [List.length_map, hlen, Nat.mul_one]; rfl, fun j u hu => ?_⟩
    rw [Deep.add_add]
    refine hcell (lo + j) u ?_
    rw [List.getElem?_map, List.getElem?_drop, List.getElem?_take] at hu
    rw [List.getElem?_map]
    split at hu
    ·exact hu
    ·cases hu
theorem BSrc.tail {w : World} {v : Value} {bs : List UInt8} (h : BSrc w v bs) {lo : Nat} (h1 : lo ≤ bs.length) :
  ∃ a' c', (∀ W, (Instr.sliceAt 28 v (some (.int .i64 (lo : Int))) none none).run Tryz.prog W = .ok (.slice a' (bs.length - lo) c') W) ∧ BSrc w (.slice a' (bs.length - lo) c') (bs.drop lo) := by
 obtain ⟨a', c', hr, hb⟩ := h.sub h1 (Nat.le_refl _)
 rw [List.take_of_length_le (Nat.le_refl _)] at hb
 refine ⟨a', c', fun W => ?_, hb⟩
 obtain ⟨hs, a, c, rfl, hc⟩ := h
 have h2 := hr W
 have hz : ∀ W, (sizeOf 5).run Tryz.prog W = .ok 1 W := fun W => by kernel_rfl
 simp [Instr.sliceAt, Instr.slice, Instr.sliceBounds, Instr.sliceBound, run_underlying Tryz.underlying28, asIntOf, h1, hc, hz, Result.andThen] at h2 ⊢
 exact h2
theorem row_app {w : World} {base : Nat} {v xv : Value} {xs ys : List UInt8} (h : w.ownsRow base 5 1 v xs.length (xs.map bV)) (hb : base ≤ w.heap.size) (hs : SrcOf w xv (ys.map bV)) (hl : xs.length + ys.length ≤ 1000000) :
  ∃ a cap w1, Hid ((Builtin.append_ #[28, 28] 0 #[v, xv]).run Tryz.prog w = .ok (.slice a (xs.length + ys.length) cap) w1) ∧ w1.ownsRow base 5 1 (.slice a (xs.length + ys.length) cap) (xs ++ ys).length ((xs ++ ys).map bV) ∧ Only (fun k => v.ownBlock = some k) w w1 := by
 obtain ⟨v', w1, hrun, hown1, hgrow, hat⟩ := append_src (P := Tryz.prog) Tryz.underlying28 Tryz.infoB rfl (by decide) h hs (bytes_one ys) (by rw [List.length_map]; omega) hb
 rw [List.length_map] at hown1
 obtain ⟨a, cap, rfl⟩ := own_slice hown1
 refine ⟨a, cap, w1, hrun, ?_, (Only.refl _ w).grown hgrow (fun j hj _ => hj)⟩
 have e1 : (xs ++ ys).length = xs.length + ys.length := List.length_append
 have e2 : (xs ++ ys).map bV = xs.map bV ++ ys.map bV := List.map_append
 rw [e1, e2]
 exact hown1
theorem only_kept {w0 w w1 : World} {base : Nat} {v : Value} {n : Nat} {xs : List Value} (hk : Kept w0 w) (h : w.ownsRow base 5 1 v n xs) (hb : w0.heap.size ≤ base) (ho : Only (fun k => v.ownBlock = some k) w w1) : Kept w0 w1 :=
 hk.trans ho (fun j hj e => by have := (h.lt j e).1; omega)
theorem src_cells {w : World} {b o n c : Nat} {xs : List Value} (h : SrcOf w (.slice (some ⟨b, o, none⟩) n c) xs) : ∀ j u, xs[j]? = some u → w.cell? ⟨b, o + j, none⟩ = some u := by
 intro j u hu
 rcases h with ⟨h, _⟩ | ⟨a, c', h, hc⟩
 ·cases h
 ·cases h
  rw [← add_none]
  exact hc j u hu
theorem kept_drewN {w w' : World} (h : Kept w w') (n : Nat) : Kept w (w'.drewN n) := by
 induction n with
 | zero => exact h
 | succ n ih => exact ih.drew
theorem bytes_str {w : World} {v : Value} {bs : List UInt8} (h : SrcOf w v (bs.map bV)) : (convert 28 9 v).run Tryz.prog w = .ok (.string ⟨bs.toArray⟩) w := by
 rcases h with ⟨rfl, e⟩ | ⟨a, c, rfl, hc⟩
 ·have : bs = [] := List.map_eq_nil_iff.1 e
  subst this
  exact run_convert_bytes_nil (P := Tryz.prog) w 28 5 Tryz.underlying28 Tryz.underlying5 0 0 9 Tryz.underlying9
 ·rw [List.length_map]
  refine run_convert_bytes_back (P := Tryz.prog) w 28 9 5 a c bs Tryz.underlying28 Tryz.underlying5 Tryz.underlying9 (fun j hj => ?_)
  exact hc j _ (by rw [List.getElem?_map, List.getElem?_eq_getElem hj]; rfl)
theorem str_eq (a b : List UInt8) : ((⟨a.toArray⟩ : ByteArray).toList == (⟨b.toArray⟩ : ByteArray).toList) = decide (a = b) := by
 rw [ByteArray.toList_eq, ByteArray.toList_eq]
 by_cases h : a = b <;> simp [h]
theorem xor_byte6 (y : UInt8) : bits .xor .u8 (y.toNat : Int) 255 = (((UInt8.ofNat (y.toNat ^^^ 255)).toNat : Nat) : Int) := by
 rw [show (255 : Int) = ((255 : Nat) : Int) from rfl, u8_xor_nat _ _ (UInt8.toNat_lt y) (by decide), UInt8.toNat_ofNat', Nat.mod_eq_of_lt (Nat.xor_lt_two_pow (n := 8) (UInt8.toNat_lt y) (by decide))]
theorem own_turn6 {w : World} {base g n cap k : Nat} {ys : List UInt8} (h : w.ownsRow base 5 1 (.slice (some ⟨g, 0, none⟩) n cap) n (ys.map bV)) (hk : k < ys.length) :
  w.cell? ⟨g, k, none⟩ = some (.int .u8 ((ys[k].toNat : Nat) : Int)) ∧ w.frozen? ⟨g, k, none⟩ = false ∧
  (w.setCell ⟨g, k, none⟩ (.int .u8 (((UInt8.ofNat (ys[k].toNat ^^^ 255)).toNat : Nat) : Int))).ownsRow base 5 1 (.slice (some ⟨g, 0, none⟩) n cap) n ((ys.set k (UInt8.ofNat (ys[k].toNat ^^^ 255))).map bV) := by
 have hn := own_len h
 rw [List.length_map] at hn
 refine ⟨?_, h.frozenAt k, ?_⟩
 ·rw [h.cellAt k (by omega), List.getElem?_map, List.getElem?_eq_getElem hk]
  rfl
 ·rw [List.map_set]
  exact (h.stored k _).1
theorem wrap_is (x : Int) : IntKind.i64.wrap x = wrap64 x := Go.IntWalk.i64_left x
end Go.Proofs.YtllfanlhgnkcfaaGreatDoor.G
