/-
  Ccut.
-/
import Derived.Test.YtllfanlhgnkcfaaGreatDoorQ08
import Derived.Test.YtllfanlhgnkcfaaGreatDoorQ09
import Derived.Deep.Slices
namespace Go.Proofs.YtllfanlhgnkcfaaGreatDoor.C
open Go.RowKit Go.Proofs.Lys
set_option linter.unusedVariables false
def BSrc (w : World) (v : Value) (bs : List UInt8) : Prop := SrcOf w v (bs.map bV) ∧ ∃ a c, v = .slice a bs.length c ∧ bs.length ≤ c
theorem BSrc.stay {w w' : World} {v : Value} {bs : List UInt8} (h : BSrc w v bs) (k : Kept w w') : BSrc w' v bs := ⟨h.1.stay k, h.2⟩
theorem BSrc.sub {w : World} {v : Value} {bs : List UInt8} (h : BSrc w v bs) {lo hi : Nat} (h1 : lo ≤ hi) (h2 : hi ≤ bs.length) :
  ∃ a' c', (∀ W, (Instr.sliceAt 28 v (some (.int .i64 (lo : Int))) (some (.int .i64 (hi : Int))) none).run Tryz.prog W = .ok (.slice a' (hi - lo) c') W) ∧ BSrc w (.slice a' (hi - lo) c') ((bs.take hi).drop lo) := by
 obtain ⟨hs, a, c, rfl, hc⟩ := h
 have hlen : ((bs.take hi).drop lo).length = hi - lo := by rw [List.length_drop, List.length_take]; omega
 have hz : ∀ W, (sizeOf 5).run Tryz.prog W = .ok 1 W := fun W => by kernel_rfl
 have e2 : hi ≤ c := by omega
 refine ⟨if c = lo then a else a.map (·.add (lo * 1)), c - lo, fun W => ?_, ?_, _, _, by rw [hlen], by rw [hlen]; omega⟩
 ·simp [Instr.sliceAt, Instr.slice, Instr.sliceBounds, Instr.sliceBound, run_underlying Tryz.underlying28, asIntOf, h1, e2, hz, Result.andThen]
 ·rcases hs with ⟨hv, hn⟩ | ⟨x, c2, hv, hcell⟩
  ·simp only [Value.slice.injEq] at hv
   obtain ⟨rfl, _, rfl⟩ := hv
   have hb : bs = [] := List.map_eq_nil_iff.1 hn
   subst hb
   have h0 : hi = 0 := by simpa using h2
   have h3 : lo = 0 := by omega
   subst h0
   subst h3
   exact .inl ⟨rfl, rfl⟩
  ·simp only [Value.slice.injEq] at hv
   obtain ⟨rfl, _, rfl⟩ := hv
   by_cases hcl : c = lo
   ·rw [if_pos hcl]
    have h0 : (bs.take hi).drop lo = [] := List.length_eq_zero_iff.1 (by rw [hlen]; omega)
    refine .inr ⟨x, c - lo, by rw [List.length_map, hlen], fun j u hu => ?_⟩
    rw [h0] at hu
    simp at hu
   ·rw [if_neg hcl]
    refine .inr ⟨x.add lo, c - lo, by rw [List.length_map, hlen, Nat.mul_one]; rfl, fun j u hu => ?_⟩
    rw [Deep.add_add]
    refine hcell (lo + j) u ?_
    rw [List.getElem?_map, List.getElem?_drop, List.getElem?_take] at hu
    rw [List.getElem?_map]
    split at hu
    ·exact hu
    ·cases hu
theorem BSrc.tail {w : World} {v : Value} {bs : List UInt8} (h : BSrc w v bs) {lo : Nat} (h1 : lo ≤ bs.length) :
  ∃ a' c', (∀ W, (Instr.sliceAt 28 v (some (.int .i64 (lo : Int))) none none).run Tryz.prog W = .ok (.slice a' (bs.length - lo) c') W) ∧ BSrc w (.slice a' (bs.length - lo) c') (bs.drop lo) := by
 obtain ⟨a', c', hr, hb⟩ := h.sub h1 (Nat.le_refl _)
 rw [List.take_of_length_le (Nat.le_refl _)] at hb
 refine ⟨a', c', fun W => ?_, hb⟩
 obtain ⟨hs, a, c, rfl, hc⟩ := h
 have h2 := hr W
 have hz : ∀ W, (sizeOf 5).run Tryz.prog W = .ok 1 W := fun W => by kernel_rfl
 simp [Instr.sliceAt, Instr.slice, Instr.sliceBounds, Instr.sliceBound, run_underlying Tryz.underlying28, asIntOf, h1, hc, hz, Result.andThen] at h2 ⊢
 exact h2
theorem getA_le (l : List UInt8) : ∀ i n, (getA l i n).2.1 ≤ i + l.length := by
 induction l with
 | nil => intro i n; simp [getA]
 | cons c t ih =>
  intro i n
  unfold getA
  have := ih (i + 1) (n + c.toNat % 128 * 2 ^ (7 * i))
  rw [List.length_cons]
  split
  ·exact Nat.zero_le _
  ·split
   ·omega
   ·split
    ·exact Nat.zero_le _
    ·show i + 1 ≤ _
     omega
end Go.Proofs.YtllfanlhgnkcfaaGreatDoor.C
