/-
  Ccut.
-/
import Derived.Test.YthpkkhmplkmdnaaGreatDoorQ07
import Derived.Test.YthpkkhmplkmdnaaGreatDoorQ08
import Derived.Deep.Slices
namespace Go.Proofs.YthpkkhmplkmdnaaGreatDoor.C
open Go.RowKit Go.Proofs.Lys
set_option linter.unusedVariables false
def BSrc (w : World) (v : Value) (bs : List UInt8) : Prop := SrcOf w v (bs.map bV) ∧ ∃ a c, v = .slice a bs.length c ∧ bs.length ≤ c
theorem BSrc.stay {w w' : World} {v : Value} {bs : List UInt8} (h : BSrc w v bs) (k : Kept w w') : BSrc w' v bs := ⟨h.1.stay k, h.2⟩
theorem BSrc.sub {w : World} {v : Value} {bs : List UInt8} (h : BSrc w v bs) {lo hi : Nat} (h1 : lo ≤ hi) (h2 : hi ≤ bs.length) :
  ∃ a' c', (∀ W, (Instr.sliceAt 28 v (some (.int .i64 (lo : Int))) (some (.int .i64 (hi : Int))) none).run Tryz.prog W = .ok (.slice a' (hi - lo) c') W) ∧ BSrc w (.slice a' (hi - lo) c') ((bs.take hi).drop lo) := by
 obtain ⟨hs, a, c, rfl, hc⟩ := h
 have hlen : ((bs.take hi).drop lo).length = hi - lo := by rw [List.length_drop, List.length_take]; omega
 have hz : ∀ W, (sizeOf 5).run Tryz.prog W = .ok 1 W := fun W => by kernel_rfl
 have e2 : hi ≤ c := by omega
 refine ⟨if c = lo then a else a.map (·.add (lo * 1)), c - lo, fun W => ?_, ?_, _, _, by rw [hlen], by rw [hlen]; omega⟩
 ·simp [Instr.sliceAt, Instr.slice, Instr.sliceBounds, Instr.sliceBound, run_underlying Tryz.underlying28, asIntOf, h1, e2, hz, Result.andThen]
 ·rcases hs with ⟨hv, hn⟩ | ⟨x, c2, hv, hcell⟩
  ·simp only [Value.slice.injEq] at hv
   obtain ⟨rfl, _, rfl⟩ := hv
   have hb : bs = [] := List.map_eq_nil_iff.1 hn
   subst hb
   have h0 : hi = 0 := by simpa using h2
   have h3 : lo = 0 := by omega
   subst h0
   subst h3
   exact .inl ⟨rfl, rfl⟩
  ·simp only [Value.slice.injEq] at hv
   obtain ⟨rfl, _, rfl⟩ := hv
   by_cases hcl : c = lo
   ·rw [if_pos hcl]
    have h0 : (bs.take hi).drop lo = [] := List.length_eq_zero_iff.1 (by rw [hlen]; omega)
    refine .inr ⟨x, c - lo, by rw [List.length_map, hlen], fun j u hu => ?_⟩
    rw [h0] at hu
    simp at hu
   ·rw [if_neg hcl]
    refine .inr ⟨x.add lo, c - lo, by rw [List.length_map, hlen, Nat.mul_one]; rfl, fun j u hu => ?_⟩
    rw [Deep.add_add]
    refine hcell (lo + j) u ?_
    rw [List.getElem?_map, List.getElem?_drop, List.getElem?_take] at hu
    rw [List.getElem?_map]
    split at hu
    ·exact hu
    ·cases hu
theorem BSrc.tail {w : World} {v : Value} {bs : List UInt8} (h : BSrc w v bs) {lo : Nat} (h1 : lo ≤ bs.length) :
  ∃ a' c', (∀ W, (Instr.sliceAt 28 v (some (.int .i64 (lo : Int))) none none).run Tryz.prog W = .ok (.slice a' (bs.length - lo) c') W) ∧ BSrc w (.slice a' (bs.length - lo) c') (bs.drop lo) := by
 obtain ⟨a', c', hr, hb⟩ := h.sub h1 (Nat.le_refl _)
 rw [List.take_of_length_le (Nat.le_refl _)] at hb
 refine ⟨a', c', fun W => ?_, hb⟩
 obtain ⟨hs, a, c, rfl, hc⟩ := h
 have h2 := hr W
 have hz : ∀ W, (sizeOf 5).run Tryz.prog W = .ok 1 W := fun W => by kernel_rfl
 simp [Instr.sliceAt, Instr.slice, Instr.sliceBounds, Instr.sliceBound, run_underlying Tryz.underlying28, asIntOf, h1, hc, hz, Result.andThen] at h2 ⊢
 exact h2
def CutPost (w : World) (bs : List UInt8) (at_ : Nat) (e : Ending) (w' : World) : Prop :=
 w' = w ∧ ((cutR (bs.drop at_) = none ∧ e = .returned (.tuple #[.slice none 0 0, .int .i64 0, .bool false])) ∨
  ∃ a R va, cutR (bs.drop at_) = some (a, R) ∧ R.length ≤ bs.length ∧ bs.drop (bs.length - R.length) = R ∧ e = .returned (.tuple #[va, .int .i64 ((bs.length - R.length : Nat) : Int), .bool true]) ∧ BSrc w va a)
theorem getA_le (l : List UInt8) : ∀ i n, (getA l i n).2.1 ≤ i + l.length := by
 induction l with
 | nil => intro i n; simp [getA]
 | cons c t ih =>
  intro i n
  unfold getA
  have := ih (i + 1) (n + c.toNat % 128 * 2 ^ (7 * i))
  rw [List.length_cons]
  split
  ·exact Nat.zero_le _
  ·split
   ·omega
   ·split
    ·exact Nat.zero_le _
    ·show i + 1 ≤ _
     omega
set_option maxRecDepth 100000 in
set_option maxHeartbeats 1600000 in
theorem rcut_any (w : World) (v : Value) (bs : List UInt8) (at_ : Nat) (hs : BSrc w v bs) (hl : bs.length ≤ 100000) (ha : at_ ≤ bs.length) :
  Calls Tryz.prog 76 #[v, .int .i64 (at_ : Int)] w (CutPost w bs at_) := by
 obtain ⟨a1, c1, hr1, hb1⟩ := hs.tail ha
 have hg := U.rget_any w _ (bs.drop at_) hb1.1 (by rw [List.length_drop]; omega)
 have hle := getA_le (bs.drop at_) 0 0
 rw [List.length_drop, Nat.zero_add] at hle
 obtain ⟨⟨u, k, er⟩, hG⟩ : ∃ x, getA (bs.drop at_) 0 0 = x := ⟨_, rfl⟩
 rw [hG] at hg hle
 simp only at hle
 unfold U.got at hg
 simp only at hg
 obtain ⟨Z, hZ⟩ : ∃ Z, wrap64 (u : Int) = Z := ⟨_, rfl⟩
 rw [hZ] at hg
 have HCR : Hid (cutR (bs.drop at_) = if er ≠ 0 ∨ Z < 0 ∨ ((bs.length : Int) - (at_ : Int)) - (k : Int) < Z then none else some (((bs.drop at_).drop k).take Z.toNat, ((bs.drop at_).drop k).drop Z.toNat)) := by
  show _ = _
  unfold cutR
  rw [hG]
  simp only
  rw [hZ, List.length_drop, show ((bs.length - at_ : Nat) : Int) = (bs.length : Int) - (at_ : Int) by omega]
 have HB := hid hs
 obtain ⟨va, vc, hv⟩ : ∃ a c, v = .slice a bs.length c := by obtain ⟨_, a, c, h, _⟩ := hs; exact ⟨a, c, h⟩
 obtain ⟨L, hL⟩ : ∃ L, bs.length = L := ⟨_, rfl⟩
 have HL := hid hL
 rw [hL] at hr1 hb1 hg hle hl ha HCR hv
 subst hv
 clear hs hG hZ hL hb1
 by_cases he : er = 0
 ·subst he
  by_cases hz0 : Z < 0
  ·rw [if_pos (.inr (.inl hz0))] at HCR
   go_enter Tryz.func76, Tryz.ntmps76
   go_wp2_with fail
   refine hg.mono ?_
   rintro e w' ⟨rfl, hw⟩
   replace hw := hw.symm
   subst hw
   go_wp2_with fail
   go_ret3
   exact ⟨rfl, .inl ⟨HCR.out, rfl⟩⟩
  ·by_cases hz1 : (L : Int) - (at_ : Int) - (k : Int) < Z
   ·rw [if_pos (.inr (.inr hz1))] at HCR
    go_enter Tryz.func76, Tryz.ntmps76
    go_wp2_with fail
    refine hg.mono ?_
    rintro e w' ⟨rfl, hw⟩
    replace hw := hw.symm
    subst hw
    go_wp2_with fail
    go_ret3
    exact ⟨rfl, .inl ⟨HCR.out, rfl⟩⟩
   ·rw [if_neg (fun h => h.elim (fun h => h rfl) (fun h => h.elim hz0 hz1))] at HCR
    obtain ⟨z, rfl⟩ : ∃ z : Nat, Z = (z : Int) := ⟨Z.toNat, by omega⟩
    rw [Int.toNat_natCast] at HCR
    have hk : at_ + k ≤ at_ + k + z := by omega
    have hk2 : at_ + k + z ≤ bs.length := by have := HL.out; omega
    obtain ⟨a2, c2, hr2, hb2⟩ := HB.out.sub hk hk2
    have e1 : (bs.take (at_ + k + z)).drop (at_ + k) = ((bs.drop at_).drop k).take z := by
     rw [List.drop_take, List.drop_drop, show at_ + k + z - (at_ + k) = z by omega]
    have e2 : ((bs.drop at_).drop k).drop z = bs.drop (at_ + k + z) := by
     rw [List.drop_drop, List.drop_drop]
     first | rfl | (congr 1; omega)
    rw [e2] at HCR
    rw [e1] at hb2
    have e3 : (bs.drop (at_ + k + z)).length = L - (at_ + k + z) := by rw [List.length_drop, HL.out]
    rw [show at_ + k + z - (at_ + k) = z by omega] at hr2 hb2
    have HB2 := hid hb2
    have i1 : ((at_ + k : Nat) : Int) = (at_ : Int) + (k : Int) := by omega
    have i2 : ((at_ + k + z : Nat) : Int) = (at_ : Int) + (k : Int) + (z : Int) := by omega
    rw [i1, i2] at hr2
    have HE3 := hid e3
    clear hb2 e1 e2 e3 i1 i2 hk hk2
    go_enter Tryz.func76, Tryz.ntmps76
    go_wp2_with fail
    refine hg.mono ?_
    rintro e w' ⟨rfl, hw⟩
    replace hw := hw.symm
    subst hw
    go_wp2_with fail
    go_ret3
    refine ⟨rfl, .inr ⟨_, _, _, HCR.out, by have := HE3.out; have := HL.out; omega, ?_, ?_, HB2.out⟩⟩
    ·rw [HE3.out, HL.out]
     congr 1
     omega
    ·rw [HE3.out, HL.out, show ((L - (L - (at_ + k + z)) : Nat) : Int) = (at_ : Int) + (k : Int) + (z : Int) by omega]
     rfl
 ·rw [if_pos (.inl he)] at HCR
  have he' : ((er : Int) == 0) = false := by simp [he]
  have he2 : ((er : Int) != 0) = true := by simp [he]
  go_enter Tryz.func76, Tryz.ntmps76
  go_wp2_with fail
  refine hg.mono ?_
  rintro e w' ⟨rfl, hw⟩
  replace hw := hw.symm
  subst hw
  go_wp2_with fail
  go_ret3
  exact ⟨rfl, .inl ⟨HCR.out, rfl⟩⟩
end Go.Proofs.YthpkkhmplkmdnaaGreatDoor.C
