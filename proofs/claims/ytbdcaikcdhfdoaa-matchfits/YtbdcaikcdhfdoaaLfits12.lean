/-
  The law of Fits.
-/
import Derived.Test.YtbdcaikcdhfdoaaMlaw
import Derived.Test.YtbdcaikcdhfdoaaMrfits
namespace Go.Proofs.Ytbdcaikcdhfdoaa.N
open Go.RowKit Go.Proofs.Lys
set_option linter.unusedVariables false
set_option linter.unusedSimpArgs false

set_option maxRecDepth 100000 in
set_option maxHeartbeats 1600000 in
theorem fits12_walk (w : World) (v u : Value) (l : Mats) (of_ : Labs) (hl : InM w v l) (ho : In w u of_) :
    Calls Try.prog 3 #[v, u] w fun e w' => e = .returned (.bool true) ∧ Kept w w' := by
  have HL := hid hl
  have HO := hid ho
  obtain ⟨a1, c1, rfl⟩ := hl.src.len
  obtain ⟨a2, c2, rfl⟩ := ho.src.len
  have H0 := hid (malive_any w)
  have HBl := hid (fun W (k : Kept w W) => mbig_any W _ l (HL.out.src.stay k) (by have := HL.out.len; omega) HL.out.came)
  have HBo := hid (fun W (k : Kept w W) => big_any W _ of_ (HO.out.src.stay k) (by have := HO.out.len; omega) HO.out.came)
  clear hl ho
  go_enter Try.func3, Try.ntmps3
  go_wp2_with fail
  refine H0.out.mono ?_
  rintro e w1 ⟨rfl, k1⟩
  have HK1 := hid k1
  go_wp2_with fail
  refine (HBl.out w1 k1).mono ?_
  rintro e w2 ⟨rfl, k2⟩
  have HK2 := hid (HK1.out.trans k2 (fun _ _ f => f))
  clear k1 k2 H0
  by_cases ga : 4000 < bigM l
  · rw [decide_eq_true ga]
    go_wp2
    go_ret
    exact ⟨rfl, HK2.out⟩
  rw [decide_eq_false ga]
  obtain ⟨sl, ll⟩ := bigM_small (l := l) (by omega)
  have HSl := hid sl
  clear ga sl
  go_wp2_with fail
  refine (HBo.out w2 HK2.out).mono ?_
  rintro e w3 ⟨rfl, k3⟩
  have HK3 := hid (HK2.out.trans k3 (fun _ _ f => f))
  clear k3
  by_cases gb : 4000 < bigN of_
  · rw [decide_eq_true gb]
    go_wp2
    go_ret
    exact ⟨rfl, HK3.out⟩
  rw [decide_eq_false gb]
  obtain ⟨so, lo⟩ := bigN_small (l := of_) (by omega)
  have H1 := hid (mcheck_any w3 _ l (HL.out.src.stay HK3.out) (by omega) HSl.out)
  clear gb so
  go_wp2_with fail
  refine H1.out.mono ?_
  rintro e w4 ⟨rfl, k4⟩
  have HK4 := hid (HK3.out.trans k4 (fun _ _ f => f))
  have H2 := hid (mnum_any w4 (checkM l))
  have H3 := hid (rcheck_any w4 _ l (HL.out.src.stay HK4.out) (by omega) HSl.out)
  have H4 := hid (fits_any w4 _ _ l of_ (HL.out.src.stay HK4.out) (by omega) HSl.out (HO.out.src.stay HK4.out) (by omega))
  clear k4 H1
  generalize checkM l = C at H2 H3
  have hC : (C == C) = true := by simp
  go_wp2_with fail
  refine H2.out.mono ?_
  rintro e w5 ⟨rfl, hq⟩
  replace hq := hq.symm
  subst hq
  go_wp2_with fail
  refine H3.out.mono ?_
  rintro e w5 ⟨rfl, hq⟩
  replace hq := hq.symm
  subst hq
  go_wp2_with fail
  refine H4.out.mono ?_
  rintro e w6 ⟨rfl, k6⟩
  have HK6 := hid (HK4.out.trans k6 (fun _ _ f => f))
  have H5 := hid (rfits_any w6 _ _ l of_ (HL.out.src.stay HK6.out) (by omega) HSl.out (HO.out.src.stay HK6.out) (by omega))
  generalize fitsB l of_ = B at H5 ⊢
  have hB : (B == B) = true := by simp
  clear k6 H4
  go_wp2_with fail
  refine H5.out.mono ?_
  rintro e w7 ⟨rfl, k7⟩
  go_wp2
  go_ret
  exact ⟨rfl, HK6.out.trans k7 (fun _ _ f => f)⟩
end Go.Proofs.Ytbdcaikcdhfdoaa.N
