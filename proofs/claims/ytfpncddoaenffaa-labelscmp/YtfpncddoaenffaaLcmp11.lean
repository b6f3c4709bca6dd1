/-
  The law of the order of labels.
-/
import Derived.Test.YtfpncddoaenffaaNalive
import Derived.Test.YtfpncddoaenffaaNopen
namespace Go.Proofs.Ytfpncddoaenffaa.N
open Go.RowKit Go.Proofs.Lys
set_option linter.unusedVariables false
set_option linter.unusedSimpArgs false

theorem LabSrc.keep {w W : World} {v : Value} {l : Labs} (h : LabSrc w v l) (k : Kept w W) : LabSrc W v l := h.stay k

set_option maxRecDepth 100000 in
set_option maxHeartbeats 3200000 in
theorem cmp11_walk (w : World) (va vb vc : Value) (a b c : Labs) (ha : In w va a) (hb : In w vb b) (hc : In w vc c) :
    Calls Try.prog 6 #[va, vb, vc] w fun e w' => e = .returned (.bool true) ∧ Kept w w' := by
  have HA := hid ha
  have HB := hid hb
  have HC := hid hc
  obtain ⟨a1, c1, rfl⟩ := ha.src.len
  obtain ⟨a2, c2, rfl⟩ := hb.src.len
  obtain ⟨a3, c3, rfl⟩ := hc.src.len
  have H0 := hid (alive_any w)
  have HBa := hid (fun W (k : Kept w W) => big_any W _ a (HA.out.src.stay k) (by have := HA.out.len; omega) HA.out.came)
  have HBb := hid (fun W (k : Kept w W) => big_any W _ b (HB.out.src.stay k) (by have := HB.out.len; omega) HB.out.came)
  have HBc := hid (fun W (k : Kept w W) => big_any W _ c (HC.out.src.stay k) (by have := HC.out.len; omega) HC.out.came)
  have HT : Hid (∀ r s t : Int, r = cmpL a b → s = cmpL b c → t = cmpL a c → ¬ (r ≤ 0 ∧ s ≤ 0 ∧ 0 < t)) := fun r s t h1 h2 h3 => by
    rintro ⟨q1, q2, q3⟩
    rw [h1] at q1
    rw [h2] at q2
    have := cmpL_good.trans_le q1 q2
    omega
  have HR := hid (cmpL_good.rng a b)
  have HNeg := hid (cmpL_good.anti a b)
  have HSelf := hid (cmpL_good.self a)
  clear ha hb hc
  go_enter Try.func6, Try.ntmps6
  go_wp2_with fail
  refine H0.out.mono ?_
  rintro e w1 ⟨rfl, k1⟩
  go_wp2_with fail
  refine (HBa.out w1 k1).mono ?_
  rintro e w2 ⟨rfl, k2'⟩
  have k2 : Kept w w2 := k1.trans k2' (fun _ _ f => f)
  by_cases ga : 4000 < bigN a
  · rw [decide_eq_true ga]
    go_wp2
    go_ret
    exact ⟨rfl, k2⟩
  rw [decide_eq_false ga]
  go_wp2_with fail
  refine (HBb.out w2 k2).mono ?_
  rintro e w3 ⟨rfl, k3'⟩
  have k3 : Kept w w3 := k2.trans k3' (fun _ _ f => f)
  by_cases gb : 4000 < bigN b
  · rw [decide_eq_true gb]
    go_wp2
    go_ret
    exact ⟨rfl, k3⟩
  rw [decide_eq_false gb]
  go_wp2_with fail
  refine (HBc.out w3 k3).mono ?_
  rintro e w4 ⟨rfl, k4'⟩
  have k4 : Kept w w4 := k3.trans k4' (fun _ _ f => f)
  by_cases gc : 4000 < bigN c
  · rw [decide_eq_true gc]
    go_wp2
    go_ret
    exact ⟨rfl, k4⟩
  rw [decide_eq_false gc]
  have la := (bigN_small (l := a) (by omega)).2
  have lb := (bigN_small (l := b) (by omega)).2
  have lc := (bigN_small (l := c) (by omega)).2
  have Hab := hid (fun W (k : Kept w W) => cmp_any W _ _ a b (HA.out.src.stay k) (HB.out.src.stay k) (by omega) (by omega))
  have Hbc := hid (fun W (k : Kept w W) => cmp_any W _ _ b c (HB.out.src.stay k) (HC.out.src.stay k) (by omega) (by omega))
  have Hac := hid (fun W (k : Kept w W) => cmp_any W _ _ a c (HA.out.src.stay k) (HC.out.src.stay k) (by omega) (by omega))
  have Hba := hid (fun W (k : Kept w W) => cmp_any W _ _ b a (HB.out.src.stay k) (HA.out.src.stay k) (by omega) (by omega))
  have Haa := hid (fun W (k : Kept w W) => cmp_any W _ _ a a (HA.out.src.stay k) (HA.out.src.stay k) (by omega) (by omega))
  have Hr := hid (fun W (k : Kept w W) => rcmp_any W _ _ a b (HA.out.src.stay k) (HB.out.src.stay k) (by omega) (by omega))
  rw [HNeg.out] at Hba
  rw [HSelf.out] at Haa
  generalize hp : cmpL a b = P at Hab Hba Hr HR
  generalize hq : cmpL b c = Q at Hbc
  generalize hr : cmpL a c = R at Hac
  have HF := hid (HT.out P Q R hp.symm hq.symm hr.symm)
  clear hp hq hr HT HNeg HSelf HBa HBb HBc H0 k1 k2 k3 k2' k3' k4' ga gb gc la lb lc
  go_wp2_with fail
  refine (Hab.out w4 k4).mono ?_
  rintro e w5 ⟨rfl, k5'⟩
  have k5 : Kept w w5 := k4.trans k5' (fun _ _ f => f)
  go_wp2_with fail
  refine (Hbc.out w5 k5).mono ?_
  rintro e w6 ⟨rfl, k6'⟩
  have k6 : Kept w w6 := k5.trans k6' (fun _ _ f => f)
  go_wp2_with fail
  refine (Hac.out w6 k6).mono ?_
  rintro e w7 ⟨rfl, k7'⟩
  have k7 : Kept w w7 := k6.trans k7' (fun _ _ f => f)
  go_wp2_with fail
  refine (Hr.out w7 k7).mono ?_
  rintro e w8 ⟨rfl, k8'⟩
  have k8 : Kept w w8 := k7.trans k8' (fun _ _ f => f)
  go_wp2_with fail
  refine (Hba.out w8 k8).mono ?_
  rintro e w9 ⟨rfl, k9'⟩
  have k9 : Kept w w9 := k8.trans k9' (fun _ _ f => f)
  have hneg : IntKind.i64.wrap (-P) = -P := by
    have := HR.out
    rw [IntKind.wrap_i64]
    omega
  have hbq : (-P == -P) = true := by simp
  go_wp2_with fail
  refine (Haa.out w9 k9).mono ?_
  rintro e w10 ⟨rfl, k10'⟩
  have k10 : Kept w w10 := k9.trans k10' (fun _ _ f => f)
  go_wp2
  all_goals go_ret
  all_goals refine ⟨?_, k10⟩
  all_goals first
    | rfl
    | (have hF := HF.out
       simp
       omega)
    | (exfalso; have hF := HF.out; omega)
end Go.Proofs.Ytfpncddoaenffaa.N
