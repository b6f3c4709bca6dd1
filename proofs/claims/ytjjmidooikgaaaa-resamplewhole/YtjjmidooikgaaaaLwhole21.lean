/-
  The law ResampleWhole.
-/
import Derived.Test.YtjjmidooikgaaaaPthold
namespace Go.Proofs.Ytjjmidooikgaaaa.Rs
open Go Go.RowKit Go.Proofs.Lys
open Ru (In64 one okT T0 int_cells kept_drewN Rising)
set_option linter.unusedVariables false
set_option linter.unusedSimpArgs false

/-- Samples at each step. -/
def wholeL (f s : Int) (vals : List Int) (n : Nat) : Smps := (List.range n).map (fun (j : Nat) => (f + (j : Int) * s, vals.getD j 0))
theorem whole_len (f s : Int) (vals : List Int) (n : Nat) : (wholeL f s vals n).length = n := by simp [wholeL]
theorem whole_at (f s : Int) (vals : List Int) (n j : Nat) (h : j < (wholeL f s vals n).length) : (wholeL f s vals n)[j] = (f + (j : Int) * s, vals.getD j 0) := by simp [wholeL]
theorem whole_snoc (f s : Int) (vals : List Int) (n : Nat) : wholeL f s vals (n + 1) = wholeL f s vals n ++ [(f + (n : Int) * s, vals.getD n 0)] := by
  simp [wholeL, List.range_succ]
theorem mul_lt {s : Int} (hs : 1 ≤ s) {i j : Nat} (h : i < j) : (i : Int) * s + s ≤ (j : Int) * s := by
  have h1 : ((i : Int) + 1) * s ≤ (j : Int) * s := Int.mul_le_mul_of_nonneg_right (by omega) (by omega)
  rw [Int.add_mul] at h1
  simp at h1
  exact h1
theorem whole_cut (f s : Int) (vals : List Int) (n k : Nat) (hs : 1 ≤ s) (hk : k ≤ n) : Cut (wholeL f s vals n) (f + (k : Int) * s) k := by
  refine ⟨by rw [whole_len]; exact hk, fun i h hi => ?_, fun i h hi => ?_⟩
  · rw [whole_at]
    have := mul_lt hs hi
    show f + (i : Int) * s < _
    omega
  · rw [whole_at]
    show _ ≤ f + (i : Int) * s
    rcases Nat.lt_or_eq_of_le hi with h1 | h1
    · have := mul_lt hs h1
      omega
    · subst h1
      omega
theorem whole_cell (f s : Int) (vals : List Int) (n k : Nat) (hs : 1 ≤ s) (hk : k < n) : cell f s (wholeL f s vals n) k = some (vals.getD k 0) := by
  have h1 := whole_cut f s vals n k hs (by omega)
  have h2 := whole_cut f s vals n (k + 1) hs (by omega)
  rw [stepX] at h2
  have h := (cell_at h1 h2 (by omega)).2 (by omega)
  rw [h, whole_at]
  rfl
theorem whole_ok (f s : Int) (vals : List Int) (n : Nat) (hf : 0 ≤ f) (hf2 : f ≤ 1099511627776) (hs : 1 ≤ s) (hs2 : s ≤ 1099511627776) (hn : n ≤ 500) : okT T0 ((wholeL f s vals n).map one) := by
  rw [← Ru.rising_okT _ _ rfl]
  intro i hi
  have hi2 : i < n := by rw [List.length_map, whole_len] at hi; exact hi
  have hp : 0 ≤ (i : Int) * s := Int.mul_nonneg (by omega) (by omega)
  have hq : (i : Int) * s ≤ 500 * 1099511627776 := Int.mul_le_mul (by omega) hs2 (by omega) (by omega)
  have e : ∀ j (hj : j < ((wholeL f s vals n).map (·.1)).length), ((wholeL f s vals n).map (·.1))[j] = f + (j : Int) * s := fun j hj => by
    rw [List.getElem_map, whole_at]
  rw [e i hi]
  refine ⟨by omega, by omega, fun h0 => ?_⟩
  rw [e (i - 1) (by omega)]
  have := mul_lt hs (show i - 1 < i by omega)
  omega
theorem now_all {c : Nat → Option Int} {v : Nat → Int} {n : Nat} (h : ∀ k, k < n → c k = some (v k)) (k : Nat) (hk : k < n) : nowC c (k + 1) = v k := now_some (h k hk)
theorem gap_all {c : Nat → Option Int} {v : Nat → Int} {n : Nat} (h : ∀ k, k < n → c k = some (v k)) : ∀ k, k ≤ n → gapC c k = 0 := by
  intro k
  induction k with
  | zero => intro _; rfl
  | succ k ih => intro hk; rw [gap_some (h k (by omega)), ih (by omega)]
/-- What is told of them. -/
theorem whole_ans (f s : Int) (vals : List Int) (hf : 0 ≤ f) (hf2 : f ≤ 1099511627776) (hs : 1 ≤ s) (hs2 : s ≤ 1099511627776) (hn : vals.length ≤ 500) (h1 : 0 < vals.length) : Ans (wholeL f s vals vals.length) f s (vals.length : Int) vals 0 0 := by
  have hc := fun k hk => whole_cell f s vals vals.length k hs hk
  refine ⟨.inr ⟨by omega, by omega, by omega, by omega, hs, by omega, .inr ⟨whole_ok f s vals _ hf hf2 hs hs2 hn, rfl⟩⟩, .inr ⟨rfl, ?_, 0, ?_, .inr ⟨?_, ?_⟩⟩⟩
  · rw [Int.toNat_natCast, gap_all hc _ (Nat.le_refl _)]
  · rw [Int.toNat_natCast]
    exact .inr ⟨h1, by rw [hc 0 h1]; rfl, fun j hj => absurd hj (Nat.not_lt_zero j)⟩
  · rw [Int.toNat_natCast]; exact h1
  · rw [Int.toNat_natCast]
    apply List.ext_getElem
    · rw [rowF_len]
    · intro j g1 g2
      rw [rowF_get]
      unfold outC
      rw [if_neg (by omega), now_all hc j g1, List.getD_eq_getElem?_getD, List.getElem?_eq_getElem g1]
      rfl
theorem smpAt_ssrc {w : World} {B : Nat} {v : Value} {l : Smps} (h : SmpAt w B v l) : SSrc w v l := by
  refine ⟨h.src, ?_⟩
  rcases h.2 with ⟨rfl, h0⟩ | ⟨g, cap, cur, rfl, _, _, hcap, _⟩
  · exact ⟨none, 0, by rw [h0], by omega⟩
  · exact ⟨_, cap, rfl, hcap⟩

set_option maxRecDepth 100000 in
set_option maxHeartbeats 3200000 in
theorem whole_walk (w : World) (va : Value) (vals : List Int) (f s : Int) (ha : IIn w va vals) (hf : In64 f) (hs : In64 s) :
    Calls Try.prog 4 #[va, .int .i64 f, .int .i64 s] w fun e w' => e = .returned (.bool true) ∧ Kept w w' := by
  obtain ⟨hss, hle, hin⟩ := ha
  obtain ⟨ra, rc, hve⟩ := hss.len
  rw [List.length_map] at hve
  subst hve
  have HAL := hid (alive_any w)
  obtain ⟨L, hL⟩ : ∃ L, vals.length = L := ⟨_, rfl⟩
  rw [hL] at hss hle ⊢
  have HS := hid hss
  have HL := hid hL
  have HIN := hid hin
  clear hss hL hin
  by_cases hbad : L < 1 ∨ 500 < L ∨ f < 0 ∨ 1099511627776 < f ∨ s < 1 ∨ 1099511627776 < s
  · have HBAD : Hid (Calls Try.prog 4 #[.slice ra L rc, .int .i64 f, .int .i64 s] w fun e w' => e = .returned (.bool true) ∧ Kept w w') := hid (by
      by_cases h1 : L < 1
      · have d1 : decide ((L : Int) < 1) = true := by simp; omega
        clear hbad
        go_enter Try.func4, Try.ntmps4
        go_wp2_with fail
        refine HAL.out.mono ?_
        rintro e w2 ⟨rfl, k2⟩
        have K2 := hid k2
        clear k2
        go_wp2
        go_ret
        exact ⟨rfl, K2.out⟩
      have d1 : decide ((L : Int) < 1) = false := by simp; omega
      by_cases h2 : 500 < L
      · have d2 : decide (500 < (L : Int)) = true := by simp; omega
        clear hbad
        go_enter Try.func4, Try.ntmps4
        go_wp2_with fail
        refine HAL.out.mono ?_
        rintro e w2 ⟨rfl, k2⟩
        have K2 := hid k2
        clear k2
        go_wp2
        go_ret
        exact ⟨rfl, K2.out⟩
      have d2 : decide (500 < (L : Int)) = false := by simp; omega
      by_cases h3 : f < 0
      · have d3 : decide (f < 0) = true := by simp; omega
        clear hbad
        go_enter Try.func4, Try.ntmps4
        go_wp2_with fail
        refine HAL.out.mono ?_
        rintro e w2 ⟨rfl, k2⟩
        have K2 := hid k2
        clear k2
        go_wp2
        go_ret
        exact ⟨rfl, K2.out⟩
      have d3 : decide (f < 0) = false := by simp; omega
      by_cases h4 : 1099511627776 < f
      · have d4 : decide (1099511627776 < f) = true := by simp; omega
        clear hbad
        go_enter Try.func4, Try.ntmps4
        go_wp2_with fail
        refine HAL.out.mono ?_
        rintro e w2 ⟨rfl, k2⟩
        have K2 := hid k2
        clear k2
        go_wp2
        go_ret
        exact ⟨rfl, K2.out⟩
      have d4 : decide (1099511627776 < f) = false := by simp; omega
      by_cases h5 : s < 1
      · have d5 : decide (s < 1) = true := by simp; omega
        clear hbad
        go_enter Try.func4, Try.ntmps4
        go_wp2_with fail
        refine HAL.out.mono ?_
        rintro e w2 ⟨rfl, k2⟩
        have K2 := hid k2
        clear k2
        go_wp2
        go_ret
        exact ⟨rfl, K2.out⟩
      have d5 : decide (s < 1) = false := by simp; omega
      have h6 : 1099511627776 < s := by omega
      have d6 : decide (1099511627776 < s) = true := by simp; omega
      clear hbad
      go_enter Try.func4, Try.ntmps4
      go_wp2_with fail
      refine HAL.out.mono ?_
      rintro e w2 ⟨rfl, k2⟩
      have K2 := hid k2
      clear k2
      go_wp2
      go_ret
      exact ⟨rfl, K2.out⟩)
    exact HBAD.out
  have h1 : ¬ L < 1 := by omega
  have h2 : ¬ 500 < L := by omega
  have h3 : ¬ f < 0 := by omega
  have h4 : ¬ 1099511627776 < f := by omega
  have h5 : ¬ s < 1 := by omega
  have h6 : ¬ 1099511627776 < s := by omega
  have d1 : decide ((L : Int) < 1) = false := by simp; omega
  have d2 : decide (500 < (L : Int)) = false := by simp; omega
  have d3 : decide (f < 0) = false := by simp; omega
  have d4 : decide (1099511627776 < f) = false := by simp; omega
  have d5 : decide (s < 1) = false := by simp; omega
  have d6 : decide (1099511627776 < s) = false := by simp; omega
  have HAN : Hid (Ans (wholeL f s vals L) f s (L : Int) vals 0 0) := hid (by
    have h := whole_ans f s vals (by omega) (by omega) (by omega) (by omega) (by rw [HL.out]; omega) (by rw [HL.out]; omega)
    rw [HL.out] at h
    exact h)
  have HLI : Hid (∀ p ∈ wholeL f s vals L, In64 p.1 ∧ In64 p.2) := hid (fun p hp => by
    obtain ⟨j, hj, rfl⟩ := List.getElem_of_mem hp
    rw [whole_at]
    rw [whole_len] at hj
    have hp : 0 ≤ (j : Int) * s := Int.mul_nonneg (by omega) (by omega)
    have hq : (j : Int) * s ≤ 500 * 1099511627776 := Int.mul_le_mul (by omega) (by omega) (by omega) (by omega)
    refine ⟨?_, ?_⟩
    · show In64 (f + (j : Int) * s)
      unfold In64
      omega
    · show In64 (vals.getD j 0)
      rw [List.getD_eq_getElem?_getD, List.getElem?_eq_getElem (by rw [HL.out]; exact hj)]
      exact HIN.out _ (List.getElem_mem _))
  have hsI : In64 s := hs
  have HNU := hid (fun W => num_any 0 W ⟨by decide, by decide⟩)
  have HPT := hid (fun W ra rc (h : SSrc W (.slice ra L rc) (wholeL f s vals L)) => points_any W ra L rc (wholeL f s vals L) f s (L : Int) h (whole_len _ _ _ _) (by omega) HLI.out hsI)
  have HGA := hid (fun W ra rc (h : SSrc W (.slice ra L rc) (wholeL f s vals L)) => gaps_any W ra L rc (wholeL f s vals L) f s (L : Int) h (whole_len _ _ _ _) (by omega) HLI.out hsI)
  clear hbad hs hf hle hsI
  go_enter Try.func4, Try.ntmps4
  go_wp2_with fail
  refine HAL.out.mono ?_
  rintro e w2 ⟨rfl, k2⟩
  have K2 := hid k2
  clear k2 HAL
  go_wp2_with fail
  go_loopw [9, 8] (fun s9 s8 W => ∃ (i : Nat) (u : Value), i ≤ L ∧ s9 = .int .i64 (i : Int) ∧ u = s8 ∧ Hid (SmpAt W w2.heap.size u (wholeL f s vals i)) ∧ Kept w2 W) (fun s9 _ _ => L - (intOf s9).toNat)
  case atStart => exact ⟨0, _, by omega, rfl, rfl, hid (World.ownsRow_nil _ _ _ _), Only.refl _ _⟩
  case round =>
    obtain ⟨i, u, hi, rfl, rfl, hv, kr⟩ := hrel
    have KR := hid kr
    by_cases hlt : i < L
    · have hil : i < vals.length := by have := HL.out; omega
      rcases HS.out.shape with ⟨hnil, _⟩ | ⟨hpos, b, o, c, he, hc⟩
      · rw [List.map_eq_nil_iff.1 hnil] at hil
        exact absurd hil (Nat.not_lt_zero _)
      rw [List.length_map, HL.out] at he
      simp only [Value.slice.injEq, and_true, true_and] at he
      obtain ⟨rfl, rfl⟩ := he
      clear hpos hc
      have c0 := int_cells ((HS.out.stay K2.out).stay kr) i hil
      obtain ⟨V, hV⟩ : ∃ V, vals[i] = V := ⟨_, rfl⟩
      rw [hV] at c0
      obtain ⟨P, hP⟩ : ∃ P, (i : Int) * s = P := ⟨_, rfl⟩
      have hP2 : 0 ≤ P := by rw [← hP]; exact Int.mul_nonneg (by omega) (by omega)
      have hP3 : P ≤ 549755813888000 := by
        rw [← hP]
        have := Int.mul_le_mul (show (i : Int) ≤ 500 by omega) (show s ≤ 1099511627776 by omega) (by omega) (by omega)
        omega
      have hw1 : wrap64 ((i : Int) * s) = P := by rw [hP]; unfold wrap64; omega
      have hw2 : wrap64 (f + P) = f + P := by unfold wrap64; omega
      have hlen := whole_len f s vals i
      obtain ⟨g, cap, w3, HR, h1, k1⟩ := smp_step hv.out kr (f + P, V) (by rw [hlen]; omega)
      rw [hlen] at HR h1
      have hsn : wholeL f s vals i ++ [(f + P, V)] = wholeL f s vals (i + 1) := by
        rw [whole_snoc, hP, List.getD_eq_getElem?_getD, List.getElem?_eq_getElem hil, hV]
        rfl
      rw [hsn] at h1
      have H1 := hid h1
      have K1 := hid k1
      obtain ⟨va, vc, hve⟩ := ownN_slice hv.out
      subst hve
      have hb : b < wr.heap.size := World.block_lt_of_cell? wr _ c0
      clear kr hv hV hP hlen h1 k1 hsn
      go_wp2_with (at_builtin; refine wpList_append_run rfl _ _ _ rfl rfl rfl HR ?_)
      go_roundw
      case rel => exact ⟨i + 1, _, by omega, by go_num, rfl, H1, K1.out⟩
      case measure => simp [intOf]; omega
    · have e : L = i := by omega
      subst e
      obtain ⟨va, vc, hve⟩ := ownN_slice hv.out
      rw [whole_len] at hve
      subst hve
      have HSS := hid (smpAt_ssrc hv.out)
      have HP2 := hid (HPT.out wr va vc HSS.out)
      have K3 := hid (K2.out.trans kr (fun _ _ f => f))
      clear kr hv HPT
      go_wp2_with fail
      refine HP2.out.mono ?_
      rintro e w3 hp
      obtain ⟨v, r, g, x, ha, rfl, hv, k3⟩ := pts_ans hp
      obtain ⟨rfl, rfl, rfl⟩ := HAN.out.inj ha
      obtain ⟨a3, c3, hve⟩ := hv.len
      rw [List.length_map, HL.out] at hve
      subst hve
      have HV3 := hid hv
      have HS3 := hid (((HS.out.stay K2.out).stay KR.out).stay k3)
      have K4 := hid (K3.out.trans k3 (fun _ _ f => f))
      have HG3 := hid (HGA.out w3 va vc (HSS.out.stay k3))
      clear hp ha hv k3 HP2 HGA
      go_wp2_with fail
      refine HG3.out.mono ?_
      rintro e w4 hg
      obtain ⟨r2, g2, x2, ha2, rfl, k4⟩ := gap_ans hg
      obtain ⟨-, rfl, rfl⟩ := HAN.out.inj ha2
      have HSA := hid (same_any w4 (.slice a3 L c3) (.slice ra L rc) r (HV3.out.stay k4) (HS3.out.stay k4) (by rw [HL.out]; omega))
      have K5 := hid (K4.out.trans k4 (fun _ _ f => f))
      clear hg ha2 k4 HG3
      go_wp2_with fail
      refine (HNU.out _).mono ?_
      rintro e w6 ⟨rfl, hw6⟩
      replace hw6 := hw6.symm
      subst hw6
      go_wp2_with fail
      refine (HNU.out _).mono ?_
      rintro e w6 ⟨rfl, hw6⟩
      replace hw6 := hw6.symm
      subst hw6
      go_wp2_with fail
      refine HSA.out.mono ?_
      rintro e w6 ⟨rfl, k6⟩
      have K6 := hid (K5.out.trans k6 (fun _ _ f => f))
      clear k6 HSA
      go_wp2
      go_ret
      exact ⟨rfl, K6.out⟩
end Go.Proofs.Ytjjmidooikgaaaa.Rs
