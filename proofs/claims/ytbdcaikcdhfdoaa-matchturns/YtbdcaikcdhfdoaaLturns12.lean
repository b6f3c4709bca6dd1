/-
  The law of is and is not.
-/
import Derived.Test.YtbdcaikcdhfdoaaMlaw
import Derived.Test.YtbdcaikcdhfdoaaMrcheck
namespace Go.Proofs.Ytbdcaikcdhfdoaa.N
open Go.RowKit Go.Proofs.Lys
set_option linter.unusedVariables false
set_option linter.unusedSimpArgs false

theorem fits_one {n : Int} (hn : 1 ≤ n ∧ n ≤ 3) {X Y : ByteArray} (of_ : Labs) (hX : nameOk X = true) (hY : Y.size ≤ 64) : fitsB [(n, X, Y)] of_ = fitV n (foundV of_ X) Y := by
  have hc : checkM [(n, X, Y)] = 0 := checkM_zero.2 ⟨by simp, fun m hm => by
    rw [List.mem_singleton.1 hm]
    exact matOk_yes (by omega) (by omega) hX (by omega) (fun e => by omega)⟩
  unfold fitsB
  rw [decide_eq_true hc]
  simp [fitB]
theorem fits_nil (of_ : Labs) : fitsB [] of_ = true := rfl
theorem small_one (n : Int) {X Y : ByteArray} (hX : X.size ≤ 100000) (hY : Y.size ≤ 100000) : SmallM [(n, X, Y)] := fun x hx => by
  rw [List.mem_singleton.1 hx]
  exact ⟨hX, hY⟩

set_option maxRecDepth 100000 in
set_option maxHeartbeats 3200000 in
theorem turns12_walk (w : World) (u : Value) (of_ : Labs) (X Y : ByteArray) (ho : In w u of_) (hx : X.size ≤ 9223372036854775807) (hy : Y.size ≤ 9223372036854775807) :
    Calls Try.prog 6 #[u, .string X, .string Y] w fun e w' => e = .returned (.bool true) ∧ Kept w w' := by
  have HO := hid ho
  obtain ⟨a2, c2, rfl⟩ := ho.src.len
  have H0 := hid (malive_any w)
  have HBo := hid (fun W (k : Kept w W) => big_any W _ of_ (HO.out.src.stay k) (by have := HO.out.len; omega) HO.out.came)
  have HNm := hid (fun W => rname_any W X hx)
  clear ho
  go_enter Try.func6, Try.ntmps6
  go_wp2_with fail
  refine H0.out.mono ?_
  rintro e w1 ⟨rfl, k1⟩
  have HK1 := hid k1
  go_wp2_with fail
  refine (HBo.out w1 k1).mono ?_
  rintro e w2 ⟨rfl, k2⟩
  have HK2 := hid (HK1.out.trans k2 (fun _ _ f => f))
  clear k1 k2 H0
  go_wp2_with fail
  refine (HNm.out w2).mono ?_
  rintro e w3 ⟨rfl, hq⟩
  replace hq := hq.symm
  subst hq
  by_cases ga : 4000 < bigN of_
  · rw [decide_eq_true ga]
    go_wp2
    go_ret
    exact ⟨rfl, HK2.out⟩
  rw [decide_eq_false ga]
  obtain ⟨so, lo⟩ := bigN_small (l := of_) (by omega)
  clear ga so
  cases hn : nameOk X with
  | false =>
    go_wp2
    go_ret
    exact ⟨rfl, HK2.out⟩
  | true =>
    by_cases hY : 64 < Y.size
    · have hY' : (64 : Int) < (Y.size : Int) := by omega
      go_wp2
      all_goals try (exfalso; omega)
      go_ret
      exact ⟨rfl, HK2.out⟩
    have hY' : ¬ ((64 : Int) < (Y.size : Int)) := by omega
    have hX64 : X.size ≤ 64 := by
      have h := hn
      simp only [nameOk, Bool.and_eq_true, decide_eq_true_eq] at h
      exact h.1.1.2
    have HF := hid (fun (n : Int) (h1 : 1 ≤ n ∧ n ≤ 3) (Z : ByteArray) (hZ : Z.size ≤ 64) W (kW : Kept w W) => fits_any (W.alloc (.cells #[.int .i64 n, .string X, .string Z] 40)) _ (.slice a2 of_.length c2) [(n, X, Z)] of_ (mat_lit W (n, X, Z)) (by simp) (small_one n (by omega) (by omega)) (HO.out.src.stay (kW.alloc _)) (by omega))
    have HF2 : Hid (∀ (n : Int) (h1 : 1 ≤ n ∧ n ≤ 3) (Z : ByteArray) (hZ : Z.size ≤ 64) W (kW : Kept w W), Calls Try.prog 13 #[.slice (some ⟨W.heap.size, 0, none⟩) 1 1, .slice a2 of_.length c2] (W.alloc (.cells #[.int .i64 n, .string X, .string Z] 40)) fun e w' => e = .returned (.bool (fitV n (foundV of_ X) Z)) ∧ Kept w w') := fun n h1 Z hZ W kW => by
      refine (HF.out n h1 Z hZ W kW).mono ?_
      rintro e w' ⟨rfl, k'⟩
      exact ⟨by rw [fits_one h1 of_ hn hZ], (kW.alloc _).trans k' (fun _ _ f => f)⟩
    have HFn := hid (fun W (kW : Kept w W) => fits_any W (.slice none 0 0) (.slice a2 of_.length c2) [] of_ (.inl ⟨none, 0, rfl, rfl⟩) (by simp) (fun x hx => by cases hx) (HO.out.src.stay kW) (by omega))
    have e1 : fitV 1 (foundV of_ X) Y = decide ((foundV of_ X).1 = Y) := rfl
    have e2 : fitV 2 (foundV of_ X) Y = !decide ((foundV of_ X).1 = Y) := rfl
    have e3 : fitV 3 (foundV of_ X) Y = Lib.hasPrefix (foundV of_ X).1.data.toList Y.data.toList := rfl
    have e4 : fitV 3 (foundV of_ X) ⟨#[]⟩ = true := rfl
    have hpre : Hid ((foundV of_ X).1 = Y → Lib.hasPrefix (foundV of_ X).1.data.toList Y.data.toList = true) := fun h => by
      rw [h]
      unfold Lib.hasPrefix
      exact List.isPrefixOf_iff_prefix.2 (List.prefix_refl _)
    have G1 := hid (HF2.out 1 (by omega) Y (by omega))
    have G2 := hid (HF2.out 2 (by omega) Y (by omega))
    have G3 := hid (HF2.out 3 (by omega) Y (by omega))
    have G4 := hid (HF2.out 3 (by omega) ⟨#[]⟩ (by show (0 : Nat) ≤ 64; omega))
    rw [e1] at G1
    rw [e2] at G2
    rw [e3] at G3
    rw [e4] at G4
    clear e1 e2 e3 e4 HF HF2 hn
    generalize (foundV of_ X).1 = V at G1 G2 G3 hpre
    generalize of_.length = O at G1 G2 G3 G4 HFn lo ⊢
    by_cases hv : V = Y
    · rw [decide_eq_true hv] at G1 G2
      rw [hpre.out hv] at G3
      clear hv hpre
      go_wp2_with fail
      refine (G1.out _ HK2.out).mono ?_
      rintro e w4 ⟨rfl, k4⟩
      go_wp2_with fail
      refine (G2.out _ k4).mono ?_
      rintro e w5 ⟨rfl, k5⟩
      go_wp2_with fail
      refine (G3.out _ k5).mono ?_
      rintro e w6 ⟨rfl, k6⟩
      go_wp2_with fail
      refine (G4.out _ k6).mono ?_
      rintro e w7 ⟨rfl, k7⟩
      go_wp2_with fail
      refine (HFn.out _ k7).mono ?_
      rintro e w8 ⟨rfl, k8⟩
      go_wp2
      go_ret
      exact ⟨rfl, k7.trans k8 (fun _ _ f => f)⟩
    · rw [decide_eq_false hv] at G1 G2
      clear hv hpre
      generalize Lib.hasPrefix V.data.toList Y.data.toList = PB at G3
      go_wp2_with fail
      refine (G1.out _ HK2.out).mono ?_
      rintro e w4 ⟨rfl, k4⟩
      go_wp2_with fail
      refine (G2.out _ k4).mono ?_
      rintro e w5 ⟨rfl, k5⟩
      go_wp2_with fail
      refine (G3.out _ k5).mono ?_
      rintro e w6 ⟨rfl, k6⟩
      go_wp2_with fail
      refine (G4.out _ k6).mono ?_
      rintro e w7 ⟨rfl, k7⟩
      go_wp2_with fail
      refine (HFn.out _ k7).mono ?_
      rintro e w8 ⟨rfl, k8⟩
      go_wp2
      go_ret
      exact ⟨rfl, k7.trans k8 (fun _ _ f => f)⟩
end Go.Proofs.Ytbdcaikcdhfdoaa.N
