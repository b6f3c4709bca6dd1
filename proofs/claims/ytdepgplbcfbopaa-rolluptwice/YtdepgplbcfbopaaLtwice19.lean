/-
  The law RollupTwice.
-/
import Derived.Test.YtdepgplbcfbopaaYopen
import Derived.Test.YtdepgplbcfbopaaYrise
namespace Go.Proofs.Ytdepgplbcfbopaa.Ru
open Go Go.RowKit Go.Proofs.Lys Go.Shelf
set_option linter.unusedVariables false
set_option linter.unusedSimpArgs false

theorem gat_none (x : Int) {l : Bks} (h : (gat x l).length = 0) : gat x l = [] := List.length_eq_zero_iff.1 h
set_option maxRecDepth 100000 in
set_option maxHeartbeats 6400000 in
theorem twice_walk (w : World) (va : Value) (l : Smps) (x k : Int) (ha : SIn w va l) (hx : In64 x) (hk : In64 k) :
    Calls Try.prog 5 #[va, .int .i64 x, .int .i64 k] w fun e w' => e = .returned (.bool true) ∧ Kept w w' := by
  obtain ⟨ra, rc, rfl⟩ := ha.1.len
  have HAL := hid (alive_any w)
  have HA := hid ha.1
  have HIN := hid ha.2.2
  have hle := ha.2.1
  obtain ⟨L, hL⟩ : ∃ L, l.length = L := ⟨_, rfl⟩
  have HL := hid hL
  rw [hL] at HA hle ⊢
  clear ha hL
  by_cases h1 : 500 < L
  · have d1 : decide (500 < (L : Int)) = true := by simp; omega
    clear h1
    go_enter Try.func5, Try.ntmps5
    go_wp2_with fail
    refine HAL.out.mono ?_
    rintro e w2 ⟨rfl, k2⟩
    have K2 := hid k2
    clear k2
    go_wp2
    go_ret
    exact ⟨rfl, K2.out⟩
  · have d1 : decide (500 < (L : Int)) = false := by simp; omega
    have HL5 := hid (show L ≤ 500 by omega)
    clear h1
    by_cases h2 : x < 1
    · have d2 : decide (x < 1) = true := by simp [h2]
      clear h2
      go_enter Try.func5, Try.ntmps5
      go_wp2_with fail
      refine HAL.out.mono ?_
      rintro e w2 ⟨rfl, k2⟩
      have K2 := hid k2
      clear k2
      go_wp2
      go_ret
      exact ⟨rfl, K2.out⟩
    · have d2 : decide (x < 1) = false := by simp; omega
      by_cases h3 : 1048576 < x
      · have d3 : decide (1048576 < x) = true := by simp [h3]
        clear h2 h3
        go_enter Try.func5, Try.ntmps5
        go_wp2_with fail
        refine HAL.out.mono ?_
        rintro e w2 ⟨rfl, k2⟩
        have K2 := hid k2
        clear k2
        go_wp2
        go_ret
        exact ⟨rfl, K2.out⟩
      · have d3 : decide (1048576 < x) = false := by simp; omega
        by_cases h4 : k < 1
        · have d4 : decide (k < 1) = true := by simp [h4]
          clear h2 h3 h4
          go_enter Try.func5, Try.ntmps5
          go_wp2_with fail
          refine HAL.out.mono ?_
          rintro e w2 ⟨rfl, k2⟩
          have K2 := hid k2
          clear k2
          go_wp2
          go_ret
          exact ⟨rfl, K2.out⟩
        · have d4 : decide (k < 1) = false := by simp; omega
          by_cases h5 : 1048576 < k
          · have d5 : decide (1048576 < k) = true := by simp [h5]
            clear h2 h3 h4 h5
            go_enter Try.func5, Try.ntmps5
            go_wp2_with fail
            refine HAL.out.mono ?_
            rintro e w2 ⟨rfl, k2⟩
            have K2 := hid k2
            clear k2
            go_wp2
            go_ret
            exact ⟨rfl, K2.out⟩
          · have d5 : decide (1048576 < k) = false := by simp; omega
            have HB := hid (show 1 ≤ x ∧ x ≤ 1048576 ∧ 1 ≤ k ∧ k ≤ 1048576 by omega)
            clear h2 h3 h4 h5
            go_enter Try.func5, Try.ntmps5
            go_wp2_with fail
            refine HAL.out.mono ?_
            rintro e w2 ⟨rfl, k2⟩
            have K2 := hid k2
            clear k2 HAL
            go_wp2_with fail
            have HX := hid hx
            clear hx hk
            go_loopw [8] (fun s wr => ∃ (i : Nat), i ≤ L ∧ s = .int .i64 (i : Int) ∧ Kept w wr ∧ Hid (∀ j (hj : j < l.length), j < i → -1125899906842624 ≤ (l[j]).2 ∧ (l[j]).2 ≤ 1125899906842624)) (fun s _ => L - (intOf s).toNat)
            case atStart => exact ⟨0, by omega, rfl, K2.out, hid (fun j _ h => absurd h (Nat.not_lt_zero j))⟩
            case round =>
              obtain ⟨i, hi, rfl, kr, hv⟩ := hrel
              have KR := hid kr
              by_cases hlt : i < L
              · have hil : i < l.length := by have := HL.out; omega
                obtain ⟨b, o, rfl, c0, c1⟩ := (HA.out.stay kr).cell HL.out i hlt
                obtain ⟨V, hV⟩ : ∃ V, (l[i]).2 = V := ⟨_, rfl⟩
                have HV := hid hV
                rw [hV] at c1
                clear kr hV
                by_cases g1 : 1125899906842624 < V
                · have e1 : decide (1125899906842624 < V) = true := by simp [g1]
                  clear g1
                  go_wp2
                  go_ret
                  exact ⟨rfl, KR.out⟩
                · have e1 : decide (1125899906842624 < V) = false := by simp; omega
                  by_cases g2 : V < -1125899906842624
                  · have e2 : decide (V < -1125899906842624) = true := by simp [g2]
                    clear g1 g2
                    go_wp2
                    go_ret
                    exact ⟨rfl, KR.out⟩
                  · have e2 : decide (V < -1125899906842624) = false := by simp; omega
                    have HVV := hid (show -1125899906842624 ≤ V ∧ V ≤ 1125899906842624 by omega)
                    clear g1 g2
                    go_wp2
                    go_roundw
                    case rel =>
                      refine ⟨i + 1, by omega, by go_num, KR.out, hid (fun j hj hji => ?_)⟩
                      by_cases e : j = i
                      · subst e
                        rw [HV.out]
                        exact HVV.out
                      · exact hv.out j hj (by omega)
                    case measure => simp [intOf]; omega
              · have e0 : i = L := by omega
                have HSM : Hid (Sml (l.map one)) := hid (sml_one (fun p hp => by
                  obtain ⟨j, hj, rfl⟩ := List.getElem_of_mem hp
                  exact hv.out j hj (by have := HL.out; omega)))
                have hll : (l.map one).length = L := by rw [List.length_map]; exact HL.out
                have HBU := hid (buckets_any _ ra rc l x (by rw [HL.out]; exact HA.out.stay kr) HIN.out HX.out (by have := HL.out; have := HL5.out; omega))
                rw [HL.out] at HBU
                have HNU := hid (fun W => num_any 0 W ⟨by decide, by decide⟩)
                have HNV := hid (fun W => num_any 21 W ⟨by decide, by decide⟩)
                subst e0
                clear kr hv
                go_wp2_with fail
                refine HBU.out.mono ?_
                rintro e w3 ⟨k3, ⟨hb, _⟩ | ⟨_, _, hn, rfl⟩ | ⟨_, _, hok, v3, rfl, h3⟩⟩
                · have := HB.out; omega
                · have K3 := hid (KR.out.trans k3 (fun _ _ f => f))
                  clear k3 hn HBU
                  go_wp2_with fail
                  refine (HNV.out _).mono ?_
                  rintro e w4 ⟨rfl, hw4⟩
                  replace hw4 := hw4.symm
                  subst hw4
                  go_wp2
                  go_ret
                  exact ⟨rfl, K3.out⟩
                · have K3 := hid (KR.out.trans k3 (fun _ _ f => f))
                  have K33 := hid k3
                  obtain ⟨a3, c3, hv3⟩ := ownN_slice h3
                  obtain ⟨A, hA⟩ : ∃ A, gat x (l.map one) = A := ⟨_, rfl⟩
                  have HAE := hid hA
                  have HLA : Hid (A.length ≤ i) := hid (by rw [← hA]; have := gat_len x (l.map one); omega)
                  rw [hA] at h3 hv3
                  have HS3 := hid h3.src
                  have HOKK := hid hok
                  subst hv3
                  obtain ⟨M, hM⟩ : ∃ M, A.length = M := ⟨_, rfl⟩
                  have HM := hid hM
                  rw [hM] at HS3 HLA ⊢
                  clear k3 hok HBU h3 hA hM
                  obtain ⟨X, hX⟩ : ∃ X, x * k = X := ⟨_, rfl⟩
                  have HXB : Hid (1 ≤ X ∧ X ≤ 1099511627776) := hid (by
                    have hb := HB.out
                    have m1 := Int.mul_le_mul hb.1 hb.2.2.1 (by omega) (by omega)
                    have m2 := Int.mul_le_mul hb.2.1 hb.2.2.2 (by omega) (by omega)
                    rw [hX] at m1 m2
                    omega)
                  have HGG : Hid (gat X A = gat X (l.map one)) := hid (by
                    rw [← HAE.out, ← hX]
                    refine gat_gat x (x * k) _ _ rfl (fun b hb => ?_) HSM.out (by rw [tot_one]; have := HL.out; have := HL5.out; omega)
                    have hm := okT_mem HOKK.out b hb
                    exact floor_floor HB.out.1 HB.out.2.2.1 (by have hm1 := hm.1; have ht0 : T0 = -9007199254740993 := rfl; omega) hm.2 HB.out.2.1 HB.out.2.2.2)
                  have HWI : Hid (∀ W, Kept w3 W → Calls Try.prog 14 #[.slice a3 M c3, .int .i64 X] W (GatP W X A)) := hid (fun W kW => by
                    have q := wider_any 500 W a3 c3 A X (by rw [HM.out]; exact HS3.out.stay kW) (fun b hb => by
                      rw [← HAE.out] at hb
                      have q1 := gat_ok x 1 (l.map one) (fun b hb => by obtain ⟨p, hp, rfl⟩ := List.mem_map.1 hb; have := HIN.out p hp; exact one_ok this.1 this.2) b hb
                      exact q1.mono (by rw [hll]; have := HL5.out; omega)) (by have := HXB.out; unfold In64; omega) (by have := HM.out; have := HLA.out; have := HL5.out; omega) (by have := HM.out; have := HLA.out; have := HL5.out; omega)
                    rw [HM.out] at q
                    exact q)
                  have HBX : Hid (∀ W, Kept w3 W → Calls Try.prog 8 #[.slice ra i rc, .int .i64 X] W (GatP W X (l.map one))) := hid (fun W kW => by
                    have q := buckets_any W ra rc l X (by rw [HL.out]; exact HA.out.stay (K3.out.trans kW (fun _ _ f => f))) HIN.out (by have := HXB.out; unfold In64; omega) (by have := HL.out; have := HL5.out; omega)
                    rw [HL.out] at q
                    exact q)
                  have HRI : Hid (okT (-36028797018963968) A) := hid (by
                    rw [← HAE.out]
                    exact (gat_rise x _ HB.out.1 _ _ rfl HOKK.out (fun b hb => floor_low HB.out.1 (by have := HB.out; omega) (okT_mem HOKK.out b hb).1)).1)
                  have hxb : X ≤ 1099511627776 := HXB.out.2
                  have hxa : 1 ≤ X := HXB.out.1
                  by_cases hM0 : M = 0
                  · have HOKA : Hid (okT T0 A) := hid (by
                      have : A = [] := List.length_eq_zero_iff.1 (HM.out.trans hM0)
                      rw [this]; trivial)
                    subst hM0
                    clear hll hle
                    go_wp2_with fail
                    refine (HNU.out _).mono ?_
                    rintro e w4 ⟨rfl, hw4⟩
                    replace hw4 := hw4.symm
                    subst hw4
                    go_wp2_with fail
                    refine (HWI.out _ (Only.refl _ _)).mono ?_
                    rintro e w5 ⟨k5, ⟨hb, _⟩ | ⟨_, _, hn, _⟩ | ⟨_, _, _, v5, rfl, h5⟩⟩
                    · have := HXB.out; omega
                    · exact absurd HOKA.out hn
                    · have K5 := hid (K3.out.trans k5 (fun _ _ f => f))
                      have HB6 := hid (HBX.out _ k5)
                      have HS5 := hid h5.src
                      obtain ⟨a5, c5, hv5⟩ := ownN_slice h5
                      subst hv5
                      obtain ⟨N5, hN5⟩ : ∃ N5, (gat X A).length = N5 := ⟨_, rfl⟩
                      rw [hN5] at HS5 ⊢
                      clear h5 k5 HWI HBX hN5
                      go_wp2_with fail
                      refine HB6.out.mono ?_
                      rintro e w6 ⟨k6, ⟨hb, _⟩ | ⟨_, _, hn, _⟩ | ⟨_, _, _, v6, rfl, h6⟩⟩
                      · have := HXB.out; omega
                      · exact absurd HOKK.out hn
                      · have K6 := hid (K5.out.trans k6 (fun _ _ f => f))
                        have HS6 := hid h6.src
                        have HSA : Hid (∀ W, Kept w6 W → Calls Try.prog 11 #[.slice a5 N5 c5, v6] W fun e w' => e = .returned (.bool true) ∧ Kept W w') := hid (fun W k => by
                          have q1 := HS6.out.stay k
                          rw [← HGG.out] at q1
                          exact same_any W _ _ (gat X A) ((HS5.out.stay k6).stay k) q1 (by have := gat_len X A; have := HM.out; have := HLA.out; have := HL5.out; omega))
                        obtain ⟨a6, c6, hv6⟩ := ownN_slice h6
                        subst hv6
                        obtain ⟨N6, hN6⟩ : ∃ N6, (gat X (l.map one)).length = N6 := ⟨_, rfl⟩
                        rw [hN6] at HSA ⊢
                        clear h6 k6 HB6 hN6
                        go_wp2_with fail
                        refine (HNU.out _).mono ?_
                        rintro e w7 ⟨rfl, hw7⟩
                        replace hw7 := hw7.symm
                        subst hw7
                        go_wp2_with fail
                        refine (HNU.out _).mono ?_
                        rintro e w7 ⟨rfl, hw7⟩
                        replace hw7 := hw7.symm
                        subst hw7
                        go_wp2_with fail
                        refine (HSA.out _ (Only.refl _ _)).mono ?_
                        rintro e w8 ⟨rfl, k8⟩
                        have K8 := hid (K6.out.trans k8 (fun _ _ f => f))
                        clear k8 HSA
                        go_wp2
                        go_ret
                        exact ⟨rfl, K8.out⟩
                  · obtain ⟨y, r, hyr⟩ : ∃ y r, A = y :: r := by
                      cases hAc : A with
                      | nil => exfalso; rw [hAc] at HM; exact hM0 HM.out.symm
                      | cons y r => exact ⟨y, r, rfl⟩
                    obtain ⟨b3, o3, rfl, hc3⟩ := HS3.out.cell HM.out 0 (by omega)
                    have hy0 : A[0]'(by have := HM.out; omega) = y := by simp [hyr]
                    have c0 := hc3.six.1
                    rw [hy0, Nat.zero_mul, Nat.add_zero] at c0
                    obtain ⟨T, hT⟩ : ∃ T, y.t = T := ⟨_, rfl⟩
                    rw [hT] at c0
                    have hMp : 0 < M := by omega
                    have e1 : decide (0 < (M : Int)) = true := by simp; omega
                    by_cases hT0 : T < -9007199254740992
                    · have e2 : decide (T < -9007199254740992) = true := by simp [hT0]
                      clear hll hle hM0 hc3 hy0 hT hT0 hyr HWI HBX
                      go_wp2_with fail
                      refine (HNU.out _).mono ?_
                      rintro e w4 ⟨rfl, hw4⟩
                      replace hw4 := hw4.symm
                      subst hw4
                      go_wp2
                      go_ret
                      exact ⟨rfl, K3.out⟩
                    · have e2 : decide (T < -9007199254740992) = false := by simp; omega
                      have HOKA : Hid (okT T0 A) := hid (okT_first HRI.out (fun y' r' h => by
                        rw [hyr] at h
                        cases h
                        rw [hT]
                        have ht0 : T0 = -9007199254740993 := rfl
                        omega))
                      clear hll hle hM0 hc3 hy0 hT hT0 hyr
                      go_wp2_with fail
                      refine (HNU.out _).mono ?_
                      rintro e w4 ⟨rfl, hw4⟩
                      replace hw4 := hw4.symm
                      subst hw4
                      go_wp2_with fail
                      refine (HWI.out _ (Only.refl _ _)).mono ?_
                      rintro e w5 ⟨k5, ⟨hb, _⟩ | ⟨_, _, hn, _⟩ | ⟨_, _, _, v5, rfl, h5⟩⟩
                      · have := HXB.out; omega
                      · exact absurd HOKA.out hn
                      · have K5 := hid (K3.out.trans k5 (fun _ _ f => f))
                        have HB6 := hid (HBX.out _ k5)
                        have HS5 := hid h5.src
                        obtain ⟨a5, c5, hv5⟩ := ownN_slice h5
                        subst hv5
                        obtain ⟨N5, hN5⟩ : ∃ N5, (gat X A).length = N5 := ⟨_, rfl⟩
                        rw [hN5] at HS5 ⊢
                        clear h5 k5 HWI HBX hN5
                        go_wp2_with fail
                        refine HB6.out.mono ?_
                        rintro e w6 ⟨k6, ⟨hb, _⟩ | ⟨_, _, hn, _⟩ | ⟨_, _, _, v6, rfl, h6⟩⟩
                        · have := HXB.out; omega
                        · exact absurd HOKK.out hn
                        · have K6 := hid (K5.out.trans k6 (fun _ _ f => f))
                          have HS6 := hid h6.src
                          have HSA : Hid (∀ W, Kept w6 W → Calls Try.prog 11 #[.slice a5 N5 c5, v6] W fun e w' => e = .returned (.bool true) ∧ Kept W w') := hid (fun W k => by
                            have q1 := HS6.out.stay k
                            rw [← HGG.out] at q1
                            exact same_any W _ _ (gat X A) ((HS5.out.stay k6).stay k) q1 (by have := gat_len X A; have := HM.out; have := HLA.out; have := HL5.out; omega))
                          obtain ⟨a6, c6, hv6⟩ := ownN_slice h6
                          subst hv6
                          obtain ⟨N6, hN6⟩ : ∃ N6, (gat X (l.map one)).length = N6 := ⟨_, rfl⟩
                          rw [hN6] at HSA ⊢
                          clear h6 k6 HB6 hN6
                          go_wp2_with fail
                          refine (HNU.out _).mono ?_
                          rintro e w7 ⟨rfl, hw7⟩
                          replace hw7 := hw7.symm
                          subst hw7
                          go_wp2_with fail
                          refine (HNU.out _).mono ?_
                          rintro e w7 ⟨rfl, hw7⟩
                          replace hw7 := hw7.symm
                          subst hw7
                          go_wp2_with fail
                          refine (HSA.out _ (Only.refl _ _)).mono ?_
                          rintro e w8 ⟨rfl, k8⟩
                          have K8 := hid (K6.out.trans k8 (fun _ _ f => f))
                          clear k8 HSA
                          go_wp2
                          go_ret
                          exact ⟨rfl, K8.out⟩
end Go.Proofs.Ytdepgplbcfbopaa.Ru
