/-
  The law RollupCounts.
-/
import Derived.Test.YtdepgplbcfbopaaYopen
import Derived.Test.YtdepgplbcfbopaaYseg
namespace Go.Proofs.Ytdepgplbcfbopaa.Ru
open Go Go.RowKit Go.Proofs.Lys Go.Shelf
set_option linter.unusedVariables false
set_option linter.unusedSimpArgs false

set_option maxRecDepth 100000 in
set_option maxHeartbeats 6400000 in
theorem counts_walk (w : World) (va : Value) (l : Smps) (x : Int) (ha : SIn w va l) (hx : In64 x) :
    Calls Try.prog 6 #[va, .int .i64 x] w fun e w' => e = .returned (.bool true) ∧ Kept w w' := by
  obtain ⟨ra, rc, rfl⟩ := ha.1.len
  have HAL := hid (alive_any w)
  have HA := hid ha.1
  have HIN := hid ha.2.2
  have hle := ha.2.1
  obtain ⟨L, hL⟩ : ∃ L, l.length = L := ⟨_, rfl⟩
  have HL := hid hL
  rw [hL] at HA hle ⊢
  clear ha hL
  by_cases h1 : 500 < L
  · have d1 : decide (500 < (L : Int)) = true := by simp; omega
    clear h1
    go_enter Try.func6, Try.ntmps6
    go_wp2_with fail
    refine HAL.out.mono ?_
    rintro e w2 ⟨rfl, k2⟩
    have K2 := hid k2
    clear k2
    go_wp2
    go_ret
    exact ⟨rfl, K2.out⟩
  · have d1 : decide (500 < (L : Int)) = false := by simp; omega
    have HL5 := hid (show L ≤ 500 by omega)
    clear h1
    by_cases h2 : x < 1
    · have d2 : decide (x < 1) = true := by simp [h2]
      clear h2
      go_enter Try.func6, Try.ntmps6
      go_wp2_with fail
      refine HAL.out.mono ?_
      rintro e w2 ⟨rfl, k2⟩
      have K2 := hid k2
      clear k2
      go_wp2
      go_ret
      exact ⟨rfl, K2.out⟩
    · have d2 : decide (x < 1) = false := by simp; omega
      by_cases h3 : 1099511627776 < x
      · have d3 : decide (1099511627776 < x) = true := by simp [h3]
        clear h2 h3
        go_enter Try.func6, Try.ntmps6
        go_wp2_with fail
        refine HAL.out.mono ?_
        rintro e w2 ⟨rfl, k2⟩
        have K2 := hid k2
        clear k2
        go_wp2
        go_ret
        exact ⟨rfl, K2.out⟩
      · have d3 : decide (1099511627776 < x) = false := by simp; omega
        have HB := hid (show 1 ≤ x ∧ x ≤ 1099511627776 by omega)
        have HX := hid hx
        have HNU := hid (fun W => num_any 0 W ⟨by decide, by decide⟩)
        have HNV := hid (fun W => num_any 21 W ⟨by decide, by decide⟩)
        clear h2 h3 hx
        go_enter Try.func6, Try.ntmps6
        go_wp2_with fail
        refine HAL.out.mono ?_
        rintro e w2 ⟨rfl, k2⟩
        have K2 := hid k2
        have HBU := hid (buckets_any w2 ra rc l x (by rw [HL.out]; exact HA.out.stay k2) HIN.out HX.out (by have := HL.out; have := HL5.out; omega))
        rw [HL.out] at HBU
        clear k2 HAL
        go_wp2_with fail
        refine HBU.out.mono ?_
        rintro e w3 ⟨k3, ⟨hb, _⟩ | ⟨_, _, hn, rfl⟩ | ⟨_, _, hok, v3, rfl, h3⟩⟩
        · have := HB.out; omega
        · have K3 := hid (K2.out.trans k3 (fun _ _ f => f))
          clear k3 hn HBU
          go_wp2_with fail
          refine (HNV.out _).mono ?_
          rintro e w4 ⟨rfl, hw4⟩
          replace hw4 := hw4.symm
          subst hw4
          go_wp2
          go_ret
          exact ⟨rfl, K3.out⟩
        · have K3 := hid (K2.out.trans k3 (fun _ _ f => f))
          obtain ⟨a3, c3, hv3⟩ := ownN_slice h3
          obtain ⟨A, hA⟩ : ∃ A, gat x (l.map one) = A := ⟨_, rfl⟩
          have HSG : Hid (Seg x A l) := hid (by rw [← hA]; exact seg_gat x _ l rfl)
          have HOKK := hid hok
          have HRI : Hid (okT (-36028797018963968) A) := hid (by
            rw [← hA]
            exact (gat_rise x _ HB.out.1 _ _ rfl HOKK.out (fun b hb => floor_low HB.out.1 (by have := HB.out; omega) (okT_mem HOKK.out b hb).1)).1)
          have HLA : Hid (A.length ≤ 500) := hid (by rw [← hA]; have := gat_len x (l.map one); rw [List.length_map] at this; have := HL.out; have := HL5.out; omega)
          rw [hA] at h3 hv3
          have HS3 := hid h3.src
          subst hv3
          obtain ⟨M, hM⟩ : ∃ M, A.length = M := ⟨_, rfl⟩
          have HM := hid hM
          rw [hM] at HS3 HLA ⊢
          have HS0 := hid (HA.out.stay K3.out)
          have HTT : Hid (∀ p ∈ l, -9007199254740993 < p.1) := hid (fun p hp => by
            have h := (okT_mem HOKK.out (one p) (List.mem_map_of_mem hp)).1
            exact h)
          clear k3 hok HBU h3 hA hM hle
          go_wp2_with fail
          refine (HNU.out _).mono ?_
          rintro e w4 ⟨rfl, hw4⟩
          replace hw4 := hw4.symm
          subst hw4
          go_wp2_with fail
          go_loopw [8, 9] (fun s t wr => ∃ (i q : Nat), i ≤ M ∧ q ≤ L ∧ t = .int .i64 (i : Int) ∧ s = .int .i64 (q : Int) ∧ Hid (Seg x (A.drop i) (l.drop q)) ∧ Kept w3 wr) (fun _ t _ => M - (intOf t).toNat)
          case atStart => exact ⟨0, 0, by omega, by omega, rfl, rfl, hid HSG.out, Only.refl _ _⟩
          case round =>
            obtain ⟨i, q, hi, hq, rfl, rfl, hs, kr⟩ := hrel
            have KR := hid kr
            by_cases hlt : i < M
            · have hiA : i < A.length := by have := HM.out; omega
              have hdr : A.drop i = A[i] :: A.drop (i + 1) := List.drop_eq_getElem_cons hiA
              obtain ⟨s, l', hsl, hs1, hs2⟩ : ∃ s l', l.drop q = s ++ l' ∧ SegOne x A[i] s ∧ Seg x (A.drop (i + 1)) l' := by
                have h := hs.out
                rw [hdr] at h
                exact h
              obtain ⟨gb, go_, rfl, hbc⟩ := (HS3.out.stay kr).cell HM.out i hlt
              have hprev : Hid (∀ h : 0 < i, (A[i - 1]'(by omega)).t < A[i].t) := hid (fun h => by
                have h2 := okT_next HRI.out (i - 1) (by omega)
                simp only [show i - 1 + 1 = i by omega] at h2
                exact h2)
              have hnext : Hid (∀ h : i + 1 < A.length, A[i].t < A[i + 1].t) := hid (fun h => okT_next HRI.out i h)
              obtain ⟨bt, hbt⟩ : ∃ bt, A[i].t = bt := ⟨_, rfl⟩
              obtain ⟨N, hN⟩ : ∃ N, s.length = N := ⟨_, rfl⟩
              have hNl : q + N ≤ L := by
                have h := congrArg List.length hsl
                rw [List.length_drop, List.length_append, hN] at h
                have := HL.out
                have hp : 0 < s.length := List.length_pos_iff.2 hs1.ne
                omega
              have hNp : 0 < N := by have := List.length_pos_iff.2 hs1.ne; omega
              have hat : ∀ n (h : n < N), (l[q + n]'(by have := HL.out; omega)) = s[n]'(by omega) := fun n h => by
                have e1 : (l.drop q)[n]'(by rw [hsl, List.length_append]; omega) = (s ++ l')[n]'(by rw [List.length_append]; omega) := by
                  simp only [hsl]
                rw [List.getElem_drop, List.getElem_append_left (by omega)] at e1
                exact e1
              have HAT : Hid (∀ n (h : n < N), bt ≤ (l[q + n]'(by have := HL.out; omega)).1 ∧ (l[q + n]'(by have := HL.out; omega)).1 - bt < x ∧ A[i].mn ≤ (l[q + n]'(by have := HL.out; omega)).2 ∧ (l[q + n]'(by have := HL.out; omega)).2 ≤ A[i].mx) := hid (fun n h => by
                rw [hat n h]
                have h1 := hs1.each (s[n]'(by omega)) (List.getElem_mem _)
                have h2 := in_floor HB.out.1 (by have := HB.out; omega) (HTT.out (s[n]'(by omega)) (by rw [← hat n h]; exact List.getElem_mem _)) h1.1
                rw [hbt] at h2
                exact ⟨h2.1, h2.2.1, h1.2⟩)
              have HLO : Hid (-36028797018963968 < bt) := hid (by
                have := okT_mem HRI.out A[i] (List.getElem_mem _)
                rw [hbt] at this
                exact this.1)
              have HEX : Hid (∀ h : q + N < L, bt ≤ (l[q + N]'(by have := HL.out; omega)).1 ∧ x ≤ (l[q + N]'(by have := HL.out; omega)).1 - bt) := hid (fun h => by
                have hl' : 0 < l'.length := by
                  have e := congrArg List.length hsl
                  rw [List.length_drop, List.length_append, hN] at e
                  have := HL.out
                  omega
                have e2 : (l[q + N]'(by have := HL.out; omega)) = l'[0] := by
                  have e1 : (l.drop q)[N]'(by rw [hsl, List.length_append]; omega) = (s ++ l')[N]'(by rw [List.length_append]; omega) := by
                    simp only [hsl]
                  rw [List.getElem_drop, List.getElem_append_right (by omega)] at e1
                  simp only [hN, Nat.sub_self] at e1
                  exact e1
                have hi1 : i + 1 < A.length := by
                  rcases Nat.lt_or_ge (i + 1) A.length with h1 | h1
                  · exact h1
                  · rw [List.drop_of_length_le h1] at hs2
                    have h2 : l' = [] := hs2
                    rw [h2] at hl'
                    simp at hl'
                have hdr2 : A.drop (i + 1) = A[i + 1] :: A.drop (i + 1 + 1) := List.drop_eq_getElem_cons hi1
                rw [hdr2] at hs2
                obtain ⟨s2, l2, g1, g2, g3⟩ := hs2
                have hm : l'[0] ∈ s2 := by
                  cases s2 with
                  | nil => exact absurd rfl g2.ne
                  | cons z zs => simp [g1]
                have hf := (g2.each _ hm).1
                have hT : -9007199254740993 < (l'[0]).1 := by
                  rw [← e2]
                  exact HTT.out _ (List.getElem_mem _)
                have hq0 := in_floor HB.out.1 (by have := HB.out; omega) (HTT.out (s[0]'(by omega)) (by rw [← hat 0 hNp]; exact List.getElem_mem _)) (hs1.each (s[0]'(by omega)) (List.getElem_mem _)).1
                have ho := out_floor HB.out.1 (by have := HB.out; omega) hT hf hq0.2.2 (hnext.out hi1)
                rw [hbt] at ho
                rw [e2]
                have hB1 := HB.out.1
                exact ⟨by omega, ho⟩)
              have HLS : Hid (A[i].la = (l[q + N - 1]'(by have := HL.out; omega)).2) := hid (by
                have h1 := hs1.la hs1.ne
                rw [h1, List.getLast_eq_getElem]
                have h2 := hat (N - 1) (by omega)
                simp only [hN]
                rw [← h2]
                simp only [show q + (N - 1) = q + N - 1 by omega])
              have HSN : Hid (Seg x (A.drop (i + 1)) (l.drop (q + N))) := hid (by
                have e : l.drop (q + N) = l' := by
                  rw [← List.drop_drop, hsl, ← hN, List.drop_left]
                rw [e]
                exact hs2)
              have hcN : A[i].c = (N : Int) := by rw [hs1.c, hN]
              have HBC := hid hbc
              have HCC : Hid (∀ W, Kept wr W → W.cell? ⟨gb, go_ + i * 6, none⟩ = some (.int .i64 bt) ∧ W.cell? ⟨gb, go_ + i * 6 + 1, none⟩ = some (.int .i64 (N : Int)) ∧ W.cell? ⟨gb, go_ + i * 6 + 3, none⟩ = some (.int .i64 A[i].mn) ∧ W.cell? ⟨gb, go_ + i * 6 + 4, none⟩ = some (.int .i64 A[i].mx) ∧ W.cell? ⟨gb, go_ + i * 6 + 5, none⟩ = some (.int .i64 A[i].la)) := hid (fun W k => by
                obtain ⟨q0, q1, q2, q3, q4, q5⟩ := (bkC_stay HBC.out k (fun f => f)).six
                rw [hbt] at q0
                rw [hcN] at q1
                exact ⟨q0, q1, q3, q4, q5⟩)
              obtain ⟨mn, hmn⟩ : ∃ mn, A[i].mn = mn := ⟨_, rfl⟩
              obtain ⟨mx, hmx⟩ : ∃ mx, A[i].mx = mx := ⟨_, rfl⟩
              obtain ⟨la, hla⟩ : ∃ la, A[i].la = la := ⟨_, rfl⟩
              rw [hmn, hmx] at HAT HCC
              rw [hla] at HLS HCC
              rw [hbt] at hprev
              have hxB := HB.out
              have hL500 : L ≤ 500 := HL5.out
              have hM500 : M ≤ 500 := HLA.out
              have hx1 := hxB.1
              have hx2 := hxB.2
              have hbl := HLO.out
              clear hs hsl hs1 hs2 hdr hbc hnext hbt hN hat hcN hmn hmx hla hxB kr
              go_wp2
              go_loopw [8, 10] (fun s t wq => ∃ (n Q : Nat), n ≤ N ∧ Hid (Q = q + n) ∧ Q ≤ L ∧ s = .int .i64 (Q : Int) ∧ t = .int .i64 (n : Int) ∧ Hid (Kept wr wq)) (fun _ t _ => N - (intOf t).toNat)
              case atStart => exact ⟨0, q, by omega, hid rfl, hq, rfl, rfl, hid (Only.refl _ _)⟩
              case round =>
                obtain ⟨n, Q, hn, hQ, hQL, rfl, rfl, hk⟩ := hrel
                have KX := hid (KR.out.trans hk.out (fun _ _ f => f))
                obtain ⟨z0, z1, z3, z4, z5⟩ := HCC.out wr hk.out
                by_cases hnN : n < N
                · have hQl : Q < L := by have := hQ.out; omega
                  have hQl2 : Q < l.length := by have := HL.out; omega
                  have hall := HAT.out n hnN
                  have hQe : l[q + n]'(by have := hQ.out; omega) = l[Q] := by simp only [hQ.out]
                  rw [hQe] at hall
                  obtain ⟨b, o, rfl, c0, c1⟩ := (HS0.out.stay KX.out).cell HL.out Q hQl
                  obtain ⟨⟨T, V⟩, hTV⟩ : ∃ p, l[Q] = p := ⟨_, rfl⟩
                  rw [hTV] at c0 c1 hall
                  simp only at c0 c1 hall
                  obtain ⟨ha1, ha2, ha3, ha4⟩ := hall
                  have g1 : decide (bt ≤ T) = true := by simp [ha1]
                  have g2 : decide (T - bt < x) = true := by simp [ha2]
                  have g3 : decide (V < mn) = false := by simp; omega
                  have g4 : decide (mx < V) = false := by simp; omega
                  have g0 : decide ((Q : Int) < (L : Int)) = true := by simp; omega
                  have HA3 := hid (And.intro ha3 ha4)
                  clear hQe hTV ha3 ha4
                  go_wp2_with fail
                  go_quiet (fail)
                  go_wp2_with fail
                  go_quiet (fail)
                  go_wp2_with fail
                  go_roundw
                  case rel => exact ⟨n + 1, Q + 1, by omega, hid (by have := hQ.out; omega), by omega, by go_num, by go_num, hid (kept_drewN hk.out _)⟩
                  case measure => simp [intOf]; omega
                · have e : n = N := by omega
                  have hQN : Q = q + N := by rw [← e]; exact hQ.out
                  have hQ0 : 0 < Q := by omega
                  have hQle : Q - 1 < l.length := by have := HL.out; omega
                  have hlae : la = (l[Q - 1]).2 := by
                    have h := HLS.out
                    simp only [← hQN] at h
                    exact h
                  obtain ⟨Q1, hQ1⟩ : ∃ Q1, Q - 1 = Q1 := ⟨_, rfl⟩
                  have hQi : (Q : Int) - 1 = (Q1 : Int) := by omega
                  have hQ1l : Q1 < L := by omega
                  obtain ⟨b, o, rfl, d0, d1'⟩ := (HS0.out.stay KX.out).cell HL.out Q1 hQ1l
                  have hlae2 : (l[Q1]'(by have := HL.out; omega)).2 = la := by rw [hlae]; simp only [hQ1]
                  rw [hlae2] at d1'
                  have hgo : decide (n = 0) = false := by simp; omega
                  have hn0 : ((n : Int) == 0) = false := by simp; omega
                  have HN := hid e
                  have HQN := hid hQN
                  have HEN : Hid (∀ W, Kept wr W → W.cell? ⟨gb, go_ + i * 6, none⟩ = some (.int .i64 bt)) := hid (fun W k => only_cell k (fun f => f) z0)
                  clear hlae hlae2 hQ1
                  by_cases hQl : Q < L
                  · have hex := HEX.out (by omega)
                    have hQe : l[q + N]'(by have := HL.out; omega) = l[Q]'(by have := HL.out; omega) := by simp only [hQN]
                    rw [hQe] at hex
                    obtain ⟨b', o', e', c0, c1⟩ := (HS0.out.stay KX.out).cell HL.out Q hQl
                    cases e'
                    have hTin := (HIN.out (l[Q]'(by have := HL.out; omega)) (List.getElem_mem _)).1
                    have hT3 := (okT_mem HOKK.out (one (l[Q]'(by have := HL.out; omega))) (List.mem_map_of_mem (List.getElem_mem _))).2
                    have hT4 : (l[Q]'(by have := HL.out; omega)).1 ≤ 9007199254740992 := hT3
                    obtain ⟨T, hT⟩ : ∃ T, (l[Q]'(by have := HL.out; omega)).1 = T := ⟨_, rfl⟩
                    rw [hT] at c0 hex hT4
                    obtain ⟨hx8, hx9⟩ := hex
                    have g0 : decide ((Q : Int) < (L : Int)) = true := by simp; omega
                    have g1 : decide (bt ≤ T) = true := by simp [hx8]
                    have g2 : decide (T - bt < x) = false := by simp; omega
                    clear hQe hTin hT3 hT hQN
                    subst e
                    go_wp2_with fail
                    go_quiet (fail)
                    go_wp2_with fail
                    by_cases hi0 : i = 0
                    · subst hi0
                      go_quiet (fail)
                      go_wp2_with fail
                      go_roundw
                      case rel => exact ⟨0 + 1, Q, by omega, by omega, by go_num, rfl, hid (by rw [HQN.out]; exact HSN.out), kept_drewN KX.out _⟩
                      case measure => simp [intOf]; omega
                    · obtain ⟨i1, hi1⟩ : ∃ i1, i - 1 = i1 := ⟨_, rfl⟩
                      have hii : (i : Int) - 1 = (i1 : Int) := by omega
                      have hpr := hprev.out (by omega)
                      have hi1M : i1 < M := by omega
                      obtain ⟨b7, o7, e7, hc7⟩ := (HS3.out.stay KX.out).cell HM.out i1 hi1M
                      cases e7
                      have p0 := hc7.six.1
                      simp only [hi1] at hpr
                      obtain ⟨pt, hpt⟩ : ∃ pt, (A[i1]'(by have := HM.out; omega)).t = pt := ⟨_, rfl⟩
                      rw [hpt] at p0 hpr
                      have hip : 0 < i := by omega
                      have gp0 : decide (0 < (i : Int)) = true := by simp; omega
                      have gp : decide (bt ≤ pt) = false := by simp; omega
                      clear hpt hc7 hi1 hi0
                      go_quiet (fail)
                      go_wp2_with fail
                      go_roundw
                      case rel => exact ⟨i + 1, Q, by omega, by omega, by go_num, rfl, hid (by rw [HQN.out]; exact HSN.out), kept_drewN KX.out _⟩
                      case measure => simp [intOf]; omega
                  · have g0 : decide ((Q : Int) < (L : Int)) = false := by simp; omega
                    clear hQN
                    subst e
                    go_wp2_with fail
                    go_quiet (fail)
                    go_wp2_with fail
                    by_cases hi0 : i = 0
                    · subst hi0
                      go_quiet (fail)
                      go_wp2_with fail
                      go_roundw
                      case rel => exact ⟨0 + 1, Q, by omega, by omega, by go_num, rfl, hid (by rw [HQN.out]; exact HSN.out), kept_drewN KX.out _⟩
                      case measure => simp [intOf]; omega
                    · obtain ⟨i1, hi1⟩ : ∃ i1, i - 1 = i1 := ⟨_, rfl⟩
                      have hii : (i : Int) - 1 = (i1 : Int) := by omega
                      have hpr := hprev.out (by omega)
                      have hi1M : i1 < M := by omega
                      obtain ⟨b7, o7, e7, hc7⟩ := (HS3.out.stay KX.out).cell HM.out i1 hi1M
                      cases e7
                      have p0 := hc7.six.1
                      simp only [hi1] at hpr
                      obtain ⟨pt, hpt⟩ : ∃ pt, (A[i1]'(by have := HM.out; omega)).t = pt := ⟨_, rfl⟩
                      rw [hpt] at p0 hpr
                      have hip : 0 < i := by omega
                      have gp0 : decide (0 < (i : Int)) = true := by simp; omega
                      have gp : decide (bt ≤ pt) = false := by simp; omega
                      clear hpt hc7 hi1 hi0
                      go_quiet (fail)
                      go_wp2_with fail
                      go_roundw
                      case rel => exact ⟨i + 1, Q, by omega, by omega, by go_num, rfl, hid (by rw [HQN.out]; exact HSN.out), kept_drewN KX.out _⟩
                      case measure => simp [intOf]; omega
            · have e : i = M := by omega
              have hqL : q = L := by
                have h := hs.out
                rw [List.drop_of_length_le (by have := HM.out; omega)] at h
                have h2 : l.drop q = [] := h
                have h3 := congrArg List.length h2
                rw [List.length_drop, List.length_nil] at h3
                have := HL.out
                omega
              subst e hqL
              have K9 := hid (K3.out.trans kr (fun _ _ f => f))
              clear kr hs
              go_wp2
              go_ret
              exact ⟨rfl, K9.out⟩
end Go.Proofs.Ytdepgplbcfbopaa.Ru
