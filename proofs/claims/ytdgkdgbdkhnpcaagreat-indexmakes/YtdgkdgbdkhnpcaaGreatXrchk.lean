/-
  The document's own check of an index.
-/
import Derived.Test.YtdgkdgbdkhnpcaaGreatXlook
import Derived.Test.YtdgkdgbdkhnpcaaGreatNrmake
namespace Go.Proofs.YtdgkdgbdkhnpcaaGreat.X
open Go.RowKit Go.Proofs.Lys Go.Maps Go.Proofs.YtdgkdgbdkhnpcaaGreat.N
set_option linter.unusedVariables false
set_option linter.unusedSimpArgs false

set_option maxRecDepth 100000 in
set_option maxHeartbeats 3200000 in
theorem rcheckI_any (w : World) (v : Value) (L : List Labs) (hs : LSrc w v L) (hl : L.length ≤ 100000) (hB : OkS L) :
    Calls Tryz.prog 9 #[v] w fun e w' => e = .returned (.int .i64 (checkI L)) ∧ Kept w w' := by
  obtain ⟨av, c, rfl⟩ := hs.len
  obtain ⟨N, hN⟩ : ∃ N, L.length = N := ⟨_, rfl⟩
  rw [hN] at hl hs ⊢
  have HN := hid hN
  have HS := hid hs
  have HB := hid hB
  clear hs hB hN
  by_cases h1 : 1000 < N
  · have HE := hid (check_long (L := L) (by rw [HN.out]; exact h1))
    have d1 : decide ((1000 : Int) < (N : Int)) = true := decide_eq_true (by omega)
    go_enter Tryz.func9, Tryz.ntmps9
    go_wp2
    go_ret
    exact ⟨by rw [HE.out]; rfl, Only.refl _ _⟩
  · have d1 : decide ((1000 : Int) < (N : Int)) = false := decide_eq_false (by omega)
    go_enter Tryz.func9, Tryz.ntmps9
    go_wp2_with fail
    go_loopw [3] (fun s3 wr => ∃ (k : Nat), k ≤ N ∧ s3 = .int .i64 (k : Int) ∧ Hid (∀ j (hj : j < L.length), j < k → okL L[j] = true) ∧ Kept w wr) (fun s3 _ => N - (intOf s3).toNat)
    case atStart => exact ⟨0, by omega, rfl, hid (fun j _ h => by omega), Only.refl _ _⟩
    case round =>
      obtain ⟨k, hk, rfl, hok, kr⟩ := hrel
      have HK := hid kr
      by_cases hlt : k < N
      · have hkL : k < L.length := by have := HN.out; omega
        obtain ⟨b, o, a', c', rfl, x0, hls⟩ := (HS.out.stay kr).cell HN.out k hlt
        have hB := HB.out L[k] (List.getElem_mem hkL)
        have HMK := hid (rmake_any wr _ L[k] hls hB.1 hB.2)
        have HLS := hid hls
        have HBB := hid hB
        clear kr hls hB
        cases hm : makeL L[k] with
        | none =>
          have HE := hid (check_bad (L := L) (by rw [HN.out]; exact h1) hkL (decide_eq_false (by rw [hm]; exact fun e => by cases e)))
          rw [hm] at HMK
          clear hm
          go_wp2_with fail
          refine HMK.out.mono ?_
          rintro e w1 ⟨⟨u, n, rfl, rfl, rfl⟩, k1⟩
          have K1 := hid (HK.out.trans k1 (fun _ _ f => f))
          have z0 := kept_cell k1 x0
          have HSM := hid (rsame_any w1 (.slice none 0 0) _ [] L[k] (.inl ⟨_, _, rfl, rfl⟩) (HLS.out.stay k1) (by simp) (by have := HBB.out.1; omega))
          clear k1 HMK x0
          generalize L[k].length = NL at z0 HSM
          go_wp2_with fail
          refine HSM.out.mono ?_
          rintro e w2 ⟨rfl, k2⟩
          have K2 := hid (K1.out.trans k2.kept (fun _ _ f => f))
          clear k2 HSM
          go_wp2
          go_ret
          exact ⟨by rw [HE.out]; rfl, K2.out⟩
        | some m =>
          rw [hm] at HMK
          have HM := hid hm
          clear hm
          go_wp2_with fail
          refine HMK.out.mono ?_
          rintro e w1 ⟨⟨u, n, rfl, rfl, hat⟩, k1⟩
          obtain ⟨au, cu, rfl⟩ := ownN_slice hat
          have K1 := hid (HK.out.trans k1 (fun _ _ f => f))
          have z0 := kept_cell k1 x0
          have HSM := hid (rsame_any w1 _ _ m L[k] (LabAt.src hat) (HLS.out.stay k1) (by have h1 := makeL_len HM.out; have h2 := HBB.out.1; omega) (by have h2 := HBB.out.1; omega))
          clear k1 HMK x0 hat
          by_cases hmk : m = L[k]
          · have HOK := hid (show okL L[k] = true from decide_eq_true (by rw [HM.out, hmk]))
            rw [decide_eq_true hmk] at HSM
            clear hmk
            generalize L[k].length = NL at z0 HSM
            generalize m.length = ML at HSM ⊢
            go_wp2_with fail
            refine HSM.out.mono ?_
            rintro e w2 ⟨rfl, k2⟩
            have K2 := hid (K1.out.trans k2.kept (fun _ _ f => f))
            clear k2 HSM
            go_wp2_with fail
            go_roundw
            case rel => exact ⟨k + 1, by omega, by go_num, hid (fun j hj h => by
              by_cases e : j = k
              · subst e
                exact HOK.out
              · exact hok.out j hj (by omega)), K2.out⟩
            case measure => simp [intOf]; omega
          · have HE := hid (check_bad (L := L) (by rw [HN.out]; exact h1) hkL (decide_eq_false (by rw [HM.out]; exact fun e => hmk (Option.some.inj e))))
            rw [decide_eq_false hmk] at HSM
            clear hmk
            generalize L[k].length = NL at z0 HSM
            generalize m.length = ML at HSM ⊢
            go_wp2_with fail
            refine HSM.out.mono ?_
            rintro e w2 ⟨rfl, k2⟩
            have K2 := hid (K1.out.trans k2.kept (fun _ _ f => f))
            clear k2 HSM
            go_wp2
            go_ret
            exact ⟨by rw [HE.out]; rfl, K2.out⟩
      · obtain rfl : k = N := by omega
        have HOK := hid (check_all (L := L) (by rw [HN.out]; exact h1) (fun j hj => hok.out j hj (by have := HN.out; omega)))
        clear hok kr
        go_wp2_with fail
        go_loopw [7] (fun s7 wq => ∃ (i : Nat), i ≤ k ∧ s7 = .int .i64 (i : Int) ∧ Hid ((L.take i).Nodup) ∧ Kept w wq) (fun s7 _ => k - (intOf s7).toNat)
        case atStart => exact ⟨0, by omega, rfl, hid (by rw [List.take_zero]; exact List.nodup_nil), HK.out⟩
        case round =>
          obtain ⟨i, hi, rfl, hnd, kq⟩ := hrel
          have HKQ := hid kq
          clear kq
          by_cases hil : i < k
          · have hiL : i < L.length := by have := HN.out; omega
            go_wp2_with fail
            go_loopw [8] (fun s8 wx => ∃ (j : Nat), j ≤ i ∧ s8 = .int .i64 (j : Int) ∧ Hid (∀ t (ht : t < L.length), t < j → L[t] ≠ L[i]) ∧ Kept w wx) (fun s8 _ => i - (intOf s8).toNat)
            case atStart => exact ⟨0, by omega, rfl, hid (fun t _ h => by omega), HKQ.out⟩
            case round =>
              obtain ⟨j, hj, rfl, hne, kx⟩ := hrel
              have HKX := hid kx
              by_cases hjl : j < i
              · have hjL : j < L.length := by omega
                obtain ⟨b, o, a1, c1, rfl, x1, hl1⟩ := (HS.out.stay kx).cell HN.out i hil
                obtain ⟨b2, o2, a2, c2, e2, x2, hl2⟩ := (HS.out.stay kx).cell HN.out j (by omega)
                cases e2
                have HSM := hid (fun n => rsame_any (wr.drewN n) _ _ L[i] L[j] (hl1.stay (Drawn.kept ⟨n, rfl⟩)) (hl2.stay (Drawn.kept ⟨n, rfl⟩)) (by have := (HB.out L[i] (List.getElem_mem hiL)).1; omega) (by have := (HB.out L[j] (List.getElem_mem hjL)).1; omega))
                clear hl1 hl2 kx
                by_cases he : L[i] = L[j]
                · have HE := hid (show checkI L = 7 from by
                    rw [HOK.out, if_neg]
                    intro hn
                    exact (List.pairwise_iff_getElem.1 hn j i hjL hiL hjl) he.symm)
                  rw [decide_eq_true he] at HSM
                  clear he
                  generalize L[i].length = NI at x1 HSM
                  generalize L[j].length = NJ at x2 HSM
                  go_wp2_with fail
                  go_quiet ((go_at_call 26; refine Calls.quiet_of (HSM.out _)))
                  go_wp2
                  go_ret
                  exact ⟨by rw [HE.out]; rfl, HKX.out.trans (Drawn.kept ⟨nq, rfl⟩) (fun _ _ f => f)⟩
                · have HE := hid (show L[j] ≠ L[i] from fun e => he e.symm)
                  rw [decide_eq_false he] at HSM
                  clear he
                  generalize L[i].length = NI at x1 HSM
                  generalize L[j].length = NJ at x2 HSM
                  go_wp2_with fail
                  go_quiet ((go_at_call 26; refine Calls.quiet_of (HSM.out _)))
                  go_wp2_with fail
                  go_roundw
                  case rel => exact ⟨j + 1, by omega, by go_num, hid (fun t ht h => by
                    by_cases e : t = j
                    · subst e
                      exact HE.out
                    · exact hne.out t ht (by omega)), HKX.out.trans (Drawn.kept ⟨nq, rfl⟩) (fun _ _ f => f)⟩
                  case measure => simp [intOf]; omega
              · obtain rfl : j = i := by omega
                have HND := hid (show (L.take (j + 1)).Nodup from by
                  rw [List.take_succ_eq_append_getElem hiL, List.nodup_append]
                  refine ⟨hnd.out, by simp, fun a ha b hb e => ?_⟩
                  rw [List.mem_singleton.1 hb] at e
                  obtain ⟨t, ht, e2⟩ := List.mem_take_iff_getElem.1 ha
                  exact hne.out t (by omega) (by omega) (by rw [e2, e]))
                clear kx hne
                go_wp2_with fail
                go_roundw
                case rel => exact ⟨j + 1, by omega, by go_num, HND, HKX.out⟩
                case measure => simp [intOf]; omega
          · obtain rfl : i = k := by omega
            have HE := hid (show checkI L = 0 from by
              rw [HOK.out, if_pos]
              have := hnd.out
              rw [List.take_of_length_le (l := L) (by have := HN.out; omega)] at this
              exact this)
            go_wp2
            go_ret
            exact ⟨by rw [HE.out]; rfl, HKQ.out⟩
end Go.Proofs.YtdgkdgbdkhnpcaaGreat.X
