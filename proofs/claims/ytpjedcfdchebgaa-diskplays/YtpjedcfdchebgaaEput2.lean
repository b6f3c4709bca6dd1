/-
  The document's own disk: put, the walk.
-/
import Derived.Test.YtpjedcfdchebgaaEput
namespace Go.Proofs.Ytpjedcfdchebgaa
open Go.RowKit Go.Proofs.Lys Go.Maps Go.Shelf
set_option linter.unusedVariables false

theorem less_before : ∀ a b : List UInt8, Op.bytesLess a b = bytesBefore a b
  | [], [] => rfl
  | [], _ :: _ => rfl
  | _ :: _, [] => rfl
  | x :: a, y :: b => by
    have ih := less_before a b
    simp only [Op.bytesLess, bytesBefore, ih]

set_option maxRecDepth 100000 in
set_option maxHeartbeats 1600000 in
theorem rput_any {w : World} {v : Value} {l : DDir} (h : EntSrc w v l) (hl : l.length ≤ 10000) (n : List UInt8) (f : Nat) : Calls Try.prog 43 #[v, .string ⟨n.toArray⟩, .int .i64 (f : Int)] w fun e w' => ∃ v', e = .returned v' ∧ EntAt w' w.heap.size v' (DD.put l n f) ∧ Kept w w' := by
  obtain ⟨a0, c0, e0⟩ := h.len
  have HD := Hid.mk (rdrop_any h (by omega) n)
  have hne : Hid (∀ p ∈ DD.drop l n, p.1 ≠ n) := by
    intro p hp e
    unfold DD.drop at hp
    have := (List.mem_filter.1 hp).2
    rw [e] at this
    simp at this
  have hlen := drop_le l n
  have HP : Hid (DD.put l n f = DD.ins (n, f) (DD.drop l n)) := rfl
  rw [HP.out]
  generalize DD.drop l n = q at HD hne hlen
  subst e0
  obtain ⟨M, hM⟩ : ∃ M, q.length = M := ⟨_, rfl⟩
  have HM := Hid.mk hM
  have hM2 : M ≤ 10000 := by omega
  clear h hlen hl hM HP
  go_enter Try.func43, Try.ntmps43
  go_wp2_with fail
  refine HD.out.mono ?_
  rintro e w1 ⟨v1, rfl, hE, hk1⟩
  have HE := Hid.mk hE
  have HK1 := Hid.mk hk1
  obtain ⟨a1, c1, e1⟩ := ownN_slice hE
  rw [HM.out] at e1
  subst e1
  clear hE hk1 HD
  go_wp2_with fail
  go_loopw [7] (fun i wr => ∃ (k : Nat), k ≤ M ∧ i = .int .i64 (k : Int) ∧ (∀ j (hj : j < q.length), j < k → bytesBefore q[j].1 n = true) ∧ wr = w1) (fun i _ => M - (intOf i).toNat)
  case atStart => exact ⟨0, by omega, rfl, fun j _ hj => by omega, rfl⟩
  case round =>
    obtain ⟨k, hk, rfl, hno, rfl⟩ := hrel
    have HN := Hid.mk hno
    clear hno
    by_cases hlt : k < M
    · obtain ⟨b, o, rfl, x0, x1⟩ := HE.out.src.cell HM.out k hlt
      have hkl : k < q.length := by have := HM.out; omega
      obtain ⟨s, hs⟩ : ∃ s, q[k].1 = s := ⟨_, rfl⟩
      rw [hs] at x0
      unfold nmV at x0
      have HS := Hid.mk hs
      clear hs x1
      have hls : Op.bytesLess s n = bytesBefore s n := less_before s n
      cases hb : bytesBefore s n
      all_goals rw [hb] at hls
      · have HI : Hid (DD.ins (n, f) q = q.take k ++ (n, f) :: q.drop k) := ins_at (n, f) q k (by omega) (fun j hj hjk => HN.out j hj hjk) (fun hj => by rw [HS.out]; exact hb) hne.out
        obtain ⟨ra1, rc1, ra2, rc2, ra3, rc3, w2, g4, c4, w3, g5, c5, w4, S1, S2, R3, R4, R5, RE, RK⟩ := put_rows HE.out (by have := HM.out; omega) k (by have := HM.out; omega) (n, f)
        have s1 := S1.out
        have s2 := S2.out
        rw [HM.out] at s2 R5 RE
        clear S1 S2
        simp only at R4
        go_wp2_with (at_builtin; refine wpList_append_run rfl _ _ _ rfl rfl rfl R3 ?_)
        go_region_law ((first | refine step_append_run _ (by rfl) _ _ _ (by rfl) (.slice ra3 k rc3) (.slice (some ⟨w2.heap.size, 0, none⟩) 1 1) (by rfl) (by rfl) _ w3 R4 ?_ | refine step_append_run _ (by rfl) _ _ _ (by rfl) (.slice (some ⟨g4, 0, none⟩) (k + 1) c4) (.slice ra2 (M - k) rc2) (by rfl) (by rfl) _ w4 R5 ?_))
        all_goals
          try go_wp2_with fail
          go_ret
          refine ⟨_, rfl, ?_, HK1.out.trans RK.out (fun _ _ f => f)⟩
          rw [HI.out]
          exact ownN_base RE.out HK1.out.size
      · go_wp2_with fail
        refine ⟨⟨k + 1, by omega, by go_num, fun j hj hjk => ?_, trivial⟩, ?_⟩
        · by_cases hjl : j < k
          · exact HN.out j hj hjl
          · obtain rfl : j = k := by omega
            rw [HS.out]
            exact hb
        · simp [intOf]
          omega
    · have HI : Hid (DD.ins (n, f) q = q.take k ++ (n, f) :: q.drop k) := ins_at (n, f) q k (by have := HM.out; omega) (fun j hj hjk => HN.out j hj hjk) (fun hj => by exfalso; have := HM.out; omega) hne.out
      obtain ⟨ra1, rc1, ra2, rc2, ra3, rc3, w2, g4, c4, w3, g5, c5, w4, S1, S2, R3, R4, R5, RE, RK⟩ := put_rows HE.out (by have := HM.out; omega) k (by have := HM.out; omega) (n, f)
      have s1 := S1.out
      have s2 := S2.out
      rw [HM.out] at s2 R5 RE
      clear S1 S2
      simp only at R4
      go_wp2_with (at_builtin; refine wpList_append_run rfl _ _ _ rfl rfl rfl R3 ?_)
      go_region_law ((first | refine step_append_run _ (by rfl) _ _ _ (by rfl) (.slice ra3 k rc3) (.slice (some ⟨w2.heap.size, 0, none⟩) 1 1) (by rfl) (by rfl) _ w3 R4 ?_ | refine step_append_run _ (by rfl) _ _ _ (by rfl) (.slice (some ⟨g4, 0, none⟩) (k + 1) c4) (.slice ra2 (M - k) rc2) (by rfl) (by rfl) _ w4 R5 ?_))
      all_goals
        try go_wp2_with fail
        go_ret
        refine ⟨_, rfl, ?_, HK1.out.trans RK.out (fun _ _ f => f)⟩
        rw [HI.out]
        exact ownN_base RE.out HK1.out.size
end Go.Proofs.Ytpjedcfdchebgaa
