/-
  The document's own Set.
-/
import Derived.Test.YtpbeenhaaaocpaaOpick
namespace Go.Proofs.Ytpbeenhaaaocpaa.Po
open Go.RowKit Go.Proofs.Lys
set_option linter.unusedVariables false

theorem src_at {w : World} {av : Option Addr} {L c : Nat} {l : List Int} (h : SrcOf w (.slice av L c) (l.map (Value.int .i64))) (hL : l.length = L) (i : Nat) (hi : i < L) :
    ∃ b o, av = some ⟨b, o, none⟩ ∧ w.cell? ⟨b, o + i, none⟩ = some (.int .i64 (l[i]'(by omega))) := by
  rcases h.shape with ⟨hn, _⟩ | ⟨_, b, o, c', hv, hc⟩
  · have : l = [] := List.map_eq_nil_iff.1 hn
    subst this
    simp at hL
    omega
  · simp only [Value.slice.injEq] at hv
    exact ⟨b, o, hv.1, hc i _ (by rw [List.getElem?_map, List.getElem?_eq_getElem (by omega)]; rfl)⟩

set_option maxRecDepth 100000 in
set_option maxHeartbeats 16000000 in
theorem rset_yes (w : World) (va vb : Value) (la lb : List Int) (n : Nat) (hn : n ≤ 2) (ha : SrcOf w va (la.map (Value.int .i64))) (hb : SrcOf w vb (lb.map (Value.int .i64))) (hl : la.length ≤ 100000) (hl2 : lb.length ≤ 100000) (hu : upB (-1) la = true) (hv : upB (-1) lb = true) :
    Calls Try.prog 13 #[.int .i64 (n : Int), va, vb] w fun e w' => ∃ v, e = .returned v ∧ w'.ownsRow w.heap.size 3 1 v (pickL (fW n) la lb).length ((pickL (fW n) la lb).map (Value.int .i64)) ∧ Kept w w' := by
  have C1 := hid (rrising_any w va la ha (by omega))
  have C2 := hid (fun W (h : Kept w W) => rrising_any W vb lb (hb.stay h) (by omega))
  rw [hu] at C1
  rw [hv] at C2
  have HA := hid ha
  have HB := hid hb
  have HLen := hid (pick_len (fW n) la lb)
  obtain ⟨R, hR⟩ : ∃ R, pickL (fW n) la lb = R := ⟨_, rfl⟩
  rw [hR] at HLen ⊢
  have HR := hid hR
  obtain ⟨a1, c1, rfl⟩ := ha.len
  obtain ⟨a2, c2, rfl⟩ := hb.len
  rw [List.length_map] at HA HB C1 C2 ⊢
  rw [List.length_map]
  have HL := hid hl
  have HL2 := hid hl2
  have q1 : decide ((0 : Int) < (n : Int)) = fW n true false := by
    rcases (by omega : n = 0 ∨ n = 1 ∨ n = 2) with rfl | rfl | rfl <;> decide
  have q2 : ((n : Int) == 1) = fW n false true := by
    rcases (by omega : n = 0 ∨ n = 1 ∨ n = 2) with rfl | rfl | rfl <;> decide
  have q3 : decide ((n : Int) < 2) = fW n true true := by
    rcases (by omega : n = 0 ∨ n = 1 ∨ n = 2) with rfl | rfl | rfl <;> decide
  obtain ⟨LA, hLA⟩ : ∃ L, la.length = L := ⟨_, rfl⟩
  obtain ⟨LB, hLB⟩ : ∃ L, lb.length = L := ⟨_, rfl⟩
  rw [hLA] at HA C1 HL hl HLen ⊢
  rw [hLB] at HB C2 HL2 hl2 HLen ⊢
  have HLA := hid hLA
  have HLB := hid hLB
  generalize hN : (n : Int) = N at q1 q2 q3 ⊢
  clear hR hu hv ha hb hLA hLB hN hn
  go_enter Try.func13, Try.ntmps13
  go_wp2_with fail
  refine C1.out.mono ?_
  rintro e w1 ⟨rfl, k1⟩
  have HK1 := hid k1
  clear k1
  go_wp2_with fail
  refine (C2.out _ HK1.out).mono ?_
  rintro e w2 ⟨rfl, k2⟩
  have HK2 := hid (HK1.out.trans k2 (fun _ _ f => f))
  clear k2 HK1 C1 C2
  go_wp2_with fail
  go_loopw [9, 10, 11] (fun s p q wr => ∃ (i j : Nat) (out : List Int), i ≤ LA ∧ j ≤ LB ∧ p = .int .i64 (i : Int) ∧ q = .int .i64 (j : Int) ∧ wr.ownsRow w.heap.size 3 1 s out.length (out.map (Value.int .i64)) ∧ Kept w wr ∧ out ++ pickL (fW n) (la.drop i) (lb.drop j) = R) (fun _ p q _ => LA + LB - (intOf p).toNat - (intOf q).toNat)
  case atStart => exact ⟨0, 0, [], by omega, by omega, rfl, rfl, World.ownsRow_nil _ _ _ _, HK2.out, HR.out⟩
  case round =>
    obtain ⟨i, j, out, hiL, hjL, rfl, rfl, ho, kr, hP⟩ := hrel
    have HLo : Hid (out.length ≤ 200000) := by
      have h1 := congrArg List.length hP
      rw [List.length_append] at h1
      have := HLen.out
      show _ ≤ _
      omega
    have HO := hid ho
    have HK := hid kr
    by_cases hi : i < LA
    · by_cases hj : j < LB
      · obtain ⟨b1, o1, rfl, y1⟩ := src_at (HA.out.stay kr) HLA.out i hi
        have hil : i < la.length := by have := HLA.out; omega
        rw [List.drop_eq_getElem_cons hil] at hP
        obtain ⟨a, hEa⟩ : ∃ a, la[i] = a := ⟨_, rfl⟩
        rw [hEa] at y1 hP
        have HDa : Hid (la.drop i = a :: la.drop (i + 1)) := by rw [← hEa]; exact List.drop_eq_getElem_cons hil
        clear hEa hil
        have e1 : decide ((i : Int) < (LA : Int)) = true := by simp; omega
        have e2 : decide ((LA : Int) ≤ (i : Int)) = false := by simp; omega
        obtain ⟨b2, o2, rfl, y2⟩ := src_at (HB.out.stay kr) HLB.out j hj
        have hjl : j < lb.length := by have := HLB.out; omega
        rw [List.drop_eq_getElem_cons hjl] at hP
        obtain ⟨b, hEb⟩ : ∃ b, lb[j] = b := ⟨_, rfl⟩
        rw [hEb] at y2 hP
        have HDb : Hid (lb.drop j = b :: lb.drop (j + 1)) := by rw [← hEb]; exact List.drop_eq_getElem_cons hjl
        clear hEb hjl
        have e3 : decide ((j : Int) < (LB : Int)) = true := by simp; omega
        have e4 : decide ((LB : Int) ≤ (j : Int)) = false := by simp; omega
        clear ho kr
        rcases Int.lt_trichotomy a b with h | h | h
        · have d1 : decide (a < b) = true := by simp; omega
          have d2 : decide (b < a) = false := by simp; omega
          rw [pick_lt h] at hP
          have HP := hid hP
          clear hP
          go_wp2_with fail
          go_quiet (fail)
          have K0 : Kept wr (wr.drewN nq) := kept_drewN (Only.refl _ _) nq
          generalize wr.drewN nq = wq0 at K0 ⊢
          clear nq
          have y1 := cell_kept K0 y1
          have y2 := cell_kept K0 y2
          have KQ := hid K0
          have HOq := hid (own_only HO.out K0 (fun _ _ f => f))
          clear K0
          cases hfv : fW n true false with
          | false =>
            rw [hfv] at q1 HP
            clear hfv
            go_wp2_with fail
            go_roundw
            case rel => exact ⟨i + 1, j, out, by omega, by omega, by go_num, rfl, HOq.out, HK.out.trans KQ.out (fun _ _ f => f), by rw [HDb.out]; exact HP.out⟩
            case measure => simp [intOf]; try omega
          | true =>
            rw [hfv] at q1 HP
            clear hfv
            obtain ⟨g, cap, w1, Hr, hown1, hon1⟩ := own_num HOq.out (Nat.le_trans HK.out.size KQ.out.size) (Nat.le_trans HLo.out (by decide)) a
            have HE := hid hown1
            have HF := hid hon1
            clear hown1 hon1
            go_wp2_with (at_builtin; refine wpList_append_run rfl _ _ _ rfl rfl rfl Hr ?_)
            go_roundw
            case rel =>
              have hk : Kept w w1 := (HK.out.trans KQ.out (fun _ _ f => f)).trans HF.out (fun q hq e => absurd hq (by have := (HOq.out.lt q e).1; omega))
              exact ⟨i + 1, j, out ++ [a], by omega, by omega, by go_num, rfl, HE.out, hk, by rw [List.append_assoc]; rw [HDb.out]; exact HP.out⟩
            case measure => simp [intOf]; try omega
        · subst h
          have d1 : decide (a < a) = false := by simp
          rw [pick_eq] at hP
          have HP := hid hP
          clear hP
          go_wp2_with fail
          go_quiet (fail)
          have K0 : Kept wr (wr.drewN nq) := kept_drewN (Only.refl _ _) nq
          generalize wr.drewN nq = wq0 at K0 ⊢
          clear nq
          have y1 := cell_kept K0 y1
          have y2 := cell_kept K0 y2
          go_wp2_with fail
          go_quiet (fail)
          have K1 : Kept wq0 (wq0.drewN nq) := kept_drewN (Only.refl _ _) nq
          generalize wq0.drewN nq = wq1 at K1 ⊢
          clear nq
          have y1 := cell_kept K1 y1
          have y2 := cell_kept K1 y2
          have KQ := hid (K0.trans K1 (fun _ _ f => f))
          have HOq := hid (own_only HO.out (K0.trans K1 (fun _ _ f => f)) (fun _ _ f => f))
          clear K0 K1
          cases hfv : fW n true true with
          | false =>
            rw [hfv] at q3 HP
            clear hfv
            go_wp2_with fail
            go_roundw
            case rel => exact ⟨i + 1, j + 1, out, by omega, by omega, by go_num, by go_num, HOq.out, HK.out.trans KQ.out (fun _ _ f => f), by exact HP.out⟩
            case measure => simp [intOf]; try omega
          | true =>
            rw [hfv] at q3 HP
            clear hfv
            obtain ⟨g, cap, w1, Hr, hown1, hon1⟩ := own_num HOq.out (Nat.le_trans HK.out.size KQ.out.size) (Nat.le_trans HLo.out (by decide)) a
            have HE := hid hown1
            have HF := hid hon1
            clear hown1 hon1
            go_wp2_with (at_builtin; refine wpList_append_run rfl _ _ _ rfl rfl rfl Hr ?_)
            go_roundw
            case rel =>
              have hk : Kept w w1 := (HK.out.trans KQ.out (fun _ _ f => f)).trans HF.out (fun q hq e => absurd hq (by have := (HOq.out.lt q e).1; omega))
              exact ⟨i + 1, j + 1, out ++ [a], by omega, by omega, by go_num, by go_num, HE.out, hk, by rw [List.append_assoc]; exact HP.out⟩
            case measure => simp [intOf]; try omega
        · have d1 : decide (a < b) = false := by simp; omega
          have d2 : decide (b < a) = true := by simp; omega
          rw [pick_gt h] at hP
          have HP := hid hP
          clear hP
          go_wp2_with fail
          go_quiet (fail)
          have K0 : Kept wr (wr.drewN nq) := kept_drewN (Only.refl _ _) nq
          generalize wr.drewN nq = wq0 at K0 ⊢
          clear nq
          have y1 := cell_kept K0 y1
          have y2 := cell_kept K0 y2
          go_wp2_with fail
          go_quiet (fail)
          have K1 : Kept wq0 (wq0.drewN nq) := kept_drewN (Only.refl _ _) nq
          generalize wq0.drewN nq = wq1 at K1 ⊢
          clear nq
          have y1 := cell_kept K1 y1
          have y2 := cell_kept K1 y2
          have KQ := hid (K0.trans K1 (fun _ _ f => f))
          have HOq := hid (own_only HO.out (K0.trans K1 (fun _ _ f => f)) (fun _ _ f => f))
          clear K0 K1
          cases hfv : fW n false true with
          | false =>
            rw [hfv] at q2 HP
            clear hfv
            go_wp2_with fail
            go_roundw
            case rel => exact ⟨i, j + 1, out, by omega, by omega, rfl, by go_num, HOq.out, HK.out.trans KQ.out (fun _ _ f => f), by rw [HDa.out]; exact HP.out⟩
            case measure => simp [intOf]; try omega
          | true =>
            rw [hfv] at q2 HP
            clear hfv
            obtain ⟨g, cap, w1, Hr, hown1, hon1⟩ := own_num HOq.out (Nat.le_trans HK.out.size KQ.out.size) (Nat.le_trans HLo.out (by decide)) b
            have HE := hid hown1
            have HF := hid hon1
            clear hown1 hon1
            go_wp2_with (at_builtin; refine wpList_append_run rfl _ _ _ rfl rfl rfl Hr ?_)
            go_roundw
            case rel =>
              have hk : Kept w w1 := (HK.out.trans KQ.out (fun _ _ f => f)).trans HF.out (fun q hq e => absurd hq (by have := (HOq.out.lt q e).1; omega))
              exact ⟨i, j + 1, out ++ [b], by omega, by omega, rfl, by go_num, HE.out, hk, by rw [List.append_assoc]; rw [HDa.out]; exact HP.out⟩
            case measure => simp [intOf]; try omega
      · obtain ⟨b1, o1, rfl, y1⟩ := src_at (HA.out.stay kr) HLA.out i hi
        have hil : i < la.length := by have := HLA.out; omega
        rw [List.drop_eq_getElem_cons hil] at hP
        obtain ⟨a, hEa⟩ : ∃ a, la[i] = a := ⟨_, rfl⟩
        rw [hEa] at y1 hP
        have HDa : Hid (la.drop i = a :: la.drop (i + 1)) := by rw [← hEa]; exact List.drop_eq_getElem_cons hil
        clear hEa hil
        have e1 : decide ((i : Int) < (LA : Int)) = true := by simp; omega
        have e2 : decide ((LA : Int) ≤ (i : Int)) = false := by simp; omega
        have z2 : lb.drop j = [] := List.drop_of_length_le (by have := HLB.out; omega)
        rw [z2] at hP
        have HZb := hid z2
        clear z2
        have hj2 : LB = j := by omega
        subst hj2
        clear hj hjL
        have e3 : decide ((LB : Int) < (LB : Int)) = false := by simp
        clear ho kr
        rw [pick_an] at hP
        have HP := hid hP
        clear hP
        go_wp2_with fail
        go_quiet (fail)
        have K0 : Kept wr (wr.drewN nq) := kept_drewN (Only.refl _ _) nq
        generalize wr.drewN nq = wq0 at K0 ⊢
        clear nq
        have y1 := cell_kept K0 y1
        have KQ := hid K0
        have HOq := hid (own_only HO.out K0 (fun _ _ f => f))
        clear K0
        cases hfv : fW n true false with
        | false =>
          rw [hfv] at q1 HP
          clear hfv
          go_wp2_with fail
          go_roundw
          case rel => exact ⟨i + 1, LB, out, by omega, by omega, by go_num, rfl, HOq.out, HK.out.trans KQ.out (fun _ _ f => f), by rw [HZb.out]; exact HP.out⟩
          case measure => simp [intOf]; try omega
        | true =>
          rw [hfv] at q1 HP
          clear hfv
          obtain ⟨g, cap, w1, Hr, hown1, hon1⟩ := own_num HOq.out (Nat.le_trans HK.out.size KQ.out.size) (Nat.le_trans HLo.out (by decide)) a
          have HE := hid hown1
          have HF := hid hon1
          clear hown1 hon1
          go_wp2_with (at_builtin; refine wpList_append_run rfl _ _ _ rfl rfl rfl Hr ?_)
          go_roundw
          case rel =>
            have hk : Kept w w1 := (HK.out.trans KQ.out (fun _ _ f => f)).trans HF.out (fun q hq e => absurd hq (by have := (HOq.out.lt q e).1; omega))
            exact ⟨i + 1, LB, out ++ [a], by omega, by omega, by go_num, rfl, HE.out, hk, by rw [List.append_assoc]; rw [HZb.out]; exact HP.out⟩
          case measure => simp [intOf]; try omega
    · by_cases hj : j < LB
      · have z1 : la.drop i = [] := List.drop_of_length_le (by have := HLA.out; omega)
        rw [z1] at hP
        have HZa := hid z1
        clear z1
        have hi2 : LA = i := by omega
        subst hi2
        clear hi hiL
        have e1 : decide ((LA : Int) < (LA : Int)) = false := by simp
        obtain ⟨b2, o2, rfl, y2⟩ := src_at (HB.out.stay kr) HLB.out j hj
        have hjl : j < lb.length := by have := HLB.out; omega
        rw [List.drop_eq_getElem_cons hjl] at hP
        obtain ⟨b, hEb⟩ : ∃ b, lb[j] = b := ⟨_, rfl⟩
        rw [hEb] at y2 hP
        have HDb : Hid (lb.drop j = b :: lb.drop (j + 1)) := by rw [← hEb]; exact List.drop_eq_getElem_cons hjl
        clear hEb hjl
        have e3 : decide ((j : Int) < (LB : Int)) = true := by simp; omega
        have e4 : decide ((LB : Int) ≤ (j : Int)) = false := by simp; omega
        clear ho kr
        clear e3 e4
        have e4 : ((LB : Int) ≤ (j : Int)) = False := by simp; omega
        have e5 : ((LA : Int) < (LA : Int)) = False := by simp
        rw [pick_nb] at hP
        have HP := hid hP
        clear hP
        go_wp2_with fail
        go_quiet (fail)
        have K0 : Kept wr (wr.drewN nq) := kept_drewN (Only.refl _ _) nq
        generalize wr.drewN nq = wq0 at K0 ⊢
        clear nq
        have y2 := cell_kept K0 y2
        go_wp2_with fail
        go_quiet (fail)
        have K1 : Kept wq0 (wq0.drewN nq) := kept_drewN (Only.refl _ _) nq
        generalize wq0.drewN nq = wq1 at K1 ⊢
        clear nq
        have y2 := cell_kept K1 y2
        have KQ := hid (K0.trans K1 (fun _ _ f => f))
        have HOq := hid (own_only HO.out (K0.trans K1 (fun _ _ f => f)) (fun _ _ f => f))
        clear K0 K1
        cases hfv : fW n false true with
        | false =>
          rw [hfv] at q2 HP
          clear hfv
          go_wp2_with fail
          go_roundw
          case rel => exact ⟨LA, j + 1, out, by omega, by omega, rfl, by go_num, HOq.out, HK.out.trans KQ.out (fun _ _ f => f), by rw [HZa.out]; exact HP.out⟩
          case measure => simp [intOf]; try omega
        | true =>
          rw [hfv] at q2 HP
          clear hfv
          obtain ⟨g, cap, w1, Hr, hown1, hon1⟩ := own_num HOq.out (Nat.le_trans HK.out.size KQ.out.size) (Nat.le_trans HLo.out (by decide)) b
          have HE := hid hown1
          have HF := hid hon1
          clear hown1 hon1
          go_wp2_with (at_builtin; refine wpList_append_run rfl _ _ _ rfl rfl rfl Hr ?_)
          go_roundw
          case rel =>
            have hk : Kept w w1 := (HK.out.trans KQ.out (fun _ _ f => f)).trans HF.out (fun q hq e => absurd hq (by have := (HOq.out.lt q e).1; omega))
            exact ⟨LA, j + 1, out ++ [b], by omega, by omega, rfl, by go_num, HE.out, hk, by rw [List.append_assoc]; rw [HZa.out]; exact HP.out⟩
          case measure => simp [intOf]; try omega
      · have z1 : la.drop i = [] := List.drop_of_length_le (by have := HLA.out; omega)
        rw [z1] at hP
        have HZa := hid z1
        clear z1
        have hi2 : LA = i := by omega
        subst hi2
        clear hi hiL
        have e1 : decide ((LA : Int) < (LA : Int)) = false := by simp
        have z2 : lb.drop j = [] := List.drop_of_length_le (by have := HLB.out; omega)
        rw [z2] at hP
        have HZb := hid z2
        clear z2
        have hj2 : LB = j := by omega
        subst hj2
        clear hj hjL
        have e3 : decide ((LB : Int) < (LB : Int)) = false := by simp
        clear ho kr
        rw [pick_nn, List.append_nil] at hP
        subst hP
        go_wp2_with fail
        go_ret
        exact ⟨_, rfl, HO.out, HK.out⟩

set_option maxRecDepth 100000 in
theorem rset_none (w : World) (va vb : Value) (la lb : List Int) (N : Int) (ha : SrcOf w va (la.map (Value.int .i64))) (hb : SrcOf w vb (lb.map (Value.int .i64))) (hl : la.length ≤ 100000) (hl2 : lb.length ≤ 100000) (hu : upB (-1) la = false ∨ upB (-1) lb = false) :
    Calls Try.prog 13 #[.int .i64 N, va, vb] w fun e w' => e = .returned (.slice none 0 0) ∧ Kept w w' := by
  have C1 := hid (rrising_any w va la ha (by omega))
  have C2 := hid (fun W (h : Kept w W) => rrising_any W vb lb (hb.stay h) (by omega))
  have hu2 : upB (-1) la = false ∨ (upB (-1) la = true ∧ upB (-1) lb = false) := by
    cases h : upB (-1) la with
    | false => exact .inl rfl
    | true =>
      rcases hu with h2 | h2
      · rw [h] at h2; cases h2
      · exact .inr ⟨rfl, h2⟩
  have hq : ∃ x y : Bool, upB (-1) la = x ∧ upB (-1) lb = y ∧ (x = false ∨ (x = true ∧ y = false)) := ⟨_, _, rfl, rfl, hu2⟩
  obtain ⟨x, y, hx, hy, hxy⟩ := hq
  rw [hx] at C1
  rw [hy] at C2
  clear hu hu2 hx hy ha hb
  rcases hxy with rfl | ⟨rfl, rfl⟩
  · cases y <;>
    · go_enter Try.func13, Try.ntmps13
      go_wp2_with fail
      refine C1.out.mono ?_
      rintro e w1 ⟨rfl, k1⟩
      have HK1 := hid k1
      clear k1
      go_wp2_with fail
      refine (C2.out _ HK1.out).mono ?_
      rintro e w2 ⟨rfl, k2⟩
      have HK2 := hid (HK1.out.trans k2 (fun _ _ f => f))
      clear k2
      go_wp2_with fail
      go_ret
      exact ⟨rfl, HK2.out⟩
  · go_enter Try.func13, Try.ntmps13
    go_wp2_with fail
    refine C1.out.mono ?_
    rintro e w1 ⟨rfl, k1⟩
    have HK1 := hid k1
    clear k1
    go_wp2_with fail
    refine (C2.out _ HK1.out).mono ?_
    rintro e w2 ⟨rfl, k2⟩
    have HK2 := hid (HK1.out.trans k2 (fun _ _ f => f))
    clear k2
    go_wp2_with fail
    go_ret
    exact ⟨rfl, HK2.out⟩
theorem rset_any (w : World) (va vb : Value) (la lb : List Int) (n : Nat) (hn : n ≤ 2) (ha : SrcOf w va (la.map (Value.int .i64))) (hb : SrcOf w vb (lb.map (Value.int .i64))) (hl : la.length ≤ 100000) (hl2 : lb.length ≤ 100000) :
    Calls Try.prog 13 #[.int .i64 (n : Int), va, vb] w (SetPost w n la lb) := by
  by_cases h : upB (-1) la = true ∧ upB (-1) lb = true
  · refine (rset_yes w va vb la lb n hn ha hb hl hl2 h.1 h.2).mono ?_
    rintro e w' ⟨v, rfl, ho, k⟩
    refine ⟨v, rfl, ?_, k⟩
    rw [set_yes h.1 h.2]
    exact ho
  · have h2 : upB (-1) la = false ∨ upB (-1) lb = false := by
      cases h1 : upB (-1) la with
      | false => exact .inl rfl
      | true =>
        cases h3 : upB (-1) lb with
        | false => exact .inr rfl
        | true => exact absurd ⟨h1, h3⟩ h
    refine (rset_none w va vb la lb _ ha hb hl hl2 h2).mono ?_
    rintro e w' ⟨rfl, k⟩
    refine ⟨_, rfl, ?_, k⟩
    rw [set_no h2]
    exact World.ownsRow_nil _ _ _ _
end Go.Proofs.Ytpbeenhaaaocpaa.Po
