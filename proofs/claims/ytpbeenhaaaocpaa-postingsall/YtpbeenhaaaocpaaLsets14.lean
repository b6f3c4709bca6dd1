/-
  What is in both, in one, in the first alone of two lists, by the code and by the document.
-/
import Derived.Test.YtpbeenhaaaocpaaLread14
namespace Go.Proofs.Ytpbeenhaaaocpaa.Po
open Go.RowKit Go.Proofs.Lys
set_option linter.unusedVariables false

/-- A row whose first numbers are wiped: it is a row still, of as many numbers; the rest stays. -/
theorem wipe_step {w : World} {base g n cap : Nat} {l : List Int} (h : w.ownsRow base 3 1 (.slice (some ⟨g, 0, none⟩) n cap) n (l.map (Value.int .i64))) (k : Nat) (hk : k < l.length) :
    (∃ u, w.cell? ⟨g, k, none⟩ = some (.int .i64 u)) ∧ w.frozen? ⟨g, k, none⟩ = false ∧ (w.setCell ⟨g, k, none⟩ (.int .i64 (-1))).ownsRow base 3 1 (.slice (some ⟨g, 0, none⟩) n cap) n ((l.set k (-1)).map (Value.int .i64)) := by
  have hn := own_len h
  rw [List.length_map] at hn
  refine ⟨⟨l[k], ?_⟩, h.frozenAt k, ?_⟩
  · rw [h.cellAt k (by omega), List.getElem?_map, List.getElem?_eq_getElem hk]
    rfl
  · rw [List.map_set]
    exact (h.stored k _).1

set_option maxRecDepth 100000 in
set_option maxHeartbeats 6400000 in
theorem sets_walk (w : World) (va vb : Value) (la lb : List Int) (ha : IIn w va la) (hb : IIn w vb lb) :
    Calls Try.prog 3 #[va, vb] w fun e w' => e = .returned (.bool true) ∧ Kept w w' := by
  obtain ⟨hsa, hma⟩ := ha
  obtain ⟨hsb, hmb⟩ := hb
  obtain ⟨a1, c1, rfl⟩ := hsa.len
  obtain ⟨a2, c2, rfl⟩ := hsb.len
  have HA := hid (alive_any w)
  have Sa := hid hsa
  have Sb := hid hsb
  obtain ⟨A, hA⟩ : ∃ A, la.length = A := ⟨_, rfl⟩
  obtain ⟨B, hB⟩ : ∃ B, lb.length = B := ⟨_, rfl⟩
  have HlA := hid hA
  have HlB := hid hB
  rw [hA] at Sa hma ⊢
  rw [hB] at Sb hmb ⊢
  clear hsa hsb hA hB
  by_cases h1 : 1000 < A
  · clear Sa Sb HlA HlB
    go_enter Try.func3, Try.ntmps3
    go_wp2_with fail
    refine HA.out.mono ?_
    rintro e w1 ⟨rfl, k1⟩
    go_wp2_with fail
    go_ret
    exact ⟨rfl, k1⟩
  by_cases h2 : 1000 < B
  · clear Sa Sb HlA HlB
    go_enter Try.func3, Try.ntmps3
    go_wp2_with fail
    refine HA.out.mono ?_
    rintro e w1 ⟨rfl, k1⟩
    go_wp2_with fail
    go_ret
    exact ⟨rfl, k1⟩
  have BA : Hid (la.length ≤ 1000) := by
    have := HlA.out
    show _ ≤ _
    omega
  have BB : Hid (lb.length ≤ 1000) := by
    have := HlB.out
    show _ ≤ _
    omega
  have B0 : Hid ((setL 0 la lb).length ≤ 2000) := hid (Nat.le_trans (set_len _ _ _) (Nat.add_le_add BA.out BB.out))
  have B1 : Hid ((setL 1 la lb).length ≤ 2000) := hid (Nat.le_trans (set_len _ _ _) (Nat.add_le_add BA.out BB.out))
  have B2 : Hid ((setL 2 la lb).length ≤ 2000) := hid (Nat.le_trans (set_len _ _ _) (Nat.add_le_add BA.out BB.out))
  go_enter Try.func3, Try.ntmps3
  go_wp2_with fail
  refine HA.out.mono ?_
  rintro e w1 ⟨rfl, k1⟩
  obtain ⟨vX, w2, HrX, hoX, k2⟩ := copy_ints (Sa.out.stay k1).1 (Nat.le_trans BA.out (by decide))
  have k12 : Kept w w2 := k1.trans k2 (fun _ _ f => f)
  obtain ⟨vY, w3, HrY, hoY, k3⟩ := copy_ints (Sb.out.stay k12).1 (Nat.le_trans BB.out (by decide))
  have DXY : Hid (∀ j, vX.ownBlock = some j → vY.ownBlock = some j → False) := hid (fun j e1 e2 => by have h1 := (hoX.lt j e1).2; have h2 := (hoY.lt j e2).1; omega)
  have X := hid (own_only hoX k3 (fun _ _ f => f))
  have Y := hid hoY
  have HK := hid (k12.trans k3 (fun _ _ f => f))
  clear k1 k2 k3 k12 hoX hoY HA
  go_wp2_with (first | (at_builtin; refine wpList_append_run rfl _ _ _ rfl rfl rfl HrX ?_) | (at_builtin; refine wpList_append_run rfl _ _ _ rfl rfl rfl HrY ?_))
  go_wp2_with fail
  refine (and_any _ _ _ la lb (own_isrc X.out) (own_isrc Y.out) (Nat.le_trans BA.out (by decide)) (Nat.le_trans BB.out (by decide))).mono ?_
  rintro e x1 ⟨vAn, rfl, ho, kk⟩
  have DXAn : Hid (∀ j, vX.ownBlock = some j → vAn.ownBlock = some j → False) := hid (fun j e1 e2 => by have h1 := (X.out.lt j e1).2; have h2 := (ho.lt j e2).1; omega)
  have DYAn : Hid (∀ j, vY.ownBlock = some j → vAn.ownBlock = some j → False) := hid (fun j e1 e2 => by have h1 := (Y.out.lt j e1).2; have h2 := (ho.lt j e2).1; omega)
  have LOAn : Hid (∀ j, vAn.ownBlock = some j → w.heap.size ≤ j) := hid (fun j e => Nat.le_trans HK.out.size (ho.lt j e).1)
  have HK := hid (HK.out.trans kk (fun _ _ f => f))
  have X := hid (own_only X.out kk (fun _ _ f => f))
  have Y := hid (own_only Y.out kk (fun _ _ f => f))
  have An := hid ho
  clear kk ho
  go_wp2_with fail
  refine (or_any _ _ _ la lb (own_isrc X.out) (own_isrc Y.out) (Nat.le_trans BA.out (by decide)) (Nat.le_trans BB.out (by decide))).mono ?_
  rintro e x2 ⟨vOr, rfl, ho, kk⟩
  have DXOr : Hid (∀ j, vX.ownBlock = some j → vOr.ownBlock = some j → False) := hid (fun j e1 e2 => by have h1 := (X.out.lt j e1).2; have h2 := (ho.lt j e2).1; omega)
  have DYOr : Hid (∀ j, vY.ownBlock = some j → vOr.ownBlock = some j → False) := hid (fun j e1 e2 => by have h1 := (Y.out.lt j e1).2; have h2 := (ho.lt j e2).1; omega)
  have DAnOr : Hid (∀ j, vAn.ownBlock = some j → vOr.ownBlock = some j → False) := hid (fun j e1 e2 => by have h1 := (An.out.lt j e1).2; have h2 := (ho.lt j e2).1; omega)
  have LOOr : Hid (∀ j, vOr.ownBlock = some j → w.heap.size ≤ j) := hid (fun j e => Nat.le_trans HK.out.size (ho.lt j e).1)
  have HK := hid (HK.out.trans kk (fun _ _ f => f))
  have X := hid (own_only X.out kk (fun _ _ f => f))
  have Y := hid (own_only Y.out kk (fun _ _ f => f))
  have An := hid (own_only An.out kk (fun _ _ f => f))
  have Or := hid ho
  clear kk ho
  go_wp2_with fail
  refine (sub_any _ _ _ la lb (own_isrc X.out) (own_isrc Y.out) (Nat.le_trans BA.out (by decide)) (Nat.le_trans BB.out (by decide))).mono ?_
  rintro e x3 ⟨vSu, rfl, ho, kk⟩
  have DXSu : Hid (∀ j, vX.ownBlock = some j → vSu.ownBlock = some j → False) := hid (fun j e1 e2 => by have h1 := (X.out.lt j e1).2; have h2 := (ho.lt j e2).1; omega)
  have DYSu : Hid (∀ j, vY.ownBlock = some j → vSu.ownBlock = some j → False) := hid (fun j e1 e2 => by have h1 := (Y.out.lt j e1).2; have h2 := (ho.lt j e2).1; omega)
  have DAnSu : Hid (∀ j, vAn.ownBlock = some j → vSu.ownBlock = some j → False) := hid (fun j e1 e2 => by have h1 := (An.out.lt j e1).2; have h2 := (ho.lt j e2).1; omega)
  have DOrSu : Hid (∀ j, vOr.ownBlock = some j → vSu.ownBlock = some j → False) := hid (fun j e1 e2 => by have h1 := (Or.out.lt j e1).2; have h2 := (ho.lt j e2).1; omega)
  have LOSu : Hid (∀ j, vSu.ownBlock = some j → w.heap.size ≤ j) := hid (fun j e => Nat.le_trans HK.out.size (ho.lt j e).1)
  have HK := hid (HK.out.trans kk (fun _ _ f => f))
  have X := hid (own_only X.out kk (fun _ _ f => f))
  have Y := hid (own_only Y.out kk (fun _ _ f => f))
  have An := hid (own_only An.out kk (fun _ _ f => f))
  have Or := hid (own_only Or.out kk (fun _ _ f => f))
  have Su := hid ho
  clear kk ho
  go_wp2_with fail
  refine (rset_any _ _ _ la lb 0 (by decide) (Sa.out.stay HK.out).1 (Sb.out.stay HK.out).1 (Nat.le_trans BA.out (by decide)) (Nat.le_trans BB.out (by decide))).mono ?_
  rintro e x4 ⟨vR0, rfl, ho, kk⟩
  have HK := hid (HK.out.trans kk (fun _ _ f => f))
  have X := hid (own_only X.out kk (fun _ _ f => f))
  have Y := hid (own_only Y.out kk (fun _ _ f => f))
  have An := hid (own_only An.out kk (fun _ _ f => f))
  have Or := hid (own_only Or.out kk (fun _ _ f => f))
  have Su := hid (own_only Su.out kk (fun _ _ f => f))
  have R0 := hid ho
  clear kk ho
  go_wp2_with fail
  refine (same_any _ _ _ (setL 0 la lb) (own_src An.out) (own_src R0.out) (Nat.le_trans B0.out (by decide))).mono ?_
  rintro e x5 ⟨rfl, kk⟩
  clear R0
  have HK := hid (HK.out.trans kk (fun _ _ f => f))
  have X := hid (own_only X.out kk (fun _ _ f => f))
  have Y := hid (own_only Y.out kk (fun _ _ f => f))
  have An := hid (own_only An.out kk (fun _ _ f => f))
  have Or := hid (own_only Or.out kk (fun _ _ f => f))
  have Su := hid (own_only Su.out kk (fun _ _ f => f))
  clear kk
  go_wp2_with fail
  refine (rset_any _ _ _ la lb 1 (by decide) (Sa.out.stay HK.out).1 (Sb.out.stay HK.out).1 (Nat.le_trans BA.out (by decide)) (Nat.le_trans BB.out (by decide))).mono ?_
  rintro e x6 ⟨vR1, rfl, ho, kk⟩
  have HK := hid (HK.out.trans kk (fun _ _ f => f))
  have X := hid (own_only X.out kk (fun _ _ f => f))
  have Y := hid (own_only Y.out kk (fun _ _ f => f))
  have An := hid (own_only An.out kk (fun _ _ f => f))
  have Or := hid (own_only Or.out kk (fun _ _ f => f))
  have Su := hid (own_only Su.out kk (fun _ _ f => f))
  have R1 := hid ho
  clear kk ho
  go_wp2_with fail
  refine (same_any _ _ _ (setL 1 la lb) (own_src Or.out) (own_src R1.out) (Nat.le_trans B1.out (by decide))).mono ?_
  rintro e x7 ⟨rfl, kk⟩
  clear R1
  have HK := hid (HK.out.trans kk (fun _ _ f => f))
  have X := hid (own_only X.out kk (fun _ _ f => f))
  have Y := hid (own_only Y.out kk (fun _ _ f => f))
  have An := hid (own_only An.out kk (fun _ _ f => f))
  have Or := hid (own_only Or.out kk (fun _ _ f => f))
  have Su := hid (own_only Su.out kk (fun _ _ f => f))
  clear kk
  go_wp2_with fail
  refine (rset_any _ _ _ la lb 2 (by decide) (Sa.out.stay HK.out).1 (Sb.out.stay HK.out).1 (Nat.le_trans BA.out (by decide)) (Nat.le_trans BB.out (by decide))).mono ?_
  rintro e x8 ⟨vR2, rfl, ho, kk⟩
  have HK := hid (HK.out.trans kk (fun _ _ f => f))
  have X := hid (own_only X.out kk (fun _ _ f => f))
  have Y := hid (own_only Y.out kk (fun _ _ f => f))
  have An := hid (own_only An.out kk (fun _ _ f => f))
  have Or := hid (own_only Or.out kk (fun _ _ f => f))
  have Su := hid (own_only Su.out kk (fun _ _ f => f))
  have R2 := hid ho
  clear kk ho
  go_wp2_with fail
  refine (same_any _ _ _ (setL 2 la lb) (own_src Su.out) (own_src R2.out) (Nat.le_trans B2.out (by decide))).mono ?_
  rintro e x9 ⟨rfl, kk⟩
  clear R2
  have HK := hid (HK.out.trans kk (fun _ _ f => f))
  have X := hid (own_only X.out kk (fun _ _ f => f))
  have Y := hid (own_only Y.out kk (fun _ _ f => f))
  have An := hid (own_only An.out kk (fun _ _ f => f))
  have Or := hid (own_only Or.out kk (fun _ _ f => f))
  have Su := hid (own_only Su.out kk (fun _ _ f => f))
  clear kk
  go_wp2_with fail
  obtain ⟨l1, hl1⟩ : ∃ l, setL 1 la lb = l := ⟨_, rfl⟩
  rw [hl1] at Or B1
  clear hl1
  obtain ⟨N1, hN1⟩ : ∃ N, l1.length = N := ⟨_, rfl⟩
  rw [hN1] at Or B1
  have HN1 := hid hN1
  have hn1 : N1 ≤ 2000 := B1.out
  obtain ⟨a1, c1, hv1⟩ := own_slice Or.out
  subst hv1
  clear hN1
  go_loopw [12] (fun s wt => ∃ (k : Nat) (lw : List Int) (base : Nat), k ≤ N1 ∧ s = .int .i64 (k : Int) ∧ lw.length = N1 ∧ wt.ownsRow base 3 1 (.slice a1 N1 c1) N1 (lw.map (Value.int .i64)) ∧ Only (fun j => (Value.slice a1 N1 c1).ownBlock = some j) x9 wt) (fun s _ => N1 - (intOf s).toNat)
  case atStart => exact ⟨0, l1, _, by omega, rfl, HN1.out, Or.out, Only.refl _ _⟩
  case round =>
    obtain ⟨k, lw, base, hk, rfl, hlw, ho, kr⟩ := hrel
    by_cases hlt : k < N1
    · obtain ⟨g, cap, hg⟩ := own_some ho (by omega)
      cases hg
      obtain ⟨⟨u, y0⟩, f0, hst⟩ := wipe_step ho k (by omega)
      have HW := hid hst
      have HLW := hid hlw
      have HKR := hid (kr.setCell (p := ⟨g, k, none⟩) (fun _ => rfl) (.int .i64 (-1)))
      clear hst ho kr hlw
      go_wp2_with fail
      go_roundw
      case rel => exact ⟨k + 1, lw.set k (-1), base, by omega, by go_num, by rw [List.length_set]; exact HLW.out, HW.out, HKR.out⟩
      case measure => simp [intOf]; omega
    · have hk2 : k = N1 := by omega
      subst hk2
      have X := hid (own_only X.out kr (fun b e1 e2 => DXOr.out b e1 e2))
      have Y := hid (own_only Y.out kr (fun b e1 e2 => DYOr.out b e1 e2))
      have An := hid (own_only An.out kr (fun b e1 e2 => DAnOr.out b e1 e2))
      have Su := hid (own_only Su.out kr (fun b e1 e2 => DOrSu.out b e2 e1))
      have HK := hid (HK.out.trans kr (fun q hq e => absurd hq (by have := LOOr.out q e; omega)))
      clear kr ho hlw
      clear Or
      go_wp2_with fail
      obtain ⟨l2, hl2⟩ : ∃ l, setL 2 la lb = l := ⟨_, rfl⟩
      rw [hl2] at Su B2
      clear hl2
      obtain ⟨N2, hN2⟩ : ∃ N, l2.length = N := ⟨_, rfl⟩
      rw [hN2] at Su B2
      have HN2 := hid hN2
      have hn2 : N2 ≤ 2000 := B2.out
      obtain ⟨a2, c2, hv2⟩ := own_slice Su.out
      subst hv2
      clear hN2
      go_loopw [13] (fun s wt => ∃ (k : Nat) (lw : List Int) (base : Nat), k ≤ N2 ∧ s = .int .i64 (k : Int) ∧ lw.length = N2 ∧ wt.ownsRow base 3 1 (.slice a2 N2 c2) N2 (lw.map (Value.int .i64)) ∧ Only (fun j => (Value.slice a2 N2 c2).ownBlock = some j) wr wt) (fun s _ => N2 - (intOf s).toNat)
      case atStart => exact ⟨0, l2, _, by omega, rfl, HN2.out, Su.out, Only.refl _ _⟩
      case round =>
        obtain ⟨k, lw, base, hk, rfl, hlw, ho, kr⟩ := hrel
        by_cases hlt : k < N2
        · obtain ⟨g, cap, hg⟩ := own_some ho (by omega)
          cases hg
          obtain ⟨⟨u, y0⟩, f0, hst⟩ := wipe_step ho k (by omega)
          have HW := hid hst
          have HLW := hid hlw
          have HKR := hid (kr.setCell (p := ⟨g, k, none⟩) (fun _ => rfl) (.int .i64 (-1)))
          clear hst ho kr hlw
          go_wp2_with fail
          go_roundw
          case rel => exact ⟨k + 1, lw.set k (-1), base, by omega, by go_num, by rw [List.length_set]; exact HLW.out, HW.out, HKR.out⟩
          case measure => simp [intOf]; omega
        · have hk2 : k = N2 := by omega
          subst hk2
          have X := hid (own_only X.out kr (fun b e1 e2 => DXSu.out b e1 e2))
          have Y := hid (own_only Y.out kr (fun b e1 e2 => DYSu.out b e1 e2))
          have An := hid (own_only An.out kr (fun b e1 e2 => DAnSu.out b e1 e2))
          have HK := hid (HK.out.trans kr (fun q hq e => absurd hq (by have := LOSu.out q e; omega)))
          clear kr ho hlw
          clear Su
          go_wp2_with fail
          refine (same_any _ _ _ la (own_src X.out) (Sa.out.stay HK.out).1 (Nat.le_trans BA.out (by decide))).mono ?_
          rintro e y1 ⟨rfl, kk⟩
          have HK := hid (HK.out.trans kk (fun _ _ f => f))
          have X := hid (own_only X.out kk (fun _ _ f => f))
          have Y := hid (own_only Y.out kk (fun _ _ f => f))
          have An := hid (own_only An.out kk (fun _ _ f => f))
          clear kk
          go_wp2_with fail
          refine (same_any _ _ _ lb (own_src Y.out) (Sb.out.stay HK.out).1 (Nat.le_trans BB.out (by decide))).mono ?_
          rintro e y2 ⟨rfl, kk⟩
          have HK := hid (HK.out.trans kk (fun _ _ f => f))
          have X := hid (own_only X.out kk (fun _ _ f => f))
          have Y := hid (own_only Y.out kk (fun _ _ f => f))
          have An := hid (own_only An.out kk (fun _ _ f => f))
          clear kk
          go_wp2_with fail
          refine (check_any _ _ la (Sa.out.stay HK.out).1 (Nat.le_trans BA.out (by decide))).mono ?_
          rintro e y3 ⟨rfl, hw⟩
          replace hw := hw.symm
          subst hw
          go_wp2_with fail
          refine (rrising_any _ _ la (Sa.out.stay HK.out).1 (Nat.le_trans BA.out (by decide))).mono ?_
          rintro e y4 ⟨rfl, kk⟩
          have HK := hid (HK.out.trans kk (fun _ _ f => f))
          have An := hid (own_only An.out kk (fun _ _ f => f))
          clear kk
          generalize upB (-1) la = ub
          have eb : (ub == ub) = true := by cases ub <;> rfl
          cases ub <;> (
          go_wp2_with fail
          refine (rset_any _ _ _ la lb 0 (by decide) (Sa.out.stay HK.out).1 (Sb.out.stay HK.out).1 (Nat.le_trans BA.out (by decide)) (Nat.le_trans BB.out (by decide))).mono ?_
          rintro e y5 ⟨vR3, rfl, ho, kk⟩
          have HK := hid (HK.out.trans kk (fun _ _ f => f))
          have An := hid (own_only An.out kk (fun _ _ f => f))
          have R3 := hid ho
          clear kk ho
          go_wp2_with fail
          refine (same_any _ _ _ (setL 0 la lb) (own_src An.out) (own_src R3.out) (Nat.le_trans B0.out (by decide))).mono ?_
          rintro e y6 ⟨rfl, kk⟩
          clear R3
          have HK := hid (HK.out.trans kk (fun _ _ f => f))
          have An := hid (own_only An.out kk (fun _ _ f => f))
          clear kk
          go_wp2_with fail
          go_ret
          exact ⟨rfl, HK.out⟩)
end Go.Proofs.Ytpbeenhaaaocpaa.Po
