/-
  The law HeadPlays: the walk.
-/
import Derived.Test.YtnbfbnhiikliaaaGreatPb
namespace Go.Proofs.YtnbfbnhiikliaaaGreat.Hd
open Go.RowKit Go.Proofs.Lys Go.Maps Go.Proofs.YtnbfbnhiikliaaaGreat.N
set_option linter.unusedVariables false
set_option linter.unusedSimpArgs false

theorem rows_okP {rs : List Row} (hl : rs.length ≤ 1000) (h : ∀ r ∈ rs, bigN r.1 ≤ 4000) : RowsOk rs :=
  ⟨by omega, fun r hr => ⟨by have := (bigN_small (h r hr)).2; omega, (bigN_small (h r hr)).1⟩⟩
def sumB (bs : List (List Row)) : Nat := (bs.map List.length).sum
theorem sumB_next {bs : List (List Row)} {i : Nat} (hi : i < bs.length) : sumB (bs.take (i + 1)) = sumB (bs.take i) + bs[i].length := by
  unfold sumB
  rw [← List.take_append_getElem hi, List.map_append, List.sum_append]
  simp
theorem sumB_le {bs : List (List Row)} (i : Nat) : sumB (bs.take i) ≤ sumB bs := by
  unfold sumB
  conv => rhs; rw [← List.take_append_drop i bs, List.map_append, List.sum_append]
  omega
theorem FullAt.src {w : World} {B g cap : Nat} {qs : List RowC} {Z : Nat → Prop} (h : FullAt w B (.slice (some ⟨g, 0, none⟩) (qs.length + 1) cap) qs) (hZ : ∀ j, fullO (.slice (some ⟨g, 0, none⟩) (qs.length + 1) cap) qs j → Z j) : RowSrc w Z (.slice (some ⟨g, 0, none⟩) qs.length cap) (qs.map (·.r)) := by
  by_cases h0 : qs.length = 0
  · exact .inl ⟨_, _, by rw [h0], by rw [List.length_eq_zero_iff.1 h0]; rfl⟩
  · refine .inr ⟨by rw [List.length_map]; omega, g, 0, cap, by rw [List.length_map], hZ g (.inl rfl), fun i hi => ?_⟩
    rw [List.length_map] at hi
    obtain ⟨a, b, c⟩ := (h.cells rfl).1 i hi
    have hq := h.lent _ (List.getElem_mem hi)
    rw [Nat.zero_add, List.getElem_map]
    refine ⟨_, a, b, c, hq.src.1, fun x m d e hm => ?_⟩
    obtain ⟨g', cap', e', _⟩ := hq
    rw [e'] at e
    cases e
    exact hZ g' (.inr ⟨_, List.getElem_mem hi, by rw [e']; rfl⟩)
theorem row_hi {g cap n hi : Nat} (h1 : hi ≤ cap) (h3 : ¬ cap = 0) (W : World) :
    (Instr.sliceAt 26 (.slice (some ⟨g, 0, none⟩) n cap) none (some (.int .i64 (hi : Int))) none).run Tryz.prog W = .ok (.slice (some ⟨g, 0, none⟩) hi cap) W := by
  have hs : (sizeOf 40).run Tryz.prog W = .ok 3 W := by kernel_rfl
  simp [Instr.sliceAt, Instr.slice, Instr.sliceBounds, Instr.sliceBound, run_underlying Tryz.underlying26, asIntOf, h1, h3, hs, add_none, Result.andThen]
theorem count_write {win : Int} {M : Mod} (h : ModOk M) (rs : List Row) : countM (modM M (writeM win M rs)) ≤ countM M + rs.length := by
  cases e : writeM win M rs with
  | error x => exact Nat.le_add_right _ _
  | ok N =>
    unfold writeM at e
    split at e
    · cases e
    · split at e
      · cases e
      · exact countM_rows h e
theorem ok_write {win : Int} {M : Mod} (h : ModOk M) (rs : List Row) : ModOk (modM M (writeM win M rs)) := by
  cases e : writeM win M rs with
  | error x => exact h
  | ok N =>
    unfold writeM at e
    split at e
    · cases e
    · split at e
      · cases e
      · exact h.rows e
theorem play_rwrite {w0 W w' : World} {F : Nat → Prop} {h o : HeadC} {O Oo : Nat → Prop} {Mh Mo M : Mod} {Z : Nat → Prop} {B rb : Nat} {win : Int} {v : Value} {qs : List SV} {rs : List Row} {e : Ending} (p : PlayI w0 W F h o O Oo Mh Mo Z B rb win v qs) (hm : qs.map serV = M) (hA : RWriteA W Z B rb win M rs e w') :
    e = .returned (.int .i64 (errM (writeM win M rs))) ∧ ∃ Z' v' qs', PlayI w0 w' F h o O Oo Mh Mo Z' B rb win v' qs' ∧ qs'.map serV = modM M (writeM win M rs) ∧ Only (fun j => j = rb) W w' := by
  have hok := p.ok
  rw [hm] at hok
  rcases hA with ⟨x, hx, rfl, _, k⟩ | ⟨N, v', qs', Z', hx, rfl, hr, hN, hz, hv, hon⟩
  · rw [hx]
    exact ⟨rfl, Z, v, qs, p.stay k, hm, k.mono (fun _ _ f => f.elim)⟩
  · have h1 := ok_write (win := win) hok rs
    rw [hx] at h1 ⊢
    exact ⟨rfl, Z', v', qs', p.ref hr (by rw [hN]; exact h1) hz hv hon, hN, hon⟩
def nmO : ByteArray := ⟨#[111, 116, 104, 101, 114]⟩
theorem nmO_size : nmO.size ≤ 1000 := by decide
/-- Rows that were lent and are wiped: their places alone are told. -/
structure FullW (w : World) (B : Nat) (v : Value) (qs : List RowC) : Prop where
  row : RowAt w B v (qs ++ [⟨.slice none 0 0, ([], (-71, 0))⟩])
  lab : ∀ q ∈ qs, ∃ g cap xs, q.lv = .slice (some ⟨g, 0, none⟩) q.r.1.length cap ∧ w.ownsRow B 46 2 (.slice (some ⟨g, 0, none⟩) (q.r.1.length + 1) cap) (q.r.1.length + 1) xs
  apart : qs.Pairwise (fun a b => ∀ j, a.lv.ownBlock = some j → b.lv.ownBlock ≠ some j)
theorem FullW.cells {w : World} {B g cap n : Nat} {qs : List RowC} (h : FullW w B (.slice (some ⟨g, 0, none⟩) n cap) qs) (hn : qs.length + 1 = n) (i : Nat) (hi : i < qs.length) : w.cell? ⟨g, i * 3, none⟩ = some qs[i].lv := by
  have h1 := h.row
  have hl : (qs ++ [(⟨.slice none 0 0, ([], (-71, 0))⟩ : RowC)]).length = qs.length + 1 := by simp
  unfold RowAt at h1
  rw [hl, hn] at h1
  obtain ⟨a, b, c⟩ := rowL_at (qs ++ [(⟨.slice none 0 0, ([], (-71, 0))⟩ : RowC)]) i (by simp; omega)
  rw [List.getElem_append_left hi] at a
  rw [h1.cellAt (i * 3) (by omega)]
  exact a
theorem full_apart {qs : List RowC} (h : qs.Pairwise (fun a b => ∀ j, a.lv.ownBlock = some j → b.lv.ownBlock ≠ some j)) {k : Nat} (hk : k < qs.length) {q : RowC} (hq : q ∈ qs) : q = qs[k] ∨ ∀ j, qs[k].lv.ownBlock = some j → q.lv.ownBlock ≠ some j := by
  obtain ⟨m, hm, rfl⟩ := List.getElem_of_mem hq
  rcases Nat.lt_trichotomy m k with e | e | e
  · exact .inr (fun j hj hj2 => List.pairwise_iff_getElem.1 h m k hm hk e j hj2 hj)
  · subst e
    exact .inl rfl
  · exact .inr (fun j hj => List.pairwise_iff_getElem.1 h k m hk hm e j hj)
theorem part_count (low : Int) (M : Mod) : countM (partM (stayS low) M) ≤ countM M := by
  unfold partM
  induction M with
  | nil => exact Nat.le_refl _
  | cons x r ih =>
    rw [List.map_cons, List.filter_cons]
    have hl : (stayS low x.2).length ≤ x.2.length := by simp [stayS]
    split
    · simp only [countM]
      omega
    · simp only [countM]
      omega
theorem made_small {l : Labs} (h : Made l) : Small l := fun x hx => by
  have h1 := h.ok x hx
  simp only [labOk, nameOk, valOk, Bool.and_eq_true, decide_eq_true_eq] at h1
  omega
/-- Numbers that came in. -/
def CutIn' (w : World) (v : Value) (cs : List Int) : Prop := SrcOf w v (cs.map (Value.int .i64)) ∧ cs.length ≤ 1000000000000000
/-- What is known ahead of a batch. -/
structure BatP (w wt : World) (hp op rb B : Nat) (win : Int) (bs : List (List Row)) (i : Nat) : Prop where
  all : ∃ h o O Oo M Mo Z v qs, PlayI w wt (fun _ => False) h o O Oo M Mo Z B rb win v qs ∧ qs.map serV = M ∧ h.win = win ∧ h.hb = hp ∧ o.hb = op ∧ countM M ≤ sumB (bs.take i) ∧ countM Mo ≤ i

set_option maxRecDepth 100000 in
set_option maxHeartbeats 16000000 in
theorem play_walk (w : World) (hMx : Mx w) (n : Int) (bv cv : Value) (bs : List (List Row)) (cs : List Int) (hb : BatIn w bv bs) (hc : CutIn' w cv cs) :
    Calls Tryz.prog 3 #[.int .i64 n, bv, cv] w fun e w' => e = .returned (.bool true) ∧ Kept w w' := by
  have HAL := hid (alive_any w hMx)
  have HMX := hid hMx
  obtain ⟨ba, bc, rfl⟩ := hb.len'
  obtain ⟨hcs, hcl⟩ := hc
  obtain ⟨ca, cc, hce⟩ := hcs.len
  rw [List.length_map] at hce
  subst hce
  obtain ⟨L, hL⟩ : ∃ L, bs.length = L := ⟨_, rfl⟩
  obtain ⟨C, hC⟩ : ∃ C, cs.length = C := ⟨_, rfl⟩
  have hLb : L ≤ 1000000000000000 := by rw [← hL]; exact hb.len
  have HB := hid hb
  have HCS := hid hcs
  have HL := hid hL
  have HC := hid hC
  rw [hL] at HB ⊢
  rw [hC] at HCS hcl ⊢
  clear hb hcs hMx hL hC
  by_cases h30 : 30 < L
  · clear HB HCS
    go_enter Tryz.func3, Tryz.ntmps3
    go_wp2_with fail
    refine HAL.out.mono ?_
    rintro e w1 ⟨rfl, k1⟩
    go_wp2_with fail
    go_ret
    exact ⟨rfl, k1⟩
  by_cases c30 : 30 < C
  · clear HB HCS
    go_enter Tryz.func3, Tryz.ntmps3
    go_wp2_with fail
    refine HAL.out.mono ?_
    rintro e w1 ⟨rfl, k1⟩
    go_wp2_with fail
    go_ret
    exact ⟨rfl, k1⟩
  have d1 : decide ((30 : Int) < (L : Int)) = false := by simp; omega
  have d2 : decide ((30 : Int) < (C : Int)) = false := by simp; omega
  go_enter Tryz.func3, Tryz.ntmps3
  go_wp2_with fail
  refine HAL.out.mono ?_
  rintro e w1 ⟨rfl, k1⟩
  have HK1 := hid k1
  clear HAL k1
  go_wp2_with fail
  go_loopw [8, 9, 10] (fun t s _ wt => ∃ (i m : Nat), i ≤ L ∧ s = .int .i64 (i : Int) ∧ t = .int .i64 (m : Int) ∧ m = sumB (bs.take i) ∧ m ≤ 600 ∧ (∀ k (hk : k < bs.length), k < i → ∀ r ∈ bs[k], bigN r.1 ≤ 4000) ∧ Kept w wt) (fun _ s _ _ => L - (intOf s).toNat)
  case atStart => exact ⟨0, 0, by omega, rfl, rfl, rfl, by omega, fun k _ h => absurd h (by omega), HK1.out⟩
  case round =>
    obtain ⟨i, m, hi, rfl, rfl, hm, hm6, hbig, kr⟩ := hrel
    have HK := hid kr
    have HBIG := hid hbig
    by_cases hlt : i < L
    · have hil : i < bs.length := by have := HL.out; omega
      obtain ⟨b, o, a', c', rfl, y0, hrows⟩ := HB.out.cell HL.out i hlt
      have hs1 := sumB_next hil
      obtain ⟨rs, hrs⟩ : ∃ rs, bs[i] = rs := ⟨_, rfl⟩
      rw [hrs] at y0 hrows hs1
      have HRS : Hid (∀ h : i < bs.length, bs[i] = rs) := hid (fun _ => hrs)
      clear hrs
      have HBR := hid (bigrows_any wr _ rs (hrows.stay kr))
      have hrl := hrows.len
      have y0 := only_cell kr (fun f => f) y0
      obtain ⟨NB, hNB⟩ : ∃ N, rs.length = N := ⟨_, rfl⟩
      rw [hNB] at y0 hrl HBR hs1
      have HS1 := hid hs1
      have HM := hid hm
      clear kr hbig hrows hs1 hm hil
      go_wp2_with fail
      refine HBR.out.mono ?_
      rintro e w2 ⟨⟨bg, rfl, hbg⟩, k2⟩
      have HK2 := hid (HK.out.trans k2 (fun _ _ f => f))
      have HBG := hid hbg
      have y0 := only_cell k2 (fun f => f) y0
      clear k2 hbg HBR
      cases bg with
      | true =>
        go_wp2_with fail
        go_ret
        exact ⟨rfl, HK2.out⟩
      | false =>
        by_cases h6 : 600 < m + NB
        · have d3 : decide ((600 : Int) < (m : Int) + (NB : Int)) = true := by simp; omega
          go_wp2_with fail
          go_ret
          exact ⟨rfl, HK2.out⟩
        · have d3 : decide ((600 : Int) < (m : Int) + (NB : Int)) = false := by simp; omega
          go_wp2_with fail
          go_roundw
          case rel =>
            refine ⟨i + 1, m + NB, by omega, by go_num, by go_num, by rw [HS1.out, ← HM.out], by omega, fun k hk hki => ?_, HK2.out⟩
            by_cases e : k < i
            · exact HBIG.out k hk e
            · have : k = i := by omega
              subst this
              rw [HRS.out hk]
              exact HBG.out trivial
          case measure => simp [intOf]; omega
    · have HSUM : Hid (sumB bs ≤ 600) := hid (by rw [← List.take_length (l := bs), show bs.length = i by have := HL.out; omega, ← hm]; exact hm6)
      have HROK : Hid (∀ k (hk : k < bs.length), RowsOk bs[k] ∧ bs[k].length ≤ 600 ∧ ∀ r ∈ bs[k], r.1.length ≤ 4000) := hid (fun k hk => by
        have hle : bs[k].length ≤ 600 := by
          have h1 := sumB_next hk
          have h2 := sumB_le (bs := bs) (k + 1)
          have h3 := HSUM.out
          omega
        have hbk := HBIG.out k hk (by have := HL.out; omega)
        exact ⟨rows_okP (by omega) hbk, hle, fun r hr => (bigN_small (hbk r hr)).2⟩)
      clear hbig hm hm6 kr HBIG
      go_wp2_with fail
      refine (new_in HK.out n).mono ?_
      rintro e w2 ⟨h, O, rfl, hh, hhw, k2, hnO⟩
      have HHi := hid hh
      have HHW := hid hhw
      have HK2 := hid (HK.out.trans k2 (fun _ _ f => f))
      have HNO := hid hnO
      clear hh hhw k2 hnO
      go_wp2_with fail
      refine (new_in HK2.out n).mono ?_
      rintro e w3 ⟨o, Oo, rfl, ho, _, k3, hnOo⟩
      have HOi := hid ho
      have HHi3 := hid (HHi.out.stay k3)
      have HNOo := hid hnOo
      have HK3 := hid (HK2.out.trans k3 (fun _ _ f => f))
      clear ho k3 hnOo
      go_wp2_with fail
      refine (rnew_any w3 n).mono ?_
      rintro e w4 ⟨rfl, hr, k4⟩
      have hz : ∀ j, refO (fun _ => False) w3.heap.size (.slice none 0 0) j → j = w3.heap.size := fun j hj => by
        rcases hj with f | e | e
        · exact f.elim
        · exact e
        · cases e
      have q1 : ∀ j, refO (fun _ => False) w3.heap.size (.slice none 0 0) j → w.heap.size ≤ j := fun j hj => by
        rw [hz j hj]
        exact HK3.out.size
      have q2 : ∀ j, O j → ¬ Oo j := fun j h1 h2 => by
        have := HNOo.out j h2
        have := HHi.out.at_.lt j h1
        omega
      have q3 : ∀ j, refO (fun _ => False) w3.heap.size (.slice none 0 0) j → ¬ O j := fun j hj h1 => by
        have := hz j hj
        have := HHi3.out.at_.lt j h1
        omega
      have q4 : ∀ j, refO (fun _ => False) w3.heap.size (.slice none 0 0) j → ¬ Oo j := fun j hj h1 => by
        have := hz j hj
        have := HOi.out.at_.lt j h1
        omega
      have HP : Hid (BatP w w4 h.hb o.hb w3.heap.size w3.heap.size (min (max n 0) 9007199254740992) bs 0) := hid ⟨⟨h, o, O, Oo, [], [], fun _ => False, _, [], ⟨HHi3.out.stay k4, HOi.out.stay k4, hr, ModOk.nil, (fun _ f => f.elim), k4.size, q1, q2, q3, q4, (fun _ f => f.elim), (fun _ f => f.elim), (fun _ f => f.elim)⟩, rfl, HHW.out, rfl, rfl, by simp [countM], by simp [countM]⟩⟩
      clear hz q1 q2 q3 q4
      have HWIN : Hid (0 ≤ min (max n 0) 9007199254740992 ∧ min (max n 0) 9007199254740992 ≤ 9007199254740992) := hid (by omega)
      obtain ⟨win, hwin⟩ : ∃ win, min (max n 0) 9007199254740992 = win := ⟨_, rfl⟩
      rw [hwin] at HP HWIN
      obtain ⟨hp, hhp⟩ : ∃ hp, h.hb = hp := ⟨_, rfl⟩
      obtain ⟨op, hop⟩ : ∃ op, o.hb = op := ⟨_, rfl⟩
      obtain ⟨rb, hrb⟩ : ∃ rb, w3.heap.size = rb := ⟨_, rfl⟩
      rw [hhp, hop, hrb] at HP
      rw [hhp, hop, hrb]
      clear hr k4 HHi HHi3 HOi HNO HNOo HK2 HK3 HHW hwin hhp hop hrb
      go_wp2_with fail
      go_loopw [14, 15, 16, 17, 18, 19, 20, 21, 22, 23, 24, 25, 26, 27, 28] (fun s _ _ _ _ _ _ _ _ _ _ _ _ _ _ wt => ∃ (i : Nat), i ≤ L ∧ s = .int .i64 (i : Int) ∧ BatP w wt hp op rb rb win bs i) (fun s _ _ _ _ _ _ _ _ _ _ _ _ _ _ _ => L - (intOf s).toNat)
      case atStart => exact ⟨0, by omega, rfl, HP.out⟩
      case round =>
        obtain ⟨i, hi, rfl, hB⟩ := hrel
        obtain ⟨h, o, O, Oo, M, Mo, Z, v, qs, hP, hqm, hw, hhb, hob, hcM, hcMo⟩ := hB.all
        clear hB
        by_cases hlt : i < L
        · have hil : i < bs.length := by have := HL.out; omega
          have kw := hP.h_.kept
          obtain ⟨b, o1, a', c', rfl, y0, hrows⟩ := HB.out.cell HL.out i hlt
          have hs1 := sumB_next hil
          obtain ⟨hrok, hr6, hrl⟩ := HROK.out i hil
          obtain ⟨rs, hrs⟩ : ∃ rs, bs[i] = rs := ⟨_, rfl⟩
          rw [hrs] at y0 hrows hs1 hrok hr6 hrl
          have hs2 : sumB (bs.take i) ≤ 600 := Nat.le_trans (sumB_le i) HSUM.out
          have hcM6 : countM M ≤ 600 := by omega
          have HS1 := hid hs1
          have HROWS := hid hrows
          have HRK := hid hrok
          have Y0 : Hid (∀ W, Kept w W → W.cell? ⟨b, o1 + i, none⟩ = some (.slice a' rs.length c')) := hid (fun W kW => only_cell kW (fun f => f) y0)
          have HLent := hid (rlent_any _ rs (hrows.src.stay kw) (by omega) (fun r hr => by have := hrl r hr; omega))
          obtain ⟨NB, hNB⟩ : ∃ N, rs.length = N := ⟨_, rfl⟩
          rw [hNB] at HLent Y0 HROWS hr6 hs1 HS1
          have HNB := hid hNB
          have y1 := Y0.out _ kw
          have HP := hid hP
          have HQM := hid hqm
          have HW := hid hw
          have HHB := hid hhb
          have HOB := hid hob
          have HCM := hid hcM
          have HCMo := hid hcMo
          have HCM6 := hid hcM6
          have HRL := hid hrl
          clear hil kw hrows hs1 hrok hrl hrs hs2 hNB y0 hP hqm hw hhb hob hcM hcMo hcM6
          go_wp2_with fail
          refine HLent.out.mono ?_
          rintro e w2 ⟨fv, fqs, rfl, hrow, hmap, hlent, hap, k2⟩
          have hF : FullAt w2 wr.heap.size fv fqs := ⟨hrow, hlent, hap⟩
          have p2 := HP.out.fresh k2 (fullO fv fqs) (fun j hj => hF.lt hj)
          obtain ⟨g, cap, rfl, hcap⟩ := hF.shape
          have hfl : fqs.length = NB := by
            have := congrArg List.length hmap
            rw [List.length_map] at this
            have := HNB.out
            omega
          have hsrc := hF.src (Z := fun j => ¬ O j) (fun j hj => (p2.fd j hj).1)
          rw [hmap] at hsrc
          have HMay := hid (may_any p2.h_.at_ p2.h_.is_ (by have := HCM6.out; omega) _ rs hsrc HRK.out)
          rw [HW.out, HHB.out] at HMay
          rw [hfl] at hF p2 hcap HMay
          have hsl : ∀ W, (Instr.sliceAt 26 (.slice (some ⟨g, 0, none⟩) (NB + 1) cap) none (some (.int .i64 (NB : Int))) none).run Tryz.prog W = .ok (.slice (some ⟨g, 0, none⟩) NB cap) W := fun W => row_hi (by omega) (by omega) W
          have y2 := Y0.out _ p2.h_.kept
          have HF2 := hid hF
          have HP2 := hid p2
          have HMAP := hid hmap
          have HFL := hid hfl
          rw [hfl]
          clear hrow hlent hap hF p2 hsrc HLent k2 hmap hfl HP
          go_wp2_with fail
          refine HMay.out.mono ?_
          rintro e w3 ⟨rfl, k3⟩
          have HP3 := hid (HP2.out.stay k3)
          have HF3 := hid (HF2.out.stay k3)
          have HRM := hid (fun (W : World) (kW : Kept w3 W) => rmay_any (HP3.out.r_.stay kW) (fun j hj => Nat.lt_of_lt_of_le (HP3.out.zlt j hj) kW.size) HP3.out.ok (by rw [HQM.out]; have := HCM6.out; omega) HWIN.out (Zr := fun _ => True) _ rs (HROWS.out.src.stay (HP3.out.h_.kept.trans kW (fun _ _ f => f))) HRK.out)
          rw [HQM.out] at HRM
          obtain ⟨E, hE⟩ : ∃ E, errM (writeM win M rs) = E := ⟨_, rfl⟩
          rw [hE] at HRM ⊢
          have HE := hid hE
          have S0 : Hid (∀ W, Kept w3 W → W.cell? ⟨b, o1 + i, none⟩ = some (.slice a' NB c')) := hid (fun W kW => Y0.out W (HP3.out.h_.kept.trans kW (fun _ _ f => f)))
          clear k3 HMay HP2 HF2 hE y1 y2
          go_wp2_with fail
          refine wp_region_noPanic ?_
          refine wp_region_last (L := 1000) (S := fun w' => Kept w3 w') (by kernel_rfl) ?_
          have K0 := hid (show Kept w3 w3.drew from (Only.refl _ _).drew)
          have hS : (fun w' : World => Kept w3 w') w3.drew := K0.out
          refine wpAnyN_take (i := 0) (v := .int .i64 E) rfl (by kernel_rfl) (by kernel_rfl) (by kernel_rfl) (by decide) (by kernel_rfl) (fun _ _ _ h => h) (Or.inl ⟨by rfl, ?_⟩) hS ?_
          · (intro w' hSw; have s0 := S0.out w' hSw; clear hSw; go_simp)
          (try simp only [List.getElem_toArray, List.getElem_cons_succ, List.getElem_cons_zero])
          go_frame
          refine wpAnyN_take (i := 2) (v := .pointer (some ⟨rb, 0, none⟩)) rfl (by kernel_rfl) (by kernel_rfl) (by kernel_rfl) (by decide) (by kernel_rfl) (fun _ _ _ h => h) (Or.inl ⟨by rfl, ?_⟩) hS ?_
          · (intro w' hSw; have s0 := S0.out w' hSw; clear hSw; go_simp)
          (try simp only [List.getElem_toArray, List.getElem_cons_succ, List.getElem_cons_zero])
          go_frame
          refine wpAnyN_take (i := 3) (v := .slice (some ⟨b, o1, none⟩) L bc) rfl (by kernel_rfl) (by kernel_rfl) (by kernel_rfl) (by decide) (by kernel_rfl) (fun _ _ _ h => h) (Or.inl ⟨by rfl, ?_⟩) hS ?_
          · (intro w' hSw; have s0 := S0.out w' hSw; clear hSw; go_simp)
          (try simp only [List.getElem_toArray, List.getElem_cons_succ, List.getElem_cons_zero])
          go_frame
          refine wpAnyN_take (i := 4) (v := .int .i64 (i : Int)) rfl (by kernel_rfl) (by kernel_rfl) (by kernel_rfl) (by decide) (by kernel_rfl) (fun _ _ _ h => h) (Or.inl ⟨by rfl, ?_⟩) hS ?_
          · (intro w' hSw; have s0 := S0.out w' hSw; clear hSw; go_simp)
          (try simp only [List.getElem_toArray, List.getElem_cons_succ, List.getElem_cons_zero])
          go_frame
          refine wpAnyN_take (i := 5) (v := .pointer (some ⟨b, o1 + i, none⟩)) rfl (by kernel_rfl) (by kernel_rfl) (by kernel_rfl) (by decide) (by kernel_rfl) (fun _ _ _ h => h) (Or.inl ⟨by rfl, ?_⟩) hS ?_
          · (intro w' hSw; have s0 := S0.out w' hSw; clear hSw; go_simp)
          (try simp only [List.getElem_toArray, List.getElem_cons_succ, List.getElem_cons_zero])
          go_frame
          refine wpAnyN_take (i := 6) (v := (.slice a' NB c')) rfl (by kernel_rfl) (by kernel_rfl) (by kernel_rfl) (by decide) (by kernel_rfl) (fun _ _ _ h => h) (Or.inl ⟨by rfl, ?_⟩) hS ?_
          · (intro w' hSw; have s0 := S0.out w' hSw; clear hSw; go_simp)
          (try simp only [List.getElem_toArray, List.getElem_cons_succ, List.getElem_cons_zero])
          go_frame
          refine wpAnyL_one (i := 1) (by kernel_rfl) rfl rfl ?_
          go_simp
          refine (num_any _ _).mono ?_
          rintro e wn ⟨rfl, hwn⟩
          replace hwn := hwn.symm
          subst hwn
          refine ⟨K0.out, ?_⟩
          (try go_frame)
          refine wpAnyL_one (i := 7) (by kernel_rfl) rfl rfl ?_
          go_simp
          refine (HRM.out _ K0.out).mono ?_
          rintro e w4 ⟨rfl, k4⟩
          have K4 := hid (show Kept w3 w4 from K0.out.trans k4 (fun _ _ f => f))
          clear k4 hS
          refine ⟨K4.out, ?_⟩
          (try go_frame)
          refine wpAnyL_one (i := 8) (by kernel_rfl) rfl rfl ?_
          go_simp
          refine ⟨K4.out, ?_⟩
          (try go_frame)
          refine wpAnyN_done (by kernel_rfl) ?_
          refine NoPanic.normal ?_
          have HP4 := hid (HP3.out.stay K4.out)
          have HF4 := hid (HF3.out.stay K4.out)
          have hsrc4 : RowSrc w4 (fun j => ¬ O j) (.slice (some ⟨g, 0, none⟩) NB cap) rs := by
            have h1 := HF4.out
            rw [← HFL.out] at h1
            have h2 := h1.src (Z := fun j => ¬ O j) (fun j hj => (HP4.out.fd j (by rw [HFL.out] at hj; exact hj)).1)
            rw [HMAP.out, HFL.out] at h2
            exact h2
          have HWr := hid (write_in HMX.out HP4.out.h_ (by have := HCM6.out; omega) _ rs hsrc4 HRK.out)
          rw [HW.out, HHB.out, HE.out] at HWr
          have y4 := Y0.out _ HP4.out.h_.kept
          clear hsrc4 HP3 HF3 HRM K0 K4 S0
          go_wp2_with fail
          refine HWr.out.mono ?_
          rintro e w5 ⟨rfl, h5, O5, hW5⟩
          have HP5 := hid (HP4.out.hwrite hW5)
          have HF5 := hid (HF4.out.only hW5.only (fun j hj => (HP4.out.fd j hj).1))
          have HW5 := hid (hW5.win.trans HW.out)
          have HHB5 := hid (hW5.hb.trans HHB.out)
          clear hW5 HWr HP4 HF4 HW HHB y4
          go_wp2_with fail
          refine (row_any w5 nmO (i : Int) (i : Int)).mono ?_
          rintro e w6 ⟨rfl, hl6, k6⟩
          have p6 := HP5.out.stay k6
          have hlt6 := HP5.out.o_.at_.lt
          have hrow := lit_row (Z := fun j => ¬ Oo j) (t := (i : Int)) (v := (i : Int)) (l := labA nmO) hl6 (fun e => by have := hlt6 _ e; omega) (fun e => by have := p6.o_.at_.lt _ e; omega)
          have k6a : Kept w6 (w6.alloc (.cells #[.slice (some ⟨w5.heap.size + 1, 0, none⟩) 1 1, .int .i64 (i : Int), .int .i64 (i : Int)] 40)) := (Only.refl _ w6).alloc _
          have p6a := p6.stay k6a
          have HWo := hid (write_in HMX.out p6a.o_ (by have := HCMo.out; omega) _ _ hrow (rows_labA (by simp) (fun r hr => ⟨nmO, by rw [List.mem_singleton.1 hr], nmO_size⟩)))
          rw [HOB.out] at HWo
          have HP6 := hid p6a
          have HF6 := hid ((HF5.out.stay k6).stay k6a)
          clear hl6 p6 hlt6 hrow k6a p6a k6 HP5 HF5
          go_wp2_with fail
          refine HWo.out.mono ?_
          rintro e w7 ⟨rfl, o7, O7, hW7⟩
          have HP7 := hid (HP6.out.owrite hW7)
          have HF7 := hid (HF6.out.only hW7.only (fun j hj => (HP6.out.fd j hj).2.1))
          have HOB7 := hid (hW7.hb.trans HOB.out)
          have HCo7 : Hid (countM (modM Mo (writeM o.win Mo [(labA nmO, ((i : Int), (i : Int)))])) ≤ i + 1) := hid (by have h1 : countM (modM Mo (writeM o.win Mo [(labA nmO, ((i : Int), (i : Int)))])) ≤ countM Mo + 1 := count_write (win := o.win) HP6.out.o_.is_.ok [(labA nmO, ((i : Int), (i : Int)))]; have h2 := HCMo.out; omega)
          generalize modM Mo (writeM o.win Mo [(labA nmO, ((i : Int), (i : Int)))]) = Mo7 at HP7 HCo7
          have y7 := Y0.out _ HP7.out.h_.kept
          have HRW := hid (rwrite_any HP7.out.r_ HP7.out.zlt HP7.out.bw HP7.out.ok (by rw [HQM.out]; have := HCM6.out; omega) HWIN.out (Zr := fun _ => True) _ rs (HROWS.out.src.stay HP7.out.h_.kept) HRK.out)
          clear hW7 HWo HP6 HF6 HOB
          go_wp2_with fail
          refine HRW.out.mono ?_
          rintro e w8 hA8
          rw [HQM.out] at hA8
          obtain ⟨rfl, Z8, v8, qs8, p8, hq8, hon8⟩ := play_rwrite HP7.out HQM.out hA8
          have HP8 := hid p8
          have HQ8 := hid hq8
          have HF8 := hid (HF7.out.only hon8 (fun j hj e => (HP7.out.fd j hj).2.2 (.inr (.inl e))))
          have HC8 : Hid (countM (modM M (writeM win M rs)) ≤ sumB (bs.take (i + 1))) := hid (by have := count_write (win := win) (M := M) (by rw [← HQM.out]; exact HP7.out.ok) rs; have := HCM.out; have := HS1.out; have := HNB.out; omega)
          rw [HE.out]
          generalize modM M (writeM win M rs) = N at HP8 HQ8 HC8
          have HC86 : Hid (countM N ≤ 600) := hid (by have := HC8.out; have := sumB_le (bs := bs) (i + 1); have := HSUM.out; omega)
          have y8 := Y0.out _ HP8.out.h_.kept
          have HST := hid (fun (W : World) (kW : Kept w8 W) => rstay_any (Z := fun _ => True) _ _ fqs (HF8.out.stay kW) (by rw [HMAP.out]; exact HROWS.out.src.stay (HP8.out.h_.kept.trans kW (fun _ _ f => f))) (by have := HFL.out; omega) (fun q hq => by have := HRL.out q.r (by rw [← HMAP.out]; exact List.mem_map_of_mem hq); omega))
          have HCt := hid (fun (W : World) (kW : Kept w8 W) => count_any (HP8.out.h_.at_.stay kW) HP8.out.h_.is_ (by have := HC86.out; omega))
          have HRC := hid (fun (W : World) (kW : Kept w8 W) => rcount_any (HP8.out.r_.stay kW) (by have := HP8.out.ok.len; rw [List.length_map] at this; omega) (by rw [HQ8.out]; have := HC86.out; omega))
          rw [HHB5.out] at HCt
          rw [HQ8.out] at HRC
          clear hA8 p8 hq8 hon8 HRW HP7 HF7 HQM y7 HCM HCM6 HCMo HE
          go_wp2_with (go_at_call 11; refine (num_any _ _).mono ?_; rintro e w' ⟨rfl, hw⟩; replace hw := hw.symm; subst hw)
          refine (HST.out _ (Only.refl _ _)).mono ?_
          rintro e w9 ⟨rfl, k9⟩
          have K9 := hid k9
          clear k9 HST
          go_wp2_with fail
          refine (HCt.out _ K9.out).mono ?_
          rintro e w10 ⟨rfl, k10⟩
          have K10 := hid (K9.out.trans k10 (fun _ _ f => f))
          clear k10 HCt K9
          go_wp2_with fail
          refine (HRC.out _ K10.out).mono ?_
          rintro e w11 ⟨rfl, k11⟩
          have HP11 := hid (HP8.out.stay (K10.out.trans k11 (fun _ _ f => f)))
          have HF11 := hid (HF8.out.stay (K10.out.trans k11 (fun _ _ f => f)))
          clear k11 HRC K10 HP8 HF8 y8
          go_wp2_with fail
          have hw0 : FullW w11 wr.heap.size (.slice (some ⟨g, 0, none⟩) (NB + 1) cap) fqs := ⟨HF11.out.row, fun q hq => by
            obtain ⟨g', cap', e', hl'⟩ := HF11.out.lent q hq
            have e1 : (q.r.1 ++ [endL]).length = q.r.1.length + 1 := by simp
            have h2 : w11.ownsRow wr.heap.size 46 2 (.slice (some ⟨g', 0, none⟩) (q.r.1.length + 1) cap') (q.r.1 ++ [endL]).length (labL (q.r.1 ++ [endL])) := hl'
            rw [e1] at h2
            exact ⟨g', cap', _, e', h2⟩, HF11.out.apart⟩
          have HW0 := hid hw0
          obtain ⟨B0, hB0⟩ : ∃ B0, wr.heap.size = B0 := ⟨_, rfl⟩
          rw [hB0] at HW0 HF11
          have HK11 := hid HP11.out.h_.kept
          have HFN := hid HP11.out.fnew
          clear hw0 hB0
          go_loopw [19, 20] (fun s _ wt => ∃ (k : Nat), k ≤ NB ∧ s = .int .i64 (k : Int) ∧ FullW wt B0 (.slice (some ⟨g, 0, none⟩) (NB + 1) cap) fqs ∧ Only (fullO (.slice (some ⟨g, 0, none⟩) (NB + 1) cap) fqs) w11 wt) (fun s _ _ => NB - (intOf s).toNat)
          case atStart => exact ⟨0, by omega, rfl, HW0.out, Only.refl _ _⟩
          case round =>
            obtain ⟨k, hk, rfl, hW, ko⟩ := hrel
            have hkw : Kept w wr := HK11.out.trans ko (fun j hj e => by have := HFN.out j e; omega)
            have z0 := Y0.out _ hkw
            have HKW := hid hkw
            have HWk := hid hW
            have HKO := hid ko
            by_cases hkl : k < NB
            · have hkq : k < fqs.length := by have := HFL.out; omega
              have x0 := (hW.cells (by rw [HFL.out]) k hkq)
              obtain ⟨gl, gcap, xs, hlv, hxs⟩ := hW.lab _ (List.getElem_mem hkq)
              rw [hlv] at x0
              have HAP : Hid (∀ q ∈ fqs, q = fqs[k] ∨ ∀ j, (fqs[k]'hkq).lv.ownBlock = some j → q.lv.ownBlock ≠ some j) := hid (fun q hq => full_apart hW.apart hkq hq)
              rw [hlv] at HAP
              have HQin : Hid (fullO (.slice (some ⟨g, 0, none⟩) (NB + 1) cap) fqs gl) := hid (.inr ⟨_, List.getElem_mem hkq, by rw [hlv]; rfl⟩)
              have HLV := hid hlv
              obtain ⟨NL, hNL⟩ : ∃ N, (fqs[k]'hkq).r.1.length = N := ⟨_, rfl⟩
              rw [hNL] at x0 hxs HAP
              have hNLs : NL ≤ 4000 := by
                have := HRL.out (fqs[k]'hkq).r (by rw [← HMAP.out]; exact List.mem_map_of_mem (List.getElem_mem hkq))
                omega
              have HNL := hid hNL
              have HXS := hid hxs
              have X0 := hid x0
              have hi8 : (k : Int) < (NB : Int) + 1 := by omega
              clear hW ko hkw hxs hlv hNL
              obtain ⟨wo, hwo⟩ : ∃ wo, wo = wr := ⟨_, rfl⟩
              subst hwo
              go_wp2_with fail
              go_loopw [20] (fun s wt => ∃ (j : Nat) (ys : List Value), j ≤ NL ∧ s = .int .i64 (j : Int) ∧ wt.ownsRow B0 46 2 (.slice (some ⟨gl, 0, none⟩) (NL + 1) gcap) (NL + 1) ys ∧ Only (fun x => x = gl) wo wt) (fun s _ => NL - (intOf s).toNat)
              case atStart => exact ⟨0, _, by omega, rfl, HXS.out, Only.refl _ _⟩
              case round =>
                obtain ⟨j, ys, hj, rfl, hy, kj⟩ := hrel
                have hgne : ¬ g = gl := fun e => (ownN_typed HWk.out.row rfl).ne (ownN_typed HXS.out rfl) (by decide) e
                have t0 := only_cell kj hgne X0.out
                by_cases hjl : j < NL
                · obtain ⟨⟨x1, y1⟩, f1, ⟨x2, y2⟩, f2, hst⟩ := two_cells hy (by omega : j < NL + 1) (.string ⟨#[]⟩) (.string ⟨#[]⟩)
                  have HST := hid hst
                  have HKJ := hid (only_two (a := j * 2) (b := j * 2 + 1) (p := .string ⟨#[]⟩) (q := .string ⟨#[]⟩) kj (fun _ => rfl))
                  clear hy kj hst hgne x0
                  go_wp2_with fail
                  go_roundw
                  case rel => exact ⟨j + 1, _, by omega, by go_num, HST.out, HKJ.out⟩
                  case measure => simp [intOf]; omega
                · have hnew : FullW wr B0 (.slice (some ⟨g, 0, none⟩) (NB + 1) cap) fqs := ⟨ownN_only HWk.out.row kj (fun b hb e => by cases hb; exact hgne e), fun q hq => by
                    rcases HAP.out q hq with e | hne
                    · subst e
                      exact ⟨gl, gcap, ys, by rw [HLV.out], by rw [HNL.out]; exact hy⟩
                    · obtain ⟨g', cap', xs', e', hx'⟩ := HWk.out.lab q hq
                      exact ⟨g', cap', xs', e', ownN_only hx' kj (fun b hb e => by subst e; exact hne b rfl (by rw [e']; exact hb))⟩, HWk.out.apart⟩
                  have HN2 := hid hnew
                  have HKO2 := hid (HKO.out.trans kj (fun x _ e => by rw [e]; exact HQin.out))
                  clear hy kj hnew hgne x0
                  go_wp2_with fail
                  go_roundw
                  case rel => exact ⟨k + 1, by omega, by go_num, HN2.out, HKO2.out⟩
                  case measure => simp [intOf]; omega
            · have HP12 := hid ((HP11.out.wipe ko (fun _ e => e)).none)
              obtain ⟨w12, hw12⟩ : ∃ w12, w12 = wr := ⟨_, rfl⟩
              subst hw12
              clear hW ko hkw HWk HKO HP11 HW0 HF11 HK11 HFN HKW
              by_cases hci : i < C
              · have hcil : i < cs.length := by have := HC.out; omega
                obtain ⟨b2, o2, rfl, yc⟩ : ∃ b2 o2, ca = some ⟨b2, o2, none⟩ ∧ w.cell? ⟨b2, o2 + i, none⟩ = some (.int .i64 cs[i]) := by
                  rcases HCS.out.shape with ⟨hn, _⟩ | ⟨_, b, o, c', hv, hcl⟩
                  · have : cs = [] := List.map_eq_nil_iff.1 hn
                    subst this
                    simp at hcil
                  · simp only [Value.slice.injEq] at hv
                    exact ⟨b, o, hv.1, hcl i _ (by rw [List.getElem?_map, List.getElem?_eq_getElem hcil]; rfl)⟩
                generalize cs[i] = low at yc
                have YC : Hid (∀ W, Kept w W → W.cell? ⟨b2, o2 + i, none⟩ = some (.int .i64 low)) := hid (fun W kW => only_cell kW (fun f => f) yc)
                have z12 := YC.out _ HP12.out.h_.kept
                have HCut := hid (head_cut_any HP12.out.h_.at_ HP12.out.h_.is_ (by have := HC86.out; omega) low)
                rw [HHB5.out] at HCut
                have hN1000 : N.length ≤ 1000 := HP12.out.h_.is_.ok.len
                have HXS : Hid (∀ x ∈ partM (goneS low) N, x.1.length ≤ 1000000 ∧ x.2.length ≤ 1000000) := hid (fun x hx => by
                  obtain ⟨y, hy, rfl⟩ := part_in hx
                  have h1 := (HP12.out.h_.is_.ok.made y hy).len16
                  have h2 := countM_mem hy
                  have h3 := HC86.out
                  refine ⟨by simp only; omega, ?_⟩
                  simp only [goneS, List.length_take]
                  omega)
                have HXL : Hid ((partM (goneS low) N).length ≤ 1000) := hid (by
                  unfold partM
                  have := List.length_filter_le (fun x : Ser => decide (0 < x.2.length)) (N.map (fun x => (x.1, goneS low x.2)))
                  rw [List.length_map] at this
                  omega)
                have HCC : Hid (countM (partM (stayS low) N) ≤ countM N) := hid (part_count low N)
                clear yc hcil hN1000
                go_wp2_with fail
                refine HCut.out.mono ?_
                rintro e w13 ⟨va, qa, h13, rfl, hSA, hqa, hA13, hI13, hon13, hhb13, hwin13⟩
                have p13 := HP12.out.hcut hA13 hI13 hon13
                have hlo : ∀ j, SerO va qa j → w12.heap.size ≤ j ∧ j < w13.heap.size := fun j hj => by
                  rcases hj with hj | ⟨q, hq, hj | hj⟩
                  · exact ownN_lt hSA.row hj
                  · exact ownN_lt (hSA.lab q hq) hj
                  · exact ownN_lt (hSA.smp q hq) hj
                have p13f := p13.setF (SerO va qa) (fun j hj => (hlo j hj).2) (fun j hj => Nat.le_trans HP12.out.h_.kept.size (hlo j hj).1) (fun j hj => by
                  have h1 := (hlo j hj).1
                  exact ⟨fun e => by have := HP12.out.h_.at_.lt j e; omega, fun e => by have := HP12.out.o_.at_.lt j e; omega, fun e => by have := HP12.out.rlt e; omega⟩)
                have HP13 := hid p13f
                have HSA := hid hSA
                have HQA := hid hqa
                have HW13 := hid (hwin13.trans HW5.out)
                have HHB13 := hid (hhb13.trans HHB5.out)
                have hrbl : rb < w12.heap.size := HP12.out.r_.blk.lt
                have HRB := hid hrbl
                have z13 := YC.out _ HP13.out.h_.kept
                have HRCut := hid (rcut_any HP13.out.r_ HP13.out.zlt HP13.out.bw HP13.out.ok (by rw [HQ8.out]; have := HC86.out; omega) low)
                rw [HQ8.out] at HRCut
                clear hSA hqa hA13 hI13 hon13 hhb13 hwin13 p13 hlo p13f hrbl HCut z12
                go_wp2_with fail
                refine HRCut.out.mono ?_
                rintro e w14 ⟨u14, v14, qs14, Z14, rfl, hu14, hr14, hm14, hz14, hv14, hon14⟩
                have p14 := HP13.out.ref hr14 (by rw [hm14]; have := HP13.out.ok; rw [HQ8.out] at this; exact this.stay low) hz14 hv14 hon14
                have hSA14 := HSA.out.only hon14 (fun j h1 _ e => by have := HRB.out; omega)
                have HP14 := hid p14
                have HSA14 := hid hSA14
                have HU14 := hid hu14
                have HQ14 := hid hm14
                have HSS := hid (same_series w14 va u14 (partM (goneS low) N) (by rw [← HQA.out]; exact SerAt.src hSA14) hu14 (by have := HXL.out; omega) HXS.out)
                clear hu14 hr14 hm14 hz14 hv14 hon14 p14 hSA14 HRCut HP13 HSA z13
                go_wp2_with fail
                refine HSS.out.mono ?_
                rintro e w15 ⟨rfl, k15⟩
                have HP15 := hid (HP14.out.stay k15)
                have HSA15 := hid (HSA14.out.stay k15)
                have HWip := hid (wipe_any HSA15.out (by have h1 := HXL.out; rw [← HQA.out, List.length_map] at h1; exact h1) (fun q hq => by
                  have hx : serV q ∈ partM (goneS low) N := by rw [← HQA.out]; exact List.mem_map_of_mem hq
                  obtain ⟨y, hy, e⟩ := part_in hx
                  have h1 := (HP12.out.h_.is_.ok.made y hy).len16
                  have h2 := countM_mem hy
                  have h3 := HC86.out
                  have e1 : q.labs = y.1 := congrArg Prod.fst e
                  have e2 : q.smps = goneS low y.2 := congrArg Prod.snd e
                  rw [e1, e2]
                  refine ⟨by omega, ?_⟩
                  simp only [goneS, List.length_take]
                  omega))
                clear k15 HSS HP14 HSA14 HU14
                go_wp2_with fail
                refine HWip.out.mono ?_
                rintro e w16 ⟨rfl, k16⟩
                have HPt := hid ((HP15.out.wipe k16 (fun _ e => e)).none)
                have HQt := HQ14
                have HCt1 : Hid (countM (partM (stayS low) N) ≤ sumB (bs.take (i + 1))) := hid (Nat.le_trans HCC.out HC8.out)
                have HCt6 : Hid (countM (partM (stayS low) N) ≤ 600) := hid (Nat.le_trans HCC.out HC86.out)
                have HWt := HW13
                have HHBt := HHB13
                generalize partM (stayS low) N = Nt at HPt HQt HCt1 HCt6
                clear k16 HWip HP15 HSA15 HP12 HQ8 HC8 HC86 HXS HXL HCC HW5 HHB5 HQA HW13 HHB13 HQ14 YC HRB
                obtain ⟨wz, hwz⟩ : ∃ wz, wz = w16 := ⟨_, rfl⟩
                subst hwz
                have HAll := hid (all_head HPt.out.h_.at_ HPt.out.h_.is_ (by have := HCt6.out; omega))
                rw [HHBt.out] at HAll
                have HMO := hid HPt.out.h_.is_.ok
                go_wp2_with fail
                refine HAll.out.mono ?_
                rintro e wa ⟨vA, qA, rfl, hSA, hqA, ka⟩
                have pA := HPt.out.fresh ka (SerO vA qA) (fun j hj => by
                  rcases hj with hj | ⟨q, hq, hj | hj⟩
                  · exact ownN_lt hSA.row hj
                  · exact ownN_lt (hSA.lab q hq) hj
                  · exact ownN_lt (hSA.smp q hq) hj)
                have HPA := hid pA
                have HSA := hid hSA
                have HQA := hid hqA
                have HRAll := hid (rall_any HPA.out.r_ HPA.out.ok (by rw [HQt.out]; have := HCt6.out; omega))
                rw [HQt.out] at HRAll
                have HNL : Hid (Nt.length ≤ 1000 ∧ ∀ x ∈ Nt, x.1.length ≤ 1000 ∧ x.2.length ≤ 100000) := hid ⟨HMO.out.len, fun x hx => ⟨by have := (HMO.out.made x hx).len16; omega, by have := countM_mem hx; have := HCt6.out; omega⟩⟩
                clear hSA hqA ka pA HAll HPt
                go_wp2_with fail
                refine HRAll.out.mono ?_
                rintro e wb ⟨ub, rfl, hub, kb⟩
                have HPB := hid (HPA.out.stay kb)
                have HSB := hid (HSA.out.stay kb)
                have HSS := hid (same_series wb vA ub Nt (by rw [← HQA.out]; exact SerAt.src HSB.out) hub (by have := HNL.out.1; omega) (fun x hx => by have := HNL.out.2 x hx; omega))
                clear hub kb HRAll HPA HSA
                go_wp2_with fail
                refine HSS.out.mono ?_
                rintro e wc ⟨rfl, kc⟩
                have HPC := hid (HPB.out.stay kc)
                have HSC := hid (HSB.out.stay kc)
                have hqlen : qA.length ≤ 1000 := by
                  have h1 := HNL.out.1
                  rw [← HQA.out, List.length_map] at h1
                  exact h1
                obtain ⟨aA, cA, hvA⟩ := ownN_slice HSC.out.row
                subst hvA
                obtain ⟨NA, hNA⟩ : ∃ N, qA.length = N := ⟨_, rfl⟩
                have HNA := hid hNA
                rw [hNA] at hqlen ⊢
                clear kc HSS HPB HSB hNA
                go_wp2_with fail
                go_loopw [24, 25, 26, 27, 28] (fun s _ _ _ _ wt => ∃ (k : Nat), k ≤ NA ∧ s = .int .i64 (k : Int) ∧ Kept wc wt) (fun s _ _ _ _ _ => NA - (intOf s).toNat)
                case atStart => exact ⟨0, by omega, rfl, Only.refl _ _⟩
                case round =>
                  obtain ⟨k, hk, rfl, kr⟩ := hrel
                  have HKR := hid kr
                  by_cases hkn : k < NA
                  · have hkq : k < qA.length := by have := HNA.out; omega
                    obtain ⟨gA, capA, hgA⟩ := ownN_some HSC.out.row (by omega)
                    cases hgA
                    have hx := svL_at qA k hkq
                    have c1 : wc.cell? ⟨gA, k * 2, none⟩ = some (qA[k]'hkq).lv := by
                      rw [HSC.out.row.cellAt (k * 2) (by omega)]
                      exact hx.1
                    have c2 : wc.cell? ⟨gA, k * 2 + 1, none⟩ = some (qA[k]'hkq).sv := by
                      rw [HSC.out.row.cellAt (k * 2 + 1) (by omega)]
                      exact hx.2
                    have hlab := LabAt.src (HSC.out.lab _ (List.getElem_mem hkq))
                    have hsmp := SmpAt.src (HSC.out.smp _ (List.getElem_mem hkq))
                    have hin : serV (qA[k]'hkq) ∈ Nt := by rw [← HQA.out]; exact List.mem_map_of_mem (List.getElem_mem hkq)
                    generalize qA[k]'hkq = x at c1 c2 hlab hsmp hin
                    obtain ⟨lv, sv, labs, smps⟩ := x
                    simp only [serV] at c1 c2 hlab hsmp hin
                    have hmade := HMO.out.made _ hin
                    have hlens := HNL.out.2 _ hin
                    simp only at hmade hlens
                    have hlook : lookA Nt labs = some smps := by
                      unfold lookA
                      rw [hmade.make]
                      exact (look_some HMO.out.sort).2 hin
                    have hsmall := made_small hmade
                    have HNw := hid (fun (W : World) (kW : Kept wc W) => newest_any (HPC.out.h_.at_.stay kW) HPC.out.h_.is_ (by have := HCt6.out; omega) lv labs (hlab.stay kW) (by omega) hsmall)
                    have HRN := hid (fun (W : World) (kW : Kept wc W) => rnewest_any (HPC.out.r_.stay kW) HPC.out.ok (by rw [HQt.out]; have := HCt6.out; omega) lv labs (hlab.stay kW) (by omega) hsmall)
                    have HSm := hid (fun (W : World) (kW : Kept wc W) => samples_any (HPC.out.h_.at_.stay kW) HPC.out.h_.is_ (by have := HCt6.out; omega) lv labs (hlab.stay kW) (by omega) hsmall)
                    rw [hlook, HHBt.out] at HNw HSm
                    rw [HQt.out, hlook] at HRN
                    have HSmp := hid hsmp
                    have HLS := hid hlens.2
                    obtain ⟨la, lc, hle⟩ := hlab.len
                    obtain ⟨sa, sc, hse⟩ := hsmp.len
                    subst hle hse
                    have S0 : Hid (∀ W, Kept wc W → W.cell? ⟨gA, k * 2, none⟩ = some (.slice la labs.length lc) ∧ W.cell? ⟨gA, k * 2 + 1, none⟩ = some (.slice sa smps.length sc)) := hid (fun W kW => ⟨only_cell kW (fun f => f) c1, only_cell kW (fun f => f) c2⟩)
                    simp only [newA, Option.getD_some] at HNw HRN HSm
                    generalize lastT smps = TL at HNw HRN
                    generalize labs.length = NL at S0 HNw HRN HSm
                    generalize hNS : smps.length = NS at S0
                    have HNS := hid hNS
                    obtain ⟨q1, q2⟩ := S0.out _ kr
                    clear hkq hx c1 c2 hlab hsmp hin hmade hlens hlook hsmall hNS kr
                    go_wp2_with fail
                    refine (HNw.out _ HKR.out).mono ?_
                    rintro e wd ⟨rfl, kd⟩
                    have KD := hid (HKR.out.trans kd (fun _ _ f => f))
                    obtain ⟨q3, q4⟩ := S0.out _ KD.out
                    clear kd q1 q2 HNw
                    go_wp2_with fail
                    refine (HRN.out _ KD.out).mono ?_
                    rintro e we ⟨rfl, ke⟩
                    have KE := hid (KD.out.trans ke (fun _ _ f => f))
                    clear ke q3 q4 HRN KD
                    go_wp2_with fail
                    refine wp_region_noPanic ?_
                    refine wp_region_last (L := 1000) (S := fun w' => Kept we w') (by kernel_rfl) ?_
                    have K0 := hid (show Kept we we.drew from (Only.refl _ _).drew)
                    have hS : (fun w' : World => Kept we w') we.drew := K0.out
                    refine wpAnyN_take (i := 0) (v := .int .i64 TL) rfl (by kernel_rfl) (by kernel_rfl) (by kernel_rfl) (by decide) (by kernel_rfl) (fun _ _ _ h => h) (Or.inl ⟨by rfl, ?_⟩) hS ?_
                    · (intro w' hSw; obtain ⟨s0, s1⟩ := S0.out w' (KE.out.trans hSw (fun _ _ f => f)); clear hSw; go_simp)
                    (try simp only [List.getElem_toArray, List.getElem_cons_succ, List.getElem_cons_zero])
                    go_frame
                    refine wpAnyN_take (i := 1) (v := .int .i64 TL) rfl (by kernel_rfl) (by kernel_rfl) (by kernel_rfl) (by decide) (by kernel_rfl) (fun _ _ _ h => h) (Or.inl ⟨by rfl, ?_⟩) hS ?_
                    · (intro w' hSw; obtain ⟨s0, s1⟩ := S0.out w' (KE.out.trans hSw (fun _ _ f => f)); clear hSw; go_simp)
                    (try simp only [List.getElem_toArray, List.getElem_cons_succ, List.getElem_cons_zero])
                    go_frame
                    refine wpAnyN_take (i := 2) (v := .bool false) rfl (by kernel_rfl) (by kernel_rfl) (by kernel_rfl) (by decide) (by kernel_rfl) (fun _ _ _ h => h) (Or.inl ⟨by rfl, ?_⟩) hS ?_
                    · (intro w' hSw; obtain ⟨s0, s1⟩ := S0.out w' (KE.out.trans hSw (fun _ _ f => f)); clear hSw; go_simp)
                    (try simp only [List.getElem_toArray, List.getElem_cons_succ, List.getElem_cons_zero])
                    go_frame
                    refine wpAnyN_take (i := 3) (v := .bool false) rfl (by kernel_rfl) (by kernel_rfl) (by kernel_rfl) (by decide) (by kernel_rfl) (fun _ _ _ h => h) (Or.inl ⟨by rfl, ?_⟩) hS ?_
                    · (intro w' hSw; obtain ⟨s0, s1⟩ := S0.out w' (KE.out.trans hSw (fun _ _ f => f)); clear hSw; go_simp)
                    (try simp only [List.getElem_toArray, List.getElem_cons_succ, List.getElem_cons_zero])
                    go_frame
                    refine wpAnyN_take (i := 4) (v := .bool true) rfl (by kernel_rfl) (by kernel_rfl) (by kernel_rfl) (by decide) (by kernel_rfl) (fun _ _ _ h => h) (Or.inl ⟨by rfl, ?_⟩) hS ?_
                    · (intro w' hSw; obtain ⟨s0, s1⟩ := S0.out w' (KE.out.trans hSw (fun _ _ f => f)); clear hSw; go_simp)
                    (try simp only [List.getElem_toArray, List.getElem_cons_succ, List.getElem_cons_zero])
                    go_frame
                    refine wpAnyN_take (i := 5) (v := .bool true) rfl (by kernel_rfl) (by kernel_rfl) (by kernel_rfl) (by decide) (by kernel_rfl) (fun _ _ _ h => h) (Or.inl ⟨by rfl, ?_⟩) hS ?_
                    · (intro w' hSw; obtain ⟨s0, s1⟩ := S0.out w' (KE.out.trans hSw (fun _ _ f => f)); clear hSw; go_simp)
                    (try simp only [List.getElem_toArray, List.getElem_cons_succ, List.getElem_cons_zero])
                    go_frame
                    refine wpAnyN_take (i := 6) (v := .bool false) rfl (by kernel_rfl) (by kernel_rfl) (by kernel_rfl) (by decide) (by kernel_rfl) (fun _ _ _ h => h) (Or.inl ⟨by rfl, ?_⟩) hS ?_
                    · (intro w' hSw; obtain ⟨s0, s1⟩ := S0.out w' (KE.out.trans hSw (fun _ _ f => f)); clear hSw; go_simp)
                    (try simp only [List.getElem_toArray, List.getElem_cons_succ, List.getElem_cons_zero])
                    go_frame
                    refine wpAnyN_take (i := 7) (v := .bool false) rfl (by kernel_rfl) (by kernel_rfl) (by kernel_rfl) (by decide) (by kernel_rfl) (fun _ _ _ h => h) (Or.inl ⟨by rfl, ?_⟩) hS ?_
                    · (intro w' hSw; obtain ⟨s0, s1⟩ := S0.out w' (KE.out.trans hSw (fun _ _ f => f)); clear hSw; go_simp)
                    (try simp only [List.getElem_toArray, List.getElem_cons_succ, List.getElem_cons_zero])
                    go_frame
                    refine wpAnyN_take (i := 8) (v := .bool false) rfl (by kernel_rfl) (by kernel_rfl) (by kernel_rfl) (by decide) (by kernel_rfl) (fun _ _ _ h => h) (Or.inl ⟨by rfl, ?_⟩) hS ?_
                    · (intro w' hSw; obtain ⟨s0, s1⟩ := S0.out w' (KE.out.trans hSw (fun _ _ f => f)); clear hSw; go_simp)
                    (try simp only [List.getElem_toArray, List.getElem_cons_succ, List.getElem_cons_zero])
                    go_frame
                    refine wpAnyN_take (i := 9) (v := .pointer (some ⟨hp, 0, none⟩)) rfl (by kernel_rfl) (by kernel_rfl) (by kernel_rfl) (by decide) (by kernel_rfl) (fun _ _ _ h => h) (Or.inl ⟨by rfl, ?_⟩) hS ?_
                    · (intro w' hSw; obtain ⟨s0, s1⟩ := S0.out w' (KE.out.trans hSw (fun _ _ f => f)); clear hSw; go_simp)
                    (try simp only [List.getElem_toArray, List.getElem_cons_succ, List.getElem_cons_zero])
                    go_frame
                    refine wpAnyN_take (i := 10) (v := .slice (some ⟨gA, 0, none⟩) NA cA) rfl (by kernel_rfl) (by kernel_rfl) (by kernel_rfl) (by decide) (by kernel_rfl) (fun _ _ _ h => h) (Or.inl ⟨by rfl, ?_⟩) hS ?_
                    · (intro w' hSw; obtain ⟨s0, s1⟩ := S0.out w' (KE.out.trans hSw (fun _ _ f => f)); clear hSw; go_simp)
                    (try simp only [List.getElem_toArray, List.getElem_cons_succ, List.getElem_cons_zero])
                    go_frame
                    refine wpAnyN_take (i := 11) (v := .int .i64 (k : Int)) rfl (by kernel_rfl) (by kernel_rfl) (by kernel_rfl) (by decide) (by kernel_rfl) (fun _ _ _ h => h) (Or.inl ⟨by rfl, ?_⟩) hS ?_
                    · (intro w' hSw; obtain ⟨s0, s1⟩ := S0.out w' (KE.out.trans hSw (fun _ _ f => f)); clear hSw; go_simp)
                    (try simp only [List.getElem_toArray, List.getElem_cons_succ, List.getElem_cons_zero])
                    go_frame
                    refine wpAnyN_take (i := 12) (v := .pointer (some ⟨gA, k * 2, none⟩)) rfl (by kernel_rfl) (by kernel_rfl) (by kernel_rfl) (by decide) (by kernel_rfl) (fun _ _ _ h => h) (Or.inl ⟨by rfl, ?_⟩) hS ?_
                    · (intro w' hSw; obtain ⟨s0, s1⟩ := S0.out w' (KE.out.trans hSw (fun _ _ f => f)); clear hSw; go_simp)
                    (try simp only [List.getElem_toArray, List.getElem_cons_succ, List.getElem_cons_zero])
                    go_frame
                    refine wpAnyN_take (i := 13) (v := .pointer (some ⟨gA, k * 2, none⟩)) rfl (by kernel_rfl) (by kernel_rfl) (by kernel_rfl) (by decide) (by kernel_rfl) (fun _ _ _ h => h) (Or.inl ⟨by rfl, ?_⟩) hS ?_
                    · (intro w' hSw; obtain ⟨s0, s1⟩ := S0.out w' (KE.out.trans hSw (fun _ _ f => f)); clear hSw; go_simp)
                    (try simp only [List.getElem_toArray, List.getElem_cons_succ, List.getElem_cons_zero])
                    go_frame
                    refine wpAnyN_take (i := 14) (v := .slice la NL lc) rfl (by kernel_rfl) (by kernel_rfl) (by kernel_rfl) (by decide) (by kernel_rfl) (fun _ _ _ h => h) (Or.inl ⟨by rfl, ?_⟩) hS ?_
                    · (intro w' hSw; obtain ⟨s0, s1⟩ := S0.out w' (KE.out.trans hSw (fun _ _ f => f)); clear hSw; go_simp)
                    (try simp only [List.getElem_toArray, List.getElem_cons_succ, List.getElem_cons_zero])
                    go_frame
                    refine wpAnyN_take (i := 16) (v := .slice (some ⟨gA, 0, none⟩) NA cA) rfl (by kernel_rfl) (by kernel_rfl) (by kernel_rfl) (by decide) (by kernel_rfl) (fun _ _ _ h => h) (Or.inl ⟨by rfl, ?_⟩) hS ?_
                    · (intro w' hSw; obtain ⟨s0, s1⟩ := S0.out w' (KE.out.trans hSw (fun _ _ f => f)); clear hSw; go_simp)
                    (try simp only [List.getElem_toArray, List.getElem_cons_succ, List.getElem_cons_zero])
                    go_frame
                    refine wpAnyN_take (i := 17) (v := .int .i64 (k : Int)) rfl (by kernel_rfl) (by kernel_rfl) (by kernel_rfl) (by decide) (by kernel_rfl) (fun _ _ _ h => h) (Or.inl ⟨by rfl, ?_⟩) hS ?_
                    · (intro w' hSw; obtain ⟨s0, s1⟩ := S0.out w' (KE.out.trans hSw (fun _ _ f => f)); clear hSw; go_simp)
                    (try simp only [List.getElem_toArray, List.getElem_cons_succ, List.getElem_cons_zero])
                    go_frame
                    refine wpAnyN_take (i := 18) (v := .pointer (some ⟨gA, k * 2, none⟩)) rfl (by kernel_rfl) (by kernel_rfl) (by kernel_rfl) (by decide) (by kernel_rfl) (fun _ _ _ h => h) (Or.inl ⟨by rfl, ?_⟩) hS ?_
                    · (intro w' hSw; obtain ⟨s0, s1⟩ := S0.out w' (KE.out.trans hSw (fun _ _ f => f)); clear hSw; go_simp)
                    (try simp only [List.getElem_toArray, List.getElem_cons_succ, List.getElem_cons_zero])
                    go_frame
                    refine wpAnyN_take (i := 19) (v := .pointer (some ⟨gA, k * 2 + 1, none⟩)) rfl (by kernel_rfl) (by kernel_rfl) (by kernel_rfl) (by decide) (by kernel_rfl) (fun _ _ _ h => h) (Or.inl ⟨by rfl, ?_⟩) hS ?_
                    · (intro w' hSw; obtain ⟨s0, s1⟩ := S0.out w' (KE.out.trans hSw (fun _ _ f => f)); clear hSw; go_simp)
                    (try simp only [List.getElem_toArray, List.getElem_cons_succ, List.getElem_cons_zero])
                    go_frame
                    refine wpAnyN_take (i := 20) (v := .slice sa NS sc) rfl (by kernel_rfl) (by kernel_rfl) (by kernel_rfl) (by decide) (by kernel_rfl) (fun _ _ _ h => h) (Or.inl ⟨by rfl, ?_⟩) hS ?_
                    · (intro w' hSw; obtain ⟨s0, s1⟩ := S0.out w' (KE.out.trans hSw (fun _ _ f => f)); clear hSw; go_simp)
                    (try simp only [List.getElem_toArray, List.getElem_cons_succ, List.getElem_cons_zero])
                    go_frame
                    refine wpAnyL_one (i := 15) (by kernel_rfl) rfl rfl ?_
                    go_simp
                    refine (HSm.out _ (KE.out.trans K0.out (fun _ _ f => f))).mono ?_
                    rintro e wg ⟨us, rfl, hus, kg⟩
                    have KG := hid (show Kept we wg from K0.out.trans kg (fun _ _ f => f))
                    have HUS := hid (SmpAt.src hus)
                    have HSS2 := hid (ssame_any wg us (.slice sa NS sc) smps (SmpAt.src hus) (by have := HSmp.out.stay (KE.out.trans KG.out (fun _ _ f => f)); rw [HNS.out] at this; exact this) (by have := HLS.out; omega))
                    clear hus kg hS
                    refine ⟨KG.out, ?_⟩
                    (try go_frame)
                    refine wpAnyL_one (i := 21) (by kernel_rfl) rfl rfl ?_
                    go_simp
                    refine HSS2.out.mono ?_
                    rintro e wh ⟨rfl, kh⟩
                    have KH := hid (KG.out.trans kh (fun _ _ f => f))
                    clear kh HSS2
                    refine ⟨KH.out, ?_⟩
                    (try go_frame)
                    refine wpAnyL_one (i := 22) (by kernel_rfl) rfl rfl ?_
                    go_simp
                    refine ⟨KH.out, ?_⟩
                    (try go_frame)
                    refine wpAnyL_one (i := 23) (by kernel_rfl) rfl rfl ?_
                    go_simp
                    refine ⟨KH.out, ?_⟩
                    (try go_frame)
                    refine wpAnyN_done (by kernel_rfl) ?_
                    refine NoPanic.normal ?_
                    have KF := hid (KE.out.trans KH.out (fun _ _ f => f))
                    go_wp2_with fail
                    go_roundw
                    case rel => exact ⟨k + 1, by omega, by go_num, KF.out⟩
                    case measure => simp [intOf]; omega
                  · obtain ⟨aZ, cZ, hZ⟩ := ownN_slice HSC.out.row
                    have hrkeep := HPC.out.stay kr
                    have HSF := hid (HSC.out.stay kr)
                    have HWi := hid (wipe_any HSF.out (by have := HNA.out; omega) (fun q hq => by
                      have hx : serV q ∈ Nt := by rw [← HQA.out]; exact List.mem_map_of_mem hq
                      exact HNL.out.2 _ hx))
                    rw [HNA.out] at HWi
                    have HPF := hid hrkeep
                    clear kr hrkeep hZ
                    go_wp2_with fail
                    refine HWi.out.mono ?_
                    rintro e wf ⟨rfl, kf⟩
                    have HPE := hid ((HPF.out.wipe kf (fun j hj => by rw [HNA.out]; exact hj)).none)
                    clear kf HWi HPF HSF
                    go_wp2_with fail
                    go_roundw
                    case rel => exact ⟨i + 1, by omega, by go_num, ⟨⟨_, _, _, _, _, _, _, _, _, HPE.out, HQt.out, HWt.out, HHBt.out, HOB7.out, HCt1.out, HCo7.out⟩⟩⟩
                    case measure => simp [intOf]; omega
              · have HPt := HP12
                have HQt := HQ8
                have HCt1 := HC8
                have HCt6 := HC86
                have HWt := HW5
                have HHBt := HHB5
                clear HP12 HQ8 HC8 HC86 HW5 HHB5
                obtain ⟨Nt, hNt⟩ : ∃ Nt, Nt = N := ⟨_, rfl⟩
                subst hNt
                obtain ⟨wz, hwz⟩ : ∃ wz, wz = w12 := ⟨_, rfl⟩
                subst hwz
                have HAll := hid (all_head HPt.out.h_.at_ HPt.out.h_.is_ (by have := HCt6.out; omega))
                rw [HHBt.out] at HAll
                have HMO := hid HPt.out.h_.is_.ok
                go_wp2_with fail
                refine HAll.out.mono ?_
                rintro e wa ⟨vA, qA, rfl, hSA, hqA, ka⟩
                have pA := HPt.out.fresh ka (SerO vA qA) (fun j hj => by
                  rcases hj with hj | ⟨q, hq, hj | hj⟩
                  · exact ownN_lt hSA.row hj
                  · exact ownN_lt (hSA.lab q hq) hj
                  · exact ownN_lt (hSA.smp q hq) hj)
                have HPA := hid pA
                have HSA := hid hSA
                have HQA := hid hqA
                have HRAll := hid (rall_any HPA.out.r_ HPA.out.ok (by rw [HQt.out]; have := HCt6.out; omega))
                rw [HQt.out] at HRAll
                have HNL : Hid (Nt.length ≤ 1000 ∧ ∀ x ∈ Nt, x.1.length ≤ 1000 ∧ x.2.length ≤ 100000) := hid ⟨HMO.out.len, fun x hx => ⟨by have := (HMO.out.made x hx).len16; omega, by have := countM_mem hx; have := HCt6.out; omega⟩⟩
                clear hSA hqA ka pA HAll HPt
                go_wp2_with fail
                refine HRAll.out.mono ?_
                rintro e wb ⟨ub, rfl, hub, kb⟩
                have HPB := hid (HPA.out.stay kb)
                have HSB := hid (HSA.out.stay kb)
                have HSS := hid (same_series wb vA ub Nt (by rw [← HQA.out]; exact SerAt.src HSB.out) hub (by have := HNL.out.1; omega) (fun x hx => by have := HNL.out.2 x hx; omega))
                clear hub kb HRAll HPA HSA
                go_wp2_with fail
                refine HSS.out.mono ?_
                rintro e wc ⟨rfl, kc⟩
                have HPC := hid (HPB.out.stay kc)
                have HSC := hid (HSB.out.stay kc)
                have hqlen : qA.length ≤ 1000 := by
                  have h1 := HNL.out.1
                  rw [← HQA.out, List.length_map] at h1
                  exact h1
                obtain ⟨aA, cA, hvA⟩ := ownN_slice HSC.out.row
                subst hvA
                obtain ⟨NA, hNA⟩ : ∃ N, qA.length = N := ⟨_, rfl⟩
                have HNA := hid hNA
                rw [hNA] at hqlen ⊢
                clear kc HSS HPB HSB hNA
                go_wp2_with fail
                go_loopw [24, 25, 26, 27, 28] (fun s _ _ _ _ wt => ∃ (k : Nat), k ≤ NA ∧ s = .int .i64 (k : Int) ∧ Kept wc wt) (fun s _ _ _ _ _ => NA - (intOf s).toNat)
                case atStart => exact ⟨0, by omega, rfl, Only.refl _ _⟩
                case round =>
                  obtain ⟨k, hk, rfl, kr⟩ := hrel
                  have HKR := hid kr
                  by_cases hkn : k < NA
                  · have hkq : k < qA.length := by have := HNA.out; omega
                    obtain ⟨gA, capA, hgA⟩ := ownN_some HSC.out.row (by omega)
                    cases hgA
                    have hx := svL_at qA k hkq
                    have c1 : wc.cell? ⟨gA, k * 2, none⟩ = some (qA[k]'hkq).lv := by
                      rw [HSC.out.row.cellAt (k * 2) (by omega)]
                      exact hx.1
                    have c2 : wc.cell? ⟨gA, k * 2 + 1, none⟩ = some (qA[k]'hkq).sv := by
                      rw [HSC.out.row.cellAt (k * 2 + 1) (by omega)]
                      exact hx.2
                    have hlab := LabAt.src (HSC.out.lab _ (List.getElem_mem hkq))
                    have hsmp := SmpAt.src (HSC.out.smp _ (List.getElem_mem hkq))
                    have hin : serV (qA[k]'hkq) ∈ Nt := by rw [← HQA.out]; exact List.mem_map_of_mem (List.getElem_mem hkq)
                    generalize qA[k]'hkq = x at c1 c2 hlab hsmp hin
                    obtain ⟨lv, sv, labs, smps⟩ := x
                    simp only [serV] at c1 c2 hlab hsmp hin
                    have hmade := HMO.out.made _ hin
                    have hlens := HNL.out.2 _ hin
                    simp only at hmade hlens
                    have hlook : lookA Nt labs = some smps := by
                      unfold lookA
                      rw [hmade.make]
                      exact (look_some HMO.out.sort).2 hin
                    have hsmall := made_small hmade
                    have HNw := hid (fun (W : World) (kW : Kept wc W) => newest_any (HPC.out.h_.at_.stay kW) HPC.out.h_.is_ (by have := HCt6.out; omega) lv labs (hlab.stay kW) (by omega) hsmall)
                    have HRN := hid (fun (W : World) (kW : Kept wc W) => rnewest_any (HPC.out.r_.stay kW) HPC.out.ok (by rw [HQt.out]; have := HCt6.out; omega) lv labs (hlab.stay kW) (by omega) hsmall)
                    have HSm := hid (fun (W : World) (kW : Kept wc W) => samples_any (HPC.out.h_.at_.stay kW) HPC.out.h_.is_ (by have := HCt6.out; omega) lv labs (hlab.stay kW) (by omega) hsmall)
                    rw [hlook, HHBt.out] at HNw HSm
                    rw [HQt.out, hlook] at HRN
                    have HSmp := hid hsmp
                    have HLS := hid hlens.2
                    obtain ⟨la, lc, hle⟩ := hlab.len
                    obtain ⟨sa, sc, hse⟩ := hsmp.len
                    subst hle hse
                    have S0 : Hid (∀ W, Kept wc W → W.cell? ⟨gA, k * 2, none⟩ = some (.slice la labs.length lc) ∧ W.cell? ⟨gA, k * 2 + 1, none⟩ = some (.slice sa smps.length sc)) := hid (fun W kW => ⟨only_cell kW (fun f => f) c1, only_cell kW (fun f => f) c2⟩)
                    simp only [newA, Option.getD_some] at HNw HRN HSm
                    generalize lastT smps = TL at HNw HRN
                    generalize labs.length = NL at S0 HNw HRN HSm
                    generalize hNS : smps.length = NS at S0
                    have HNS := hid hNS
                    obtain ⟨q1, q2⟩ := S0.out _ kr
                    clear hkq hx c1 c2 hlab hsmp hin hmade hlens hlook hsmall hNS kr
                    go_wp2_with fail
                    refine (HNw.out _ HKR.out).mono ?_
                    rintro e wd ⟨rfl, kd⟩
                    have KD := hid (HKR.out.trans kd (fun _ _ f => f))
                    obtain ⟨q3, q4⟩ := S0.out _ KD.out
                    clear kd q1 q2 HNw
                    go_wp2_with fail
                    refine (HRN.out _ KD.out).mono ?_
                    rintro e we ⟨rfl, ke⟩
                    have KE := hid (KD.out.trans ke (fun _ _ f => f))
                    clear ke q3 q4 HRN KD
                    go_wp2_with fail
                    refine wp_region_noPanic ?_
                    refine wp_region_last (L := 1000) (S := fun w' => Kept we w') (by kernel_rfl) ?_
                    have K0 := hid (show Kept we we.drew from (Only.refl _ _).drew)
                    have hS : (fun w' : World => Kept we w') we.drew := K0.out
                    refine wpAnyN_take (i := 0) (v := .int .i64 TL) rfl (by kernel_rfl) (by kernel_rfl) (by kernel_rfl) (by decide) (by kernel_rfl) (fun _ _ _ h => h) (Or.inl ⟨by rfl, ?_⟩) hS ?_
                    · (intro w' hSw; obtain ⟨s0, s1⟩ := S0.out w' (KE.out.trans hSw (fun _ _ f => f)); clear hSw; go_simp)
                    (try simp only [List.getElem_toArray, List.getElem_cons_succ, List.getElem_cons_zero])
                    go_frame
                    refine wpAnyN_take (i := 1) (v := .int .i64 TL) rfl (by kernel_rfl) (by kernel_rfl) (by kernel_rfl) (by decide) (by kernel_rfl) (fun _ _ _ h => h) (Or.inl ⟨by rfl, ?_⟩) hS ?_
                    · (intro w' hSw; obtain ⟨s0, s1⟩ := S0.out w' (KE.out.trans hSw (fun _ _ f => f)); clear hSw; go_simp)
                    (try simp only [List.getElem_toArray, List.getElem_cons_succ, List.getElem_cons_zero])
                    go_frame
                    refine wpAnyN_take (i := 2) (v := .bool false) rfl (by kernel_rfl) (by kernel_rfl) (by kernel_rfl) (by decide) (by kernel_rfl) (fun _ _ _ h => h) (Or.inl ⟨by rfl, ?_⟩) hS ?_
                    · (intro w' hSw; obtain ⟨s0, s1⟩ := S0.out w' (KE.out.trans hSw (fun _ _ f => f)); clear hSw; go_simp)
                    (try simp only [List.getElem_toArray, List.getElem_cons_succ, List.getElem_cons_zero])
                    go_frame
                    refine wpAnyN_take (i := 3) (v := .bool false) rfl (by kernel_rfl) (by kernel_rfl) (by kernel_rfl) (by decide) (by kernel_rfl) (fun _ _ _ h => h) (Or.inl ⟨by rfl, ?_⟩) hS ?_
                    · (intro w' hSw; obtain ⟨s0, s1⟩ := S0.out w' (KE.out.trans hSw (fun _ _ f => f)); clear hSw; go_simp)
                    (try simp only [List.getElem_toArray, List.getElem_cons_succ, List.getElem_cons_zero])
                    go_frame
                    refine wpAnyN_take (i := 4) (v := .bool true) rfl (by kernel_rfl) (by kernel_rfl) (by kernel_rfl) (by decide) (by kernel_rfl) (fun _ _ _ h => h) (Or.inl ⟨by rfl, ?_⟩) hS ?_
                    · (intro w' hSw; obtain ⟨s0, s1⟩ := S0.out w' (KE.out.trans hSw (fun _ _ f => f)); clear hSw; go_simp)
                    (try simp only [List.getElem_toArray, List.getElem_cons_succ, List.getElem_cons_zero])
                    go_frame
                    refine wpAnyN_take (i := 5) (v := .bool true) rfl (by kernel_rfl) (by kernel_rfl) (by kernel_rfl) (by decide) (by kernel_rfl) (fun _ _ _ h => h) (Or.inl ⟨by rfl, ?_⟩) hS ?_
                    · (intro w' hSw; obtain ⟨s0, s1⟩ := S0.out w' (KE.out.trans hSw (fun _ _ f => f)); clear hSw; go_simp)
                    (try simp only [List.getElem_toArray, List.getElem_cons_succ, List.getElem_cons_zero])
                    go_frame
                    refine wpAnyN_take (i := 6) (v := .bool false) rfl (by kernel_rfl) (by kernel_rfl) (by kernel_rfl) (by decide) (by kernel_rfl) (fun _ _ _ h => h) (Or.inl ⟨by rfl, ?_⟩) hS ?_
                    · (intro w' hSw; obtain ⟨s0, s1⟩ := S0.out w' (KE.out.trans hSw (fun _ _ f => f)); clear hSw; go_simp)
                    (try simp only [List.getElem_toArray, List.getElem_cons_succ, List.getElem_cons_zero])
                    go_frame
                    refine wpAnyN_take (i := 7) (v := .bool false) rfl (by kernel_rfl) (by kernel_rfl) (by kernel_rfl) (by decide) (by kernel_rfl) (fun _ _ _ h => h) (Or.inl ⟨by rfl, ?_⟩) hS ?_
                    · (intro w' hSw; obtain ⟨s0, s1⟩ := S0.out w' (KE.out.trans hSw (fun _ _ f => f)); clear hSw; go_simp)
                    (try simp only [List.getElem_toArray, List.getElem_cons_succ, List.getElem_cons_zero])
                    go_frame
                    refine wpAnyN_take (i := 8) (v := .bool false) rfl (by kernel_rfl) (by kernel_rfl) (by kernel_rfl) (by decide) (by kernel_rfl) (fun _ _ _ h => h) (Or.inl ⟨by rfl, ?_⟩) hS ?_
                    · (intro w' hSw; obtain ⟨s0, s1⟩ := S0.out w' (KE.out.trans hSw (fun _ _ f => f)); clear hSw; go_simp)
                    (try simp only [List.getElem_toArray, List.getElem_cons_succ, List.getElem_cons_zero])
                    go_frame
                    refine wpAnyN_take (i := 9) (v := .pointer (some ⟨hp, 0, none⟩)) rfl (by kernel_rfl) (by kernel_rfl) (by kernel_rfl) (by decide) (by kernel_rfl) (fun _ _ _ h => h) (Or.inl ⟨by rfl, ?_⟩) hS ?_
                    · (intro w' hSw; obtain ⟨s0, s1⟩ := S0.out w' (KE.out.trans hSw (fun _ _ f => f)); clear hSw; go_simp)
                    (try simp only [List.getElem_toArray, List.getElem_cons_succ, List.getElem_cons_zero])
                    go_frame
                    refine wpAnyN_take (i := 10) (v := .slice (some ⟨gA, 0, none⟩) NA cA) rfl (by kernel_rfl) (by kernel_rfl) (by kernel_rfl) (by decide) (by kernel_rfl) (fun _ _ _ h => h) (Or.inl ⟨by rfl, ?_⟩) hS ?_
                    · (intro w' hSw; obtain ⟨s0, s1⟩ := S0.out w' (KE.out.trans hSw (fun _ _ f => f)); clear hSw; go_simp)
                    (try simp only [List.getElem_toArray, List.getElem_cons_succ, List.getElem_cons_zero])
                    go_frame
                    refine wpAnyN_take (i := 11) (v := .int .i64 (k : Int)) rfl (by kernel_rfl) (by kernel_rfl) (by kernel_rfl) (by decide) (by kernel_rfl) (fun _ _ _ h => h) (Or.inl ⟨by rfl, ?_⟩) hS ?_
                    · (intro w' hSw; obtain ⟨s0, s1⟩ := S0.out w' (KE.out.trans hSw (fun _ _ f => f)); clear hSw; go_simp)
                    (try simp only [List.getElem_toArray, List.getElem_cons_succ, List.getElem_cons_zero])
                    go_frame
                    refine wpAnyN_take (i := 12) (v := .pointer (some ⟨gA, k * 2, none⟩)) rfl (by kernel_rfl) (by kernel_rfl) (by kernel_rfl) (by decide) (by kernel_rfl) (fun _ _ _ h => h) (Or.inl ⟨by rfl, ?_⟩) hS ?_
                    · (intro w' hSw; obtain ⟨s0, s1⟩ := S0.out w' (KE.out.trans hSw (fun _ _ f => f)); clear hSw; go_simp)
                    (try simp only [List.getElem_toArray, List.getElem_cons_succ, List.getElem_cons_zero])
                    go_frame
                    refine wpAnyN_take (i := 13) (v := .pointer (some ⟨gA, k * 2, none⟩)) rfl (by kernel_rfl) (by kernel_rfl) (by kernel_rfl) (by decide) (by kernel_rfl) (fun _ _ _ h => h) (Or.inl ⟨by rfl, ?_⟩) hS ?_
                    · (intro w' hSw; obtain ⟨s0, s1⟩ := S0.out w' (KE.out.trans hSw (fun _ _ f => f)); clear hSw; go_simp)
                    (try simp only [List.getElem_toArray, List.getElem_cons_succ, List.getElem_cons_zero])
                    go_frame
                    refine wpAnyN_take (i := 14) (v := .slice la NL lc) rfl (by kernel_rfl) (by kernel_rfl) (by kernel_rfl) (by decide) (by kernel_rfl) (fun _ _ _ h => h) (Or.inl ⟨by rfl, ?_⟩) hS ?_
                    · (intro w' hSw; obtain ⟨s0, s1⟩ := S0.out w' (KE.out.trans hSw (fun _ _ f => f)); clear hSw; go_simp)
                    (try simp only [List.getElem_toArray, List.getElem_cons_succ, List.getElem_cons_zero])
                    go_frame
                    refine wpAnyN_take (i := 16) (v := .slice (some ⟨gA, 0, none⟩) NA cA) rfl (by kernel_rfl) (by kernel_rfl) (by kernel_rfl) (by decide) (by kernel_rfl) (fun _ _ _ h => h) (Or.inl ⟨by rfl, ?_⟩) hS ?_
                    · (intro w' hSw; obtain ⟨s0, s1⟩ := S0.out w' (KE.out.trans hSw (fun _ _ f => f)); clear hSw; go_simp)
                    (try simp only [List.getElem_toArray, List.getElem_cons_succ, List.getElem_cons_zero])
                    go_frame
                    refine wpAnyN_take (i := 17) (v := .int .i64 (k : Int)) rfl (by kernel_rfl) (by kernel_rfl) (by kernel_rfl) (by decide) (by kernel_rfl) (fun _ _ _ h => h) (Or.inl ⟨by rfl, ?_⟩) hS ?_
                    · (intro w' hSw; obtain ⟨s0, s1⟩ := S0.out w' (KE.out.trans hSw (fun _ _ f => f)); clear hSw; go_simp)
                    (try simp only [List.getElem_toArray, List.getElem_cons_succ, List.getElem_cons_zero])
                    go_frame
                    refine wpAnyN_take (i := 18) (v := .pointer (some ⟨gA, k * 2, none⟩)) rfl (by kernel_rfl) (by kernel_rfl) (by kernel_rfl) (by decide) (by kernel_rfl) (fun _ _ _ h => h) (Or.inl ⟨by rfl, ?_⟩) hS ?_
                    · (intro w' hSw; obtain ⟨s0, s1⟩ := S0.out w' (KE.out.trans hSw (fun _ _ f => f)); clear hSw; go_simp)
                    (try simp only [List.getElem_toArray, List.getElem_cons_succ, List.getElem_cons_zero])
                    go_frame
                    refine wpAnyN_take (i := 19) (v := .pointer (some ⟨gA, k * 2 + 1, none⟩)) rfl (by kernel_rfl) (by kernel_rfl) (by kernel_rfl) (by decide) (by kernel_rfl) (fun _ _ _ h => h) (Or.inl ⟨by rfl, ?_⟩) hS ?_
                    · (intro w' hSw; obtain ⟨s0, s1⟩ := S0.out w' (KE.out.trans hSw (fun _ _ f => f)); clear hSw; go_simp)
                    (try simp only [List.getElem_toArray, List.getElem_cons_succ, List.getElem_cons_zero])
                    go_frame
                    refine wpAnyN_take (i := 20) (v := .slice sa NS sc) rfl (by kernel_rfl) (by kernel_rfl) (by kernel_rfl) (by decide) (by kernel_rfl) (fun _ _ _ h => h) (Or.inl ⟨by rfl, ?_⟩) hS ?_
                    · (intro w' hSw; obtain ⟨s0, s1⟩ := S0.out w' (KE.out.trans hSw (fun _ _ f => f)); clear hSw; go_simp)
                    (try simp only [List.getElem_toArray, List.getElem_cons_succ, List.getElem_cons_zero])
                    go_frame
                    refine wpAnyL_one (i := 15) (by kernel_rfl) rfl rfl ?_
                    go_simp
                    refine (HSm.out _ (KE.out.trans K0.out (fun _ _ f => f))).mono ?_
                    rintro e wg ⟨us, rfl, hus, kg⟩
                    have KG := hid (show Kept we wg from K0.out.trans kg (fun _ _ f => f))
                    have HUS := hid (SmpAt.src hus)
                    have HSS2 := hid (ssame_any wg us (.slice sa NS sc) smps (SmpAt.src hus) (by have := HSmp.out.stay (KE.out.trans KG.out (fun _ _ f => f)); rw [HNS.out] at this; exact this) (by have := HLS.out; omega))
                    clear hus kg hS
                    refine ⟨KG.out, ?_⟩
                    (try go_frame)
                    refine wpAnyL_one (i := 21) (by kernel_rfl) rfl rfl ?_
                    go_simp
                    refine HSS2.out.mono ?_
                    rintro e wh ⟨rfl, kh⟩
                    have KH := hid (KG.out.trans kh (fun _ _ f => f))
                    clear kh HSS2
                    refine ⟨KH.out, ?_⟩
                    (try go_frame)
                    refine wpAnyL_one (i := 22) (by kernel_rfl) rfl rfl ?_
                    go_simp
                    refine ⟨KH.out, ?_⟩
                    (try go_frame)
                    refine wpAnyL_one (i := 23) (by kernel_rfl) rfl rfl ?_
                    go_simp
                    refine ⟨KH.out, ?_⟩
                    (try go_frame)
                    refine wpAnyN_done (by kernel_rfl) ?_
                    refine NoPanic.normal ?_
                    have KF := hid (KE.out.trans KH.out (fun _ _ f => f))
                    go_wp2_with fail
                    go_roundw
                    case rel => exact ⟨k + 1, by omega, by go_num, KF.out⟩
                    case measure => simp [intOf]; omega
                  · obtain ⟨aZ, cZ, hZ⟩ := ownN_slice HSC.out.row
                    have hrkeep := HPC.out.stay kr
                    have HSF := hid (HSC.out.stay kr)
                    have HWi := hid (wipe_any HSF.out (by have := HNA.out; omega) (fun q hq => by
                      have hx : serV q ∈ Nt := by rw [← HQA.out]; exact List.mem_map_of_mem hq
                      exact HNL.out.2 _ hx))
                    rw [HNA.out] at HWi
                    have HPF := hid hrkeep
                    clear kr hrkeep hZ
                    go_wp2_with fail
                    refine HWi.out.mono ?_
                    rintro e wf ⟨rfl, kf⟩
                    have HPE := hid ((HPF.out.wipe kf (fun j hj => by rw [HNA.out]; exact hj)).none)
                    clear kf HWi HPF HSF
                    go_wp2_with fail
                    go_roundw
                    case rel => exact ⟨i + 1, by omega, by go_num, ⟨⟨_, _, _, _, _, _, _, _, _, HPE.out, HQt.out, HWt.out, HHBt.out, HOB7.out, HCt1.out, HCo7.out⟩⟩⟩
                    case measure => simp [intOf]; omega
        · have HKF := hid hP.h_.kept
          clear hP hqm hw hhb hob hcM hcMo
          go_wp2_with fail
          go_ret
          exact ⟨rfl, HKF.out⟩
end Go.Proofs.YtnbfbnhiikliaaaGreat.Hd
