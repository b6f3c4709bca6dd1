/-
  The walk of the law DiskCalls.
-/
import Derived.Test.YtephpgiiljjieaaLcalls
namespace Go.Proofs.Ytephpgiiljjieaa
open Go.RowKit Go.Proofs.Lys Go.Maps Go.Shelf
set_option linter.unusedVariables false

theorem COp.ok.kept {w W : World} {o : COp} (h : o.ok w) (k : Kept w W) : o.ok W := ⟨h.lo, h.hi, h.n, h.t, h.src.stay k⟩
theorem op_cell {w : World} {ps : List COp} {b o : Nat} (hc : ∀ i (hi : i < ps.length), w.cell? ⟨b, o + i * 4, none⟩ = some (.int .i64 ps[i].k) ∧ w.cell? ⟨b, o + i * 4 + 1, none⟩ = some (.string ps[i].n) ∧ w.cell? ⟨b, o + i * 4 + 2, none⟩ = some (.string ps[i].t) ∧ w.cell? ⟨b, o + i * 4 + 3, none⟩ = some ps[i].v ∧ ps[i].ok w) (k : Nat) (hk : k < ps.length) :
    ∀ W, Kept w W → W.cell? ⟨b, o + k * 4, none⟩ = some (.int .i64 ps[k].k) ∧ W.cell? ⟨b, o + k * 4 + 1, none⟩ = some (.string ps[k].n) ∧ W.cell? ⟨b, o + k * 4 + 2, none⟩ = some (.string ps[k].t) ∧ W.cell? ⟨b, o + k * 4 + 3, none⟩ = some ps[k].v := by
  intro W hW
  have each : ∀ a u, w.cell? a = some u → W.cell? a = some u := fun a u hc => by
    rw [World.cell?_of_block (w := w) (w' := W) (a := a) (hW.block a.block (World.block_lt_of_cell? w a hc) (fun f => f))]
    exact hc
  exact ⟨each _ _ (hc k hk).1, each _ _ (hc k hk).2.1, each _ _ (hc k hk).2.2.1, each _ _ (hc k hk).2.2.2.1⟩

set_option maxRecDepth 100000 in
set_option maxHeartbeats 3200000 in
theorem calls_walk (w : World) (v0 : Value) (ps : List COp) (h0 : OpsSrc w v0 ps) :
    Calls Try.prog 4 #[v0] w fun e w' => e = .returned (.bool true) ∧ Kept w w' := by
  obtain ⟨a0, c0, e0⟩ := h0.len
  obtain ⟨M, hM⟩ : ∃ M, ps.length = M := ⟨_, rfl⟩
  rw [hM] at e0
  subst e0
  have hnot : ∀ (x : Bool) (w : World), (Op.unary .not (.bool x)).run Try.prog w = .ok (.bool (!x)) w := fun _ _ => rfl
  by_cases hb0 : 60 < M
  · go_enter Try.func4, Try.ntmps4
    go_wp2_with (go_at_call 9; refine (alive3_any _).mono ?_; rintro e w1 ⟨rfl, hk⟩)
    go_ret
    exact ⟨rfl, hk⟩
  have d0 : decide ((60 : Int) < (M : Int)) = false := by simp; omega
  have HM := Hid.mk hM
  have H0 := Hid.mk h0
  clear hM h0
  go_enter Try.func4, Try.ntmps4
  go_wp2_with fail
  refine (alive3_any _).mono ?_
  rintro e w1 ⟨rfl, hk1⟩
  have HK1 := Hid.mk hk1
  clear hk1
  go_wp2_with fail
  refine (up_new HK1.out 5000).mono ?_
  rintro e w2 ⟨rfl, h2⟩
  have H2 := Hid.mk h2
  clear h2
  go_wp2_with fail
  refine (two_new H2.out 5000).mono ?_
  rintro e w3 ⟨rfl, h3⟩
  have H3 := Hid.mk h3
  clear h3
  go_wp2_with fail
  go_loopw [6] (fun i wr => ∃ (k : Nat) (m : DModel), k ≤ M ∧ i = .int .i64 (k : Int) ∧ atMost m k ∧ Two w wr w1.heap.size w2.heap.size m m) (fun i _ => M - (intOf i).toNat)
  case atStart => exact ⟨0, _, by omega, rfl, ⟨Nat.le_refl _, Nat.le_refl _, Nat.le_refl _, Nat.le_refl _⟩, H3.out⟩
  case round =>
    obtain ⟨k, m, hk, rfl, hm, hT⟩ := hrel
    have HT := Hid.mk hT
    have Hm := Hid.mk hm
    clear hT hm
    by_cases hlt : k < M
    · have hkl : k < ps.length := by have := HM.out; omega
      rcases H0.out with ⟨a, c, e, e2⟩ | ⟨hpos, b, o, c, e1, hc⟩
      · exfalso
        rw [e2] at hkl
        exact absurd hkl (by simp)
      rw [HM.out] at e1
      cases e1
      obtain ⟨x0, x1, x2, x3⟩ := op_cell hc k hkl wr HT.out.kept
      have hok := (hc k hkl).2.2.2.2
      obtain ⟨q, hq⟩ : ∃ q, ps[k] = q := ⟨_, rfl⟩
      rw [hq] at x0 x1 x2 x3 hok
      have HO := Hid.mk hok
      obtain ⟨qk, qn, qt, qv, qb⟩ := q
      obtain ⟨qa, qc, e1⟩ := (src_at hok.src).len
      simp only at x0 x1 x2 x3 e1
      obtain ⟨N, hN⟩ : ∃ N, qb.length = N := ⟨_, rfl⟩
      rw [hN] at e1
      subst e1
      have HN := Hid.mk hN
      have hlo := hok.lo
      have hhi := hok.hi
      simp only at hlo hhi
      clear hok hq hc hN
      by_cases hbig : 2000 < N
      · go_wp2_with fail
        go_ret
        exact ⟨rfl, HT.out.kept.alloc _⟩
      have HE := Hid.mk (HT.out.hold [.int .i64 qk, .string qn, .string qt, .slice qa N qc])
      have hfew := Hid.mk (Hm.out.few (by omega))
      go_wp2_with fail
      refine (two_do HE.out hfew.out ⟨qk, qn, qt, .slice qa N qc, qb⟩ (HO.out.kept HE.out.kept) (by show qb.length ≤ _; rw [HN.out]; omega)).mono ?_
      rintro e w4 ⟨rfl, h4⟩
      obtain ⟨r, m2, hd⟩ : ∃ r m2, m.doOp (COp.op ⟨qk, qn, qt, .slice qa N qc, qb⟩) = (r, m2) := ⟨_, _, rfl⟩
      have hm2 : Hid (atMost m2 (k + 1)) := by have := do_most Hm.out (COp.op ⟨qk, qn, qt, .slice qa N qc, qb⟩); rw [hd] at this; exact this
      have hf2 := Hid.mk (hm2.out.few (by omega))
      rw [hd] at h4 ⊢
      simp only at h4 ⊢
      have HD : Hid (m.doOp ⟨qk, qn.data.toList, qt.data.toList, qb⟩ = (r, m2)) := hd
      have hE := h4.blk
      have y0 := hE.cell 0 rfl
      have y1 := hE.cell 1 rfl
      have y2 := hE.cell 2 rfl
      have y3 := hE.cell 3 rfl
      have U4 := Hid.mk h4.symm
      have HO4 := Hid.mk (HO.out.kept h4.kept)
      clear hd h4 hE HE HT x0 x1 x2 x3
      by_cases hk0 : qk = 0
      · subst hk0
        go_wp2_with fail
        refine (two_create U4.out hfew.out HO4.out.n).mono ?_
        rintro e w5 ⟨rfl, h5⟩
        have ed : m.doOp ⟨0, qn.data.toList, [], []⟩ = (r, m2) := (do_kind0 m qn.data.toList qt.data.toList qb).trans HD.out
        rw [ed] at h5 ⊢
        simp only at h5 ⊢
        have U5 := Hid.mk h5.symm
        clear h5 ed y0 y1 y2 y3 U4
        go_wp2_with (first
          | (go_at_call 15; refine (num3_any _ _).mono ?_; rintro e w' ⟨rfl, hw⟩; replace hw := hw.symm; subst hw))
        refine (two_room U5.out (hf2.out)).mono ?_
        rintro e w6 ⟨rfl, h6⟩
        have U6 := Hid.mk h6.symm
        clear h6
        go_wp2_with fail
        refine (two_room U6.out (hf2.out)).mono ?_
        rintro e w7 ⟨rfl, h7⟩
        have U7 := Hid.mk h7.symm
        have S1 := Hid.mk (up_steps h7.symm.up)
        have S2 := Hid.mk (up_steps h7.up)
        clear h7
        go_wp2_with (first
          | (go_at_call 30; refine S1.out.mono ?_; rintro e w' ⟨rfl, hw⟩; replace hw := hw.symm; subst hw)
          | (go_at_call 30; refine S2.out.mono ?_; rintro e w' ⟨rfl, hw⟩; replace hw := hw.symm; subst hw))
        go_roundw
        case rel => exact ⟨k + 1, _, by omega, by go_num, hm2.out, U7.out.two⟩
        case measure => simp [intOf]; omega
      by_cases hk1 : qk = 1
      · subst hk1
        go_wp2_with fail
        refine (two_append U4.out hfew.out HO4.out.n (src_at HO4.out.src) (by rw [HN.out]; omega)).mono ?_
        rintro e w5 ⟨rfl, h5⟩
        have ed : m.doOp ⟨1, qn.data.toList, [], qb⟩ = (r, m2) := (do_kind1 m qn.data.toList qt.data.toList qb).trans HD.out
        rw [ed] at h5 ⊢
        simp only at h5 ⊢
        have U5 := Hid.mk h5.symm
        clear h5 ed y0 y1 y2 y3 U4
        go_wp2_with (first
          | (go_at_call 15; refine (num3_any _ _).mono ?_; rintro e w' ⟨rfl, hw⟩; replace hw := hw.symm; subst hw))
        refine (two_room U5.out (hf2.out)).mono ?_
        rintro e w6 ⟨rfl, h6⟩
        have U6 := Hid.mk h6.symm
        clear h6
        go_wp2_with fail
        refine (two_room U6.out (hf2.out)).mono ?_
        rintro e w7 ⟨rfl, h7⟩
        have U7 := Hid.mk h7.symm
        have S1 := Hid.mk (up_steps h7.symm.up)
        have S2 := Hid.mk (up_steps h7.up)
        clear h7
        go_wp2_with (first
          | (go_at_call 30; refine S1.out.mono ?_; rintro e w' ⟨rfl, hw⟩; replace hw := hw.symm; subst hw)
          | (go_at_call 30; refine S2.out.mono ?_; rintro e w' ⟨rfl, hw⟩; replace hw := hw.symm; subst hw))
        go_roundw
        case rel => exact ⟨k + 1, _, by omega, by go_num, hm2.out, U7.out.two⟩
        case measure => simp [intOf]; omega
      by_cases hk2 : qk = 2
      · subst hk2
        go_wp2_with fail
        refine (two_sync U4.out hfew.out HO4.out.n).mono ?_
        rintro e w5 ⟨rfl, h5⟩
        have ed : m.doOp ⟨2, qn.data.toList, [], []⟩ = (r, m2) := (do_kind2 m qn.data.toList qt.data.toList qb).trans HD.out
        rw [ed] at h5 ⊢
        simp only at h5 ⊢
        have U5 := Hid.mk h5.symm
        clear h5 ed y0 y1 y2 y3 U4
        go_wp2_with (first
          | (go_at_call 15; refine (num3_any _ _).mono ?_; rintro e w' ⟨rfl, hw⟩; replace hw := hw.symm; subst hw))
        refine (two_room U5.out (hf2.out)).mono ?_
        rintro e w6 ⟨rfl, h6⟩
        have U6 := Hid.mk h6.symm
        clear h6
        go_wp2_with fail
        refine (two_room U6.out (hf2.out)).mono ?_
        rintro e w7 ⟨rfl, h7⟩
        have U7 := Hid.mk h7.symm
        have S1 := Hid.mk (up_steps h7.symm.up)
        have S2 := Hid.mk (up_steps h7.up)
        clear h7
        go_wp2_with (first
          | (go_at_call 30; refine S1.out.mono ?_; rintro e w' ⟨rfl, hw⟩; replace hw := hw.symm; subst hw)
          | (go_at_call 30; refine S2.out.mono ?_; rintro e w' ⟨rfl, hw⟩; replace hw := hw.symm; subst hw))
        go_roundw
        case rel => exact ⟨k + 1, _, by omega, by go_num, hm2.out, U7.out.two⟩
        case measure => simp [intOf]; omega
      by_cases hk3 : qk = 3
      · subst hk3
        go_wp2_with fail
        refine (two_rename U4.out hfew.out HO4.out.n HO4.out.t).mono ?_
        rintro e w5 ⟨rfl, h5⟩
        have ed : m.doOp ⟨3, qn.data.toList, qt.data.toList, []⟩ = (r, m2) := (do_kind3 m qn.data.toList qt.data.toList qb).trans HD.out
        rw [ed] at h5 ⊢
        simp only at h5 ⊢
        have U5 := Hid.mk h5.symm
        clear h5 ed y0 y1 y2 y3 U4
        go_wp2_with (first
          | (go_at_call 15; refine (num3_any _ _).mono ?_; rintro e w' ⟨rfl, hw⟩; replace hw := hw.symm; subst hw))
        refine (two_room U5.out (hf2.out)).mono ?_
        rintro e w6 ⟨rfl, h6⟩
        have U6 := Hid.mk h6.symm
        clear h6
        go_wp2_with fail
        refine (two_room U6.out (hf2.out)).mono ?_
        rintro e w7 ⟨rfl, h7⟩
        have U7 := Hid.mk h7.symm
        have S1 := Hid.mk (up_steps h7.symm.up)
        have S2 := Hid.mk (up_steps h7.up)
        clear h7
        go_wp2_with (first
          | (go_at_call 30; refine S1.out.mono ?_; rintro e w' ⟨rfl, hw⟩; replace hw := hw.symm; subst hw)
          | (go_at_call 30; refine S2.out.mono ?_; rintro e w' ⟨rfl, hw⟩; replace hw := hw.symm; subst hw))
        go_roundw
        case rel => exact ⟨k + 1, _, by omega, by go_num, hm2.out, U7.out.two⟩
        case measure => simp [intOf]; omega
      by_cases hk4 : qk = 4
      · subst hk4
        go_wp2_with fail
        refine (two_remove U4.out hfew.out HO4.out.n).mono ?_
        rintro e w5 ⟨rfl, h5⟩
        have ed : m.doOp ⟨4, qn.data.toList, [], []⟩ = (r, m2) := (do_kind4 m qn.data.toList qt.data.toList qb).trans HD.out
        rw [ed] at h5 ⊢
        simp only at h5 ⊢
        have U5 := Hid.mk h5.symm
        clear h5 ed y0 y1 y2 y3 U4
        go_wp2_with (first
          | (go_at_call 15; refine (num3_any _ _).mono ?_; rintro e w' ⟨rfl, hw⟩; replace hw := hw.symm; subst hw))
        refine (two_room U5.out (hf2.out)).mono ?_
        rintro e w6 ⟨rfl, h6⟩
        have U6 := Hid.mk h6.symm
        clear h6
        go_wp2_with fail
        refine (two_room U6.out (hf2.out)).mono ?_
        rintro e w7 ⟨rfl, h7⟩
        have U7 := Hid.mk h7.symm
        have S1 := Hid.mk (up_steps h7.symm.up)
        have S2 := Hid.mk (up_steps h7.up)
        clear h7
        go_wp2_with (first
          | (go_at_call 30; refine S1.out.mono ?_; rintro e w' ⟨rfl, hw⟩; replace hw := hw.symm; subst hw)
          | (go_at_call 30; refine S2.out.mono ?_; rintro e w' ⟨rfl, hw⟩; replace hw := hw.symm; subst hw))
        go_roundw
        case rel => exact ⟨k + 1, _, by omega, by go_num, hm2.out, U7.out.two⟩
        case measure => simp [intOf]; omega
      by_cases hk5 : qk = 5
      · subst hk5
        go_wp2_with fail
        refine (two_syncdir U4.out hfew.out ).mono ?_
        rintro e w5 ⟨rfl, h5⟩
        have ed : m.doOp ⟨5, [], [], []⟩ = (r, m2) := (do_kind5 m qn.data.toList qt.data.toList qb).trans HD.out
        rw [ed] at h5 ⊢
        simp only at h5 ⊢
        have U5 := Hid.mk h5.symm
        clear h5 ed y0 y1 y2 y3 U4
        go_wp2_with (first
          | (go_at_call 15; refine (num3_any _ _).mono ?_; rintro e w' ⟨rfl, hw⟩; replace hw := hw.symm; subst hw))
        refine (two_room U5.out (hf2.out)).mono ?_
        rintro e w6 ⟨rfl, h6⟩
        have U6 := Hid.mk h6.symm
        clear h6
        go_wp2_with fail
        refine (two_room U6.out (hf2.out)).mono ?_
        rintro e w7 ⟨rfl, h7⟩
        have U7 := Hid.mk h7.symm
        have S1 := Hid.mk (up_steps h7.symm.up)
        have S2 := Hid.mk (up_steps h7.up)
        clear h7
        go_wp2_with (first
          | (go_at_call 30; refine S1.out.mono ?_; rintro e w' ⟨rfl, hw⟩; replace hw := hw.symm; subst hw)
          | (go_at_call 30; refine S2.out.mono ?_; rintro e w' ⟨rfl, hw⟩; replace hw := hw.symm; subst hw))
        go_roundw
        case rel => exact ⟨k + 1, _, by omega, by go_num, hm2.out, U7.out.two⟩
        case measure => simp [intOf]; omega
      have HD2 := HD.out
      rw [do_odd m qk _ _ _ (by omega)] at HD2
      injection HD2 with e1 e2
      subst e1 e2
      have U5 := Hid.mk U4.out.symm
      clear U4
      have g0 : decide (qk = 0) = false := decide_eq_false hk0
      have g1 : decide (qk = 1) = false := decide_eq_false hk1
      have g2 : decide (qk = 2) = false := decide_eq_false hk2
      have g3 : decide (qk = 3) = false := decide_eq_false hk3
      have g4 : decide (qk = 4) = false := decide_eq_false hk4
      have g5 : decide (qk = 5) = false := decide_eq_false hk5
      go_wp2_with (first
        | (go_at_call 15; refine (num3_any _ _).mono ?_; rintro e w' ⟨rfl, hw⟩; replace hw := hw.symm; subst hw))
      refine (two_room U5.out (hf2.out)).mono ?_
      rintro e w6 ⟨rfl, h6⟩
      have U6 := Hid.mk h6.symm
      clear h6
      go_wp2_with fail
      refine (two_room U6.out (hf2.out)).mono ?_
      rintro e w7 ⟨rfl, h7⟩
      have U7 := Hid.mk h7.symm
      have S1 := Hid.mk (up_steps h7.symm.up)
      have S2 := Hid.mk (up_steps h7.up)
      clear h7
      go_wp2_with (first
        | (go_at_call 30; refine S1.out.mono ?_; rintro e w' ⟨rfl, hw⟩; replace hw := hw.symm; subst hw)
        | (go_at_call 30; refine S2.out.mono ?_; rintro e w' ⟨rfl, hw⟩; replace hw := hw.symm; subst hw))
      go_roundw
      case rel => exact ⟨k + 1, _, by omega, by go_num, hm2.out, U7.out.two⟩
      case measure => simp [intOf]; omega
    · go_wp2_with fail
      go_ret
      exact ⟨rfl, HT.out.kept⟩
end Go.Proofs.Ytephpgiiljjieaa
