/-
  Lcalls2, Eent, Edrop, Eput, Eput2, Eref, Esmall.
-/
import Derived.Test.YtfmdnaagdhpcpaaQ14
import Derived.WideAt

/-
  The walk of the law DiskCalls.
-/
namespace Go.Proofs.Ytfmdnaagdhpcpaa
open Go.RowKit Go.Proofs.Lys Go.Maps Go.Shelf
set_option linter.unusedVariables false

theorem COp.ok.kept {w W : World} {o : COp} (h : o.ok w) (k : Kept w W) : o.ok W := ⟨h.lo, h.hi, h.n, h.t, h.src.stay k⟩
theorem op_cell {w : World} {ps : List COp} {b o : Nat} (hc : ∀ i (hi : i < ps.length), w.cell? ⟨b, o + i * 4, none⟩ = some (.int .i64 ps[i].k) ∧ w.cell? ⟨b, o + i * 4 + 1, none⟩ = some (.string ps[i].n) ∧ w.cell? ⟨b, o + i * 4 + 2, none⟩ = some (.string ps[i].t) ∧ w.cell? ⟨b, o + i * 4 + 3, none⟩ = some ps[i].v ∧ ps[i].ok w) (k : Nat) (hk : k < ps.length) :
    ∀ W, Kept w W → W.cell? ⟨b, o + k * 4, none⟩ = some (.int .i64 ps[k].k) ∧ W.cell? ⟨b, o + k * 4 + 1, none⟩ = some (.string ps[k].n) ∧ W.cell? ⟨b, o + k * 4 + 2, none⟩ = some (.string ps[k].t) ∧ W.cell? ⟨b, o + k * 4 + 3, none⟩ = some ps[k].v := by
  intro W hW
  have each : ∀ a u, w.cell? a = some u → W.cell? a = some u := fun a u hc => by
    rw [World.cell?_of_block (w := w) (w' := W) (a := a) (hW.block a.block (World.block_lt_of_cell? w a hc) (fun f => f))]
    exact hc
  exact ⟨each _ _ (hc k hk).1, each _ _ (hc k hk).2.1, each _ _ (hc k hk).2.2.1, each _ _ (hc k hk).2.2.2.1⟩

set_option maxRecDepth 100000 in
set_option maxHeartbeats 3200000 in
theorem calls_walk (w : World) (v0 : Value) (ps : List COp) (h0 : OpsSrc w v0 ps) :
    Calls Try.prog 4 #[v0] w fun e w' => e = .returned (.bool true) ∧ Kept w w' := by
  obtain ⟨a0, c0, e0⟩ := h0.len
  obtain ⟨M, hM⟩ : ∃ M, ps.length = M := ⟨_, rfl⟩
  rw [hM] at e0
  subst e0
  have hnot : ∀ (x : Bool) (w : World), (Op.unary .not (.bool x)).run Try.prog w = .ok (.bool (!x)) w := fun _ _ => rfl
  by_cases hb0 : 60 < M
  · go_enter Try.func4, Try.ntmps4
    go_wp2_with (go_at_call 5; refine (alive3_any _).mono ?_; rintro e w1 ⟨rfl, hk⟩)
    go_ret
    exact ⟨rfl, hk⟩
  have d0 : decide ((60 : Int) < (M : Int)) = false := by simp; omega
  have HM := Hid.mk hM
  have H0 := Hid.mk h0
  clear hM h0
  go_enter Try.func4, Try.ntmps4
  go_wp2_with fail
  refine (alive3_any _).mono ?_
  rintro e w1 ⟨rfl, hk1⟩
  have HK1 := Hid.mk hk1
  clear hk1
  go_wp2_with fail
  refine (up_new HK1.out 5000).mono ?_
  rintro e w2 ⟨rfl, h2⟩
  have H2 := Hid.mk h2
  clear h2
  go_wp2_with fail
  refine (two_new H2.out 5000).mono ?_
  rintro e w3 ⟨rfl, h3⟩
  have H3 := Hid.mk h3
  clear h3
  go_wp2_with fail
  go_loopw [6] (fun i wr => ∃ (k : Nat) (m : DModel), k ≤ M ∧ i = .int .i64 (k : Int) ∧ atMost m k ∧ Two w wr w1.heap.size w2.heap.size m m) (fun i _ => M - (intOf i).toNat)
  case atStart => exact ⟨0, _, by omega, rfl, ⟨Nat.le_refl _, Nat.le_refl _, Nat.le_refl _, Nat.le_refl _⟩, H3.out⟩
  case round =>
    obtain ⟨k, m, hk, rfl, hm, hT⟩ := hrel
    have HT := Hid.mk hT
    have Hm := Hid.mk hm
    clear hT hm
    by_cases hlt : k < M
    · have hkl : k < ps.length := by have := HM.out; omega
      rcases H0.out with ⟨a, c, e, e2⟩ | ⟨hpos, b, o, c, e1, hc⟩
      · exfalso
        rw [e2] at hkl
        exact absurd hkl (by simp)
      rw [HM.out] at e1
      cases e1
      obtain ⟨x0, x1, x2, x3⟩ := op_cell hc k hkl wr HT.out.kept
      have hok := (hc k hkl).2.2.2.2
      obtain ⟨q, hq⟩ : ∃ q, ps[k] = q := ⟨_, rfl⟩
      rw [hq] at x0 x1 x2 x3 hok
      have HO := Hid.mk hok
      obtain ⟨qk, qn, qt, qv, qb⟩ := q
      obtain ⟨qa, qc, e1⟩ := (src_at hok.src).len
      simp only at x0 x1 x2 x3 e1
      obtain ⟨N, hN⟩ : ∃ N, qb.length = N := ⟨_, rfl⟩
      rw [hN] at e1
      subst e1
      have HN := Hid.mk hN
      have hlo := hok.lo
      have hhi := hok.hi
      simp only at hlo hhi
      clear hok hq hc hN
      by_cases hbig : 2000 < N
      · go_wp2_with fail
        go_ret
        exact ⟨rfl, HT.out.kept.alloc _⟩
      have HE := Hid.mk (HT.out.hold [.int .i64 qk, .string qn, .string qt, .slice qa N qc])
      have hfew := Hid.mk (Hm.out.few (by omega))
      go_wp2_with fail
      refine (two_do HE.out hfew.out ⟨qk, qn, qt, .slice qa N qc, qb⟩ (HO.out.kept HE.out.kept) (by show qb.length ≤ _; rw [HN.out]; omega)).mono ?_
      rintro e w4 ⟨rfl, h4⟩
      obtain ⟨r, m2, hd⟩ : ∃ r m2, m.doOp (COp.op ⟨qk, qn, qt, .slice qa N qc, qb⟩) = (r, m2) := ⟨_, _, rfl⟩
      have hm2 : Hid (atMost m2 (k + 1)) := by have := do_most Hm.out (COp.op ⟨qk, qn, qt, .slice qa N qc, qb⟩); rw [hd] at this; exact this
      have hf2 := Hid.mk (hm2.out.few (by omega))
      rw [hd] at h4 ⊢
      simp only at h4 ⊢
      have HD : Hid (m.doOp ⟨qk, qn.data.toList, qt.data.toList, qb⟩ = (r, m2)) := hd
      have hE := h4.blk
      have y0 := hE.cell 0 rfl
      have y1 := hE.cell 1 rfl
      have y2 := hE.cell 2 rfl
      have y3 := hE.cell 3 rfl
      have U4 := Hid.mk h4.symm
      have HO4 := Hid.mk (HO.out.kept h4.kept)
      clear hd h4 hE HE HT x0 x1 x2 x3
      by_cases hk0 : qk = 0
      · subst hk0
        go_wp2_with fail
        refine (two_create U4.out hfew.out HO4.out.n).mono ?_
        rintro e w5 ⟨rfl, h5⟩
        have ed : m.doOp ⟨0, qn.data.toList, [], []⟩ = (r, m2) := (do_kind0 m qn.data.toList qt.data.toList qb).trans HD.out
        rw [ed] at h5 ⊢
        simp only at h5 ⊢
        have U5 := Hid.mk h5.symm
        clear h5 ed y0 y1 y2 y3 U4
        go_wp2_with (first
          | (go_at_call 11; refine (num3_any _ _).mono ?_; rintro e w' ⟨rfl, hw⟩; replace hw := hw.symm; subst hw))
        refine (two_room U5.out (hf2.out)).mono ?_
        rintro e w6 ⟨rfl, h6⟩
        have U6 := Hid.mk h6.symm
        clear h6
        go_wp2_with fail
        refine (two_room U6.out (hf2.out)).mono ?_
        rintro e w7 ⟨rfl, h7⟩
        have U7 := Hid.mk h7.symm
        have S1 := Hid.mk (up_steps h7.symm.up)
        have S2 := Hid.mk (up_steps h7.up)
        clear h7
        go_wp2_with (first
          | (go_at_call 26; refine S1.out.mono ?_; rintro e w' ⟨rfl, hw⟩; replace hw := hw.symm; subst hw)
          | (go_at_call 26; refine S2.out.mono ?_; rintro e w' ⟨rfl, hw⟩; replace hw := hw.symm; subst hw))
        go_roundw
        case rel => exact ⟨k + 1, _, by omega, by go_num, hm2.out, U7.out.two⟩
        case measure => simp [intOf]; omega
      by_cases hk1 : qk = 1
      · subst hk1
        go_wp2_with fail
        refine (two_append U4.out hfew.out HO4.out.n (src_at HO4.out.src) (by rw [HN.out]; omega)).mono ?_
        rintro e w5 ⟨rfl, h5⟩
        have ed : m.doOp ⟨1, qn.data.toList, [], qb⟩ = (r, m2) := (do_kind1 m qn.data.toList qt.data.toList qb).trans HD.out
        rw [ed] at h5 ⊢
        simp only at h5 ⊢
        have U5 := Hid.mk h5.symm
        clear h5 ed y0 y1 y2 y3 U4
        go_wp2_with (first
          | (go_at_call 11; refine (num3_any _ _).mono ?_; rintro e w' ⟨rfl, hw⟩; replace hw := hw.symm; subst hw))
        refine (two_room U5.out (hf2.out)).mono ?_
        rintro e w6 ⟨rfl, h6⟩
        have U6 := Hid.mk h6.symm
        clear h6
        go_wp2_with fail
        refine (two_room U6.out (hf2.out)).mono ?_
        rintro e w7 ⟨rfl, h7⟩
        have U7 := Hid.mk h7.symm
        have S1 := Hid.mk (up_steps h7.symm.up)
        have S2 := Hid.mk (up_steps h7.up)
        clear h7
        go_wp2_with (first
          | (go_at_call 26; refine S1.out.mono ?_; rintro e w' ⟨rfl, hw⟩; replace hw := hw.symm; subst hw)
          | (go_at_call 26; refine S2.out.mono ?_; rintro e w' ⟨rfl, hw⟩; replace hw := hw.symm; subst hw))
        go_roundw
        case rel => exact ⟨k + 1, _, by omega, by go_num, hm2.out, U7.out.two⟩
        case measure => simp [intOf]; omega
      by_cases hk2 : qk = 2
      · subst hk2
        go_wp2_with fail
        refine (two_sync U4.out hfew.out HO4.out.n).mono ?_
        rintro e w5 ⟨rfl, h5⟩
        have ed : m.doOp ⟨2, qn.data.toList, [], []⟩ = (r, m2) := (do_kind2 m qn.data.toList qt.data.toList qb).trans HD.out
        rw [ed] at h5 ⊢
        simp only at h5 ⊢
        have U5 := Hid.mk h5.symm
        clear h5 ed y0 y1 y2 y3 U4
        go_wp2_with (first
          | (go_at_call 11; refine (num3_any _ _).mono ?_; rintro e w' ⟨rfl, hw⟩; replace hw := hw.symm; subst hw))
        refine (two_room U5.out (hf2.out)).mono ?_
        rintro e w6 ⟨rfl, h6⟩
        have U6 := Hid.mk h6.symm
        clear h6
        go_wp2_with fail
        refine (two_room U6.out (hf2.out)).mono ?_
        rintro e w7 ⟨rfl, h7⟩
        have U7 := Hid.mk h7.symm
        have S1 := Hid.mk (up_steps h7.symm.up)
        have S2 := Hid.mk (up_steps h7.up)
        clear h7
        go_wp2_with (first
          | (go_at_call 26; refine S1.out.mono ?_; rintro e w' ⟨rfl, hw⟩; replace hw := hw.symm; subst hw)
          | (go_at_call 26; refine S2.out.mono ?_; rintro e w' ⟨rfl, hw⟩; replace hw := hw.symm; subst hw))
        go_roundw
        case rel => exact ⟨k + 1, _, by omega, by go_num, hm2.out, U7.out.two⟩
        case measure => simp [intOf]; omega
      by_cases hk3 : qk = 3
      · subst hk3
        go_wp2_with fail
        refine (two_rename U4.out hfew.out HO4.out.n HO4.out.t).mono ?_
        rintro e w5 ⟨rfl, h5⟩
        have ed : m.doOp ⟨3, qn.data.toList, qt.data.toList, []⟩ = (r, m2) := (do_kind3 m qn.data.toList qt.data.toList qb).trans HD.out
        rw [ed] at h5 ⊢
        simp only at h5 ⊢
        have U5 := Hid.mk h5.symm
        clear h5 ed y0 y1 y2 y3 U4
        go_wp2_with (first
          | (go_at_call 11; refine (num3_any _ _).mono ?_; rintro e w' ⟨rfl, hw⟩; replace hw := hw.symm; subst hw))
        refine (two_room U5.out (hf2.out)).mono ?_
        rintro e w6 ⟨rfl, h6⟩
        have U6 := Hid.mk h6.symm
        clear h6
        go_wp2_with fail
        refine (two_room U6.out (hf2.out)).mono ?_
        rintro e w7 ⟨rfl, h7⟩
        have U7 := Hid.mk h7.symm
        have S1 := Hid.mk (up_steps h7.symm.up)
        have S2 := Hid.mk (up_steps h7.up)
        clear h7
        go_wp2_with (first
          | (go_at_call 26; refine S1.out.mono ?_; rintro e w' ⟨rfl, hw⟩; replace hw := hw.symm; subst hw)
          | (go_at_call 26; refine S2.out.mono ?_; rintro e w' ⟨rfl, hw⟩; replace hw := hw.symm; subst hw))
        go_roundw
        case rel => exact ⟨k + 1, _, by omega, by go_num, hm2.out, U7.out.two⟩
        case measure => simp [intOf]; omega
      by_cases hk4 : qk = 4
      · subst hk4
        go_wp2_with fail
        refine (two_remove U4.out hfew.out HO4.out.n).mono ?_
        rintro e w5 ⟨rfl, h5⟩
        have ed : m.doOp ⟨4, qn.data.toList, [], []⟩ = (r, m2) := (do_kind4 m qn.data.toList qt.data.toList qb).trans HD.out
        rw [ed] at h5 ⊢
        simp only at h5 ⊢
        have U5 := Hid.mk h5.symm
        clear h5 ed y0 y1 y2 y3 U4
        go_wp2_with (first
          | (go_at_call 11; refine (num3_any _ _).mono ?_; rintro e w' ⟨rfl, hw⟩; replace hw := hw.symm; subst hw))
        refine (two_room U5.out (hf2.out)).mono ?_
        rintro e w6 ⟨rfl, h6⟩
        have U6 := Hid.mk h6.symm
        clear h6
        go_wp2_with fail
        refine (two_room U6.out (hf2.out)).mono ?_
        rintro e w7 ⟨rfl, h7⟩
        have U7 := Hid.mk h7.symm
        have S1 := Hid.mk (up_steps h7.symm.up)
        have S2 := Hid.mk (up_steps h7.up)
        clear h7
        go_wp2_with (first
          | (go_at_call 26; refine S1.out.mono ?_; rintro e w' ⟨rfl, hw⟩; replace hw := hw.symm; subst hw)
          | (go_at_call 26; refine S2.out.mono ?_; rintro e w' ⟨rfl, hw⟩; replace hw := hw.symm; subst hw))
        go_roundw
        case rel => exact ⟨k + 1, _, by omega, by go_num, hm2.out, U7.out.two⟩
        case measure => simp [intOf]; omega
      by_cases hk5 : qk = 5
      · subst hk5
        go_wp2_with fail
        refine (two_syncdir U4.out hfew.out ).mono ?_
        rintro e w5 ⟨rfl, h5⟩
        have ed : m.doOp ⟨5, [], [], []⟩ = (r, m2) := (do_kind5 m qn.data.toList qt.data.toList qb).trans HD.out
        rw [ed] at h5 ⊢
        simp only at h5 ⊢
        have U5 := Hid.mk h5.symm
        clear h5 ed y0 y1 y2 y3 U4
        go_wp2_with (first
          | (go_at_call 11; refine (num3_any _ _).mono ?_; rintro e w' ⟨rfl, hw⟩; replace hw := hw.symm; subst hw))
        refine (two_room U5.out (hf2.out)).mono ?_
        rintro e w6 ⟨rfl, h6⟩
        have U6 := Hid.mk h6.symm
        clear h6
        go_wp2_with fail
        refine (two_room U6.out (hf2.out)).mono ?_
        rintro e w7 ⟨rfl, h7⟩
        have U7 := Hid.mk h7.symm
        have S1 := Hid.mk (up_steps h7.symm.up)
        have S2 := Hid.mk (up_steps h7.up)
        clear h7
        go_wp2_with (first
          | (go_at_call 26; refine S1.out.mono ?_; rintro e w' ⟨rfl, hw⟩; replace hw := hw.symm; subst hw)
          | (go_at_call 26; refine S2.out.mono ?_; rintro e w' ⟨rfl, hw⟩; replace hw := hw.symm; subst hw))
        go_roundw
        case rel => exact ⟨k + 1, _, by omega, by go_num, hm2.out, U7.out.two⟩
        case measure => simp [intOf]; omega
      have HD2 := HD.out
      rw [do_odd m qk _ _ _ (by omega)] at HD2
      injection HD2 with e1 e2
      subst e1 e2
      have U5 := Hid.mk U4.out.symm
      clear U4
      have g0 : decide (qk = 0) = false := decide_eq_false hk0
      have g1 : decide (qk = 1) = false := decide_eq_false hk1
      have g2 : decide (qk = 2) = false := decide_eq_false hk2
      have g3 : decide (qk = 3) = false := decide_eq_false hk3
      have g4 : decide (qk = 4) = false := decide_eq_false hk4
      have g5 : decide (qk = 5) = false := decide_eq_false hk5
      go_wp2_with (first
        | (go_at_call 11; refine (num3_any _ _).mono ?_; rintro e w' ⟨rfl, hw⟩; replace hw := hw.symm; subst hw))
      refine (two_room U5.out (hf2.out)).mono ?_
      rintro e w6 ⟨rfl, h6⟩
      have U6 := Hid.mk h6.symm
      clear h6
      go_wp2_with fail
      refine (two_room U6.out (hf2.out)).mono ?_
      rintro e w7 ⟨rfl, h7⟩
      have U7 := Hid.mk h7.symm
      have S1 := Hid.mk (up_steps h7.symm.up)
      have S2 := Hid.mk (up_steps h7.up)
      clear h7
      go_wp2_with (first
        | (go_at_call 26; refine S1.out.mono ?_; rintro e w' ⟨rfl, hw⟩; replace hw := hw.symm; subst hw)
        | (go_at_call 26; refine S2.out.mono ?_; rintro e w' ⟨rfl, hw⟩; replace hw := hw.symm; subst hw))
      go_roundw
      case rel => exact ⟨k + 1, _, by omega, by go_num, hm2.out, U7.out.two⟩
      case measure => simp [intOf]; omega
    · go_wp2_with fail
      go_ret
      exact ⟨rfl, HT.out.kept⟩
end Go.Proofs.Ytfmdnaagdhpcpaa

/-
  The document's own disk: directories as rows of entries; find.
-/
namespace Go.Proofs.Ytfmdnaagdhpcpaa
open Go.RowKit Go.Proofs.Lys Go.Maps Go.Shelf
set_option linter.unusedVariables false

def nmV (s : List UInt8) : Value := .string ⟨s.toArray⟩
/-- Entries, cell by cell. -/
def entL : DDir → List Value
  | [] => []
  | p :: r => nmV p.1 :: .int .i64 (p.2 : Int) :: entL r
theorem entL_len (l : DDir) : (entL l).length = l.length * 2 := by
  induction l with
  | nil => rfl
  | cons p r ih => rw [entL, List.length_cons, List.length_cons, ih, List.length_cons]; omega
theorem entL_app (l r : DDir) : entL (l ++ r) = entL l ++ entL r := by
  induction l with
  | nil => rfl
  | cons p l ih => rw [List.cons_append, entL, ih, entL]; rfl
theorem entL_at (l : DDir) (i : Nat) (h : i < l.length) : (entL l)[i * 2]? = some (nmV l[i].1) ∧ (entL l)[i * 2 + 1]? = some (.int .i64 (l[i].2 : Int)) := by
  induction l generalizing i with
  | nil => simp at h
  | cons p r ih =>
    cases i with
    | zero => exact ⟨rfl, rfl⟩
    | succ i =>
      have := ih i (by simpa using h)
      rw [show (i + 1) * 2 = i * 2 + 2 by omega]
      exact this

/-- Entries that are read. -/
def EntSrc (w : World) (v : Value) (l : DDir) : Prop :=
  (∃ a c, v = .slice a 0 c ∧ l = []) ∨
  (0 < l.length ∧ ∃ b o c, v = .slice (some ⟨b, o, none⟩) l.length c ∧ ∀ i (hi : i < l.length), w.cell? ⟨b, o + i * 2, none⟩ = some (nmV l[i].1) ∧ w.cell? ⟨b, o + i * 2 + 1, none⟩ = some (.int .i64 (l[i].2 : Int)))
theorem EntSrc.len {w : World} {v : Value} {l : DDir} (h : EntSrc w v l) : ∃ a c, v = .slice a l.length c := by
  rcases h with ⟨a, c, rfl, rfl⟩ | ⟨_, b, o, c, rfl, _⟩
  · exact ⟨a, c, rfl⟩
  · exact ⟨_, c, rfl⟩
theorem EntSrc.stay {w W : World} {v : Value} {l : DDir} (h : EntSrc w v l) (k : Kept w W) : EntSrc W v l := by
  have each : ∀ a u, w.cell? a = some u → W.cell? a = some u := fun a u hc => by
    rw [World.cell?_of_block (w := w) (w' := W) (a := a) (k.block a.block (World.block_lt_of_cell? w a hc) (fun f => f))]
    exact hc
  rcases h with h | ⟨h0, b, o, c, rfl, hc⟩
  · exact .inl h
  · exact .inr ⟨h0, b, o, c, rfl, fun i hi => ⟨each _ _ (hc i hi).1, each _ _ (hc i hi).2⟩⟩

/-- A name's place, or -1. -/
def fidx (l : DDir) (n : List UInt8) : Int := if l.findIdx (fun p => p.1 == n) < l.length then (l.findIdx (fun p => p.1 == n) : Int) else -1

set_option maxRecDepth 100000 in
set_option maxHeartbeats 1600000 in
theorem rfind_any {w : World} {v : Value} {l : DDir} (h : EntSrc w v l) (hl : l.length ≤ 1000000) (n : List UInt8) : Calls Try.prog 36 #[v, .string ⟨n.toArray⟩] w fun e w' => e = .returned (.int .i64 (fidx l n)) ∧ w' = w := by
  obtain ⟨a0, c0, e0⟩ := h.len
  obtain ⟨M, hM⟩ : ∃ M, l.length = M := ⟨_, rfl⟩
  rw [hM] at e0 hl
  subst e0
  have HM := Hid.mk hM
  have H0 := Hid.mk h
  clear hM h
  go_enter Try.func36, Try.ntmps36
  go_wp2_with fail
  go_loopw [5] (fun i wr => ∃ (k : Nat), k ≤ M ∧ i = .int .i64 (k : Int) ∧ (∀ j (hj : j < l.length), j < k → (l[j].1 == n) = false) ∧ wr = w) (fun i _ => M - (intOf i).toNat)
  case atStart => exact ⟨0, by omega, rfl, fun j _ hj => by omega, rfl⟩
  case round =>
    obtain ⟨k, hk, rfl, hno, rfl⟩ := hrel
    have HN := Hid.mk hno
    clear hno
    by_cases hlt : k < M
    · have hkl : k < l.length := by have := HM.out; omega
      rcases H0.out with ⟨a, c, e, e2⟩ | ⟨hpos, b, o, c, e1, hc⟩
      · exfalso
        rw [e2] at hkl
        exact absurd hkl (by simp)
      rw [HM.out] at e1
      cases e1
      obtain ⟨x0, x1⟩ := hc k hkl
      obtain ⟨s, hs⟩ : ∃ s, l[k].1 = s := ⟨_, rfl⟩
      rw [hs] at x0
      unfold nmV at x0
      have HS := Hid.mk hs
      clear hc hs x1 hpos
      by_cases hn : s = n
      · subst hn
        have HE : Hid (fidx l s = (k : Int)) := by
          have e : l.findIdx (fun p => p.1 == s) = k := by
            rw [List.findIdx_eq hkl]
            exact ⟨by rw [HS.out]; simp, fun j hj => HN.out j (by omega) hj⟩
          show fidx l s = _
          unfold fidx
          rw [e, if_pos hkl]
        go_wp2_with fail
        go_ret
        exact ⟨by rw [HE.out]; rfl, rfl⟩
      · have hne : (s == n) = false := beq_eq_false_iff_ne.2 hn
        go_wp2_with fail
        refine ⟨⟨k + 1, by omega, by go_num, fun j hj hjk => ?_, trivial⟩, ?_⟩
        · by_cases hjl : j < k
          · exact HN.out j hj hjl
          · obtain rfl : j = k := by omega
            rw [HS.out]
            exact hne
        · simp [intOf]
          omega
    · have HE : Hid (fidx l n = -1) := by
        show fidx l n = _
        unfold fidx
        rw [if_neg]
        intro hlt2
        have h1 := List.findIdx_getElem (w := hlt2)
        have := HN.out _ hlt2 (by have := HM.out; omega)
        rw [this] at h1
        cases h1
      go_wp2_with fail
      go_ret
      exact ⟨by rw [HE.out]; rfl, rfl⟩
end Go.Proofs.Ytfmdnaagdhpcpaa

/-
  The document's own disk: drop.
-/
namespace Go.Proofs.Ytfmdnaagdhpcpaa
open Go.RowKit Go.Proofs.Lys Go.Maps Go.Shelf
set_option linter.unusedVariables false

theorem Try.infoE : (Try.prog.info? 75).map (fun i => (i.zero, i.size, i.bytes)) = some (some (.agg #[.string ⟨#[]⟩, .int .i64 0]), 2, 24) := by kernel_rfl

theorem entL_one (l : DDir) : ∀ u ∈ entL l, u.oneCell' = true := by
  induction l with
  | nil => intro u hu; cases hu
  | cons p r ih =>
    intro u hu
    rw [entL] at hu
    simp only [List.mem_cons] at hu
    rcases hu with rfl | rfl | hu
    · rfl
    · rfl
    · exact ih u hu

section
variable {w w' : World} {base : Nat} {e : TypeId} {z : Nat} {v : Value} {n : Nat} {xs : List Value}
theorem ownN_slice (h : w.ownsRow base e z v n xs) : ∃ a cap, v = .slice a n cap := by
  rcases h.2 with ⟨rfl, rfl⟩ | ⟨g, cap, cur, rfl, _⟩
  · exact ⟨none, 0, rfl⟩
  · exact ⟨_, cap, rfl⟩
theorem ownN_some (h : w.ownsRow base e z v n xs) (h0 : 0 < n) : ∃ g cap, v = .slice (some ⟨g, 0, none⟩) n cap := by
  rcases h.2 with ⟨rfl, rfl⟩ | ⟨g, cap, cur, rfl, _⟩
  · omega
  · exact ⟨g, cap, rfl⟩
theorem ownN_block (h : w.ownsRow base e z v n xs) (hk : ∀ k, v.ownBlock = some k → w'.heap[k]? = w.heap[k]?) : w'.ownsRow base e z v n xs := by
  rcases h with ⟨hl, hn | ⟨g, cap, cur, rfl, hb, hg, rest⟩⟩
  · exact ⟨hl, .inl hn⟩
  · exact ⟨hl, .inr ⟨g, cap, cur, rfl, hb, (hk g rfl).trans hg, rest⟩⟩
theorem ownN_typed (h : w.ownsRow base e z v n xs) {k : Nat} (hk : v.ownBlock = some k) : Typed w k e := by
  rcases h.2 with ⟨rfl, _⟩ | ⟨g, cap, cur, rfl, hb, hg, _⟩
  · cases hk
  · have : g = k := by simpa [Value.ownBlock] using hk
    subst this
    exact ⟨_, _, hg⟩
theorem ownN_lt (h : w.ownsRow base e z v n xs) {k : Nat} (hk : v.ownBlock = some k) : base ≤ k ∧ k < w.heap.size := by
  rcases h.2 with ⟨rfl, _⟩ | ⟨g, cap, cur, rfl, hb, hg, _⟩
  · cases hk
  · have : g = k := by simpa [Value.ownBlock] using hk
    subst this
    exact ⟨hb, (Array.getElem?_eq_some_iff.1 hg).1⟩
theorem ownN_only {O : Nat → Prop} (h : w.ownsRow base e z v n xs) (k : Only O w w') (hO : ∀ b, v.ownBlock = some b → ¬ O b) : w'.ownsRow base e z v n xs :=
  ownN_block h (fun b hb => k.block b ((ownN_lt h hb).2) (hO b hb))
theorem ownN_stay (h : w.ownsRow base e z v n xs) (k : Kept w w') : w'.ownsRow base e z v n xs := ownN_only h k (fun _ _ f => f)
theorem ownN_base (h : w.ownsRow base e z v n xs) {b' : Nat} (hb : b' ≤ base) : w.ownsRow b' e z v n xs := by
  rcases h with ⟨hl, hn | ⟨g, cap, cur, rfl, hb', hg, rest⟩⟩
  · exact ⟨hl, .inl hn⟩
  · exact ⟨hl, .inr ⟨g, cap, cur, rfl, Nat.le_trans hb hb', hg, rest⟩⟩
end

/-- A row of entries that is owned. -/
abbrev EntAt (w : World) (B : Nat) (v : Value) (l : DDir) : Prop := w.ownsRow B 75 2 v l.length (entL l)

theorem EntAt.src {w : World} {B : Nat} {v : Value} {l : DDir} (h : EntAt w B v l) : EntSrc w v l := by
  by_cases h0 : l.length = 0
  · have : l = [] := List.length_eq_zero_iff.1 h0
    subst this
    obtain ⟨a, c, rfl⟩ := ownN_slice h
    exact .inl ⟨a, c, rfl, rfl⟩
  · obtain ⟨g, cap, rfl⟩ := ownN_some h (by omega)
    refine .inr ⟨by omega, g, 0, cap, rfl, fun i hi => ?_⟩
    have hx := entL_at l i hi
    rw [Nat.zero_add]
    exact ⟨by rw [h.cellAt (i * 2) (by omega)]; exact hx.1, by rw [h.cellAt (i * 2 + 1) (by omega)]; exact hx.2⟩

/-- What entries that are read append to a row of entries. -/
theorem ent_append {w : World} {B : Nat} {v xv : Value} {l q : DDir} (hown : EntAt w B v l) (hsrc : EntSrc w xv q) (hl : l.length + q.length ≤ 1000000) (hB : B ≤ w.heap.size) :
    ∃ v' w', (Builtin.append_ #[60, 60] 0 #[v, xv]).run Try.prog w = .ok v' w' ∧ EntAt w' B v' (l ++ q) ∧ w.grownBy w' v.ownBlock ∧ (v'.ownBlock = v.ownBlock ∨ v'.ownBlock = some w.heap.size) := by
  obtain ⟨i0, hi0, hz0, hz1, hz2⟩ := info_parts Try.infoE
  have hm : l.length + q.length ≤ maxLen := by unfold maxLen; omega
  have ht := Try.underlying60
  have hll : (l ++ q).length = l.length + q.length := List.length_append
  have main : ∀ (a : Addr) (c : Nat), xv = .slice (some a) q.length c → (∀ j u, (entL q)[j]? = some u → w.cell? (a.add j) = some u) → ∃ v' w', (Builtin.append_ #[60, 60] 0 #[v, xv]).run Try.prog w = .ok v' w' ∧ EntAt w' B v' (l ++ q) ∧ w.grownBy w' v.ownBlock ∧ (v'.ownBlock = v.ownBlock ∨ v'.ownBlock = some w.heap.size) := by
    intro a c e hc
    subst e
    obtain ⟨v', w', hr, h2, h3, _, h5⟩ := run_append_own_at (P := Try.prog) w B _ 0 _ i0 _ 2 24 ht hi0 hz0 hz1 hz2 rfl (by decide) v l.length (entL l) hown a q.length c (entL q) (entL_len q)
      hc (entL_one q) hm (by omega) hB
    refine ⟨v', w', hr, ?_, h3, h5⟩
    unfold EntAt
    rw [hll, entL_app]
    exact h2
  rcases hsrc with ⟨a, c, rfl, rfl⟩ | ⟨h0, b, o, c, rfl, hc⟩
  · cases a with
    | none =>
      refine ⟨v, w, ?_, by rw [List.append_nil]; exact hown, World.grownBy.refl _ _, .inl rfl⟩
      rcases hown.2 with ⟨rfl, h0⟩ | ⟨g, cap, cur, rfl, hbg, hg, hnc, hcm, hcs, htake⟩
      · simp [Builtin.append_, run_underlying ht, sizeOf, typeInfo, hi0, Builtin.lenOf, Builtin.firstCells]
      · simp [Builtin.append_, run_underlying ht, sizeOf, typeInfo, hi0, Builtin.lenOf, Builtin.firstCells, hnc, storeCells]
    | some a => exact main a c rfl (fun j u hu => by simp [entL] at hu)
  · refine main _ c rfl (fun j u hu => ?_)
    rw [add_none]
    have hj : j < (entL q).length := (List.getElem?_eq_some_iff.1 hu).1
    rw [entL_len] at hj
    have hx := entL_at q (j / 2) (by omega)
    have hcc := hc (j / 2) (by omega)
    rcases Nat.mod_two_eq_zero_or_one j with hp | hp
    · have ej : j = j / 2 * 2 := by omega
      rw [ej] at hu ⊢
      rw [hx.1] at hu
      cases hu
      exact hcc.1
    · have ej : j = j / 2 * 2 + 1 := by omega
      rw [ej] at hu ⊢
      rw [hx.2] at hu
      cases hu
      rw [← Nat.add_assoc]
      exact hcc.2

/-- An entry that was laid just now. -/
theorem ent_lit (w : World) (p : List UInt8 × Nat) : EntSrc (w.alloc (.cells #[nmV p.1, .int .i64 (p.2 : Int)] 75)) (.slice (some ⟨w.heap.size, 0, none⟩) 1 1) [p] := by
  have hb := Blk.new w [nmV p.1, .int .i64 (p.2 : Int)] 75
  refine .inr ⟨by simp, w.heap.size, 0, 1, rfl, fun i hi => ?_⟩
  have : i = 0 := by simpa using hi
  subst this
  exact ⟨hb.cell 0 rfl, hb.cell 1 rfl⟩

/-- A row grows by an entry. -/
theorem ent_step {w0 w : World} {v : Value} {l : DDir} (hown : EntAt w w0.heap.size v l) (hk : Kept w0 w) (p : List UInt8 × Nat) (hl : l.length < 1000000) :
    ∃ g cap w', Hid ((Builtin.append_ #[60, 60] 0 #[v, .slice (some ⟨w.heap.size, 0, none⟩) 1 1]).run Try.prog (w.alloc (.cells #[nmV p.1, .int .i64 (p.2 : Int)] 75)) = .ok (.slice (some ⟨g, 0, none⟩) (l.length + 1) cap) w') ∧ EntAt w' w0.heap.size (.slice (some ⟨g, 0, none⟩) (l.length + 1) cap) (l ++ [p]) ∧ Kept w0 w' := by
  have k1 : Kept w (w.alloc (.cells #[nmV p.1, .int .i64 (p.2 : Int)] 75)) := (Only.refl _ w).alloc _
  obtain ⟨v', w', hr, h1, h2, h3⟩ := ent_append (ownN_stay hown k1) (ent_lit w p) (by simp; omega) (Nat.le_trans hk.size k1.size)
  obtain ⟨g, cap, rfl⟩ := ownN_some h1 (by simp)
  have hn : (l ++ [p]).length = l.length + 1 := by simp
  rw [hn] at hr h1
  refine ⟨g, cap, w', hr, h1, ?_⟩
  · exact (hk.trans k1 (fun _ _ f => f)).grown h2 (fun j hj hlt => by have := (ownN_lt hown hj).1; omega)

theorem drop_take (l : DDir) (n : List UInt8) (k : Nat) (h : k < l.length) : DD.drop (l.take (k + 1)) n = DD.drop (l.take k) n ++ (if l[k].1 == n then [] else [l[k]]) := by
  unfold DD.drop
  rw [List.take_succ_eq_append_getElem h, List.filter_append]
  congr 1
  rw [List.filter_cons, List.filter_nil]
  cases l[k].1 == n <;> rfl

set_option maxRecDepth 100000 in
set_option maxHeartbeats 1600000 in
theorem rdrop_any {w : World} {v : Value} {l : DDir} (h : EntSrc w v l) (hl : l.length ≤ 100000) (n : List UInt8) : Calls Try.prog 38 #[v, .string ⟨n.toArray⟩] w fun e w' => ∃ v', e = .returned v' ∧ EntAt w' w.heap.size v' (DD.drop l n) ∧ Kept w w' := by
  obtain ⟨a0, c0, e0⟩ := h.len
  obtain ⟨M, hM⟩ : ∃ M, l.length = M := ⟨_, rfl⟩
  rw [hM] at e0 hl
  subst e0
  have HM := Hid.mk hM
  have H0 := Hid.mk h
  clear hM h
  go_enter Try.func38, Try.ntmps38
  go_wp2_with fail
  go_loopw [5, 6] (fun v i wr => ∃ (k : Nat), k ≤ M ∧ i = .int .i64 (k : Int) ∧ EntAt wr w.heap.size v (DD.drop (l.take k) n) ∧ Kept w wr) (fun _ i _ => M - (intOf i).toNat)
  case atStart => exact ⟨0, by omega, rfl, ⟨rfl, .inl ⟨rfl, rfl⟩⟩, Only.refl _ _⟩
  case round =>
    obtain ⟨k, hk, rfl, hE, hkp⟩ := hrel
    obtain ⟨v5, c5, e5⟩ := ownN_slice hE
    subst e5
    have HE := Hid.mk hE
    have HK := Hid.mk hkp
    clear hE
    by_cases hlt : k < M
    · have hkl : k < l.length := by have := HM.out; omega
      rcases H0.out with ⟨a, c, e, e2⟩ | ⟨hpos, b, o, c, e1, hc⟩
      · exfalso
        rw [e2] at hkl
        exact absurd hkl (by simp)
      rw [HM.out] at e1
      cases e1
      have hcc : ∀ i (hi : i < l.length), wr.cell? ⟨b, o + i * 2, none⟩ = some (nmV l[i].1) ∧ wr.cell? ⟨b, o + i * 2 + 1, none⟩ = some (.int .i64 (l[i].2 : Int)) := by
        have := (H0.out.stay HK.out)
        rcases this with ⟨a, c, e, e2⟩ | ⟨_, b', o', c', e1', hc'⟩
        · exact absurd hpos (by rw [e2]; simp)
        · rw [HM.out] at e1'
          cases e1'
          exact hc'
      obtain ⟨x0, x1⟩ := hcc k hkl
      obtain ⟨p, hp⟩ : ∃ p, l[k] = p := ⟨_, rfl⟩
      have HD := Hid.mk (drop_take l n k hkl)
      rw [hp] at x0 x1 HD
      obtain ⟨s, f⟩ := p
      simp only at x0 x1 HD
      obtain ⟨q, hq⟩ : ∃ q, DD.drop (l.take k) n = q := ⟨_, rfl⟩
      rw [hq] at HE HD ⊢
      have hql : q.length ≤ M := by
        rw [← hq]
        refine Nat.le_trans (drop_le _ _) ?_
        rw [List.length_take]
        omega
      have HQ := Hid.mk hql
      obtain ⟨g, cap, w1, Hr, hown, hkk⟩ := ent_step HE.out HK.out (s, f) (by omega)
      have HO := Hid.mk hown
      have HKK := Hid.mk hkk
      unfold nmV at x0 Hr
      clear hc hcc hp hpos hq hql hown hkk hkp
      by_cases hn : s = n
      · subst hn
        have HD2 : Hid (DD.drop (l.take (k + 1)) s = q) := by have := HD.out; simp at this; exact this
        go_wp2_with fail
        go_roundw
        case rel => exact ⟨k + 1, by omega, by go_num, by rw [HD2.out]; exact HE.out, HK.out⟩
        case measure => simp [intOf]; omega
      · have hne : (s == n) = false := beq_eq_false_iff_ne.2 hn
        have HD2 : Hid (DD.drop (l.take (k + 1)) n = q ++ [(s, f)]) := by have := HD.out; rw [hne] at this; exact this
        go_wp2_with (at_builtin; refine wpList_append_run rfl _ _ _ rfl rfl rfl Hr ?_)
        go_roundw
        case rel => exact ⟨k + 1, by omega, by go_num, by rw [HD2.out]; exact HO.out, HKK.out⟩
        case measure => simp [intOf]; omega
    · have HT : Hid (l.take k = l) := List.take_of_length_le (by have := HM.out; omega)
      rw [HT.out] at HE ⊢
      clear hkp
      go_wp2_with fail
      go_ret
      exact ⟨_, rfl, HE.out, HK.out⟩
end Go.Proofs.Ytfmdnaagdhpcpaa

/-
  The document's own disk: put.
-/
namespace Go.Proofs.Ytfmdnaagdhpcpaa
open Go.RowKit Go.Proofs.Lys Go.Maps Go.Shelf
set_option linter.unusedVariables false

theorem EntSrc.cell {w : World} {a : Option Addr} {c M : Nat} {l : DDir} (h : EntSrc w (.slice a M c) l) (hM : l.length = M) (k : Nat) (hk : k < M) : ∃ b o, a = some ⟨b, o, none⟩ ∧ w.cell? ⟨b, o + k * 2, none⟩ = some (nmV (l[k]'(by omega)).1) ∧ w.cell? ⟨b, o + k * 2 + 1, none⟩ = some (.int .i64 ((l[k]'(by omega)).2 : Int)) := by
  rcases h with ⟨a, c, e, e2⟩ | ⟨hpos, b, o, c, e1, hc⟩
  · subst e2
    simp at hM
    omega
  · rw [hM] at e1
    cases e1
    exact ⟨b, o, rfl, (hc k (by omega)).1, (hc k (by omega)).2⟩

/-- Where a name that is not there comes in. -/
theorem ins_at (x : List UInt8 × Nat) (l : DDir) (k : Nat) (hk : k ≤ l.length) (h1 : ∀ j (hj : j < l.length), j < k → bytesBefore l[j].1 x.1 = true) (h2 : ∀ hj : k < l.length, bytesBefore l[k].1 x.1 = false) (hne : ∀ p ∈ l, p.1 ≠ x.1) : DD.ins x l = l.take k ++ x :: l.drop k := by
  induction l generalizing k with
  | nil =>
    have : k = 0 := by simpa using hk
    subst this
    rfl
  | cons y r ih =>
    cases k with
    | zero =>
      have hb := h2 (by simp)
      have hy : bytesBefore x.1 y.1 = true := by
        rcases WideAt.bytes_total y.1 x.1 (hne y (by simp)) with e | e
        · exact absurd (e.symm.trans hb) (by decide)
        · exact e
      unfold DD.ins
      rw [if_pos hy]
      rfl
    | succ k =>
      have hb := h1 0 (by simp) (by omega)
      have hy : bytesBefore x.1 y.1 = false := by
        cases h : bytesBefore x.1 y.1 with
        | false => rfl
        | true =>
          have := WideShapes.bytes_trans x.1 y.1 x.1 h hb
          rw [WideAt.bytes_irrefl] at this
          cases this
      unfold DD.ins
      rw [if_neg (by rw [hy]; decide), ih k (by simpa using hk) (fun j hj hjk => h1 (j + 1) (by simpa using hj) (by omega)) (fun hj => h2 (by simpa using hj)) (fun p hp => hne p (List.mem_cons_of_mem _ hp))]
      rfl

/-- A row of entries in two. -/
theorem ent_cut {w : World} {B : Nat} {v : Value} {l : DDir} (h : EntAt w B v l) (k : Nat) (hk : k ≤ l.length) :
    ∃ a1 c1 a2 c2, (∀ W, (Instr.sliceAt 60 v none (some (.int .i64 (k : Int))) none).run Try.prog W = .ok (.slice a1 k c1) W) ∧ EntSrc w (.slice a1 k c1) (l.take k) ∧ (∀ W, (Instr.sliceAt 60 v (some (.int .i64 (k : Int))) none none).run Try.prog W = .ok (.slice a2 (l.length - k) c2) W) ∧ EntSrc w (.slice a2 (l.length - k) c2) (l.drop k) := by
  have ht := Try.underlying60
  rcases h.2 with ⟨rfl, h0⟩ | ⟨g, cap, cur, rfl, hb, hg, hnc, hcm, hcs, htake⟩
  · have hl : l = [] := List.length_eq_zero_iff.1 h0
    subst hl
    have hk0 : k = 0 := by simpa using hk
    subst hk0
    exact ⟨none, 0, none, 0, fun W => by kernel_rfl, .inl ⟨_, _, rfl, rfl⟩, fun W => by kernel_rfl, .inl ⟨_, _, rfl, rfl⟩⟩
  · have hs := h.src
    have hkc : k ≤ cap := by omega
    refine ⟨some ⟨g, 0, none⟩, cap, some (if cap = k then ⟨g, 0, none⟩ else ⟨g, k * 2, none⟩), cap - k, fun W => ?_, ?_, fun W => ?_, ?_⟩
    · simp [Instr.sliceAt, Instr.slice, Instr.sliceBounds, Instr.sliceBound, run_underlying ht, asIntOf, hkc, Addr.add, Result.andThen]
    · rcases hs with ⟨a, c, e, e2⟩ | ⟨hpos, b, o, c, e1, hc⟩
      · subst e2
        have hk0 : k = 0 := by simpa using hk
        subst hk0
        exact .inl ⟨_, _, rfl, rfl⟩
      · cases e1
        by_cases hk0 : k = 0
        · subst hk0
          exact .inl ⟨_, _, rfl, rfl⟩
        · have hlt : (l.take k).length = k := by rw [List.length_take]; omega
          refine .inr ⟨by omega, g, 0, cap, by rw [hlt], fun i hi => ?_⟩
          rw [List.getElem_take]
          exact hc i (by omega)
    · simp [Instr.sliceAt, Instr.slice, Instr.sliceBounds, Instr.sliceBound, run_underlying ht, asIntOf, hk, Addr.add, Result.andThen]
      by_cases hck : cap = k
      · rw [if_pos hck, if_pos hck]
      · rw [if_neg hck, if_neg hck]
        by_cases hk0 : k * 2 = 0
        · rw [if_pos hk0, hk0]
        · rw [if_neg hk0]
    · by_cases hkl : k = l.length
      · subst hkl
        rw [Nat.sub_self, List.drop_length]
        exact .inl ⟨_, _, rfl, rfl⟩
      · rcases hs with ⟨a, c, e, e2⟩ | ⟨hpos, b, o, c, e1, hc⟩
        · subst e2
          simp at hk hkl
          omega
        · cases e1
          have hlt : (l.drop k).length = l.length - k := List.length_drop
          refine .inr ⟨by omega, g, k * 2, cap - k, by rw [hlt, if_neg (by omega)], fun i hi => ?_⟩
          rw [List.getElem_drop]
          have := hc (k + i) (by omega)
          rw [Nat.zero_add, Nat.add_mul] at this
          exact this

/-- The three rows that put lays. -/
theorem put_rows {w : World} {B : Nat} {v : Value} {l : DDir} (h : EntAt w B v l) (hl : l.length ≤ 100000) (k : Nat) (hk : k ≤ l.length) (x : List UInt8 × Nat) :
    ∃ a1 c1 a2 c2 a3 c3 w2 g4 c4 w3 g5 c5 w4,
      Hid (∀ W, (Instr.sliceAt 60 v none (some (.int .i64 (k : Int))) none).run Try.prog W = .ok (.slice a1 k c1) W) ∧
      Hid (∀ W, (Instr.sliceAt 60 v (some (.int .i64 (k : Int))) none none).run Try.prog W = .ok (.slice a2 (l.length - k) c2) W) ∧
      Hid ((Builtin.append_ #[60, 60] 0 #[.slice none 0 0, .slice a1 k c1]).run Try.prog w = .ok (.slice a3 k c3) w2) ∧
      Hid ((Builtin.append_ #[60, 60] 0 #[.slice a3 k c3, .slice (some ⟨w2.heap.size, 0, none⟩) 1 1]).run Try.prog (w2.alloc (.cells #[.string ⟨x.1.toArray⟩, .int .i64 (x.2 : Int)] 75)).drew = .ok (.slice (some ⟨g4, 0, none⟩) (k + 1) c4) w3) ∧
      Hid ((Builtin.append_ #[60, 60] 0 #[.slice (some ⟨g4, 0, none⟩) (k + 1) c4, .slice a2 (l.length - k) c2]).run Try.prog w3 = .ok (.slice (some ⟨g5, 0, none⟩) (l.length + 1) c5) w4) ∧
      Hid (EntAt w4 w.heap.size (.slice (some ⟨g5, 0, none⟩) (l.length + 1) c5) (l.take k ++ x :: l.drop k)) ∧ Hid (Kept w w4) := by
  obtain ⟨a1, c1, a2, c2, s1, e1, s2, e2⟩ := ent_cut h k hk
  have hlt : (l.take k).length = k := by rw [List.length_take]; omega
  have hld : (l.drop k).length = l.length - k := List.length_drop
  have hnil : EntAt w w.heap.size (.slice none 0 0) [] := ⟨rfl, .inl ⟨rfl, rfl⟩⟩
  obtain ⟨v3, w2, r3, o3, g3, _⟩ := ent_append hnil e1 (by rw [hlt]; simp; omega) (Nat.le_refl _)
  rw [List.nil_append] at o3
  have o3' := o3
  obtain ⟨a3, c3, rfl⟩ := ownN_slice o3
  rw [hlt] at r3 o3
  have k2 : Kept w w2 := (Only.refl _ w).grown g3 (fun j hj => by cases hj)
  have k2a : Kept w (w2.alloc (.cells #[nmV x.1, .int .i64 (x.2 : Int)] 75)).drew := (k2.alloc _).drew
  have ka : Kept w2 (w2.alloc (.cells #[nmV x.1, .int .i64 (x.2 : Int)] 75)).drew := ((Only.refl _ w2).alloc _).drew
  obtain ⟨v4, w3, r4, o4, g4, _⟩ := ent_append (ownN_stay o3' ka) ((ent_lit w2 x).stay (Only.refl _ _).drew) (by rw [hlt]; simp; omega) (Nat.le_trans k2.size ka.size)
  have o4' := o4
  obtain ⟨g4b, c4, rfl⟩ := ownN_some o4 (by simp)
  have h4 : (l.take k ++ [x]).length = k + 1 := by rw [List.length_append, hlt]; rfl
  rw [h4] at r4
  rw [hlt] at r4 g4
  have k3 : Kept w w3 := k2a.grown g4 (fun j hj hjl => by rw [hlt] at o3'; have := (ownN_lt o3' hj).1; omega)
  obtain ⟨v5, w4, r5, o5, g5, _⟩ := ent_append o4' (e2.stay k3) (by rw [h4, hld]; omega) k3.size
  have o5' := o5
  obtain ⟨g5b, c5, rfl⟩ := ownN_some o5 (by simp; omega)
  have h5 : (l.take k ++ [x] ++ l.drop k).length = l.length + 1 := by rw [List.length_append, h4, hld]; omega
  rw [h5] at r5 o5
  rw [h4] at r5 g5 o4'
  have k4 : Kept w w4 := k3.grown g5 (fun j hj hjl => by have := (ownN_lt o4' hj).1; omega)
  refine ⟨a1, c1, a2, c2, a3, c3, w2, g4b, c4, w3, g5b, c5, w4, s1, s2, r3, r4, r5, ?_, k4⟩
  show EntAt _ _ _ _
  rw [h5] at o5'
  have e : l.take k ++ [x] ++ l.drop k = l.take k ++ x :: l.drop k := by simp
  rw [e] at o5'
  exact o5'
end Go.Proofs.Ytfmdnaagdhpcpaa

/-
  The document's own disk: put, the walk.
-/
namespace Go.Proofs.Ytfmdnaagdhpcpaa
open Go.RowKit Go.Proofs.Lys Go.Maps Go.Shelf
set_option linter.unusedVariables false

theorem less_before : ∀ a b : List UInt8, Op.bytesLess a b = bytesBefore a b
  | [], [] => rfl
  | [], _ :: _ => rfl
  | _ :: _, [] => rfl
  | x :: a, y :: b => by
    have ih := less_before a b
    simp only [Op.bytesLess, bytesBefore, ih]

set_option maxRecDepth 100000 in
set_option maxHeartbeats 1600000 in
theorem rput_any {w : World} {v : Value} {l : DDir} (h : EntSrc w v l) (hl : l.length ≤ 10000) (n : List UInt8) (f : Nat) : Calls Try.prog 37 #[v, .string ⟨n.toArray⟩, .int .i64 (f : Int)] w fun e w' => ∃ v', e = .returned v' ∧ EntAt w' w.heap.size v' (DD.put l n f) ∧ Kept w w' := by
  obtain ⟨a0, c0, e0⟩ := h.len
  have HD := Hid.mk (rdrop_any h (by omega) n)
  have hne : Hid (∀ p ∈ DD.drop l n, p.1 ≠ n) := by
    intro p hp e
    unfold DD.drop at hp
    have := (List.mem_filter.1 hp).2
    rw [e] at this
    simp at this
  have hlen := drop_le l n
  have HP : Hid (DD.put l n f = DD.ins (n, f) (DD.drop l n)) := rfl
  rw [HP.out]
  generalize DD.drop l n = q at HD hne hlen
  subst e0
  obtain ⟨M, hM⟩ : ∃ M, q.length = M := ⟨_, rfl⟩
  have HM := Hid.mk hM
  have hM2 : M ≤ 10000 := by omega
  clear h hlen hl hM HP
  go_enter Try.func37, Try.ntmps37
  go_wp2_with fail
  refine HD.out.mono ?_
  rintro e w1 ⟨v1, rfl, hE, hk1⟩
  have HE := Hid.mk hE
  have HK1 := Hid.mk hk1
  obtain ⟨a1, c1, e1⟩ := ownN_slice hE
  rw [HM.out] at e1
  subst e1
  clear hE hk1 HD
  go_wp2_with fail
  go_loopw [7] (fun i wr => ∃ (k : Nat), k ≤ M ∧ i = .int .i64 (k : Int) ∧ (∀ j (hj : j < q.length), j < k → bytesBefore q[j].1 n = true) ∧ wr = w1) (fun i _ => M - (intOf i).toNat)
  case atStart => exact ⟨0, by omega, rfl, fun j _ hj => by omega, rfl⟩
  case round =>
    obtain ⟨k, hk, rfl, hno, rfl⟩ := hrel
    have HN := Hid.mk hno
    clear hno
    by_cases hlt : k < M
    · obtain ⟨b, o, rfl, x0, x1⟩ := HE.out.src.cell HM.out k hlt
      have hkl : k < q.length := by have := HM.out; omega
      obtain ⟨s, hs⟩ : ∃ s, q[k].1 = s := ⟨_, rfl⟩
      rw [hs] at x0
      unfold nmV at x0
      have HS := Hid.mk hs
      clear hs x1
      have hls : Op.bytesLess s n = bytesBefore s n := less_before s n
      cases hb : bytesBefore s n
      all_goals rw [hb] at hls
      · have HI : Hid (DD.ins (n, f) q = q.take k ++ (n, f) :: q.drop k) := ins_at (n, f) q k (by omega) (fun j hj hjk => HN.out j hj hjk) (fun hj => by rw [HS.out]; exact hb) hne.out
        obtain ⟨ra1, rc1, ra2, rc2, ra3, rc3, w2, g4, c4, w3, g5, c5, w4, S1, S2, R3, R4, R5, RE, RK⟩ := put_rows HE.out (by have := HM.out; omega) k (by have := HM.out; omega) (n, f)
        have s1 := S1.out
        have s2 := S2.out
        rw [HM.out] at s2 R5 RE
        clear S1 S2
        simp only at R4
        go_wp2_with (at_builtin; refine wpList_append_run rfl _ _ _ rfl rfl rfl R3 ?_)
        go_region_law ((first | refine step_append_run _ (by rfl) _ _ _ (by rfl) (.slice ra3 k rc3) (.slice (some ⟨w2.heap.size, 0, none⟩) 1 1) (by rfl) (by rfl) _ w3 R4 ?_ | refine step_append_run _ (by rfl) _ _ _ (by rfl) (.slice (some ⟨g4, 0, none⟩) (k + 1) c4) (.slice ra2 (M - k) rc2) (by rfl) (by rfl) _ w4 R5 ?_))
        all_goals
          try go_wp2_with fail
          go_ret
          refine ⟨_, rfl, ?_, HK1.out.trans RK.out (fun _ _ f => f)⟩
          rw [HI.out]
          exact ownN_base RE.out HK1.out.size
      · go_wp2_with fail
        refine ⟨⟨k + 1, by omega, by go_num, fun j hj hjk => ?_, trivial⟩, ?_⟩
        · by_cases hjl : j < k
          · exact HN.out j hj hjl
          · obtain rfl : j = k := by omega
            rw [HS.out]
            exact hb
        · simp [intOf]
          omega
    · have HI : Hid (DD.ins (n, f) q = q.take k ++ (n, f) :: q.drop k) := ins_at (n, f) q k (by have := HM.out; omega) (fun j hj hjk => HN.out j hj hjk) (fun hj => by exfalso; have := HM.out; omega) hne.out
      obtain ⟨ra1, rc1, ra2, rc2, ra3, rc3, w2, g4, c4, w3, g5, c5, w4, S1, S2, R3, R4, R5, RE, RK⟩ := put_rows HE.out (by have := HM.out; omega) k (by have := HM.out; omega) (n, f)
      have s1 := S1.out
      have s2 := S2.out
      rw [HM.out] at s2 R5 RE
      clear S1 S2
      simp only at R4
      go_wp2_with (at_builtin; refine wpList_append_run rfl _ _ _ rfl rfl rfl R3 ?_)
      go_region_law ((first | refine step_append_run _ (by rfl) _ _ _ (by rfl) (.slice ra3 k rc3) (.slice (some ⟨w2.heap.size, 0, none⟩) 1 1) (by rfl) (by rfl) _ w3 R4 ?_ | refine step_append_run _ (by rfl) _ _ _ (by rfl) (.slice (some ⟨g4, 0, none⟩) (k + 1) c4) (.slice ra2 (M - k) rc2) (by rfl) (by rfl) _ w4 R5 ?_))
      all_goals
        try go_wp2_with fail
        go_ret
        refine ⟨_, rfl, ?_, HK1.out.trans RK.out (fun _ _ f => f)⟩
        rw [HI.out]
        exact ownN_base RE.out HK1.out.size
end Go.Proofs.Ytfmdnaagdhpcpaa

/-
  The document's own disk in memory.
-/
namespace Go.Proofs.Ytfmdnaagdhpcpaa
open Go.RowKit Go.Proofs.Lys Go.Maps Go.Shelf
set_option linter.unusedVariables false

/-- A fuse, a fault: below 0 there is none. -/
def laidI : Option Nat → Int
  | none => -1
  | some n => (n : Int)

/-- Files, cell by cell. -/
def filL : List (Value × DFile) → List Value
  | [] => []
  | p :: r => p.1 :: .int .i64 (p.2.sure : Int) :: filL r
/-- Acts, cell by cell. -/
def actL : List DAct → List Value
  | [] => []
  | a :: r => .int .i64 (a.kind : Int) :: nmV a.name :: nmV a.to :: .int .i64 (a.file : Int) :: actL r
theorem filL_len (l : List (Value × DFile)) : (filL l).length = l.length * 2 := by
  induction l with
  | nil => rfl
  | cons p r ih => rw [filL, List.length_cons, List.length_cons, ih, List.length_cons]; omega
theorem actL_len (l : List DAct) : (actL l).length = l.length * 4 := by
  induction l with
  | nil => rfl
  | cons p r ih => rw [actL, List.length_cons, List.length_cons, List.length_cons, List.length_cons, ih, List.length_cons]; omega
theorem filL_app (l r : List (Value × DFile)) : filL (l ++ r) = filL l ++ filL r := by
  induction l with
  | nil => rfl
  | cons p l ih => rw [List.cons_append, filL, ih, filL]; rfl
theorem actL_app (l r : List DAct) : actL (l ++ r) = actL l ++ actL r := by
  induction l with
  | nil => rfl
  | cons p l ih => rw [List.cons_append, actL, ih, actL]; rfl
theorem filL_at (l : List (Value × DFile)) (i : Nat) (h : i < l.length) : (filL l)[i * 2]? = some l[i].1 ∧ (filL l)[i * 2 + 1]? = some (.int .i64 (l[i].2.sure : Int)) := by
  induction l generalizing i with
  | nil => simp at h
  | cons p r ih =>
    cases i with
    | zero => exact ⟨rfl, rfl⟩
    | succ i =>
      have := ih i (by simpa using h)
      rw [show (i + 1) * 2 = i * 2 + 2 by omega]
      exact this
theorem actL_at (l : List DAct) (i : Nat) (h : i < l.length) : (actL l)[i * 4]? = some (.int .i64 (l[i].kind : Int)) ∧ (actL l)[i * 4 + 1]? = some (nmV l[i].name) ∧ (actL l)[i * 4 + 2]? = some (nmV l[i].to) ∧ (actL l)[i * 4 + 3]? = some (.int .i64 (l[i].file : Int)) := by
  induction l generalizing i with
  | nil => simp at h
  | cons p r ih =>
    cases i with
    | zero => exact ⟨rfl, rfl, rfl, rfl⟩
    | succ i =>
      have := ih i (by simpa using h)
      rw [show (i + 1) * 4 = i * 4 + 4 by omega]
      exact this

/-- An act as the plain model has it: only one that gave a name has a file's number. -/
def plainAct (a : DAct) : DAct := if a.kind = 1 then ⟨1, a.name, a.to, 0⟩ else a

/-- Where the document's own disk lies: its block, its four slices, its files with their slices of bytes, its acts. -/
structure RConc where
  d : Nat
  fv : Value
  dv : Value
  sv : Value
  av : Value
  fs : List (Value × DFile)
  ac : List DAct

def RCells (c : RConc) (m : DModel) : List Value := [c.fv, c.dv, c.sv, c.av, .int .i64 (m.quota : Int), .bool m.off, .int .i64 (laidI m.fuse), .int .i64 (laidI m.fault), .int .i64 (m.steps : Int)]

structure RAt (w : World) (c : RConc) (O : Nat → Prop) (m : DModel) : Prop where
  cells : Blk w c.d (RCells c m) 63
  files : w.ownsRow 0 70 2 c.fv c.fs.length (filL c.fs)
  fsm : c.fs.map (·.2) = m.files
  bytes : ∀ p ∈ c.fs, w.ownsRow 0 5 1 p.1 p.2.b.length (p.2.b.map bV)
  lens : ∀ p ∈ c.fs, p.2.b.length ≤ 16777216 ∧ p.2.sure ≤ p.2.b.length
  dir : EntAt w 0 c.dv m.dir
  sure : EntAt w 0 c.sv m.sure
  acts : w.ownsRow 0 73 4 c.av c.ac.length (actL c.ac)
  acm : c.ac.map plainAct = m.acts
  quota : m.quota ≤ 67108864
  dirF : ∀ p ∈ m.dir, p.2 < m.files.length
  oD : O c.d
  oF : ∀ k, c.fv.ownBlock = some k → O k
  oB : ∀ p ∈ c.fs, ∀ k, p.1.ownBlock = some k → O k
  oDir : ∀ k, c.dv.ownBlock = some k → O k
  oSure : ∀ k, c.sv.ownBlock = some k → O k
  oAct : ∀ k, c.av.ownBlock = some k → O k
  top : ∀ k, O k → k < w.heap.size

section
variable {w w' : World} {c : RConc} {O O' : Nat → Prop} {m : DModel}
theorem RAt.only (h : RAt w c O m) (k : Only O' w w') (hn : ∀ j, O j → ¬ O' j) : RAt w' c O m :=
  { h with
    cells := k.blk h.cells (hn _ h.oD)
    files := ownN_only h.files k (fun b hb => hn b (h.oF b hb))
    bytes := fun p hp => ownN_only (h.bytes p hp) k (fun b hb => hn b (h.oB p hp b hb))
    dir := ownN_only h.dir k (fun b hb => hn b (h.oDir b hb))
    sure := ownN_only h.sure k (fun b hb => hn b (h.oSure b hb))
    acts := ownN_only h.acts k (fun b hb => hn b (h.oAct b hb))
    top := fun j hj => Nat.lt_of_lt_of_le (h.top j hj) k.size }
theorem RAt.stay (h : RAt w c O m) (k : Kept w w') : RAt w' c O m := h.only k (fun _ _ f => f)
theorem RAt.mono (h : RAt w c O m) (hO : ∀ k, O k → O' k) (ht : ∀ k, O' k → k < w.heap.size) : RAt w c O' m :=
  { h with oD := hO _ h.oD, oF := fun k e => hO k (h.oF k e), oB := fun p hp k e => hO k (h.oB p hp k e), oDir := fun k e => hO k (h.oDir k e), oSure := fun k e => hO k (h.oSure k e), oAct := fun k e => hO k (h.oAct k e), top := ht }
theorem RAt.nf (h : RAt w c O m) : c.fs.length = m.files.length := by rw [← h.fsm, List.length_map]
theorem RAt.fileAt (h : RAt w c O m) (i : Nat) (hi : i < c.fs.length) : m.fileAt i = c.fs[i].2 := by
  unfold DModel.fileAt
  rw [← h.fsm, List.getD_eq_getElem?_getD, List.getElem?_map, List.getElem?_eq_getElem hi]
  rfl
/-- Only the plain cells turn. -/
theorem RAt.scal {m' : DModel} (h : RAt w c O m) (k : Only (· = c.d) w w') (hc : Blk w' c.d (RCells c m') 63) (e1 : m'.files = m.files) (e2 : m'.dir = m.dir) (e3 : m'.sure = m.sure) (e4 : m'.acts = m.acts) (hq : m'.quota ≤ 67108864) : RAt w' c O m' := by
  have hd := h.cells.typed
  refine { cells := hc, files := ownN_only h.files k ?_, fsm := by rw [e1]; exact h.fsm, bytes := fun p hp => ownN_only (h.bytes p hp) k ?_, lens := h.lens, dir := ?_, sure := ?_, acts := ownN_only h.acts k ?_, acm := by rw [e4]; exact h.acm, quota := hq, dirF := by rw [e1, e2]; exact h.dirF, oD := h.oD, oF := h.oF, oB := h.oB, oDir := h.oDir, oSure := h.oSure, oAct := h.oAct, top := fun j hj => Nat.lt_of_lt_of_le (h.top j hj) k.size }
  · intro b hb e
    exact (ownN_typed h.files hb).ne hd (by decide) e
  · intro b hb e
    exact (ownN_typed (h.bytes p hp) hb).ne hd (by decide) e
  · rw [e2]
    exact ownN_only h.dir k (fun b hb e => (ownN_typed h.dir hb).ne hd (by decide) e)
  · rw [e3]
    exact ownN_only h.sure k (fun b hb e => (ownN_typed h.sure hb).ne hd (by decide) e)
  · intro b hb e
    exact (ownN_typed h.acts hb).ne hd (by decide) e
end
end Go.Proofs.Ytfmdnaagdhpcpaa

/-
  The document's own disk: New, Fuse, Fault, On, the names that may not be.
-/
namespace Go.Proofs.Ytfmdnaagdhpcpaa
open Go.RowKit Go.Proofs.Lys Go.Maps Go.Shelf
set_option linter.unusedVariables false

theorem rnew_core (w : World) (Q : Nat) (hQ : Q ≤ 67108864) (q : Int) (hq : (min (max q 0) 67108864).toNat = Q) :
    Kept w (w.alloc (.cells #[.slice none 0 0, .slice none 0 0, .slice none 0 0, .slice none 0 0, .int .i64 (Q : Int), .bool false, .int .i64 (-1), .int .i64 (-1), .int .i64 0] 63)) ∧ ∃ c : RConc, c.d = w.heap.size ∧ RAt (w.alloc (.cells #[.slice none 0 0, .slice none 0 0, .slice none 0 0, .slice none 0 0, .int .i64 (Q : Int), .bool false, .int .i64 (-1), .int .i64 (-1), .int .i64 0] 63)) c (Since w (w.alloc (.cells #[.slice none 0 0, .slice none 0 0, .slice none 0 0, .slice none 0 0, .int .i64 (Q : Int), .bool false, .int .i64 (-1), .int .i64 (-1), .int .i64 0] 63))) (DModel.start q) := by
  have hb := Blk.new w [.slice none 0 0, .slice none 0 0, .slice none 0 0, .slice none 0 0, .int .i64 (Q : Int), .bool false, .int .i64 (-1), .int .i64 (-1), .int .i64 0] 63
  refine ⟨(Only.refl _ w).alloc _, ⟨w.heap.size, .slice none 0 0, .slice none 0 0, .slice none 0 0, .slice none 0 0, [], []⟩, rfl, ?_⟩
  subst hq
  refine { cells := hb, files := ⟨rfl, .inl ⟨rfl, rfl⟩⟩, fsm := rfl, bytes := (fun p hp => by cases hp), lens := (fun p hp => by cases hp), dir := ⟨rfl, .inl ⟨rfl, rfl⟩⟩, sure := ⟨rfl, .inl ⟨rfl, rfl⟩⟩, acts := ⟨rfl, .inl ⟨rfl, rfl⟩⟩, acm := rfl, quota := hQ, dirF := (fun p hp => by cases hp), oD := ⟨Nat.le_refl _, hb.lt⟩, oF := (fun k e => by cases e), oB := (fun p hp => by cases hp), oDir := (fun k e => by cases e), oSure := (fun k e => by cases e), oAct := (fun k e => by cases e), top := fun k hk => hk.2 }

set_option maxRecDepth 100000 in
theorem rnew_any (q : Int) (w : World) : Calls Try.prog 8 #[.int .i64 q] w fun e w' => e = .returned (.pointer (some ⟨w.heap.size, 0, none⟩)) ∧ Kept w w' ∧ ∃ c : RConc, c.d = w.heap.size ∧ RAt w' c (Since w w') (DModel.start q) := by
  by_cases h1 : q < 0
  · have H := Hid.mk (rnew_core w 0 (by decide) q (by omega))
    go_enter Try.func8, Try.ntmps8
    go_wp2
    go_ret
    exact ⟨rfl, H.out.1, H.out.2⟩
  · by_cases h2 : 67108864 < q
    · have H := Hid.mk (rnew_core w 67108864 (by decide) q (by omega))
      go_enter Try.func8, Try.ntmps8
      go_wp2
      go_ret
      exact ⟨rfl, H.out.1, H.out.2⟩
    · obtain ⟨Q, rfl⟩ : ∃ Q : Nat, q = (Q : Int) := ⟨q.toNat, by omega⟩
      have H := Hid.mk (rnew_core w Q (by omega) (Q : Int) (by omega))
      go_enter Try.func8, Try.ntmps8
      go_wp2
      go_ret
      exact ⟨rfl, H.out.1, H.out.2⟩

section
variable {w : World} {c : RConc} {O : Nat → Prop} {m : DModel}
theorem ron_any (h : RAt w c O m) : Calls Try.prog 46 #[.pointer (some ⟨c.d, 0, none⟩)] w fun e w' => e = .returned (.bool (!m.off)) ∧ w' = w := by
  have x5 : w.cell? ⟨c.d, 5, none⟩ = some (.bool m.off) := h.cells.cell 5 rfl
  go_enter Try.func46, Try.ntmps46
  go_wp2
  go_ret
  exact ⟨rfl, rfl⟩
theorem laid_lay (n : Int) : laidI (DModel.lay n) = if n < 0 then -1 else n := by
  unfold DModel.lay
  by_cases h : n < 0
  · rw [if_pos h, if_pos h]; rfl
  · rw [if_neg h, if_neg h]; show ((n.toNat : Nat) : Int) = n; omega
theorem rfuse_any (h : RAt w c O m) (n : Int) : Calls Try.prog 14 #[.pointer (some ⟨c.d, 0, none⟩), .int .i64 n] w fun e w' => e = .returned (.tuple #[]) ∧ Only O w w' ∧ RAt w' c O { m with fuse := DModel.lay n } := by
  have hb := h.cells
  have hl := laid_lay n
  have x6 : w.cell? ⟨c.d, 6, none⟩ = some (.int .i64 (laidI m.fuse)) := hb.cell 6 rfl
  have f6 : w.frozen? ⟨c.d, 6, none⟩ = false := hb.frozen 6
  by_cases hn : n < 0
  · rw [if_pos hn] at hl
    have H : Hid (Only O w ((w.setCell ⟨c.d, 6, none⟩ (.int .i64 n)).setCell ⟨c.d, 6, none⟩ (.int .i64 (-1))) ∧ RAt ((w.setCell ⟨c.d, 6, none⟩ (.int .i64 n)).setCell ⟨c.d, 6, none⟩ (.int .i64 (-1))) c O { m with fuse := DModel.lay n }) := by
      have k : Only (· = c.d) w ((w.setCell ⟨c.d, 6, none⟩ (.int .i64 n)).setCell ⟨c.d, 6, none⟩ (.int .i64 (-1))) := ((Only.refl (fun x => x = c.d) w).setCell (fun _ => rfl) _).setCell (fun _ => rfl) _
      refine ⟨k.mono (fun j _ e => e ▸ h.oD), h.scal k ?_ rfl rfl rfl rfl h.quota⟩
      have := (hb.set 6 (.int .i64 n)).set 6 (.int .i64 (-1))
      unfold RCells
      simp only [hl]
      exact this
    clear h hb hl
    go_enter Try.func14, Try.ntmps14
    go_wp2
    go_end0
    exact ⟨rfl, H.out⟩
  · rw [if_neg hn] at hl
    have H : Hid (Only O w (w.setCell ⟨c.d, 6, none⟩ (.int .i64 n)) ∧ RAt (w.setCell ⟨c.d, 6, none⟩ (.int .i64 n)) c O { m with fuse := DModel.lay n }) := by
      have k : Only (· = c.d) w (w.setCell ⟨c.d, 6, none⟩ (.int .i64 n)) := (Only.refl (fun x => x = c.d) w).setCell (fun _ => rfl) _
      refine ⟨k.mono (fun j _ e => e ▸ h.oD), h.scal k ?_ rfl rfl rfl rfl h.quota⟩
      have := hb.set 6 (.int .i64 n)
      unfold RCells
      simp only [hl]
      exact this
    clear h hb hl
    go_enter Try.func14, Try.ntmps14
    go_wp2
    go_end0
    exact ⟨rfl, H.out⟩
theorem rfault_any (h : RAt w c O m) (n : Int) : Calls Try.prog 16 #[.pointer (some ⟨c.d, 0, none⟩), .int .i64 n] w fun e w' => e = .returned (.tuple #[]) ∧ Only O w w' ∧ RAt w' c O { m with fault := DModel.lay n } := by
  have hb := h.cells
  have hl := laid_lay n
  have x6 : w.cell? ⟨c.d, 7, none⟩ = some (.int .i64 (laidI m.fault)) := hb.cell 7 rfl
  have f6 : w.frozen? ⟨c.d, 7, none⟩ = false := hb.frozen 7
  by_cases hn : n < 0
  · rw [if_pos hn] at hl
    have H : Hid (Only O w ((w.setCell ⟨c.d, 7, none⟩ (.int .i64 n)).setCell ⟨c.d, 7, none⟩ (.int .i64 (-1))) ∧ RAt ((w.setCell ⟨c.d, 7, none⟩ (.int .i64 n)).setCell ⟨c.d, 7, none⟩ (.int .i64 (-1))) c O { m with fault := DModel.lay n }) := by
      have k : Only (· = c.d) w ((w.setCell ⟨c.d, 7, none⟩ (.int .i64 n)).setCell ⟨c.d, 7, none⟩ (.int .i64 (-1))) := ((Only.refl (fun x => x = c.d) w).setCell (fun _ => rfl) _).setCell (fun _ => rfl) _
      refine ⟨k.mono (fun j _ e => e ▸ h.oD), h.scal k ?_ rfl rfl rfl rfl h.quota⟩
      have := (hb.set 7 (.int .i64 n)).set 7 (.int .i64 (-1))
      unfold RCells
      simp only [hl]
      exact this
    clear h hb hl
    go_enter Try.func16, Try.ntmps16
    go_wp2
    go_end0
    exact ⟨rfl, H.out⟩
  · rw [if_neg hn] at hl
    have H : Hid (Only O w (w.setCell ⟨c.d, 7, none⟩ (.int .i64 n)) ∧ RAt (w.setCell ⟨c.d, 7, none⟩ (.int .i64 n)) c O { m with fault := DModel.lay n }) := by
      have k : Only (· = c.d) w (w.setCell ⟨c.d, 7, none⟩ (.int .i64 n)) := (Only.refl (fun x => x = c.d) w).setCell (fun _ => rfl) _
      refine ⟨k.mono (fun j _ e => e ▸ h.oD), h.scal k ?_ rfl rfl rfl rfl h.quota⟩
      have := hb.set 7 (.int .i64 n)
      unfold RCells
      simp only [hl]
      exact this
    clear h hb hl
    go_enter Try.func16, Try.ntmps16
    go_wp2
    go_end0
    exact ⟨rfl, H.out⟩
end

theorem rbad_any (n : List UInt8) (w : World) : Calls Try.prog 64 #[.string ⟨n.toArray⟩] w fun e w' => e = .returned (.bool (!(namedB n))) ∧ w' = w := by
  have hsz : (⟨n.toArray⟩ : ByteArray).size = n.length := by simp [ByteArray.size]
  cases n with
  | nil =>
    go_enter Try.func64, Try.ntmps64
    go_wp2
    go_ret
    exact ⟨rfl, rfl⟩
  | cons x r =>
    have hne : (x :: r == ([] : List UInt8)) = false := rfl
    obtain ⟨L, hL⟩ : ∃ L, (x :: r).length = L := ⟨_, rfl⟩
    have hL1 : 1 ≤ L := by rw [← hL]; simp
    have hB : Hid (namedB (x :: r) = decide (L ≤ 60)) := by
      show namedB (x :: r) = _
      unfold namedB
      rw [hL]
      simp [hL1]
    rw [hL] at hsz
    rw [hB.out]
    by_cases h60 : 60 < L
    · have d1 : decide ((60 : Int) < (L : Int)) = true := by simp; omega
      rw [show decide (L ≤ 60) = false from decide_eq_false (by omega)]
      clear hL
      go_enter Try.func64, Try.ntmps64
      go_wp2
      go_ret
      exact ⟨by first | rfl | (simp; omega), rfl⟩
    · have d1 : decide ((60 : Int) < (L : Int)) = false := by simp; omega
      rw [show decide (L ≤ 60) = true from decide_eq_true (by omega)]
      clear hL
      go_enter Try.func64, Try.ntmps64
      go_wp2
      go_ret
      exact ⟨by first | rfl | (simp; omega), rfl⟩
end Go.Proofs.Ytfmdnaagdhpcpaa
