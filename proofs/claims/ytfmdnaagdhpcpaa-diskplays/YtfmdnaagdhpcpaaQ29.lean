/-
  Eplay2.
-/
import Derived.Test.YtfmdnaagdhpcpaaQ28
import Derived.Deep.CutRange

/-
  The walk of the law DiskPlays, second part.
-/
namespace Go.Proofs.Ytfmdnaagdhpcpaa
open Go.RowKit Go.Proofs.Lys Go.Maps Go.Shelf
set_option linter.unusedVariables false

theorem Play.stay {w1 W W' : World} {A B R : Nat} {m mo : DModel} {k : Nat} (h : Play w1 W A B R m mo k) (kk : Kept W W') : Play w1 W' A B R m mo k := ⟨h.tri.stay kk, h.fit, h.most, h.fito, h.mosto⟩
theorem nums_one (l : List Int) : ∀ u ∈ l.map (Value.int .i64), u.oneCell' = true := by
  intro u hu
  obtain ⟨x, _, rfl⟩ := List.mem_map.1 hu
  rfl
theorem own_ints {w : World} {base : Nat} {v : Value} {l : List Int} {O : Nat → Prop} (h : w.ownsRow base 3 1 v l.length (l.map (Value.int .i64))) (hO : ∀ j, v.ownBlock = some j → ¬ O j) : IntsAt w O v l := by
  rcases h.2 with ⟨rfl, h0⟩ | ⟨g, cap, cur, rfl, _, _, hc, _⟩
  · exact ⟨none, 0, by rw [h0], by omega, fun hne => absurd (List.length_eq_zero_iff.1 h0) hne⟩
  · refine ⟨_, cap, rfl, hc, fun hne => ⟨g, 0, rfl, hO g rfl, fun i x hi => ?_⟩⟩
    have hil := (List.getElem?_eq_some_iff.1 hi).1
    rw [Nat.zero_add, h.cellAt i (by omega), List.getElem?_map, hi]
    rfl
theorem triz_crash {w1 W : World} {A B R : Nat} {m mo mr : DModel} {Z : Nat → Prop} (h : TriZ w1 W A B R m mo mr Z) (hf : m.few) {kv : Value} {keep : List Int} (hI : ∀ O : Nat → Prop, (∀ k, Z k → ¬ O k) → IntsAt W O kv keep) :
    Calls Try.prog 17 #[.pointer (some ⟨A, 0, none⟩), kv] W fun e w' => e = .returned (.tuple #[]) ∧ TriZ w1 w' A B R (m.crash keep) mo mr Z ∧ Same Z W w' :=
  triz_d h (fun c O hc hD _ hZ => by
    subst hc
    exact crash_any hD (hI O hZ) (by have := hf.2; omega))

set_option maxRecDepth 100000 in
set_option maxHeartbeats 6400000 in
theorem plays_walk (hRC : RCrash) (w : World) (q : Int) (v : Value) (ps : List CAct) (h : ActsSrc w v ps) (hs : ∀ a ∈ ps, a.small) (hl : ps.length ≤ 281474976710656) :
    Calls Try.prog 3 #[.int .i64 q, v] w fun e w' => e = .returned (.bool true) ∧ Kept w w' := by
  have hnot : ∀ (x : Bool) (w : World), (Op.unary .not (.bool x)).run Try.prog w = .ok (.bool (!x)) w := fun _ _ => rfl
  obtain ⟨a0, c0, e0⟩ := h.len
  obtain ⟨L, hL⟩ : ∃ L, ps.length = L := ⟨_, rfl⟩
  have HA := Hid.mk h
  have HS := Hid.mk hs
  rw [hL] at e0 hl
  subst e0
  have HL := Hid.mk hL
  clear h hs hL
  go_enter Try.func3, Try.ntmps3
  go_wp2_with fail
  refine (alive3_any w).mono ?_
  rintro e wa ⟨rfl, ka⟩
  have HAa : Hid (ActsSrc wa (.slice a0 L c0) ps) := by
    rcases HA.out with h | ⟨hp, b, o, c, e, hc⟩
    · exact .inl h
    · refine .inr ⟨hp, b, o, c, e, fun i hi => ?_⟩
      obtain ⟨x0, x1, x2, x3, x4, x5, x6, hok⟩ := hc i hi
      exact ⟨kept_cell ka x0, kept_cell ka x1, kept_cell ka x2, kept_cell ka x3, kept_cell ka x4, kept_cell ka x5, kept_cell ka x6, hok.w0, hok.w1, hok.n0, hok.n1, ⟨hok.op.lo, hok.op.hi, hok.op.n, hok.op.t, hok.op.src.stay ka⟩, ⟨hok.keep.1.stay ka, hok.keep.2⟩⟩
  have hbig := big_any wa _ ps HAa.out HS.out (by have := HL.out; omega)
  go_wp2_with fail
  refine hbig.mono ?_
  rintro e wb ⟨kb, big, rfl, hsm⟩
  have kab : Kept w wb := ka.trans kb (fun _ _ f => f)
  have HKab := Hid.mk kab
  clear hbig HA ka
  cases big with
  | true =>
    go_wp2_with fail
    go_ret
    exact ⟨rfl, HKab.out⟩
  | false =>
    have HSM := Hid.mk (hsm rfl)
    clear hsm
    by_cases h100 : 100 < L
    · go_wp2_with fail
      go_ret
      exact ⟨rfl, HKab.out⟩
    · have HAb : Hid (ActsSrc wb (.slice a0 L c0) ps) := by
        rcases HAa.out with h | ⟨hp, b, o, c, e, hc⟩
        · exact .inl h
        · refine .inr ⟨hp, b, o, c, e, fun i hi => ?_⟩
          obtain ⟨x0, x1, x2, x3, x4, x5, x6, hok⟩ := hc i hi
          exact ⟨kept_cell kb x0, kept_cell kb x1, kept_cell kb x2, kept_cell kb x3, kept_cell kb x4, kept_cell kb x5, kept_cell kb x6, hok.w0, hok.w1, hok.n0, hok.n1, ⟨hok.op.lo, hok.op.hi, hok.op.n, hok.op.t, hok.op.src.stay kb⟩, ⟨hok.keep.1.stay kb, hok.keep.2⟩⟩
      have d100 : decide ((100 : Int) < (L : Int)) = false := by simp; omega
      clear HAa kb kab
      go_wp2_with fail
      refine (new_any q wb).mono ?_
      rintro e wA ⟨rfl, kA, ca, hca, hDa⟩
      go_wp2_with fail
      refine (new_any q wA).mono ?_
      rintro e wB ⟨rfl, kB, cb, hcb, hDb⟩
      go_wp2_with fail
      refine (rnew_any q wB).mono ?_
      rintro e wR ⟨rfl, kR, cr, hcr, hDr⟩
      have hP : Play wb wR wb.heap.size wA.heap.size wB.heap.size (DModel.start q) (DModel.start q) 0 := ⟨tri_start kA ⟨hca, hDa⟩ kB ⟨hcb, hDb⟩ kR ⟨hcr, hDr⟩, Fits.start q, Most.start _ q 0, Fits.start q, Most.start _ q 0⟩
      have HP := Hid.mk hP
      generalize wb.heap.size = A at HP ⊢
      generalize wA.heap.size = B at HP ⊢
      generalize wB.heap.size = R at HP ⊢
      clear hP kA kB kR hca hDa hcb hDb hcr hDr
      go_wp2_with fail
      go_loopw [10] (fun i wr => ∃ (k : Nat) (m mo : DModel), k ≤ L ∧ i = .int .i64 (k : Int) ∧ Play wb wr A B R m mo k) (fun i _ => L - (intOf i).toNat)
      case atStart => exact ⟨0, _, _, by omega, rfl, HP.out⟩
      case round =>
        obtain ⟨k, m, mo, hk, rfl, hPl⟩ := hrel
        have HPl := Hid.mk hPl
        clear hPl HP
        by_cases hlt : k < L
        · have hkl : k < ps.length := by have := HL.out; omega
          rcases HAb.out with ⟨a, c, e, e2⟩ | ⟨hp, b, o, c, e, hc⟩
          · rw [e2] at hkl
            cases hkl
          · cases e
            obtain ⟨x0, x1, x2, x3, x4, x5, x6, hok⟩ := hc k hkl
            have hsm := HSM.out _ (List.getElem_mem hkl)
            generalize ps[k] = p at x0 x1 x2 x3 x4 x5 x6 hok hsm
            have kr := HPl.out.tri.kept
            have y0 := kept_cell kr x0
            have y1 := kept_cell kr x1
            have y2 := kept_cell kr x2
            have y3 := kept_cell kr x3
            have y4 := kept_cell kr x4
            have y5 := kept_cell kr x5
            have y6 := kept_cell kr x6
            obtain ⟨ab, cb', ev⟩ := hok.op.src.len
            rw [List.length_map] at ev
            obtain ⟨hks, ak, ck, ek, hkc⟩ := hok.keep
            rw [ev] at y5
            rw [ek] at y6
            have hsrcb := hok.op.src
            rw [ev] at hsrcb
            rw [ek] at hks
            have HB0 := Hid.mk hsrcb
            have HK0 := Hid.mk hks
            have HKC := Hid.mk hkc
            have hn0 := hok.n1
            have hbsz : p.op.bs.length ≤ 20000 ∧ p.keep.length ≤ 20000 := by unfold CAct.bulk at hsm; omega
            have HSZ := Hid.mk hbsz
            have HNT := Hid.mk (And.intro hok.op.n hok.op.t)
            generalize hway : p.way = way at y0
            generalize p.num = num at y1 hn0
            have HN0 := Hid.mk hn0
            obtain ⟨NB, hNB⟩ : ∃ z, p.op.bs.length = z := ⟨_, rfl⟩
            obtain ⟨NK, hNK⟩ : ∃ z, p.keep.length = z := ⟨_, rfl⟩
            rw [hNB] at y5 HB0
            rw [hNK] at y6 HK0
            have HNB := Hid.mk hNB
            have HNK := Hid.mk hNK
            clear x0 x1 x2 x3 x4 x5 x6 hc hok hsm hkl ev ek hks hkc hsrcb hn0 hbsz hNB hNK hway
            generalize p.op.k = kd at y2
            generalize hsn : p.op.n = sn at y3 HNT
            generalize hst : p.op.t = st at y4 HNT
            have HSN := Hid.mk hsn
            have HST := Hid.mk hst
            clear hsn hst
            go_wp2_with fail
            have hT0 := HPl.out.tri.none
            have hE : TriZ wb (wr.alloc (.cells #[.int .i64 way, .int .i64 num, .int .i64 kd, .string sn, .string st, .slice ab NB cb', .slice ak NK ck] 34)) A B R m mo m (fun j => j = wr.heap.size) := hT0.grow (fun j f => f.elim) ((Only.refl _ wr).alloc _) (fun j hj => .inr ⟨by omega, by simp; omega⟩)
            have hEb := Blk.new wr [.int .i64 way, .int .i64 num, .int .i64 kd, .string sn, .string st, .slice ab NB cb', .slice ak NK ck] 34
            have HEb := Hid.mk hEb
            change Hid (Blk (wr.alloc (.cells #[.int .i64 way, .int .i64 num, .int .i64 kd, .string sn, .string st, .slice ab NB cb', .slice ak NK ck] 34)) _ _ _) at HEb
            have HE := Hid.mk hE
            clear hT0 hE hEb y0 y1 y2 y3 y4 y5 y6
            have hgeE : wb.heap.size ≤ wr.heap.size := HPl.out.tri.kept.size
            generalize wr.alloc (.cells #[.int .i64 way, .int .i64 num, .int .i64 kd, .string sn, .string st, .slice ab NB cb', .slice ak NK ck] 34) = wE at HE HEb ⊢
            generalize wr.heap.size = E at HE HEb hgeE ⊢
            have hfew := HPl.out.few (by omega)
            have hcr := triz_create HE.out hfew.2.2 (s := ⟨#[111, 116, 104, 101, 114]⟩) (by decide)
            refine hcr.mono ?_
            rintro e w3 ⟨rfl, hE3, hS3⟩
            have HE3 : Hid (TriZ wb w3 A B R m (mo.doOp ⟨0, [111, 116, 104, 101, 114], [], []⟩).2 m (fun j => j = E)) := hE3
            have hb3 := hS3.blk HEb.out rfl
            have HB3 := Hid.mk hb3
            have z0 := hb3.cell 0 rfl
            have HFo : Hid (Fits (mo.doOp ⟨0, [111, 116, 104, 101, 114], [], []⟩).2) := HPl.out.fito.doOp _
            have HMo : Hid (Most maxLen (mo.doOp ⟨0, [111, 116, 104, 101, 114], [], []⟩).2 (k + 1)) := HPl.out.mosto.doOp HPl.out.fito _ (by decide) (by decide)
            generalize (mo.doOp ⟨0, [111, 116, 104, 101, 114], [], []⟩).2 = mo2 at HFo HMo HE3
            generalize ((mo.doOp _).1 : Nat) = ans
            clear hE3 hS3 hb3 hcr HEb HE
            by_cases h0 : way = 0
            · subst h0
              have z2 := HB3.out.cell 2 rfl
              have z3 := HB3.out.cell 3 rfl
              have z4 := HB3.out.cell 4 rfl
              have z5 := HB3.out.cell 5 rfl
              go_wp2_with fail
              have hT4 : TriZ wb (w3.alloc (.cells #[.int .i64 kd, .string sn, .string st, .slice ab NB cb'] 31)) A B R m mo2 m (fun j => j = E ∨ j = w3.heap.size) := HE3.out.grow (fun j hj => by omega) ((Only.refl _ w3).alloc _) (fun j hj => hj.elim .inl (fun e => .inr ⟨by omega, by simp; omega⟩))
              have hP4 := Blk.new w3 [.int .i64 kd, .string sn, .string st, .slice ab NB cb'] 31
              have HP4 := Hid.mk hP4
              change Hid (Blk (w3.alloc (.cells #[.int .i64 kd, .string sn, .string st, .slice ab NB cb'] 31)) _ _ _) at HP4
              have HE4 := Hid.mk (((Only.refl (fun _ => False) w3).alloc (.cells #[.int .i64 kd, .string sn, .string st, .slice ab NB cb'] 31)).blk HB3.out (fun f => f))
              have HT4 := Hid.mk hT4
              have hge3 : wb.heap.size ≤ w3.heap.size := HE3.out.kept.size
              have hsz4 : (w3.alloc (.cells #[.int .i64 kd, .string sn, .string st, .slice ab NB cb'] 31)).heap.size = w3.heap.size + 1 := by simp
              clear hT4 hP4 z0 z2 z3 z4 z5
              generalize w3.alloc (.cells #[.int .i64 kd, .string sn, .string st, .slice ab NB cb'] 31) = w4 at HP4 HE4 HT4 hsz4 ⊢
              generalize w3.heap.size = P at HP4 HT4 hge3 hsz4 ⊢
              have hPE : P ≠ E := fun e => by subst e; exact absurd rfl (HP4.out.ne HE4.out (by decide))
              have hnb : p.op.bs.length ≤ 20000 := HSZ.out.1
              have hsb : SrcOf w4.drew (.slice ab NB cb') (p.op.bs.map bV) := HB0.out.stay HT4.out.kept.drew
              obtain ⟨v5, w5, g5, cap5, w6, R1, R2, HO6, HK6, HK5, HCUT⟩ := copy_seven hsb hnb
              rw [HNB.out] at R2 HO6 HCUT
              have hcut := HCUT.out
              have e5 := HE4.out.cell 5 rfl
              have p3 := HP4.out.cell 3 rfl
              have f3 := HP4.out.frozen 3
              have HKw6 : Hid (Kept w4 w6) := ((Only.refl (fun _ => False) w4).drew).trans HK6.out (fun _ _ f => f)
              have e56 := (HKw6.out.blk HE4.out (fun f => f)).cell 5 rfl
              have p36 := (HKw6.out.blk HP4.out (fun f => f)).cell 3 rfl
              have f36 := (HKw6.out.blk HP4.out (fun f => f)).frozen 3
              have HKw5 : Hid (Kept w4 w5) := ((Only.refl (fun _ => False) w4).drew).trans HK5.out (fun _ _ f => f)
              have e55 := (HKw5.out.blk HE4.out (fun f => f)).cell 5 rfl
              have e55a := ((HKw5.out.alloc (.cells #[.int .u8 7] 5)).blk HE4.out (fun f => f)).cell 5 rfl
              obtain ⟨v5b, w5b, g5b, cap5b, w6b, R1b, R2b, HO6b, HK6b, HK5b, HCUTb⟩ := copy_other hsb hnb
              rw [HNB.out] at R2b HO6b HCUTb
              have hcutb := HCUTb.out
              have HKw6b : Hid (Kept w4 w6b) := ((Only.refl (fun _ => False) w4).drew).trans HK6b.out (fun _ _ f => f)
              have HKw5b : Hid (Kept w4 w5b) := ((Only.refl (fun _ => False) w4).drew).trans HK5b.out (fun _ _ f => f)
              have HKwL : Hid (Kept w4 (w4.drew.alloc (.cells #[.int .u8 7] 5))) := (Only.refl (fun _ => False) w4).drew.alloc _
              have e5L : ((w4.alloc (.cells #[.int .u8 7] 5)).drew).cell? ⟨E, 5, none⟩ = some (.slice ab NB cb') := (HKwL.out.blk HE4.out (fun f => f)).cell 5 rfl
              replace R1b : Hid ((Builtin.append_ #[29, 29] 0 #[.slice none 0 0, .slice ab NB cb']).run Try.prog (w4.alloc (.cells #[.int .u8 7] 5)).drew = .ok v5b w5b) := R1b
              have e55b := (HKw5b.out.blk HE4.out (fun f => f)).cell 5 rfl
              have e56b := (HKw6b.out.blk HE4.out (fun f => f)).cell 5 rfl
              have p36b := (HKw6b.out.blk HP4.out (fun f => f)).cell 3 rfl
              have f36b := (HKw6b.out.blk HP4.out (fun f => f)).frozen 3
              have HFa := Hid.mk (copied HT4.out HE4.out HP4.out hsz4 hgeE hge3 HKw6.out (bs := p.op.bs) (g := g5) (cap := cap5) (by rw [← hsz4, HNB.out]; exact HO6.out))
              have HFb := Hid.mk (copied HT4.out HE4.out HP4.out hsz4 hgeE hge3 HKw6b.out (bs := p.op.bs) (g := g5b) (cap := cap5b) (by rw [← hsz4, HNB.out]; exact HO6b.out))
              rw [HNB.out] at HFa HFb
              have HSZ4 := Hid.mk hsz4
              clear hsb hsz4
              go_cut [12] from 42 to 144 (fun s wx => s = .pointer (some ⟨P, 0, none⟩) ∧ Copied wb wx A B R m mo2 m E P [.int .i64 0, .int .i64 num, .int .i64 kd, .string sn, .string st, .slice ab NB cb', .slice ak NK ck] [.int .i64 kd, .string sn, .string st, .slice ab NB cb'] p.op.bs)
              · go_region_law ((first | refine step_append_run _ (by rfl) _ _ _ (by rfl) (.slice none 0 0) (.slice ab NB cb') (by rfl) (by rfl) _ w5 R1 ?_ | refine step_append_run _ (by rfl) _ _ _ (by rfl) v5 (.slice (some ⟨w5.heap.size, 0, none⟩) 1 1) (by rfl) (by rfl) _ w6 R2 ?_ | refine step_append_run _ (by rfl) _ _ _ (by rfl) (.slice none 0 0) (.slice ab NB cb') (by rfl) (by rfl) _ w5b R1b ?_ | refine step_append_run _ (by rfl) _ _ _ (by rfl) v5b (.slice (some ⟨w4.heap.size, 0, none⟩) 1 1) (by rfl) (by rfl) _ w6b R2b ?_))
                all_goals
                  go_wp2_with fail
                  go_meet
                  case rel => first | exact ⟨rfl, HFa.out⟩ | exact ⟨rfl, HFb.out⟩
              · obtain ⟨rfl, g, cap, hT, hEb, hPb, hrow⟩ := hcut
                have q0 : wc.cell? ⟨P, 0, none⟩ = some (.int .i64 kd) := hPb.cell 0 rfl
                have q1 : wc.cell? ⟨P, 1, none⟩ = some (.string sn) := hPb.cell 1 rfl
                have q2 : wc.cell? ⟨P, 2, none⟩ = some (.string st) := hPb.cell 2 rfl
                have q3 : wc.cell? ⟨P, 3, none⟩ = some (.slice (some ⟨g, 0, none⟩) p.op.bs.length cap) := hPb.cell 3 rfl
                have HSB : Hid (∀ W, W.ownsRow (P + 1) 5 1 (.slice (some ⟨g, 0, none⟩) (p.op.bs.length + 1) cap) (p.op.bs.length + 1) ((p.op.bs ++ [7]).map bV) → SrcOf W (.slice (some ⟨g, 0, none⟩) p.op.bs.length cap) (p.op.bs.map bV)) := fun W hW => first_src hW
                have hdo := triz_do hT (HPl.out.few (by omega)).1 kd HNT.out.1 HNT.out.2 (HSB.out _ hrow) HSZ.out.1
                have HRow := Hid.mk hrow
                have HEc := Hid.mk hEb
                have HPc := Hid.mk hPb
                have HTc := Hid.mk hT
                rw [HNB.out] at q3 hdo
                clear hT hEb hPb hrow R1 R2 R1b R2b HFa HFb e5 p3 f3 e56 p36 f36 e55 e55a e5L e55b e56b p36b f36b hcut hcutb HO6 HO6b HCUT HCUTb
                go_wp2_with fail
                refine hdo.mono ?_
                rintro e w7 ⟨rfl, hT7, hS7⟩
                have hZ7 : ∀ j, (j = E ∨ (P ≤ j ∧ j < wc.heap.size)) → wb.heap.size ≤ j := fun j hj => by rcases hj with h | h <;> omega
                have hE7 := hS7.blk HEc.out (.inl rfl)
                have hP7 := hS7.blk HPc.out (.inr ⟨Nat.le_refl _, HPc.out.lt⟩)
                have hrow7 := hS7.row HRow.out (fun j hj => .inr ⟨by have := (HRow.out.lt j hj).1; omega, (HRow.out.lt j hj).2⟩)
                have HST7 : Hid (∀ X, Kept w7 X → X.cell? ⟨E, 2, none⟩ = some (.int .i64 kd) ∧ X.cell? ⟨E, 3, none⟩ = some (.string sn) ∧ X.cell? ⟨E, 4, none⟩ = some (.string st) ∧ X.cell? ⟨E, 5, none⟩ = some (.slice ab NB cb') ∧ X.cell? ⟨P, 3, none⟩ = some (.slice (some ⟨g, 0, none⟩) NB cap)) := fun X k => ⟨(k.blk hE7 (fun f => f)).cell 2 rfl, (k.blk hE7 (fun f => f)).cell 3 rfl, (k.blk hE7 (fun f => f)).cell 4 rfl, (k.blk hE7 (fun f => f)).cell 5 rfl, by rw [← HNB.out]; exact (k.blk hP7 (fun f => f)).cell 3 rfl⟩
                have HRD : Hid (∀ X, Kept w7 X → Calls Try.prog 12 #[.pointer (some ⟨R, 0, none⟩), .agg #[.int .i64 kd, .string sn, .string st, .slice ab NB cb']] X fun e w' => e = .returned (.int .i64 ((m.doOp ⟨kd, sn.data.toList, st.data.toList, p.op.bs⟩).1 : Int)) ∧ TriZ wb w' A B R (m.doOp ⟨kd, sn.data.toList, st.data.toList, p.op.bs⟩).2 mo2 (m.doOp ⟨kd, sn.data.toList, st.data.toList, p.op.bs⟩).2 (fun j => j = E ∨ (P ≤ j ∧ j < wc.heap.size)) ∧ Same (fun j => j = E ∨ (P ≤ j ∧ j < wc.heap.size)) X w') := fun X k => by
                  have hX := hT7.grow hZ7 (k.mono (fun _ _ f => f.elim)) (fun j hj => .inl hj)
                  have := triz_rdo hX HPl.out.fit HPl.out.most (by omega) kd sn st ab cb' p.op.bs (by rw [HNB.out]; exact HB0.out.stay hX.kept) (fun a ha h0 => old_block HB0.out a ha (by rw [List.length_map]; exact h0)) HSZ.out.1
                  rw [HNB.out] at this
                  exact this
                have HFit : Hid (Fits (m.doOp ⟨kd, sn.data.toList, st.data.toList, p.op.bs⟩).2) := HPl.out.fit.doOp _
                have HMost : Hid (Most maxLen (m.doOp ⟨kd, sn.data.toList, st.data.toList, p.op.bs⟩).2 (k + 1)) := HPl.out.most.doOp HPl.out.fit _ (by exact HNT.out.1) (by exact HNT.out.2)
                have HT7 := Hid.mk hT7
                have HR7 := Hid.mk hrow7
                have HP7 := Hid.mk hP7
                have HE7 := Hid.mk hE7
                generalize (m.doOp ⟨kd, sn.data.toList, st.data.toList, p.op.bs⟩).2 = m7 at HFit HMost HRD HT7
                generalize (((m.doOp ⟨kd, sn.data.toList, st.data.toList, p.op.bs⟩).1 : Nat) : Int) = an7 at HRD ⊢
                clear hT7 hS7 hE7 hP7 hrow7 q0 q1 q2 q3 hdo
                have HCV : Hid (∀ X, SrcOf X (.slice (some ⟨g, 0, none⟩) NB cap) (p.op.bs.map bV) → SrcOf X (.slice ab NB cb') (p.op.bs.map bV) → (convert 29 9 (.slice (some ⟨g, 0, none⟩) NB cap)).run Try.prog X = .ok (.string ⟨p.op.bs.toArray⟩) X ∧ (convert 29 9 (.slice ab NB cb')).run Try.prog X = .ok (.string ⟨p.op.bs.toArray⟩) X) := fun X h1 h2 => ⟨str_conv h1, str_conv h2⟩
                generalize (⟨p.op.bs.toArray⟩ : ByteArray) = sb at HCV
                have HSX : Hid (∀ X, Same (fun j => j = E ∨ (P ≤ j ∧ j < wc.heap.size)) w7 X → Kept wb X → (X.cell? ⟨E, 2, none⟩ = some (.int .i64 kd) ∧ X.cell? ⟨E, 3, none⟩ = some (.string sn) ∧ X.cell? ⟨E, 4, none⟩ = some (.string st) ∧ X.cell? ⟨E, 5, none⟩ = some (.slice ab NB cb') ∧ X.cell? ⟨P, 3, none⟩ = some (.slice (some ⟨g, 0, none⟩) NB cap)) ∧ ((convert 29 9 (.slice (some ⟨g, 0, none⟩) NB cap)).run Try.prog X = .ok (.string sb) X ∧ (convert 29 9 (.slice ab NB cb')).run Try.prog X = .ok (.string sb) X)) := fun X hX kX => ⟨⟨(hX.blk HE7.out (.inl rfl)).cell 2 rfl, (hX.blk HE7.out (.inl rfl)).cell 3 rfl, (hX.blk HE7.out (.inl rfl)).cell 4 rfl, (hX.blk HE7.out (.inl rfl)).cell 5 rfl, by rw [← HNB.out]; exact (hX.blk HP7.out (.inr ⟨Nat.le_refl _, HPc.out.lt⟩)).cell 3 rfl⟩,
                  HCV.out X (by rw [← HNB.out]; exact first_src (hX.row HR7.out (fun j hj => .inr ⟨by have := (HRow.out.lt j hj).1; omega, (HRow.out.lt j hj).2⟩))) (HB0.out.stay kX)⟩
                have hs7 := HSX.out w7.drew (fun _ _ => rfl) HT7.out.kept.drew
                clear HCV HST7
                go_wp2_with fail
                go_region_held3 (fun X => (X.cell? ⟨E, 2, none⟩ = some (.int .i64 kd) ∧ X.cell? ⟨E, 3, none⟩ = some (.string sn) ∧ X.cell? ⟨E, 4, none⟩ = some (.string st) ∧ X.cell? ⟨E, 5, none⟩ = some (.slice ab NB cb') ∧ X.cell? ⟨P, 3, none⟩ = some (.slice (some ⟨g, 0, none⟩) NB cap)) ∧ ((convert 29 9 (.slice (some ⟨g, 0, none⟩) NB cap)).run Try.prog X = .ok (.string sb) X ∧ (convert 29 9 (.slice ab NB cb')).run Try.prog X = .ok (.string sb) X))
                  (first | exact hs8 | exact hs7)
                  ((first
                    | (go_at_call 11; refine (num3_any _ _).mono ?_; rintro e w' ⟨rfl, hw⟩; subst hw)
                    | (go_at_call 12; refine (HRD.out _ (Only.refl _ _).drew).mono ?_; rintro e w8 ⟨rfl, hT8, hS8⟩; have hs8 := HSX.out w8 hS8 hT8.kept)))
                have hZ8 : ∀ j, (j = E ∨ (P ≤ j ∧ j < wc.heap.size)) → wb.heap.size ≤ j := fun j hj => by rcases hj with h | h <;> omega
                have hgZ := HRow.out.lt g rfl
                have hrow8 : w8.ownsRow (P + 1) 5 1 (.slice (some ⟨g, 0, none⟩) (NB + 1) cap) (NB + 1) ((p.op.bs ++ [7]).map bV) := by
                  have h1 := hS8.row (W := w7.drew) HR7.out (fun j hj => .inr ⟨by have := (HRow.out.lt j hj).1; omega, (HRow.out.lt j hj).2⟩)
                  rw [HNB.out] at h1
                  exact h1
                have hP8 : Blk w8 P [.int .i64 kd, .string sn, .string st, .slice (some ⟨g, 0, none⟩) NB cap] 31 := by
                  have h1 := hS8.blk (W := w7.drew) HP7.out (.inr ⟨Nat.le_refl _, HPc.out.lt⟩)
                  rw [HNB.out] at h1
                  exact h1
                have HT8 := Hid.mk hT8
                have HR8 := Hid.mk hrow8
                have HP8 := Hid.mk hP8
                have hgP : g ≠ P := by omega
                have hNBl : NB ≤ 20000 := by have := HSZ.out.1; have := HNB.out; omega
                have HL8 : Hid ((p.op.bs ++ [7]).length = NB + 1) := by show _ = _; rw [List.length_append, HNB.out]; rfl
                clear hT8 hS8 hs8 hs7 hrow8 hP8 HSX HRD
                go_wp2_with fail
                go_loopw [14] (fun i wr => ∃ (q : Nat) (ys : List UInt8), q ≤ NB ∧ ys.length = NB + 1 ∧ i = .int .i64 (q : Int) ∧ wr.ownsRow (P + 1) 5 1 (.slice (some ⟨g, 0, none⟩) (NB + 1) cap) (NB + 1) (ys.map bV) ∧ Blk wr P [.int .i64 kd, .string sn, .string st, .slice (some ⟨g, 0, none⟩) NB cap] 31 ∧ TriZ wb wr A B R m7 mo2 m7 (fun j => j = E ∨ (P ≤ j ∧ j < wc.heap.size))) (fun i _ => NB - (intOf i).toNat)
                case atStart => exact ⟨0, _, by omega, HL8.out, rfl, HR8.out, HP8.out, HT8.out⟩
                case round =>
                  obtain ⟨qq, ys, hqq, hyl, rfl, hown, hPb, hTb⟩ := hrel
                  have p3 := hPb.cell 3 rfl
                  by_cases hlq : qq < NB
                  · have hky : qq < ys.length := by omega
                    obtain ⟨t1, t2, t3⟩ := own_turn3 hown hky
                    have hx := xor_byte3 ys[qq]
                    obtain ⟨y, hy⟩ : ∃ y : Nat, ys[qq].toNat = y := ⟨_, rfl⟩
                    obtain ⟨z, hz⟩ : ∃ z : Nat, (UInt8.ofNat (ys[qq].toNat ^^^ 255)).toNat = z := ⟨_, rfl⟩
                    have HY : Hid ((ys.set qq (UInt8.ofNat (ys[qq].toNat ^^^ 255))).length = NB + 1) := by show _ = _; rw [List.length_set]; exact hyl
                    rw [hz] at t3
                    have kO : Only (fun j => j = E ∨ (P ≤ j ∧ j < wc.heap.size)) wr ((wr.setCell ⟨g, qq, none⟩ (.int .u8 (z : Int))).drew) := ((Only.refl _ wr).setCell (fun _ => .inr ⟨by show P ≤ g; omega, hgZ.2⟩) _).drew
                    have HTn := Hid.mk (hTb.grow hZ8 kO (fun j hj => .inl hj))
                    have HPn : Hid (Blk ((wr.setCell ⟨g, qq, none⟩ (.int .u8 (z : Int))).drew) P [.int .i64 kd, .string sn, .string st, .slice (some ⟨g, 0, none⟩) NB cap] 31) := (hPb.other (a := ⟨g, qq, none⟩) (fun e => hgP e.symm) _).drew
                    have HRn : Hid (((wr.setCell ⟨g, qq, none⟩ (.int .u8 (z : Int))).drew).ownsRow (P + 1) 5 1 (.slice (some ⟨g, 0, none⟩) (NB + 1) cap) (NB + 1) ((ys.set qq (UInt8.ofNat (ys[qq].toNat ^^^ 255))).map bV)) := t3
                    rw [hy] at t1 hx
                    rw [hy] at hz
                    rw [hz] at hx
                    clear hown hPb hTb t3 hz hy hyl kO
                    go_wp2_with fail
                    go_region
                    all_goals
                      go_wp2_with fail
                      go_roundw
                      case rel => exact ⟨qq + 1, _, by omega, HY.out, by go_num, HRn.out, HPn.out, HTn.out⟩
                      case measure => simp [intOf]; omega
                  · have HP9 : Hid (Play wb wr A B R m7 mo2 (k + 1)) := ⟨hTb.tri, HFit.out, HMost.out, HFo.out, HMo.out⟩
                    clear hown hPb hTb hyl
                    go_wp2_with fail
                    go_roundw
                    case rel => exact ⟨k + 1, _, _, by omega, by go_num, HP9.out⟩
                    case measure => simp [intOf]; omega
            by_cases h1 : way = 1
            · subst h1
              have z1 := HB3.out.cell 1 rfl
              go_wp2_with fail
              refine (triz_fuse HE3.out num HN0.out).mono ?_
              rintro e w4 ⟨rfl, hE4, hS4⟩
              have HE4 := Hid.mk hE4
              have z4 := (hS4.blk HB3.out rfl).cell 1 rfl
              clear hE4 hS4 z0 z1
              go_wp2_with fail
              refine (triz_rfuse HE4.out num).mono ?_
              rintro e w5 ⟨rfl, hE5, hS5⟩
              have HP5 : Hid (Play wb w5 A B R { m with fuse := DModel.lay num } mo2 (k + 1)) := ⟨hE5.tri, HPl.out.fit.layFuse HN0.out, ⟨(HPl.out.most.up (Nat.le_succ k)).acts, (HPl.out.most.up (Nat.le_succ k)).files, (HPl.out.most.up (Nat.le_succ k)).steps, HPl.out.most.sureN, HPl.out.most.actN⟩, HFo.out, HMo.out⟩
              clear hE5 hS5 z4
              go_wp2_with fail
              go_roundw
              case rel => exact ⟨k + 1, _, _, by omega, by go_num, HP5.out⟩
              case measure => simp [intOf]; omega
            by_cases h2 : way = 2
            · subst h2
              have z1 := HB3.out.cell 1 rfl
              go_wp2_with fail
              refine (triz_fault HE3.out num HN0.out).mono ?_
              rintro e w4 ⟨rfl, hE4, hS4⟩
              have HE4 := Hid.mk hE4
              have z4 := (hS4.blk HB3.out rfl).cell 1 rfl
              clear hE4 hS4 z0 z1
              go_wp2_with fail
              refine (triz_rfault HE4.out num).mono ?_
              rintro e w5 ⟨rfl, hE5, hS5⟩
              have HP5 : Hid (Play wb w5 A B R { m with fault := DModel.lay num } mo2 (k + 1)) := ⟨hE5.tri, HPl.out.fit.layFault HN0.out, ⟨(HPl.out.most.up (Nat.le_succ k)).acts, (HPl.out.most.up (Nat.le_succ k)).files, (HPl.out.most.up (Nat.le_succ k)).steps, HPl.out.most.sureN, HPl.out.most.actN⟩, HFo.out, HMo.out⟩
              clear hE5 hS5 z4
              go_wp2_with fail
              go_roundw
              case rel => exact ⟨k + 1, _, _, by omega, by go_num, HP5.out⟩
              case measure => simp [intOf]; omega
            have b0 : (way == 0) = false := by simp [h0]
            have b1 : (way == 1) = false := by simp [h1]
            have b2 : (way == 2) = false := by simp [h2]
            by_cases h3 : way = 3
            · subst h3
              have z6 := HB3.out.cell 6 rfl
              have kw3 : Kept wb w3 := HE3.out.kept
              have hks3 := HK0.out.stay kw3
              have hnk : NK ≤ 20000 := by have := HSZ.out.2; have := HNK.out; omega
              obtain ⟨v7, w7, hrun, hown7, hgrow7, _⟩ := append_src (P := Try.prog) Try.underlying32 Try.infoI rfl (by decide) (World.ownsRow_nil w3 w3.heap.size 3 1) hks3 (nums_one p.keep) (by have := HNK.out; simp; omega) (Nat.le_refl _)
              rw [List.length_map, Nat.zero_add, List.nil_append, HNK.out] at hown7
              have k37 : Kept w3 w7 := (Only.refl _ w3).grown hgrow7 (fun k hk _ => by cases hk)
              have Hr := Hid.mk hrun
              have HT7 : Hid (TriZ wb w7 A B R m mo2 m (fun j => j = E ∨ (w3.heap.size ≤ j ∧ j < w7.heap.size))) := HE3.out.grow (fun j hj => by omega) (k37.mono (fun _ _ f => f.elim)) (fun j hj => hj)
              have HI7 : Hid (∀ O : Nat → Prop, (∀ j, (j = E ∨ (w3.heap.size ≤ j ∧ j < w7.heap.size)) → ¬ O j) → IntsAt w7 O v7 p.keep) := fun O hO => own_ints (by rw [HNK.out]; exact hown7) (fun j hj => hO j (.inr (hown7.lt j hj)))
              have HB7 := Hid.mk (k37.blk HB3.out (fun f => f))
              obtain ⟨va, vc, ev7⟩ := own_slice hown7
              subst ev7
              clear hrun hgrow7 hks3 hown7 k37 kw3
              go_wp2_with (at_builtin; refine wpList_append_run rfl _ _ _ rfl rfl rfl Hr ?_)
              refine (triz_crash HT7.out (HPl.out.few (by omega)).1 HI7.out).mono ?_
              rintro e w8 ⟨rfl, hE8, hS8⟩
              have HE8 := Hid.mk hE8
              have z8 := (hS8.blk HB7.out (.inl rfl)).cell 6 rfl
              have hks8 := HK0.out.stay hE8.kept
              have hc8 := triz_rcrash hRC hE8 HPl.out.fit HPl.out.most (by omega) ak ck p.keep (by rw [HNK.out]; exact hks8) (fun a ha hpos => by
                rcases HK0.out with ⟨e, _⟩ | ⟨a', c', e, hc⟩
                · rw [ha] at e
                  cases e
                · rw [ha] at e
                  cases e
                  obtain ⟨x, hx⟩ : ∃ x, p.keep[0]? = some x := ⟨_, List.getElem?_eq_getElem hpos⟩
                  have h1 := hc 0 (.int .i64 x) (by rw [List.getElem?_map, hx]; rfl)
                  have h2 := World.block_lt_of_cell? wb _ h1
                  have hb : (a.add 0).block = a.block := by unfold Addr.add; split <;> rfl
                  omega) (by have := HSZ.out.2; omega)
              rw [HNK.out] at hc8
              clear hE8 hS8 z6 hks8
              go_wp2_with fail
              refine hc8.mono ?_
              rintro e w9 ⟨rfl, hE9, hS9⟩
              have HP9 : Hid (Play wb w9 A B R (m.crash p.keep) mo2 (k + 1)) := ⟨hE9.tri, HPl.out.fit.crash _, (HPl.out.most.crash _).up (Nat.le_succ k), HFo.out, HMo.out⟩
              clear hE9 hS9 z8 hc8
              go_wp2_with fail
              go_roundw
              case rel => exact ⟨k + 1, _, _, by omega, by go_num, HP9.out⟩
              case measure => simp [intOf]; omega
            have b3 : (way == 3) = false := by simp [h3]
            have HP3 : Hid (Play wb w3 A B R m mo2 (k + 1)) := ⟨HE3.out.tri, HPl.out.fit, HPl.out.most.up (Nat.le_succ k), HFo.out, HMo.out⟩
            have hsame := play_same HP3.out (by omega)
            go_wp2_with fail
            refine hsame.mono ?_
            rintro e w4 ⟨rfl, k4⟩
            have HP4 : Hid (Play wb w4 A B R m mo2 (k + 1)) := HP3.out.stay k4
            clear hsame k4 z0
            go_wp2_with fail
            go_roundw
            case rel => exact ⟨k + 1, _, _, by omega, by go_num, HP4.out⟩
            case measure => simp [intOf]; omega
        · have hsame := play_same HPl.out (by omega)
          have HKw : Hid (Kept w wr) := HKab.out.trans HPl.out.tri.kept (fun _ _ f => f)
          go_wp2_with fail
          refine hsame.mono ?_
          rintro e w9 ⟨rfl, k9⟩
          go_wp2_with fail
          go_ret
          exact ⟨rfl, HKw.out.trans k9 (fun _ _ f => f)⟩
end Go.Proofs.Ytfmdnaagdhpcpaa
