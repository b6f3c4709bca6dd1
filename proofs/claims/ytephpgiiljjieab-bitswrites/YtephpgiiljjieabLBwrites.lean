/-
  The walk of the law BitsWrites.
-/
import Derived.Test.YtephpgiiljjieabLBback
import Derived.Laws.IdiomStrings
import Derived.Laws.BytesArg
namespace Go.Proofs.Ytephpgiiljjieab
open Go.RowKit Go.Proofs.Lys
set_option linter.unusedVariables false

/-- The text of bytes that are owned. -/
theorem conv_own {w : World} {base : Nat} {v : Value} {n : Nat} {bs : List UInt8} (h : w.ownsRow base 5 1 v n (bs.map bV)) : (convert 28 9 v).run Try.prog w = .ok (.string ⟨bs.toArray⟩) w := by
  have hl := own_len h
  rw [List.length_map] at hl
  subst hl
  rcases h.2 with ⟨rfl, h0⟩ | ⟨g, cap, cur, rfl, _⟩
  · have : bs = [] := List.length_eq_zero_iff.1 h0
    subst this
    exact run_convert_bytes_nil (P := Try.prog) w 28 5 Try.underlying28 Try.underlying5 0 0 9 Try.underlying9
  · refine run_convert_bytes_back (P := Try.prog) w 28 9 5 ⟨g, 0, none⟩ cap bs Try.underlying28 Try.underlying5 Try.underlying9 (fun j hj => ?_)
    rw [add_none, Nat.zero_add, h.cellAt j (by omega), List.getElem?_map, List.getElem?_eq_getElem hj]
    rfl

/-- Three writers, apart, in memory that is new since w. -/
structure Three (w W : World) (H : Nat) (vw vo vr : Value) (l lo : List Bool) : Prop where
  wr : WrAt W H vw l
  ot : WrAt W (H + 1) vo lo
  rf : RwAt W (H + 2) vr l
  kept : Kept w W
  hH : w.heap.size ≤ H
  nw : ∀ j, vw.ownBlock = some j → w.heap.size ≤ j
  no : ∀ j, vo.ownBlock = some j → w.heap.size ≤ j
  nr : ∀ j, vr.ownBlock = some j → w.heap.size ≤ j
  apart : ∀ j, vw.ownBlock = some j → vo.ownBlock ≠ some j

section
variable {w W W' : World} {H : Nat} {vw vo vr : Value} {l lo : List Bool}

theorem Three.drew (h : Three w W H vw vo vr l lo) : Three w W.drew H vw vo vr l lo :=
  ⟨⟨h.wr.blk, h.wr.own⟩, ⟨h.ot.blk, h.ot.own⟩, ⟨h.rf.blk, h.rf.own⟩, h.kept.drew, h.hH, h.nw, h.no, h.nr, h.apart⟩
theorem Three.drewN (h : Three w W H vw vo vr l lo) (n : Nat) : Three w (W.drewN n) H vw vo vr l lo :=
  ⟨⟨h.wr.blk, h.wr.own⟩, ⟨h.ot.blk, h.ot.own⟩, ⟨h.rf.blk, h.rf.own⟩, Kept.drewN h.kept n, h.hH, h.nw, h.no, h.nr, h.apart⟩
/-- Blocks that none of the three has may turn. -/
theorem Three.only {O : Nat → Prop} (h : Three w W H vw vo vr l lo) (k : Only O W W') (hO : ∀ j, O j → W.heap.size ≤ j) : Three w W' H vw vo vr l lo := by
  have f : ∀ j, j < W.heap.size → ¬ O j := fun j hj ho => by have := hO j ho; omega
  refine ⟨h.wr.only k (f _ h.wr.blk.lt) (fun j hj => f _ (h.wr.own.lt j hj).2), h.ot.only k (f _ h.ot.blk.lt) (fun j hj => f _ (h.ot.own.lt j hj).2), h.rf.only k (f _ h.rf.blk.lt) (fun j hj => f _ (h.rf.own.lt j hj).2), ?_, h.hH, h.nw, h.no, h.nr, h.apart⟩
  have hs := h.kept.size
  exact h.kept.trans k (fun j hj ho => f j (by omega) ho)

theorem Three.put_w {v' : Value} {l' : List Bool} (h : Three w W H vw vo vr l lo) (hw : WrAt W' H v' l') (k : Only (Foot H vw) W W') (hn : ∀ j, v'.ownBlock = some j → vw.ownBlock = some j ∨ W.heap.size ≤ j) :
    WrAt W' H v' l' ∧ WrAt W' (H + 1) vo lo ∧ RwAt W' (H + 2) vr l ∧ Kept w W' ∧ (∀ j, v'.ownBlock = some j → w.heap.size ≤ j) ∧ (∀ j, v'.ownBlock = some j → vo.ownBlock ≠ some j) := by
  have hs := h.kept.size
  refine ⟨hw, h.ot.only k ?_ ?_, h.rf.only k ?_ ?_, foot_kept h.kept k h.hH h.nw, ?_, ?_⟩
  · rintro (e | e)
    · omega
    · exact (own_typed h.wr.own e).ne h.ot.blk.typed (by decide) rfl
  · rintro j hj (e | e)
    · exact (own_typed h.ot.own hj).ne h.wr.blk.typed (by decide) e
    · exact h.apart j e hj
  · rintro (e | e)
    · omega
    · exact (own_typed h.wr.own e).ne h.rf.blk.typed (by decide) rfl
  · rintro j hj (e | e)
    · exact (own_typed h.rf.own hj).ne h.wr.blk.typed (by decide) e
    · exact (own_typed h.rf.own hj).ne (own_typed h.wr.own e) (by decide) rfl
  · intro j hj
    rcases hn j hj with e | e
    · exact h.nw j e
    · omega
  · intro j hj ho
    rcases hn j hj with e | e
    · exact h.apart j e ho
    · have := (h.ot.own.lt j ho).2
      omega

/-- The other writer puts. -/
theorem put_o {w W W' : World} {H : Nat} {vw vo vr v' : Value} {l l2 lo lo' : List Bool} (hw : WrAt W H vw l) (ho : WrAt W (H + 1) vo lo) (hr : RwAt W (H + 2) vr l2) (kp : Kept w W) (hH : w.heap.size ≤ H)
    (nw : ∀ j, vw.ownBlock = some j → w.heap.size ≤ j) (no : ∀ j, vo.ownBlock = some j → w.heap.size ≤ j) (ap : ∀ j, vw.ownBlock = some j → vo.ownBlock ≠ some j)
    (ho' : WrAt W' (H + 1) v' lo') (k : Only (Foot (H + 1) vo) W W') (hn : ∀ j, v'.ownBlock = some j → vo.ownBlock = some j ∨ W.heap.size ≤ j) :
    WrAt W' H vw l ∧ WrAt W' (H + 1) v' lo' ∧ RwAt W' (H + 2) vr l2 ∧ Kept w W' ∧ (∀ j, v'.ownBlock = some j → w.heap.size ≤ j) ∧ (∀ j, vw.ownBlock = some j → v'.ownBlock ≠ some j) := by
  have hs := kp.size
  refine ⟨hw.only k ?_ ?_, ho', hr.only k ?_ ?_, foot_kept kp k (by omega) no, ?_, ?_⟩
  · rintro (e | e)
    · omega
    · exact (own_typed ho.own e).ne hw.blk.typed (by decide) rfl
  · rintro j hj (e | e)
    · exact (own_typed hw.own hj).ne ho.blk.typed (by decide) e
    · exact ap j hj e
  · rintro (e | e)
    · omega
    · exact (own_typed ho.own e).ne hr.blk.typed (by decide) rfl
  · rintro j hj (e | e)
    · exact (own_typed hr.own hj).ne ho.blk.typed (by decide) e
    · exact (own_typed hr.own hj).ne (own_typed ho.own e) (by decide) rfl
  · intro j hj
    rcases hn j hj with e | e
    · exact no j e
    · omega
  · intro j hj ho
    rcases hn j ho with e | e
    · exact ap j hj e
    · have := (hw.own.lt j hj).2
      omega

/-- The document's own writer puts what the first one did. -/
theorem put_r {w W W' : World} {H : Nat} {vw vo vr v' : Value} {l l2 lo : List Bool} (hw : WrAt W H vw l) (ho : WrAt W (H + 1) vo lo) (hr : RwAt W (H + 2) vr l2) (kp : Kept w W) (hH : w.heap.size ≤ H)
    (nw : ∀ j, vw.ownBlock = some j → w.heap.size ≤ j) (no : ∀ j, vo.ownBlock = some j → w.heap.size ≤ j) (nr : ∀ j, vr.ownBlock = some j → w.heap.size ≤ j) (ap : ∀ j, vw.ownBlock = some j → vo.ownBlock ≠ some j)
    (hr' : RwAt W' (H + 2) v' l) (k : Only (Foot (H + 2) vr) W W') (hn : ∀ j, v'.ownBlock = some j → vr.ownBlock = some j ∨ W.heap.size ≤ j) : Three w W' H vw vo v' l lo := by
  have hs := kp.size
  refine ⟨hw.only k ?_ ?_, ho.only k ?_ ?_, hr', foot_kept kp k (by omega) nr, hH, nw, no, ?_, ap⟩
  · rintro (e | e)
    · omega
    · exact (own_typed hr.own e).ne hw.blk.typed (by decide) rfl
  · rintro j hj (e | e)
    · exact (own_typed hw.own hj).ne hr.blk.typed (by decide) e
    · exact (own_typed hw.own hj).ne (own_typed hr.own e) (by decide) rfl
  · rintro (e | e)
    · omega
    · exact (own_typed hr.own e).ne ho.blk.typed (by decide) rfl
  · rintro j hj (e | e)
    · exact (own_typed ho.own hj).ne hr.blk.typed (by decide) e
    · exact (own_typed ho.own hj).ne (own_typed hr.own e) (by decide) rfl
  · intro j hj
    rcases hn j hj with e | e
    · exact nr j e
    · omega
end

set_option maxRecDepth 100000 in
set_option maxHeartbeats 3200000 in
theorem writes_walk (w : World) (v0 : Value) (ps : List (Int × Int)) (h0 : PairSrc w v0 ps) :
    Calls Try.prog 5 #[v0] w fun e w' => e = .returned (.bool true) ∧ Kept w w' := by
  obtain ⟨a0, c0, e0⟩ := h0.len
  obtain ⟨M, hM⟩ : ∃ M, ps.length = M := ⟨_, rfl⟩
  rw [hM] at e0
  subst e0
  have hnot : ∀ (x : Bool) (w : World), (Op.unary .not (.bool x)).run Try.prog w = .ok (.bool (!x)) w := fun _ _ => rfl
  by_cases hb0 : 200 < M
  · go_enter Try.func5, Try.ntmps5
    go_wp2_with (go_at_call 19; refine (alive_any _).mono ?_; rintro e w1 ⟨rfl, hk⟩)
    go_ret
    exact ⟨rfl, hk⟩
  have d0 : decide ((200 : Int) < (M : Int)) = false := by simp; omega
  have HM := hid hM
  have H0 := hid h0
  clear hM h0
  go_enter Try.func5, Try.ntmps5
  go_wp2_with fail
  refine (alive_any _).mono ?_
  rintro e w1 ⟨rfl, hk1⟩
  have hsz1 := hk1.size
  have HT0 : Hid (Three w (((w1.alloc (.cells #[.slice none 0 0, .int .i64 0] 42)).alloc (.cells #[.slice none 0 0, .int .i64 0] 42)).alloc (.cells #[.slice none 0 0] 46)) w1.heap.size (.slice none 0 0) (.slice none 0 0) (.slice none 0 0) [] []) := by
    have a1 := WrAt.new w1
    have a2 := WrAt.new (w1.alloc (.cells #[.slice none 0 0, .int .i64 0] 42))
    have a3 := RwAt.new ((w1.alloc (.cells #[.slice none 0 0, .int .i64 0] 42)).alloc (.cells #[.slice none 0 0, .int .i64 0] 42))
    have s2 : (w1.alloc (.cells #[.slice none 0 0, .int .i64 0] 42)).heap.size = w1.heap.size + 1 := by simp
    have s3 : ((w1.alloc (.cells #[.slice none 0 0, .int .i64 0] 42)).alloc (.cells #[.slice none 0 0, .int .i64 0] 42)).heap.size = w1.heap.size + 2 := by simp
    rw [s2] at a2
    rw [s3] at a3
    refine ⟨(a1.only (((Only.refl (fun _ => False) _).alloc _).alloc _) (fun f => f) (fun _ _ f => f)), a2.only ((Only.refl (fun _ => False) _).alloc _) (fun f => f) (fun _ _ f => f), a3, ((hk1.alloc _).alloc _).alloc _, hsz1, ?_, ?_, ?_, ?_⟩
    all_goals
      intro j hj
      cases hj
  clear hk1
  go_wp2_with fail
  go_loopw [7] (fun i wr => ∃ (k : Nat) (vw vo vr : Value) (lo : List Bool), k ≤ M ∧ i = .int .i64 (k : Int) ∧ lo.length ≤ 3 * k ∧ Three w wr w1.heap.size vw vo vr (bitsOf (ps.take k)) lo) (fun i _ => M - (intOf i).toNat)
  case atStart => exact ⟨0, _, _, _, _, by omega, rfl, by simp, HT0.out⟩
  case round =>
    obtain ⟨k, vw, vo, vr, lo, hk, rfl, hlo, h3⟩ := hrel
    by_cases hlt : k < M
    · have hkl : k < ps.length := by have := HM.out; omega
      rcases H0.out with ⟨a, c, e, e2⟩ | ⟨hpos, b, o, c, e1, hc⟩
      · exfalso
        rw [e2] at hkl
        exact absurd hkl (by simp)
      rw [HM.out] at e1
      cases e1
      have hcl := pair_cell hc k hkl
      obtain ⟨x0, x1⟩ := hcl wr h3.kept
      obtain ⟨x, hx⟩ : ∃ x, ps[k].1 = x := ⟨_, rfl⟩
      obtain ⟨N, hN⟩ : ∃ N, ps[k].2 = N := ⟨_, rfl⟩
      have HT : Hid (bitsOf (ps.take (k + 1)) = bitsOf (ps.take k) ++ bitsL (uN x) (wd N)) := by show _ = _; rw [bitsOf_take ps k hkl, hx, hN]
      rw [hx] at x0 hcl
      rw [hN] at x1 hcl
      have HCl := hid hcl
      have hle : (bitsOf (ps.take k)).length ≤ 13000 := by
        have := bitsOf_le (ps.take k)
        rw [List.length_take] at this
        omega
      have hle2 : (bitsOf (ps.take k) ++ bitsL (uN x) (wd N)).length ≤ 14000 := by
        rw [List.length_append, bitsL_length]
        have := wd_le N
        omega
      have H3 := hid h3.drew
      have hput := hid (put_wr h3.drew.wr x N (wd N) (wd_is N) (by omega))
      clear hx hN hc hcl h3
      go_wp2_with fail
      go_region_held3 (fun w' => w'.cell? ⟨b, o + k * 2, none⟩ = some (.int .i64 x) ∧ w'.cell? ⟨b, o + k * 2 + 1, none⟩ = some (.int .i64 N))
        (first | exact ⟨x0, x1⟩ | exact HCl.out w2 q4)
        ((go_at_call 20; refine hput.out.mono ?_; rintro e w2 ⟨rfl, v2, h2, k2, n2⟩; obtain ⟨q1, q2, q3, q4, q5, q6⟩ := H3.out.put_w h2 k2 n2))
      clear hput x0 x1 k2 n2
      go_wp2_with fail
      refine (put_wr q2 1 3 3 (.inr (.inr ⟨rfl, by decide⟩)) (by omega)).mono ?_
      rintro e w3 ⟨rfl, v3, h3, k3, n3⟩
      obtain ⟨r1, r2, r3, r4, r5, r6⟩ := put_o q1 q2 q3 q4 H3.out.hH q5 H3.out.no q6 h3 k3 n3
      obtain ⟨x0, x1⟩ := HCl.out w3 r4
      have hput := hid (put_rw (w := w3.drew) ⟨r3.blk, r3.own⟩ x N (wd N) (wd_is N) (by omega))
      clear q1 q2 q3 q4 q6 h2 h3 k3 n3
      go_wp2_with fail
      go_region_held3 (fun w' => w'.cell? ⟨b, o + k * 2, none⟩ = some (.int .i64 x) ∧ w'.cell? ⟨b, o + k * 2 + 1, none⟩ = some (.int .i64 N))
        (first | exact ⟨x0, x1⟩ | exact HCl.out w4 t4.kept)
        ((go_at_call 21; refine hput.out.mono ?_; rintro e w4 ⟨rfl, v4, h4, k4, n4⟩; have t4 := put_r (w := w) (W := w3.drew) ⟨r1.blk, r1.own⟩ ⟨r2.blk, r2.own⟩ ⟨r3.blk, r3.own⟩ r4.drew H3.out.hH q5 r5 H3.out.nr r6 h4 k4 n4))
      have t4' := t4
      obtain ⟨l', hl'⟩ : ∃ l', bitsOf (ps.take k) ++ bitsL (uN x) (wd N) = l' := ⟨_, rfl⟩
      obtain ⟨L', hL'⟩ : ∃ L', l'.length = L' := ⟨_, rfl⟩
      rw [hl'] at t4' hle2 HT
      rw [hL'] at hle2
      obtain ⟨a4, c4, e4⟩ := own_slice t4'.rf.own
      subst e4
      have y0 := t4'.rf.blk.cell 0 rfl
      have hb4 := t4'.wr.blk
      rw [hL'] at y0 hb4
      have hlen := hid (fun n => wlen_any (w4.drewN n) w1.heap.size v2 L' (Blk.drewN hb4 n))
      have HL' := hid hL'
      have H4 := hid t4'
      have hlo3 : Hid ((lo ++ bitsL (uN 1) 3).length ≤ 3 * (k + 1)) := by show _ ≤ _; rw [List.length_append, bitsL_length]; omega
      clear hput h4 k4 n4 t4 t4' r1 r2 r3 r4 r5 r6 q5 x0 x1 hl' hL' hb4 hle
      go_wp2_with fail
      go_quiet ((go_at_call 22; exact Calls.quiet_of_same (hlen.out _)))
      obtain ⟨bs, hbs⟩ : ∃ bs, packL l' = bs := ⟨_, rfl⟩
      have hbl : bs.length ≤ 100000 := by rw [← hbs, packL_length, HL'.out]; omega
      have h5 := H4.out.drewN nq
      have hsrc := h5.wr.src
      rw [hbs] at hsrc
      have hby := hid (wbytes_any (w4.drewN nq) w1.heap.size v2 _ bs h5.wr.blk hsrc (by omega))
      clear hlen y0 hsrc h5 hbs
      go_wp2_with fail
      refine hby.out.mono ?_
      rintro e w5 ⟨v5, rfl, ho5, k5⟩
      obtain ⟨a5, c5, rfl⟩ := own_slice ho5
      obtain ⟨K, hK⟩ : ∃ K, bs.length = K := ⟨_, rfl⟩
      rw [hK] at ho5 hbl ⊢
      have HO5 := hid ho5
      have HK5 := hid k5
      have HKl := hid hK
      clear hby ho5 k5 hK
      go_wp2_with fail
      go_loopw [9] (fun i wr => ∃ (q : Nat) (ys : List UInt8), q ≤ K ∧ ys.length = K ∧ i = .int .i64 (q : Int) ∧ wr.ownsRow (w4.drewN nq).heap.size 5 1 (.slice a5 K c5) K (ys.map bV) ∧ Only (fun j => (Value.slice a5 K c5).ownBlock = some j) w5 wr) (fun i _ => K - (intOf i).toNat)
      case atStart => exact ⟨0, bs, by omega, HKl.out, rfl, HO5.out, Only.refl _ _⟩
      case round =>
        obtain ⟨q, ys, hq, hyl, rfl, hown, hon⟩ := hrel
        by_cases hqt : q < K
        · obtain ⟨g, cap, hg⟩ := own_some hown (by omega)
          cases hg
          have hky : q < ys.length := by omega
          obtain ⟨t1, t2, t3⟩ := own_turn hown hky
          have hx := xor_byte ys[q]
          obtain ⟨y, hy⟩ : ∃ y : Nat, ys[q].toNat = y := ⟨_, rfl⟩
          obtain ⟨z, hz⟩ : ∃ z : Nat, (UInt8.ofNat (ys[q].toNat ^^^ 255)).toNat = z := ⟨_, rfl⟩
          have HY := hid hyl
          have HTt := hid t3
          rw [hy] at t1 hx
          rw [hy] at hz
          rw [hz] at hx
          have HZ := hid hz
          have HYy := hid hy
          have HN := hid hon
          clear t3 hy hz hown hon hyl
          go_wp2
          go_roundw
          case rel =>
            refine ⟨q + 1, ys.set q (UInt8.ofNat (ys[q].toNat ^^^ 255)), by omega, by rw [List.length_set]; exact HY.out, by go_num, ?_, HN.out.setCell (p := ⟨g, q, none⟩) (fun _ => rfl) _⟩
            have := HTt.out
            rw [HYy.out, HZ.out] at this
            rw [HYy.out]
            exact this
          case measure => simp [intOf]; omega
        · have hO' : Only (fun j => w4.heap.size ≤ j) (w4.drewN nq) wr := (HK5.out.mono (O' := fun j => w4.heap.size ≤ j) (fun _ _ f => f.elim)).trans hon (fun j hj e => (HO5.out.lt j e).1)
          have H6 := hid ((H4.out.drewN nq).only hO' (fun j hj => hj))
          clear hown hon hO'
          go_wp2
          go_roundw
          case rel => exact ⟨k + 1, _, _, _, _, by omega, by go_num, hlo3.out, by rw [HT.out]; exact H6.out⟩
          case measure => simp [intOf]; omega
    · have eT : ps.take k = ps := List.take_of_length_le (by have := HM.out; omega)
      rw [eT] at h3
      have hle : (bitsOf ps).length ≤ 64 * M := by have := bitsOf_le ps; have := HM.out; omega
      have hpl := packL_length (bitsOf ps)
      generalize bitsOf ps = l' at h3 hle hpl
      obtain ⟨bs, hbs⟩ : ∃ bs, packL l' = bs := ⟨_, rfl⟩
      rw [hbs] at hpl
      have hbl : bs.length ≤ 100000 := by omega
      have hsrc : ∀ W, Kept wr W → Calls Try.prog 23 #[.pointer (some ⟨w1.heap.size, 0, none⟩)] W fun e w' => ∃ v, e = .returned v ∧ w'.ownsRow W.heap.size 5 1 v bs.length (bs.map bV) ∧ Kept W w' := fun W hW => by
        have h4 := h3.wr.only hW (fun f => f) (fun _ _ f => f)
        have := h4.src
        rw [hbs] at this
        exact wbytes_any W w1.heap.size vw _ bs h4.blk this (by omega)
      have hrsrc : ∀ W, Kept wr W → Calls Try.prog 24 #[.pointer (some ⟨w1.heap.size + 2, 0, none⟩)] W fun e w' => ∃ v, e = .returned v ∧ w'.ownsRow W.heap.size 5 1 v ((l'.length + 7) / 8) (bs.map bV) ∧ Kept W w' := fun W hW => by
        have h4 := h3.rf.only hW (fun f => f) (fun _ _ f => f)
        have := rbytes_any W _ vr l' h4.blk h4.own (by omega)
        rw [hbs] at this
        exact this
      have HS := hid hsrc
      have HR := hid hrsrc
      have HK3 := hid h3.kept
      clear hsrc hrsrc h3 hbs eT hpl hle hlo
      go_wp2_with fail
      go_region_with ((first
        | (go_at_call 23; refine (HS.out _ (by first | exact (Only.refl _ _).drew | exact (Only.refl _ _).drew.trans kB (fun _ _ f => f))).mono ?_; rintro e wA ⟨vA, rfl, oA, kA⟩; have cA := conv_own oA; try have cB' := conv_own (own_only oB kA (fun _ _ f => f)))
        | (go_at_call 24; refine (HR.out _ (by first | exact (Only.refl _ _).drew | exact (Only.refl _ _).drew.trans kA (fun _ _ f => f))).mono ?_; rintro e wB ⟨vB, rfl, oB, kB⟩; have cB := conv_own oB; try have cA' := conv_own (own_only oA kB (fun _ _ f => f)))))
      all_goals
        go_wp2
        go_ret
        refine ⟨rfl, ?_⟩
        first
          | exact (HK3.out.drew.trans kA (fun _ _ f => f)).trans kB (fun _ _ f => f)
          | exact (HK3.out.drew.trans kB (fun _ _ f => f)).trans kA (fun _ _ f => f)
end Go.Proofs.Ytephpgiiljjieab
