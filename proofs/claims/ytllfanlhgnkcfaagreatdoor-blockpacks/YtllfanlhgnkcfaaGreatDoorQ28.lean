/-
  Kbyt, Ksrc, Kown, Kcopy, Ksame.
-/
import Derived.Test.YtllfanlhgnkcfaaGreatDoorQ23
import Derived.Test.YtllfanlhgnkcfaaGreatDoorQ24
import Derived.Test.YtllfanlhgnkcfaaGreatDoorQ25
import Derived.Test.YtllfanlhgnkcfaaGreatDoorQ26
import Derived.Lib.AppendZeros
import Derived.Lib.AppendStr
import Derived.BigQuiet
import Derived.Deep.QuietTactic
import Derived.Test.YtllfanlhgnkcfaaGreatDoorQ12
import Derived.Test.YtllfanlhgnkcfaaGreatDoorQ15
import Derived.Test.YtllfanlhgnkcfaaGreatDoorQ27
namespace Go.Proofs.YtllfanlhgnkcfaaGreatDoor.K
open Go.RowKit Go.Proofs.Lys Go.Maps
open Go.Proofs.YtllfanlhgnkcfaaGreatDoor.N (ownN_slice ownN_lt ownN_only ownN_stay ownN_base ownN_typed ownN_some)
set_option linter.unusedVariables false
set_option linter.unusedSimpArgs false
abbrev BytAt (w : World) (B : Nat) (v : Value) (bs : List UInt8) : Prop := w.ownsRow B 5 1 v bs.length (bs.map bV)
theorem byt_app {w : World} {B : Nat} {v xv : Value} {bs ps : List UInt8} (h : BytAt w B v bs) (hs : SrcOf w xv (ps.map bV)) (hl : bs.length + ps.length ≤ 100000000) (hB : B ≤ w.heap.size) :
  ∃ a n c w', Hid ((Builtin.append_ #[28, 28] 0 #[v, xv]).run Tryz.prog w = .ok (.slice a n c) w') ∧ n = bs.length + ps.length ∧ Hid (BytAt w' B (.slice a n c) (bs ++ ps)) ∧ Hid (Only (fun j => v.ownBlock = some j) w w') := by
 obtain ⟨v', w', hr, h1, h2, h3⟩ := append_src (P := Tryz.prog) (base := B) Tryz.underlying28 Tryz.infoB rfl (by decide) h hs (bytes_one ps) (by rw [List.length_map]; omega) hB
 have h1' : BytAt w' B v' (bs ++ ps) := by
  unfold BytAt
  rw [List.length_append, List.map_append]
  rw [List.length_map] at h1
  exact h1
 obtain ⟨a, c, e⟩ := ownN_slice h1'
 rw [List.length_append] at e
 subst e
 exact ⟨a, _, c, w', hr, rfl, h1', (Only.refl _ w).grown h2 (fun j e _ => e)⟩
theorem byt_str {w : World} {B : Nat} {v : Value} {bs : List UInt8} (h : BytAt w B v bs) (s : ByteArray) (hl : bs.length + s.size ≤ 100000000) (hB : B ≤ w.heap.size) :
  ∃ a n c w', Hid ((Builtin.append_ #[28, 9] 0 #[v, .string s]).run Tryz.prog w = .ok (.slice a n c) w') ∧ n = bs.length + s.size ∧ Hid (BytAt w' B (.slice a n c) (bs ++ s.data.toList)) ∧ Hid (Only (fun j => v.ownBlock = some j) w w') := by
 obtain ⟨i0, hi0, hz0, hz1, hz2⟩ := info_parts Tryz.infoB
 obtain ⟨v', w', hr, h1, h2, _⟩ := Lib.run_append_own_string (P := Tryz.prog) (w := w) B 28 9 0 5 i0 Tryz.underlying28 Tryz.underlying9 hi0 hz0 hz1 hz2 v bs.length _ h s (by unfold maxLen; omega) (by omega) hB
 have hsl : s.data.toList.length = s.size := (Lib.size_eq s).symm
 have h1' : BytAt w' B v' (bs ++ s.data.toList) := by
  unfold BytAt
  rw [List.length_append, List.map_append, hsl]
  exact h1
 obtain ⟨a, c, e⟩ := ownN_slice h1'
 rw [List.length_append, hsl] at e
 subst e
 exact ⟨a, _, c, w', hr, rfl, h1', (Only.refl _ w).grown h2 (fun j e _ => e)⟩
set_option maxRecDepth 100000 in
set_option maxHeartbeats 1600000 in
theorem grow_nil (w : World) (n : Nat) (h0 : 0 < n) (hn : n ≤ 1000000) :
  Calls Tryz.prog 74 #[.slice none 0 0, .int .i64 (n : Int)] w fun e w' => ∃ a c, e = .returned (.slice a 0 c) ∧ BytAt w' w.heap.size (.slice a 0 c) [] ∧ Kept w w' := by
 obtain ⟨i0, hi0, hz0, hz1, hz2⟩ := info_parts Tryz.infoB
 have hrun := Lib.run_append_nil_zeros (P := Tryz.prog) w 28 3 0 5 i0 _ .i64 .i64 Tryz.underlying28 Tryz.underlying3 hi0 hz0 n h0 (by rw [hz1]; decide) (by omega) (by rw [hz2]; omega)
 have hge := grownCap_ge w n 0 5
 have hcm := grownCap_le_maxLen w n 0 5 (by unfold maxLen; omega)
 have hsz : (Builtin.zeroCells (Value.int .u8 0).cells n ++ Builtin.zeroCells (Value.int .u8 0).cells (grownCap w n 0 5 - n)).size = grownCap w n 0 5 := by
  rw [Array.size_append, size_zeroCells, size_zeroCells]
  simp [Value.cells]
  omega
 have HF : Hid (BytAt (w.drew.alloc (.cells (Builtin.zeroCells (Value.int .u8 0).cells n ++ Builtin.zeroCells (Value.int .u8 0).cells (grownCap w n 0 5 - n)) 5)) w.heap.size (.slice (some ⟨w.heap.size, 0, none⟩) 0 (grownCap w n 0 5)) [] ∧ Kept w (w.drew.alloc (.cells (Builtin.zeroCells (Value.int .u8 0).cells n ++ Builtin.zeroCells (Value.int .u8 0).cells (grownCap w n 0 5 - n)) 5))) := by
  refine ⟨⟨rfl, .inr ⟨w.heap.size, _, _, rfl, Nat.le_refl _, heap_alloc_new w.drew _, Nat.zero_le _, hcm, by rw [hsz]; omega, by simp⟩⟩, ((Only.refl _ w).drew).alloc _⟩
 have HR := hid hrun
 generalize w.drew.alloc (.cells (Builtin.zeroCells (Value.int .u8 0).cells n ++ Builtin.zeroCells (Value.int .u8 0).cells (grownCap w n 0 5 - n)) 5) = w2 at HF HR
 generalize grownCap w n 0 5 = CAP at HF HR hge
 clear hrun hcm hsz hi0 hz0 hz1 hz2 i0
 have hn0 : ¬ (n : Int) < 0 := by omega
 have hn1 : (0 : Int) < (n : Int) := by omega
 have hsl1 : ∀ W : World, (Instr.sliceAt 28 (.slice none 0 0) none (some (.int .i64 0)) none).run Tryz.prog W = .ok (.slice none 0 0) W := fun W => by kernel_rfl
 have hzB : ∀ W : World, (sizeOf 5).run Tryz.prog W = .ok 1 W := fun W => by kernel_rfl
 have hsl2 : ∀ W : World, (Instr.sliceAt 28 (.slice (some ⟨w.heap.size, 0, none⟩) n CAP) none (some (.int .i64 0)) none).run Tryz.prog W = .ok (.slice (some ⟨w.heap.size, 0, none⟩) 0 CAP) W := fun W => by
  simp [Instr.sliceAt, Instr.slice, Instr.sliceBounds, Instr.sliceBound, run_underlying Tryz.underlying28, asIntOf, Result.andThen, hzB]
  intro _
  rfl
 go_enter Tryz.func74, Tryz.ntmps74
 go_wp2_with (at_builtin; refine Lib.wpList_append_run _ rfl _ _ _ _ rfl _ _ rfl rfl _ _ HR.out ?_)
 (try go_wp2_with fail)
 go_ret
 exact ⟨_, _, rfl, HF.out.1, HF.out.2⟩
set_option maxRecDepth 100000 in
set_option maxHeartbeats 6400000 in
theorem concat4_any (w : World) (sb : Nat) (u1 u2 u3 u4 : Value) (b1 b2 b3 b4 : List UInt8) (hb : Blk w sb [u1, u2, u3, u4] 28) (h1 : SrcOf w u1 (b1.map bV)) (h2 : SrcOf w u2 (b2.map bV)) (h3 : SrcOf w u3 (b3.map bV)) (h4 : SrcOf w u4 (b4.map bV))
  (hl : 0 < b1.length) (hl1 : b1.length ≤ 1000) (hl2 : b2.length ≤ 1000) (hl3 : b3.length ≤ 1000) (hl4 : b4.length ≤ 1000) :
  Calls Tryz.prog 48 #[.slice (some ⟨sb, 0, none⟩) 4 4] w fun e w' => ∃ v, e = .returned v ∧ BytAt w' w.heap.size v (b1 ++ b2 ++ b3 ++ b4) ∧ Kept w w' := by
 obtain ⟨a1, c1, e1⟩ := h1.len
 obtain ⟨a2, c2, e2⟩ := h2.len
 obtain ⟨a3, c3, e3⟩ := h3.len
 obtain ⟨a4, c4, e4⟩ := h4.len
 rw [List.length_map] at e1 e2 e3 e4
 have HG := hid (grow_nil w (b1.length + b2.length + b3.length + b4.length) (by omega) (by omega))
 have HB := hid hb
 have H1 := hid h1
 have H2 := hid h2
 have H3 := hid h3
 have H4 := hid h4
 obtain ⟨N1, hN1⟩ : ∃ N1, b1.length = N1 := ⟨_, rfl⟩
 obtain ⟨N2, hN2⟩ : ∃ N2, b2.length = N2 := ⟨_, rfl⟩
 obtain ⟨N3, hN3⟩ : ∃ N3, b3.length = N3 := ⟨_, rfl⟩
 obtain ⟨N4, hN4⟩ : ∃ N4, b4.length = N4 := ⟨_, rfl⟩
 rw [hN1, hN2, hN3, hN4] at HG
 rw [hN1] at e1 hl1 hl
 rw [hN2] at e2 hl2
 rw [hN3] at e3 hl3
 rw [hN4] at e4 hl4
 have HN := hid (And.intro hN1 (And.intro hN2 (And.intro hN3 hN4)))
 subst e1 e2 e3 e4
 have x0 := hb.cell 0 rfl
 have x1 := hb.cell 1 rfl
 have x2 := hb.cell 2 rfl
 have x3 := hb.cell 3 rfl
 clear hb h1 h2 h3 h4 hN1 hN2 hN3 hN4
 obtain ⟨M2, hM2⟩ : ∃ M, N1 + N2 = M := ⟨_, rfl⟩
 obtain ⟨M3, hM3⟩ : ∃ M, M2 + N3 = M := ⟨_, rfl⟩
 obtain ⟨M4, hM4⟩ : ∃ M, M3 + N4 = M := ⟨_, rfl⟩
 rw [hM2, hM3, hM4] at HG
 have w1 : (N1 : Int) + (N2 : Int) = (M2 : Int) := by omega
 have w2 : (M2 : Int) + (N3 : Int) = (M3 : Int) := by omega
 have w3 : (M3 : Int) + (N4 : Int) = (M4 : Int) := by omega
 have n1 : ¬ (N1 : Int) < 0 := by omega
 have n2 : ¬ (M2 : Int) < 0 := by omega
 have n3 : ¬ (M3 : Int) < 0 := by omega
 have n4 : ¬ (M4 : Int) < 0 := by omega
 go_enter Tryz.func48, Tryz.ntmps48
 go_wp2
 refine wp_loop_rounds 5 ?_
 rw [rounds_succ]
 go_wp2
 rw [rounds_succ]
 go_wp2
 rw [rounds_succ]
 go_wp2
 rw [rounds_succ]
 go_wp2
 rw [rounds_succ]
 go_wp2_with fail
 refine HG.out.mono ?_
 rintro e w3' ⟨a6, c6, rfl, hat6, k6⟩
 have K6 := hid k6
 obtain ⟨e1, e2, e3, e4⟩ := HN.out
 obtain ⟨p1, q1, r1, y1, R1, hn1, hat1, ho1⟩ := byt_app hat6 (H1.out.stay k6) (by simp; omega) k6.size
 have hk1 : Kept w y1 := k6.trans ho1.out (fun j hj e => by have := (ownN_lt hat6 e).1; omega)
 obtain ⟨p2, q2, r2, y2, R2, hn2, hat2, ho2⟩ := byt_app hat1.out (H2.out.stay hk1) (by simp; omega) hk1.size
 have hk2 : Kept w y2 := hk1.trans ho2.out (fun j hj e => by have := (ownN_lt hat1.out e).1; omega)
 obtain ⟨p3, q3, r3, y3, R3, hn3, hat3, ho3⟩ := byt_app hat2.out (H3.out.stay hk2) (by simp; omega) hk2.size
 have hk3 : Kept w y3 := hk2.trans ho3.out (fun j hj e => by have := (ownN_lt hat2.out e).1; omega)
 obtain ⟨p4, q4, r4, y4, R4, hn4, hat4, ho4⟩ := byt_app hat3.out (H4.out.stay hk3) (by simp; omega) hk3.size
 have HK4 := hid (show Kept w y4 from hk3.trans ho4.out (fun j hj e => by have := (ownN_lt hat3.out e).1; omega))
 have g0 := (k6.blk HB.out (fun f => f)).cell 0 rfl
 have g1 := (hk1.blk HB.out (fun f => f)).cell 1 rfl
 have g2 := (hk2.blk HB.out (fun f => f)).cell 2 rfl
 have g3 := (hk3.blk HB.out (fun f => f)).cell 3 rfl
 have HA : Hid (BytAt y4 w.heap.size (.slice p4 q4 r4) (b1 ++ b2 ++ b3 ++ b4)) := by simpa using hat4
 clear hat6 k6 hat1 ho1 hat2 ho2 hat3 ho3 hat4 ho4 hn1 hn2 hn3 hn4 hk1 hk2 hk3 x0 x1 x2 x3 HG e1 e2 e3 e4
 go_wp2_with fail
 refine wp_loop_rounds 5 ?_
 rw [rounds_succ]
 go_wp2_with (at_builtin; refine Lys.wpList_append_run rfl _ _ _ rfl rfl rfl R1 ?_)
 (try go_wp2_with fail)
 rw [rounds_succ]
 go_wp2_with (at_builtin; refine Lys.wpList_append_run rfl _ _ _ rfl rfl rfl R2 ?_)
 (try go_wp2_with fail)
 rw [rounds_succ]
 go_wp2_with (at_builtin; refine Lys.wpList_append_run rfl _ _ _ rfl rfl rfl R3 ?_)
 (try go_wp2_with fail)
 rw [rounds_succ]
 go_wp2_with (at_builtin; refine Lys.wpList_append_run rfl _ _ _ rfl rfl rfl R4 ?_)
 (try go_wp2_with fail)
 rw [rounds_succ]
 go_wp2
 go_ret
 exact ⟨_, rfl, HA.out, HK4.out⟩
end Go.Proofs.YtllfanlhgnkcfaaGreatDoor.K
namespace Go.Proofs.YtllfanlhgnkcfaaGreatDoor.K
open Go.RowKit Go.Proofs.Lys Go.Maps
set_option linter.unusedVariables false
set_option linter.unusedSimpArgs false
def SerIn (w : World) (v : Value) (l : List Ser) : Prop :=
 (∃ a c, v = .slice a 0 c ∧ l = []) ∨ (0 < l.length ∧ ∃ b o c, v = .slice (some ⟨b, o, none⟩) l.length c ∧ ∀ i (hi : i < l.length), ∃ lv sv, w.cell? ⟨b, o + i * 2, none⟩ = some lv ∧ w.cell? ⟨b, o + i * 2 + 1, none⟩ = some sv ∧ N.LabSrc w lv l[i].1 ∧ C.SSrc w sv l[i].2)
theorem cell_kept {w W : World} (k : Kept w W) {a : Addr} {v : Value} (h : w.cell? a = some v) : W.cell? a = some v := by
 rw [World.cell?_of_block (k.block _ (World.block_lt_of_cell? w _ h) (fun f => f))]
 exact h
theorem SerIn.stay {w W : World} {v : Value} {l : List Ser} (h : SerIn w v l) (k : Kept w W) : SerIn W v l := by
 rcases h with h | ⟨h0, b, o, c, e, hc⟩
 ·exact .inl h
 ·refine .inr ⟨h0, b, o, c, e, fun i hi => ?_⟩
  obtain ⟨lv, sv, c1, c2, h1, h2⟩ := hc i hi
  exact ⟨lv, sv, cell_kept k c1, cell_kept k c2, h1.stay k, h2.stay k⟩
theorem SerIn.len {w : World} {v : Value} {l : List Ser} (h : SerIn w v l) : ∃ a c, v = .slice a l.length c := by
 rcases h with ⟨a, c, e, h0⟩ | ⟨_, b, o, c, e, _⟩
 ·exact ⟨a, c, by rw [h0]; exact e⟩
 ·exact ⟨_, c, e⟩
theorem SerIn.cell {w : World} {a : Option Addr} {n c : Nat} {l : List Ser} (h : SerIn w (.slice a n c) l) (hn : l.length = n) (k : Nat) (hk : k < n) :
  ∃ b o la lc sa sc, a = some ⟨b, o, none⟩ ∧ w.cell? ⟨b, o + k * 2, none⟩ = some (.slice la (l[k]'(by omega)).1.length lc) ∧ w.cell? ⟨b, o + k * 2 + 1, none⟩ = some (.slice sa (l[k]'(by omega)).2.length sc) ∧ N.LabSrc w (.slice la (l[k]'(by omega)).1.length lc) (l[k]'(by omega)).1 ∧ C.SSrc w (.slice sa (l[k]'(by omega)).2.length sc) (l[k]'(by omega)).2 := by
 rcases h with ⟨a', c', e, h0⟩ | ⟨_, b, o, c', e, hc⟩
 ·subst h0
  simp at hn
  omega
 ·simp only [Value.slice.injEq] at e
  obtain ⟨lv, sv, c1, c2, h1, h2⟩ := hc k (by omega)
  obtain ⟨la, lc, rfl⟩ := h1.len
  obtain ⟨sa, sc, rfl, _⟩ := id h2.2
  exact ⟨b, o, la, lc, sa, sc, e.1, c1, c2, h1, h2⟩
theorem first_at {s : Ser} {k : Nat} (hk : k < s.2.length) : (s.2.getD k (0, 0)).1 = s.2[k].1 := by
 rw [List.getD_eq_getElem?_getD, List.getElem?_eq_getElem hk]
 rfl
set_option maxRecDepth 100000 in
set_option maxHeartbeats 3200000 in
theorem span_any (w : World) (v : Value) (l : List Ser) (hs : SerIn w v l) (hl : l.length ≤ 1000) (hT : ∀ s ∈ l, s.2 ≠ [] ∧ s.2.length ≤ 100000 ∧ ∀ x ∈ s.2, -9007199254740992 ≤ x.1 ∧ x.1 ≤ 9007199254740992) :
  Calls Tryz.prog 25 #[v] w fun e w' => e = .returned (.tuple #[.int .i64 (spanB l).1, .int .i64 (spanB l).2]) ∧ Kept w w' := by
 obtain ⟨a, c, rfl⟩ := hs.len
 obtain ⟨N, hN⟩ : ∃ N, l.length = N := ⟨_, rfl⟩
 rw [hN] at hs hl ⊢
 have HN := hid hN
 have HS := hid hs
 have HT := hid hT
 clear hs hT hN
 go_enter Tryz.func25, Tryz.ntmps25
 go_wp2_with fail
 go_loopw [2, 3, 10] (fun s2 s3 s10 wr => ∃ (k : Nat) (F T : Int), k ≤ N ∧ s10 = .int .i64 (k : Int) ∧ s2 = .int .i64 F ∧ s3 = .int .i64 T ∧ Hid ((F, T) = spanB (l.take k)) ∧ Kept w wr) (fun _ _ s10 _ => N - (intOf s10).toNat)
 case atStart => exact ⟨0, 0, 0, by omega, rfl, rfl, rfl, hid rfl, Only.refl _ _⟩
 case round =>
  obtain ⟨k, F, T, hk, rfl, rfl, rfl, hsp, kr⟩ := hrel
  by_cases hlt : k < N
  ·have hkl : k < l.length := by have := HN.out; omega
   obtain ⟨b, o, la, lc, sa, sc, rfl, c0, c1, h0, h1⟩ := (HS.out.stay kr).cell HN.out k hlt
   obtain ⟨hne, hln, hbd⟩ := HT.out l[k] (List.getElem_mem hkl)
   have hpos : 0 < l[k].2.length := List.length_pos_iff.2 hne
   obtain ⟨sb, so, rfl, y0, y1⟩ := h1.1.cell rfl 0 hpos
   obtain ⟨_, _, e2, z0, z1⟩ := h1.1.cell rfl (l[k].2.length - 1) (by omega)
   clear y1 z1
   simp only [Option.some.injEq, Addr.mk.injEq] at e2
   obtain ⟨rfl, rfl, _⟩ := e2
   have hF := hbd _ (List.getElem_mem hpos)
   have hL := hbd _ (List.getElem_mem (show l[k].2.length - 1 < l[k].2.length by omega))
   have HSP : Hid (spanB (l.take (k + 1)) = spanS (if k = 0 then (l[k].2[0].1, l[k].2[l[k].2.length - 1].1 + 1) else (F, T)) l[k]) := by
    show _ = _
    rw [List.take_succ_eq_append_getElem hkl, span_snoc]
    unfold firstT lastT
    rw [first_at hpos, first_at (by omega)]
    by_cases e : k = 0
    ·subst e
     simp
    ·rw [if_neg e, if_neg (fun e2 => by have := congrArg List.length e2; rw [List.length_take, List.length_nil] at this; omega), hsp.out]
   have HSS : Hid (∀ p : Int × Int, spanS p l[k] = (min p.1 l[k].2[0].1, max p.2 (l[k].2[l[k].2.length - 1].1 + 1))) := fun p => by
    unfold spanS firstT lastT
    rw [first_at hpos, first_at (by omega)]
   generalize l[k].2[0].1 = FT at y0 hF HSP HSS
   generalize l[k].2[l[k].2.length - 1].1 = LT at z0 hL HSP HSS
   generalize hSL : l[k].2.length = SL at c1 z0 hpos hln
   generalize l[k].1.length = LL at c0
   obtain ⟨SP, hSP⟩ : ∃ SP : Nat, SL = SP + 1 := ⟨SL - 1, by omega⟩
   subst hSP
   rw [show SP + 1 - 1 = SP by omega] at z0
   have KR := hid kr
   clear h0 h1 hne hbd hSL hsp kr
   go_wp2_with fail
   obtain ⟨W1, hW1⟩ : ∃ W1, wr.alloc (.cells #[.slice la LL lc, .slice (some ⟨sb, so, none⟩) (SP + 1) sc] 48) = W1 := ⟨_, rfl⟩
   have hk1 : Kept wr W1 := by rw [← hW1]; exact (Only.refl _ wr).alloc _
   have hb1 : Blk W1 wr.heap.size [.slice la LL lc, .slice (some ⟨sb, so, none⟩) (SP + 1) sc] 48 := by rw [← hW1]; exact Blk.new wr _ _
   have d1 := hb1.cell 1 rfl
   have y1 : W1.cell? ⟨sb, so, none⟩ = some (.int .i64 FT) := by have := cell_kept hk1 y0; simpa using this
   have z1 := cell_kept hk1 z0
   rw [hW1]
   have HK1 := hid (KR.out.trans hk1 (fun _ _ f => f))
   have i1 : ((SP + 1 : Nat) : Int) - 1 = (SP : Int) := by omega
   generalize wr.heap.size = BX at *
   clear hW1 hk1 hb1 c0 c1 y0 z0 KR
   go_quiet (fail)
   have HK2 := hid (show Kept w (W1.drewN nq) from Go.Proofs.YtllfanlhgnkcfaaGreatDoor.G.kept_drewN HK1.out nq)
   generalize W1.drewN nq = W2 at HK2 ⊢
   clear d1 y1 z1
   by_cases e : k = 0
   ·subst e
    rw [if_pos rfl, HSS.out] at HSP
    have e1 : min (FT, LT + 1).1 FT = FT := by simp
    have e2 : max (FT, LT + 1).2 (LT + 1) = LT + 1 := by simp
    rw [e1, e2] at HSP
    go_wp2_with fail
    refine ⟨⟨1, FT, LT + 1, by omega, rfl, rfl, rfl, hid HSP.out.symm, HK2.out⟩, ?_⟩
    simp [intOf]
    omega
   ·rw [if_neg e, HSS.out] at HSP
    have e0 : ((k : Int) == 0) = false := by simp; omega
    have e0' : ¬ (k : Int) = 0 := by omega
    go_wp2_with fail
    refine ⟨⟨k + 1, min F FT, max T (LT + 1), by omega, by go_num, rfl, rfl, hid HSP.out.symm, HK2.out⟩, ?_⟩
    simp [intOf]
    omega
  ·obtain rfl : N = k := by omega
   have HF : Hid ((F, T) = spanB l) := by
    have h1 := hsp.out
    rw [List.take_of_length_le (by have := HN.out; omega)] at h1
    exact h1
   clear hsp
   go_wp2
   go_ret2
   rw [← HF.out]
   exact ⟨rfl, kr⟩
end Go.Proofs.YtllfanlhgnkcfaaGreatDoor.K
namespace Go.Proofs.YtllfanlhgnkcfaaGreatDoor.K
open Go.RowKit Go.Proofs.Lys Go.Maps
open Go.Proofs.YtllfanlhgnkcfaaGreatDoor.N (ownN_slice ownN_lt ownN_only ownN_stay ownN_base ownN_typed ownN_some Labs LabAt)
open Go.Proofs.YtllfanlhgnkcfaaGreatDoor.C (Smps)
set_option linter.unusedVariables false
set_option linter.unusedSimpArgs false
structure SV where
 lv : Value
 sv : Value
 labs : Labs
 smps : Smps
def SV.has (x : SV) (k : Nat) : Prop := x.lv.ownBlock = some k ∨ x.sv.ownBlock = some k
def SV.ser (x : SV) : Ser := (x.labs, x.smps)
def svL : List SV → List Value
 | [] => []
 | x :: r => x.lv :: x.sv :: svL r
theorem svL_app (l r : List SV) : svL (l ++ r) = svL l ++ svL r := by
 induction l with
 | nil => rfl
 | cons p l ih => rw [List.cons_append, svL, ih, svL]; rfl
theorem svL_at (l : List SV) (i : Nat) (h : i < l.length) : (svL l)[i * 2]? = some l[i].lv ∧ (svL l)[i * 2 + 1]? = some l[i].sv := by
 induction l generalizing i with
 | nil => simp at h
 | cons p r ih =>
  cases i with
  | zero => exact ⟨rfl, rfl⟩
  | succ i =>
   have := ih i (by simpa using h)
   rw [show (i + 1) * 2 = i * 2 + 2 by omega]
   exact this
theorem Tryz.infoSer : (Tryz.prog.info? 48).map (fun i => (i.zero, i.size, i.bytes)) = some (some (.agg #[.slice none 0 0, .slice none 0 0]), 2, 48) := by kernel_rfl
structure SerAt (w : World) (B : Nat) (v : Value) (xs : List SV) : Prop where
 row : w.ownsRow B 48 2 v xs.length (svL xs)
 lab : ∀ x ∈ xs, LabAt w B x.lv x.labs
 smp : ∀ x ∈ xs, SmpAt w B x.sv x.smps
 apart : xs.Pairwise (fun a b => ∀ k, a.has k → ¬ b.has k)
theorem SerAt.only {w w' : World} {B : Nat} {v : Value} {xs : List SV} {O : Nat → Prop} (h : SerAt w B v xs) (k : Only O w w') (hO : ∀ j, B ≤ j → j < w.heap.size → ¬ O j) : SerAt w' B v xs :=
 ⟨ownN_only h.row k (fun b hb => hO b (ownN_lt h.row hb).1 (ownN_lt h.row hb).2), fun x hx => ownN_only (h.lab x hx) k (fun b hb => hO b (ownN_lt (h.lab x hx) hb).1 (ownN_lt (h.lab x hx) hb).2), fun x hx => ownN_only (h.smp x hx) k (fun b hb => hO b (ownN_lt (h.smp x hx) hb).1 (ownN_lt (h.smp x hx) hb).2), h.apart⟩
theorem SerAt.stay {w w' : World} {B : Nat} {v : Value} {xs : List SV} (h : SerAt w B v xs) (k : Kept w w') : SerAt w' B v xs := h.only k (fun _ _ _ f => f)
theorem SerAt.nil (w : World) (B : Nat) : SerAt w B (.slice none 0 0) [] := ⟨World.ownsRow_nil _ _ _ _, (fun x hx => by cases hx), (fun x hx => by cases hx), .nil⟩
theorem SerAt.base {w : World} {B B' : Nat} {v : Value} {xs : List SV} (h : SerAt w B v xs) (hb : B' ≤ B) : SerAt w B' v xs :=
 ⟨ownN_base h.row hb, fun x hx => ownN_base (h.lab x hx) hb, fun x hx => ownN_base (h.smp x hx) hb, h.apart⟩
theorem serL_app {w : World} {B : Nat} {v : Value} {xs : List SV} (hown : SerAt w B v xs) (hB : B ≤ w.heap.size) (hl : xs.length ≤ 10000000) (x : SV) (hlab : LabAt w B x.lv x.labs) (hsmp : SmpAt w B x.sv x.smps) (hap : ∀ y ∈ xs, ∀ k, y.has k → ¬ x.has k) :
  ∃ v' w', Hid ((Builtin.append_ #[22, 22] 0 #[v, .slice (some ⟨w.heap.size, 0, none⟩) 1 1]).run Tryz.prog (w.alloc (.cells #[x.lv, x.sv] 48)) = .ok v' w') ∧ SerAt w' B v' (xs ++ [x]) ∧ Only (fun k => v.ownBlock = some k) w w' := by
 obtain ⟨i0, hi0, hz0, hz1, hz2⟩ := info_parts Tryz.infoSer
 have k1 : Kept w (w.alloc (.cells #[x.lv, x.sv] 48)) := (Only.refl _ w).alloc _
 have hb := Blk.new w [x.lv, x.sv] 48
 have h1 : ∀ u ∈ [x.lv, x.sv], u.oneCell' = true := by
  intro u hu
  simp at hu
  rcases hu with rfl | rfl
  ·obtain ⟨a, c, e⟩ := ownN_slice hlab
   rw [e]; rfl
  ·obtain ⟨a, c, e⟩ := ownN_slice hsmp
   rw [e]; rfl
 obtain ⟨v', w', hr, h2, h3, _, h5⟩ := run_append_own_at (P := Tryz.prog) (w.alloc (.cells #[x.lv, x.sv] 48)) B _ 0 _ i0 _ 2 48 Tryz.underlying22 hi0 hz0 hz1 hz2 rfl (by decide) v xs.length (svL xs) (ownN_stay hown.row k1) ⟨w.heap.size, 0, none⟩ 1 1 [x.lv, x.sv] rfl
   (fun j u hu => by rw [add_none, Nat.zero_add]; exact hb.cell j hu) h1 (by unfold maxLen; omega) (by omega) (by have := k1.size; omega)
 have kk : Only (fun k => v.ownBlock = some k) w w' := (k1.mono (fun _ _ f => f.elim)).grown h3 (fun k e _ => e)
 have hne : ∀ {T : TypeId} {j : Nat}, T ≠ 48 → Typed w j T → ¬ v.ownBlock = some j := fun hT hj e => hj.ne (ownN_typed hown.row e) hT rfl
 refine ⟨v', w', hr, ⟨?_, fun y hy => ?_, fun y hy => ?_, ?_⟩, kk⟩
 ·rw [List.length_append, svL_app]
  exact h2
 ·rcases List.mem_append.1 hy with hy | hy
  ·exact ownN_only (hown.lab y hy) kk (fun b hb => hne (by decide) (ownN_typed (hown.lab y hy) hb))
  ·rw [List.mem_singleton.1 hy]
   exact ownN_only hlab kk (fun b hb => hne (by decide) (ownN_typed hlab hb))
 ·rcases List.mem_append.1 hy with hy | hy
  ·exact ownN_only (hown.smp y hy) kk (fun b hb => hne (by decide) (ownN_typed (hown.smp y hy) hb))
  ·rw [List.mem_singleton.1 hy]
   exact ownN_only hsmp kk (fun b hb => hne (by decide) (ownN_typed hsmp hb))
 ·refine List.pairwise_append.2 ⟨hown.apart, List.pairwise_singleton _ _, fun a ha b hb => ?_⟩
  rw [List.mem_singleton.1 hb]
  exact hap a ha
theorem SerAt.serIn {w : World} {B : Nat} {v : Value} {xs : List SV} (h : SerAt w B v xs) : SerIn w v (xs.map SV.ser) := by
 by_cases h0 : xs.length = 0
 ·have : xs = [] := List.length_eq_zero_iff.1 h0
  subst this
  obtain ⟨a, c, e⟩ := ownN_slice h.row
  exact .inl ⟨a, c, e, rfl⟩
 ·obtain ⟨g, cap, rfl⟩ := ownN_some h.row (by omega)
  refine .inr ⟨by rw [List.length_map]; omega, g, 0, cap, by rw [List.length_map], fun i hi => ?_⟩
  rw [List.length_map] at hi
  have hx := svL_at xs i hi
  simp only [List.getElem_map, Nat.zero_add]
  refine ⟨_, _, by rw [h.row.cellAt (i * 2) (by omega)]; exact hx.1, by rw [h.row.cellAt (i * 2 + 1) (by omega)]; exact hx.2, (h.lab _ (List.getElem_mem hi)).src, SmpAt.src (h.smp _ (List.getElem_mem hi)), ?_⟩
  have hs := h.smp _ (List.getElem_mem hi)
  rcases hs.2 with ⟨e, h1⟩ | ⟨g', cap', cur, e, _, _, hcap, _⟩
  ·exact ⟨none, 0, by rw [e]; show Value.slice none 0 0 = .slice none (xs[i].smps).length 0; rw [h1], by show (xs[i].smps).length ≤ 0; omega⟩
  ·exact ⟨_, cap', e, hcap⟩
end Go.Proofs.YtllfanlhgnkcfaaGreatDoor.K
namespace Go.Proofs.YtllfanlhgnkcfaaGreatDoor.K
open Go Go.RowKit Go.Proofs.Lys Go.Maps
open Go.Proofs.YtllfanlhgnkcfaaGreatDoor.N (ownN_slice ownN_lt ownN_only ownN_stay ownN_base ownN_typed ownN_some Labs LabAt LabSrc lab_copy)
open Go.Proofs.YtllfanlhgnkcfaaGreatDoor.C (Smps)
set_option linter.unusedVariables false
set_option linter.unusedSimpArgs false
theorem wp_region_thenK {P : Program} {id : Nat} {ops : Array Oper} {b : Bool} {Q : Exit → Act → World → Prop} {a : Act} {w : World} {A : Nat → Nat → Value → Value → Value → Act} (D : Value → World → Prop)
  (h1 : (Code.region id ops b).wp P (fun e a' w' => e = .normal ∧ ∃ bl br v3 v4 v5, a' = A bl br v3 v4 v5 ∧ D v5 w') a w) (h2 : ∀ bl br v3 v4 v5 w', D v5 w' → Q .normal (A bl br v3 v4 v5) w') : (Code.region id ops b).wp P Q a w :=
 Code.wp_mono (fun e a' w' h => by obtain ⟨rfl, bl, br, v3, v4, v5, rfl, hD⟩ := h; exact h2 bl br v3 v4 v5 w' hD) h1
theorem oper_appendK {P : Program} {w : World} {o : Oper} {a : Act} {K : Act → World → Prop} {Q : Exit → Act → World → Prop} (s x : Operand) (t : TypeId)
  (ho : o.op = .call { callee := .builtin .append, args := #[s, x], argTypes := #[t, t] }) {sv xv : Value} (hs : a.eval s = sv) (hx : a.eval x = xv) {v : Value} {w' : World}
  (hrun : Hid ((Builtin.append_ #[t, t] 0 #[sv, xv]).run P w = .ok v w')) (h : K (a.put o.dst v) w') : Oper.wp P o a w K Q := by
 have hr : (Builtin.append_ #[t, t] o.type #[sv, xv]).run P w = .ok v w' := hrun.out
 unfold Oper.wp execOp
 simp only [ho, resolve, invoke, builtin, Sem.run_bind, Sem.run_pure, Result.andThen_ok, List.map_toArray, List.map_cons, List.map_nil, hs, hx, hr]
 exact h
structure CpD (w wr : World) (xs : List Ser) (k : Nat) (v : Value) (X : World) : Prop where
 next : ∃ qs : List SV, SerAt X w.heap.size v qs ∧ qs.map SV.ser = xs.take (k + 1)
 all : Kept w X
structure CpP (wr : World) (x : Ser) (v3 v4 : Value) (X : World) : Prop where
 kept : Kept wr X
 lab : LabAt X wr.heap.size v3 x.1
 smp : SmpAt X wr.heap.size v4 x.2
 ne : ∀ j, v3.ownBlock = some j → v4.ownBlock ≠ some j
theorem cp_lab {wr : World} {lv : Value} {l : Labs} (hs : LabSrc wr lv l) (hl : l.length ≤ 100000) (X : World) (k : Kept wr X) :
  ∃ v X', Hid ((Builtin.append_ #[45, 45] 0 #[.slice none 0 0, lv]).run Tryz.prog X = .ok v X') ∧ LabAt X' X.heap.size v l ∧ Kept X X' := by
 obtain ⟨a3, c3, w2, r3, o3, k2⟩ := lab_copy (hs.stay k) (by omega)
 exact ⟨_, w2, r3, o3, k2⟩
theorem cp_smp {wr : World} {sv : Value} {s : Smps} (hs : SmpSrc wr sv s) (hl : s.length ≤ 100000) (X : World) (k : Kept wr X) :
  ∃ v X', Hid ((Builtin.append_ #[46, 46] 0 #[.slice none 0 0, sv]).run Tryz.prog X = .ok v X') ∧ SmpAt X' X.heap.size v s ∧ Kept X X' := by
 obtain ⟨a3, c3, w2, r3, o3, k2⟩ := smp_copy (hs.stay k) hl
 exact ⟨_, w2, r3, o3, k2⟩
theorem cp_tail {w wr : World} {xs : List Ser} {k : Nat} {ov : Value} {qs : List SV} (hq : SerAt wr w.heap.size ov qs) (hm : qs.map SV.ser = xs.take k) (hk : k < xs.length) (kw : Kept w wr) (hl : xs.length ≤ 100000) (v3 v4 : Value) (X : World) (hP : CpP wr (xs[k].1, xs[k].2) v3 v4 X) :
  ∃ v5 X5, Hid ((Builtin.append_ #[22, 22] 0 #[ov, .slice (some ⟨X.heap.size, 0, none⟩) 1 1]).run Tryz.prog (X.alloc (.cells #[v3, v4] 48)) = .ok v5 X5) ∧ CpD w wr xs k v5 X5 := by
 have hz := kw.size
 have hql : qs.length ≤ 100000 := by
  have : (qs.map SV.ser).length = (xs.take k).length := by rw [hm]
  rw [List.length_map, List.length_take] at this
  omega
 obtain ⟨v5, X5, r5, h5, o5⟩ := serL_app (hq.stay hP.kept) (Nat.le_trans hz hP.kept.size) (by omega) ⟨v3, v4, xs[k].1, xs[k].2⟩ (ownN_base hP.lab hz) (ownN_base hP.smp hz) (fun y hy j h1 h2 => by
  have hlt : j < wr.heap.size := by
   rcases h1 with h1 | h1
   ·exact (ownN_lt (hq.lab y hy) h1).2
   ·exact (ownN_lt (hq.smp y hy) h1).2
  rcases h2 with h2 | h2
  ·have := (ownN_lt hP.lab h2).1
   omega
  ·have := (ownN_lt hP.smp h2).1
   omega)
 refine ⟨v5, X5, r5, ⟨_, h5, ?_⟩, ?_⟩
 ·rw [List.map_append, hm, ← List.take_append_getElem hk]
  rfl
 ·exact (kw.trans hP.kept (fun _ _ f => f)).trans o5 (fun j hj e => by have := (ownN_lt (hq.stay hP.kept).row e).1; omega)
set_option maxRecDepth 100000 in
set_option maxHeartbeats 4000000 in
theorem rcopy_any (w : World) (v : Value) (xs : List Ser) (hs : SerIn w v xs) (hl : xs.length ≤ 100000) (hll : ∀ x ∈ xs, x.1.length ≤ 100000 ∧ x.2.length ≤ 100000) :
  Calls Tryz.prog 6 #[v] w fun e w' => ∃ u, e = .returned u ∧ SerIn w' u xs ∧ Kept w w' := by
 obtain ⟨a1, c1, rfl⟩ := hs.len
 obtain ⟨L, hL⟩ : ∃ L, xs.length = L := ⟨_, rfl⟩
 rw [hL] at hs ⊢
 have HS := hid hs
 have HL := hid hL
 have HLL := hid hll
 have HXL := hid hl
 rw [hL] at hl
 clear hs hL hll
 go_enter Tryz.func6, Tryz.ntmps6
 go_wp2
 go_loopw [3, 4] (fun s1 s2 wr => ∃ (k : Nat) (qs : List SV), k ≤ L ∧ s2 = .int .i64 (k : Int) ∧ SerAt wr w.heap.size s1 qs ∧ qs.map SV.ser = xs.take k ∧ Kept w wr) (fun _ s _ => L - (intOf s).toNat)
 case atStart => exact ⟨0, [], by omega, rfl, SerAt.nil _ _, rfl, Only.refl _ _⟩
 case round =>
  obtain ⟨k, qs, hk, rfl, hq, hm, kr⟩ := hrel
  obtain ⟨oa, oc, ho⟩ := ownN_slice hq.row
  have HK := hid kr
  have HQ := hid hq
  have HM := hid hm
  by_cases hlt : k < L
  ·have hkl : k < xs.length := by have := HL.out; omega
   obtain ⟨b1, o1, la0, lc0, sa0, sc0, rfl, x1, y1, p1, q10⟩ := HS.out.cell HL.out k hlt
   have q1 := q10.1
   clear q10
   obtain ⟨hl1, hl2⟩ := HLL.out _ (List.getElem_mem hkl)
   have HTL := hid (cp_tail hq hm hkl kr HXL.out)
   have HCL := hid (cp_lab p1 hl1)
   have HCS := hid (cp_smp q1 hl2)
   obtain ⟨la, lc, e3⟩ : ∃ la lc, la = la0 ∧ lc = lc0 := ⟨_, _, rfl, rfl⟩
   obtain ⟨sa, sc, e4⟩ : ∃ sa sc, sa = sa0 ∧ sc = sc0 := ⟨_, _, rfl, rfl⟩
   obtain ⟨rfl, rfl⟩ := e3
   obtain ⟨rfl, rfl⟩ := e4
   have S0 : Hid (∀ W, Kept w W → W.cell? ⟨b1, o1 + k * 2, none⟩ = some _ ∧ W.cell? ⟨b1, o1 + k * 2 + 1, none⟩ = some _) := fun W kW => ⟨cell_kept kW x1, cell_kept kW y1⟩
   clear p1 q1 x1 y1 kr hq hm
   generalize hlb : (xs[k]'hkl).1 = lb at *
   generalize hsb : (xs[k]'hkl).2 = sb at *
   obtain ⟨ln, hln⟩ : ∃ ln, lb.length = ln := ⟨_, rfl⟩
   obtain ⟨sn, hsn⟩ : ∃ sn, sb.length = sn := ⟨_, rfl⟩
   rw [hln] at HCL S0
   rw [hsn] at HCS S0
   clear hln hsn hl1 hl2
   subst ho
   generalize ho : Value.slice oa qs.length oc = ov at *
   go_wp2_with fail
   apply wp_region_thenK (D := fun v5 X5 => CpD w wr xs k v5 X5)
   case h1 =>
    refine wp_region_noPanic ?_
    refine wp_region_last (L := 1000) (S := fun w' => Kept w w') (by kernel_rfl) ?_
    have hS : (fun w' : World => Kept w w') wr.drew := HK.out.drew
    refine wpAnyN_take (i := 0) (v := ov) rfl (by kernel_rfl) (by kernel_rfl) (by kernel_rfl) (by decide) (by kernel_rfl) (fun _ _ _ h => h) (Or.inl ⟨by rfl, ?_⟩) hS ?_
    ·(intro w' hSw; obtain ⟨s0, s1⟩ := S0.out w' hSw; clear hSw; go_simp)
    (try simp only [List.getElem_toArray, List.getElem_cons_succ, List.getElem_cons_zero])
    go_frame
    refine wpAnyN_take (i := 1) (v := .slice (some ⟨b1, o1, none⟩) L c1) rfl (by kernel_rfl) (by kernel_rfl) (by kernel_rfl) (by decide) (by kernel_rfl) (fun _ _ _ h => h) (Or.inl ⟨by rfl, ?_⟩) hS ?_
    ·(intro w' hSw; obtain ⟨s0, s1⟩ := S0.out w' hSw; clear hSw; go_simp)
    (try simp only [List.getElem_toArray, List.getElem_cons_succ, List.getElem_cons_zero])
    go_frame
    refine wpAnyN_take (i := 2) (v := .int .i64 (k : Int)) rfl (by kernel_rfl) (by kernel_rfl) (by kernel_rfl) (by decide) (by kernel_rfl) (fun _ _ _ h => h) (Or.inl ⟨by rfl, ?_⟩) hS ?_
    ·(intro w' hSw; obtain ⟨s0, s1⟩ := S0.out w' hSw; clear hSw; go_simp)
    (try simp only [List.getElem_toArray, List.getElem_cons_succ, List.getElem_cons_zero])
    go_frame
    refine wpAnyN_take (i := 3) (v := .pointer (some ⟨b1, o1 + k * 2, none⟩)) rfl (by kernel_rfl) (by kernel_rfl) (by kernel_rfl) (by decide) (by kernel_rfl) (fun _ _ _ h => h) (Or.inl ⟨by rfl, ?_⟩) hS ?_
    ·(intro w' hSw; obtain ⟨s0, s1⟩ := S0.out w' hSw; clear hSw; go_simp)
    (try simp only [List.getElem_toArray, List.getElem_cons_succ, List.getElem_cons_zero])
    go_frame
    refine wpAnyN_take (i := 4) (v := .pointer (some ⟨b1, o1 + k * 2, none⟩)) rfl (by kernel_rfl) (by kernel_rfl) (by kernel_rfl) (by decide) (by kernel_rfl) (fun _ _ _ h => h) (Or.inl ⟨by rfl, ?_⟩) hS ?_
    ·(intro w' hSw; obtain ⟨s0, s1⟩ := S0.out w' hSw; clear hSw; go_simp)
    (try simp only [List.getElem_toArray, List.getElem_cons_succ, List.getElem_cons_zero])
    go_frame
    refine wpAnyN_take (i := 5) (v := .slice la ln lc) rfl (by kernel_rfl) (by kernel_rfl) (by kernel_rfl) (by decide) (by kernel_rfl) (fun _ _ _ h => h) (Or.inl ⟨by rfl, ?_⟩) hS ?_
    ·(intro w' hSw; obtain ⟨s0, s1⟩ := S0.out w' hSw; clear hSw; go_simp)
    (try simp only [List.getElem_toArray, List.getElem_cons_succ, List.getElem_cons_zero])
    go_frame
    refine wpAnyN_take (i := 7) (v := .slice (some ⟨b1, o1, none⟩) L c1) rfl (by kernel_rfl) (by kernel_rfl) (by kernel_rfl) (by decide) (by kernel_rfl) (fun _ _ _ h => h) (Or.inl ⟨by rfl, ?_⟩) hS ?_
    ·(intro w' hSw; obtain ⟨s0, s1⟩ := S0.out w' hSw; clear hSw; go_simp)
    (try simp only [List.getElem_toArray, List.getElem_cons_succ, List.getElem_cons_zero])
    go_frame
    refine wpAnyN_take (i := 8) (v := .int .i64 (k : Int)) rfl (by kernel_rfl) (by kernel_rfl) (by kernel_rfl) (by decide) (by kernel_rfl) (fun _ _ _ h => h) (Or.inl ⟨by rfl, ?_⟩) hS ?_
    ·(intro w' hSw; obtain ⟨s0, s1⟩ := S0.out w' hSw; clear hSw; go_simp)
    (try simp only [List.getElem_toArray, List.getElem_cons_succ, List.getElem_cons_zero])
    go_frame
    refine wpAnyN_take (i := 9) (v := .pointer (some ⟨b1, o1 + k * 2, none⟩)) rfl (by kernel_rfl) (by kernel_rfl) (by kernel_rfl) (by decide) (by kernel_rfl) (fun _ _ _ h => h) (Or.inl ⟨by rfl, ?_⟩) hS ?_
    ·(intro w' hSw; obtain ⟨s0, s1⟩ := S0.out w' hSw; clear hSw; go_simp)
    (try simp only [List.getElem_toArray, List.getElem_cons_succ, List.getElem_cons_zero])
    go_frame
    refine wpAnyN_take (i := 10) (v := .pointer (some ⟨b1, o1 + k * 2 + 1, none⟩)) rfl (by kernel_rfl) (by kernel_rfl) (by kernel_rfl) (by decide) (by kernel_rfl) (fun _ _ _ h => h) (Or.inl ⟨by rfl, ?_⟩) hS ?_
    ·(intro w' hSw; obtain ⟨s0, s1⟩ := S0.out w' hSw; clear hSw; go_simp)
    (try simp only [List.getElem_toArray, List.getElem_cons_succ, List.getElem_cons_zero])
    go_frame
    refine wpAnyN_take (i := 11) (v := .slice sa sn sc) rfl (by kernel_rfl) (by kernel_rfl) (by kernel_rfl) (by decide) (by kernel_rfl) (fun _ _ _ h => h) (Or.inl ⟨by rfl, ?_⟩) hS ?_
    ·(intro w' hSw; obtain ⟨s0, s1⟩ := S0.out w' hSw; clear hSw; go_simp)
    (try simp only [List.getElem_toArray, List.getElem_cons_succ, List.getElem_cons_zero])
    go_frame
    obtain ⟨v3, X1, R1, hv3, k1⟩ := HCL.out wr.drew HK.out.drew
    have K1 := hid (show Kept wr X1 from ((Only.refl _ wr).drew).trans k1 (fun _ _ f => f))
    refine wpAnyL_one (i := 6) (by kernel_rfl) rfl rfl (oper_appendK _ _ _ rfl rfl rfl R1 ?_)
    refine ⟨HK.out.trans K1.out (fun _ _ f => f), ?_⟩
    go_frame
    obtain ⟨v4, X2, R2, hv4, k2⟩ := HCS.out X1 (HK.out.trans K1.out (fun _ _ f => f))
    have K2 := hid (K1.out.trans k2 (fun _ _ f => f))
    have hp : CpP wr (lb, sb) v3 v4 X2 := ⟨K2.out, ownN_base (ownN_stay hv3 k2) (Nat.le_refl _), ownN_base hv4 K1.out.size, fun j e1 e2 => by
     have h1 := (ownN_lt hv3 e1).2
     have h2 := (ownN_lt hv4 e2).1
     omega⟩
    obtain ⟨fa, fc, e3⟩ := ownN_slice hv3
    obtain ⟨fb, fd, e4⟩ := ownN_slice hv4
    clear hv3 hv4 k1 k2
    subst e3 e4
    refine wpAnyL_one (i := 12) (by kernel_rfl) rfl rfl (oper_appendK _ _ _ rfl rfl rfl R2 ?_)
    refine ⟨HK.out.trans K2.out (fun _ _ f => f), ?_⟩
    go_frame
    refine wpAnyN_take (i := 13) (v := .agg #[.slice fa lb.length fc, .slice fb sb.length fd]) rfl (by kernel_rfl) (by kernel_rfl) (by kernel_rfl) (by decide) (by kernel_rfl) (fun _ _ _ h => h) (Or.inl ⟨by rfl, ?_⟩) (HK.out.trans K2.out (fun _ _ f => f)) ?_
    ·(intro w' hSw; clear hSw; go_simp)
    (try simp only [List.getElem_toArray, List.getElem_cons_succ, List.getElem_cons_zero])
    go_frame
    obtain ⟨v5, X5, R5, hd5⟩ := HTL.out _ _ _ hp
    have HD5 := hid hd5
    have KX5 := hid hd5.all
    clear hd5 hp
    refine wpAnyL_one (i := 14) (by kernel_rfl) rfl rfl ?_
    go_simp
    refine ⟨(HK.out.trans K2.out (fun _ _ f => f)).alloc _, ?_⟩
    (try go_frame)
    refine wpAnyL_one (i := 15) (by kernel_rfl) rfl rfl (oper_appendK _ _ _ rfl rfl rfl R5 ?_)
    refine ⟨KX5.out, ?_⟩
    go_frame
    refine wpAnyL_one (i := 16) (by kernel_rfl) rfl rfl ?_
    go_simp
    refine ⟨KX5.out, ?_⟩
    refine wpAnyN_done (by kernel_rfl) ?_
    refine NoPanic.normal ?_
    obtain ⟨br, _⟩ : ∃ br : Nat, True := ⟨0, trivial⟩
    generalize X2.heap.size = bl
    generalize Value.slice fa lb.length fc = v3
    generalize Value.slice fb sb.length fd = v4
    exact ⟨rfl, bl, br, v3, v4, v5, rfl, HD5.out⟩
   case h2 =>
    intro bl br v3 v4 v5 X5 hD
    have HD := hid hD
    clear hD
    go_wp2_with fail
    go_roundw
    case rel => exact ⟨k + 1, HD.out.next.choose, by omega, by go_num, HD.out.next.choose_spec.1, HD.out.next.choose_spec.2, HD.out.all⟩
    case measure => simp [intOf]; omega
  ·have e : k = L := by omega
   subst e
   have HF := hid (show SerIn wr _ xs from by rw [show xs = qs.map SV.ser by rw [hm, ← HL.out, List.take_length]]; exact SerAt.serIn hq)
   clear hq hm kr
   go_wp2
   go_ret
   exact ⟨_, rfl, HF.out, HK.out⟩
end Go.Proofs.YtllfanlhgnkcfaaGreatDoor.K
namespace Go.Proofs.YtllfanlhgnkcfaaGreatDoor.K
open Go Go.RowKit Go.Proofs.Lys Go.Maps
set_option linter.unusedVariables false
set_option linter.unusedSimpArgs false
set_option maxRecDepth 100000 in
set_option maxHeartbeats 2000000 in
theorem ksame_any (w : World) (va vb : Value) (xs : List Ser) (ha : SerIn w va xs) (hb : SerIn w vb xs) (hl : xs.length ≤ 1000000) (hll : ∀ x ∈ xs, x.1.length ≤ 1000000 ∧ x.2.length ≤ 1000000) :
  Calls Tryz.prog 14 #[va, vb] w fun e w' => e = .returned (.bool true) ∧ Kept w w' := by
 obtain ⟨a1, c1, rfl⟩ := ha.len
 obtain ⟨a2, c2, rfl⟩ := hb.len
 obtain ⟨L, hL⟩ : ∃ L, xs.length = L := ⟨_, rfl⟩
 rw [hL] at ha hb hl ⊢
 have HA := hid ha
 have HB := hid hb
 have HL := hid hL
 have HLL := hid hll
 clear ha hb hL hll
 go_enter Tryz.func14, Tryz.ntmps14
 go_wp2
 go_loopw [5] (fun s wr => ∃ (k : Nat), k ≤ L ∧ s = .int .i64 (k : Int) ∧ Kept w wr) (fun s _ => L - (intOf s).toNat)
 case atStart => exact ⟨0, by omega, rfl, Only.refl _ _⟩
 case round =>
  obtain ⟨k, hk, rfl, kr⟩ := hrel
  have HK := hid kr
  by_cases hlt : k < L
  ·have hkl : k < xs.length := by have := HL.out; omega
   obtain ⟨b1, o1, a3, c3, a5, c5, rfl, x1, y1, p1, q1⟩ := (HA.out.stay kr).cell HL.out k hlt
   obtain ⟨b2, o2, a4, c4, a6, c6, rfl, x2, y2, p2, q2⟩ := (HB.out.stay kr).cell HL.out k hlt
   obtain ⟨hl1, hl2⟩ := HLL.out _ (List.getElem_mem hkl)
   have HS1 := hid (fun W (kW : Kept wr W) => Go.Proofs.YtllfanlhgnkcfaaGreatDoor.N.same_any W _ _ _ (p1.stay kW) (p2.stay kW) hl1)
   have HS2 := hid (fun W (kW : Kept wr W) => C.same_any W _ _ _ (q1.1.stay kW) (q2.1.stay kW) hl2)
   have S0 : Hid (∀ W, Kept wr W → W.cell? ⟨b1, o1 + k * 2, none⟩ = some _ ∧ W.cell? ⟨b1, o1 + k * 2 + 1, none⟩ = some _ ∧ W.cell? ⟨b2, o2 + k * 2, none⟩ = some _ ∧ W.cell? ⟨b2, o2 + k * 2 + 1, none⟩ = some _) := fun W kW => ⟨cell_kept kW x1, cell_kept kW y1, cell_kept kW x2, cell_kept kW y2⟩
   clear p1 p2 q1 q2 kr
   generalize (xs[k]'hkl).1.length = n1 at *
   generalize (xs[k]'hkl).2.length = n2 at *
   go_wp2_with fail
   refine wp_region_noPanic ?_
   refine wp_region_last (L := 1000) (S := fun w' => Kept wr w') (by kernel_rfl) ?_
   have hS : (fun w' : World => Kept wr w') wr.drew := (Only.refl (fun _ => False) wr).drew
   refine wpAnyN_take (i := 0) (v := .slice (some ⟨b1, o1, none⟩) L c1) rfl (by kernel_rfl) (by kernel_rfl) (by kernel_rfl) (by decide) (by kernel_rfl) (fun _ _ _ h => h) (Or.inl ⟨by rfl, ?_⟩) hS ?_
   ·(intro w' hSw; obtain ⟨s0, s1, s2, s3⟩ := S0.out w' hSw; clear hSw; go_simp)
   go_frame
   refine wpAnyN_take (i := 1) (v := .int .i64 (k : Int)) rfl (by kernel_rfl) (by kernel_rfl) (by kernel_rfl) (by decide) (by kernel_rfl) (fun _ _ _ h => h) (Or.inl ⟨by rfl, ?_⟩) hS ?_
   ·(intro w' hSw; obtain ⟨s0, s1, s2, s3⟩ := S0.out w' hSw; clear hSw; go_simp)
   go_frame
   refine wpAnyN_take (i := 2) (v := .pointer (some ⟨b1, o1 + k * 2, none⟩)) rfl (by kernel_rfl) (by kernel_rfl) (by kernel_rfl) (by decide) (by kernel_rfl) (fun _ _ _ h => h) (Or.inl ⟨by rfl, ?_⟩) hS ?_
   ·(intro w' hSw; obtain ⟨s0, s1, s2, s3⟩ := S0.out w' hSw; clear hSw; go_simp)
   go_frame
   refine wpAnyN_take (i := 3) (v := .pointer (some ⟨b1, o1 + k * 2, none⟩)) rfl (by kernel_rfl) (by kernel_rfl) (by kernel_rfl) (by decide) (by kernel_rfl) (fun _ _ _ h => h) (Or.inl ⟨by rfl, ?_⟩) hS ?_
   ·(intro w' hSw; obtain ⟨s0, s1, s2, s3⟩ := S0.out w' hSw; clear hSw; go_simp)
   go_frame
   refine wpAnyN_take (i := 4) (v := .slice a3 n1 c3) rfl (by kernel_rfl) (by kernel_rfl) (by kernel_rfl) (by decide) (by kernel_rfl) (fun _ _ _ h => h) (Or.inl ⟨by rfl, ?_⟩) hS ?_
   ·(intro w' hSw; obtain ⟨s0, s1, s2, s3⟩ := S0.out w' hSw; clear hSw; go_simp)
   go_frame
   refine wpAnyN_take (i := 5) (v := .slice (some ⟨b2, o2, none⟩) L c2) rfl (by kernel_rfl) (by kernel_rfl) (by kernel_rfl) (by decide) (by kernel_rfl) (fun _ _ _ h => h) (Or.inl ⟨by rfl, ?_⟩) hS ?_
   ·(intro w' hSw; obtain ⟨s0, s1, s2, s3⟩ := S0.out w' hSw; clear hSw; go_simp)
   go_frame
   refine wpAnyN_take (i := 6) (v := .int .i64 (k : Int)) rfl (by kernel_rfl) (by kernel_rfl) (by kernel_rfl) (by decide) (by kernel_rfl) (fun _ _ _ h => h) (Or.inl ⟨by rfl, ?_⟩) hS ?_
   ·(intro w' hSw; obtain ⟨s0, s1, s2, s3⟩ := S0.out w' hSw; clear hSw; go_simp)
   go_frame
   refine wpAnyN_take (i := 7) (v := .pointer (some ⟨b2, o2 + k * 2, none⟩)) rfl (by kernel_rfl) (by kernel_rfl) (by kernel_rfl) (by decide) (by kernel_rfl) (fun _ _ _ h => h) (Or.inl ⟨by rfl, ?_⟩) hS ?_
   ·(intro w' hSw; obtain ⟨s0, s1, s2, s3⟩ := S0.out w' hSw; clear hSw; go_simp)
   go_frame
   refine wpAnyN_take (i := 8) (v := .pointer (some ⟨b2, o2 + k * 2, none⟩)) rfl (by kernel_rfl) (by kernel_rfl) (by kernel_rfl) (by decide) (by kernel_rfl) (fun _ _ _ h => h) (Or.inl ⟨by rfl, ?_⟩) hS ?_
   ·(intro w' hSw; obtain ⟨s0, s1, s2, s3⟩ := S0.out w' hSw; clear hSw; go_simp)
   go_frame
   refine wpAnyN_take (i := 9) (v := .slice a4 n1 c4) rfl (by kernel_rfl) (by kernel_rfl) (by kernel_rfl) (by decide) (by kernel_rfl) (fun _ _ _ h => h) (Or.inl ⟨by rfl, ?_⟩) hS ?_
   ·(intro w' hSw; obtain ⟨s0, s1, s2, s3⟩ := S0.out w' hSw; clear hSw; go_simp)
   go_frame
   refine wpAnyL_one (i := 10) (by kernel_rfl) rfl rfl ?_
   go_simp
   refine (HS1.out _ ((Only.refl (fun _ => False) wr).drew)).mono ?_
   rintro e w2 ⟨rfl, kw2⟩
   have Kw2 := hid (show Kept wr w2 from ((Only.refl (fun _ => False) wr).drew).trans kw2 (fun _ _ f => f))
   clear kw2
   refine ⟨Kw2.out, ?_⟩
   (try go_frame)
   refine wpAnyL_one (i := 11) (by kernel_rfl) rfl rfl ?_
   go_simp
   refine ⟨Kw2.out, ?_⟩
   (try go_frame)
   refine wpAnyN_done (by kernel_rfl) ?_
   refine NoPanic.normal ?_
   clear hS
   go_wp2_with fail
   refine wp_region_noPanic ?_
   refine wp_region_last (L := 1000) (S := fun w' => Kept wr w') (by kernel_rfl) ?_
   have hS : (fun w' : World => Kept wr w') w2.drew := Kw2.out.drew
   refine wpAnyN_take (i := 0) (v := .slice (some ⟨b1, o1, none⟩) L c1) rfl (by kernel_rfl) (by kernel_rfl) (by kernel_rfl) (by decide) (by kernel_rfl) (fun _ _ _ h => h) (Or.inl ⟨by rfl, ?_⟩) hS ?_
   ·(intro w' hSw; obtain ⟨s0, s1, s2, s3⟩ := S0.out w' hSw; clear hSw; go_simp)
   go_frame
   refine wpAnyN_take (i := 1) (v := .int .i64 (k : Int)) rfl (by kernel_rfl) (by kernel_rfl) (by kernel_rfl) (by decide) (by kernel_rfl) (fun _ _ _ h => h) (Or.inl ⟨by rfl, ?_⟩) hS ?_
   ·(intro w' hSw; obtain ⟨s0, s1, s2, s3⟩ := S0.out w' hSw; clear hSw; go_simp)
   go_frame
   refine wpAnyN_take (i := 2) (v := .pointer (some ⟨b1, o1 + k * 2, none⟩)) rfl (by kernel_rfl) (by kernel_rfl) (by kernel_rfl) (by decide) (by kernel_rfl) (fun _ _ _ h => h) (Or.inl ⟨by rfl, ?_⟩) hS ?_
   ·(intro w' hSw; obtain ⟨s0, s1, s2, s3⟩ := S0.out w' hSw; clear hSw; go_simp)
   go_frame
   refine wpAnyN_take (i := 3) (v := .pointer (some ⟨b1, o1 + k * 2 + 1, none⟩)) rfl (by kernel_rfl) (by kernel_rfl) (by kernel_rfl) (by decide) (by kernel_rfl) (fun _ _ _ h => h) (Or.inl ⟨by rfl, ?_⟩) hS ?_
   ·(intro w' hSw; obtain ⟨s0, s1, s2, s3⟩ := S0.out w' hSw; clear hSw; go_simp)
   go_frame
   refine wpAnyN_take (i := 4) (v := .slice a5 n2 c5) rfl (by kernel_rfl) (by kernel_rfl) (by kernel_rfl) (by decide) (by kernel_rfl) (fun _ _ _ h => h) (Or.inl ⟨by rfl, ?_⟩) hS ?_
   ·(intro w' hSw; obtain ⟨s0, s1, s2, s3⟩ := S0.out w' hSw; clear hSw; go_simp)
   go_frame
   refine wpAnyN_take (i := 5) (v := .slice (some ⟨b2, o2, none⟩) L c2) rfl (by kernel_rfl) (by kernel_rfl) (by kernel_rfl) (by decide) (by kernel_rfl) (fun _ _ _ h => h) (Or.inl ⟨by rfl, ?_⟩) hS ?_
   ·(intro w' hSw; obtain ⟨s0, s1, s2, s3⟩ := S0.out w' hSw; clear hSw; go_simp)
   go_frame
   refine wpAnyN_take (i := 6) (v := .int .i64 (k : Int)) rfl (by kernel_rfl) (by kernel_rfl) (by kernel_rfl) (by decide) (by kernel_rfl) (fun _ _ _ h => h) (Or.inl ⟨by rfl, ?_⟩) hS ?_
   ·(intro w' hSw; obtain ⟨s0, s1, s2, s3⟩ := S0.out w' hSw; clear hSw; go_simp)
   go_frame
   refine wpAnyN_take (i := 7) (v := .pointer (some ⟨b2, o2 + k * 2, none⟩)) rfl (by kernel_rfl) (by kernel_rfl) (by kernel_rfl) (by decide) (by kernel_rfl) (fun _ _ _ h => h) (Or.inl ⟨by rfl, ?_⟩) hS ?_
   ·(intro w' hSw; obtain ⟨s0, s1, s2, s3⟩ := S0.out w' hSw; clear hSw; go_simp)
   go_frame
   refine wpAnyN_take (i := 8) (v := .pointer (some ⟨b2, o2 + k * 2 + 1, none⟩)) rfl (by kernel_rfl) (by kernel_rfl) (by kernel_rfl) (by decide) (by kernel_rfl) (fun _ _ _ h => h) (Or.inl ⟨by rfl, ?_⟩) hS ?_
   ·(intro w' hSw; obtain ⟨s0, s1, s2, s3⟩ := S0.out w' hSw; clear hSw; go_simp)
   go_frame
   refine wpAnyN_take (i := 9) (v := .slice a6 n2 c6) rfl (by kernel_rfl) (by kernel_rfl) (by kernel_rfl) (by decide) (by kernel_rfl) (fun _ _ _ h => h) (Or.inl ⟨by rfl, ?_⟩) hS ?_
   ·(intro w' hSw; obtain ⟨s0, s1, s2, s3⟩ := S0.out w' hSw; clear hSw; go_simp)
   go_frame
   refine wpAnyL_one (i := 10) (by kernel_rfl) rfl rfl ?_
   go_simp
   refine (HS2.out _ (Kw2.out.drew)).mono ?_
   rintro e w3 ⟨rfl, kw3⟩
   have Kw3 := hid (show Kept wr w3 from (Kw2.out.drew).trans kw3 (fun _ _ f => f))
   clear kw3
   refine ⟨Kw3.out, ?_⟩
   (try go_frame)
   refine wpAnyL_one (i := 11) (by kernel_rfl) rfl rfl ?_
   go_simp
   refine ⟨Kw3.out, ?_⟩
   (try go_frame)
   refine wpAnyN_done (by kernel_rfl) ?_
   refine NoPanic.normal ?_
   clear hS
   have HKB := hid (HK.out.trans Kw3.out (fun _ _ f => f))
   go_wp2
   refine ⟨⟨k + 1, by omega, by go_num, HKB.out⟩, ?_⟩
   simp [intOf]
   omega
  ·have e : k = L := by omega
   subst e
   go_wp2
   go_ret
   exact ⟨rfl, HK.out⟩
end Go.Proofs.YtllfanlhgnkcfaaGreatDoor.K
