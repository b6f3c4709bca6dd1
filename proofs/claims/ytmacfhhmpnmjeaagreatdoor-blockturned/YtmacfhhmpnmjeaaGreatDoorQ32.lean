/-
  Kbyt, Ksrc.
-/
import Derived.Test.YtmacfhhmpnmjeaaGreatDoorQ28
import Derived.Test.YtmacfhhmpnmjeaaGreatDoorQ29
import Derived.Test.YtmacfhhmpnmjeaaGreatDoorQ30
import Derived.Test.YtmacfhhmpnmjeaaGreatDoorQ31
import Derived.Lib.AppendZeros
import Derived.Lib.AppendStr
import Derived.BigQuiet
import Derived.Deep.QuietTactic

/-
  Bytes that are put one behind the other: append, slices.Grow, slices.Concat of four; the sum of bytes in four.
-/
namespace Go.Proofs.YtmacfhhmpnmjeaaGreatDoor.K
open Go.RowKit Go.Proofs.Lys Go.Maps
open Go.Proofs.YtmacfhhmpnmjeaaGreatDoor.N (ownN_slice ownN_lt ownN_only ownN_stay ownN_base ownN_typed ownN_some)
set_option linter.unusedVariables false
set_option linter.unusedSimpArgs false

abbrev BytAt (w : World) (B : Nat) (v : Value) (bs : List UInt8) : Prop := w.ownsRow B 5 1 v bs.length (bs.map bV)
theorem byt_app {w : World} {B : Nat} {v xv : Value} {bs ps : List UInt8} (h : BytAt w B v bs) (hs : SrcOf w xv (ps.map bV)) (hl : bs.length + ps.length ≤ 100000000) (hB : B ≤ w.heap.size) :
    ∃ a n c w', Hid ((Builtin.append_ #[28, 28] 0 #[v, xv]).run Tryz.prog w = .ok (.slice a n c) w') ∧ n = bs.length + ps.length ∧ Hid (BytAt w' B (.slice a n c) (bs ++ ps)) ∧ Hid (Only (fun j => v.ownBlock = some j) w w') := by
  obtain ⟨v', w', hr, h1, h2, h3⟩ := append_src (P := Tryz.prog) (base := B) Tryz.underlying28 Tryz.infoB rfl (by decide) h hs (bytes_one ps) (by rw [List.length_map]; omega) hB
  have h1' : BytAt w' B v' (bs ++ ps) := by
    unfold BytAt
    rw [List.length_append, List.map_append]
    rw [List.length_map] at h1
    exact h1
  obtain ⟨a, c, e⟩ := ownN_slice h1'
  rw [List.length_append] at e
  subst e
  exact ⟨a, _, c, w', hr, rfl, h1', (Only.refl _ w).grown h2 (fun j e _ => e)⟩
theorem byt_str {w : World} {B : Nat} {v : Value} {bs : List UInt8} (h : BytAt w B v bs) (s : ByteArray) (hl : bs.length + s.size ≤ 100000000) (hB : B ≤ w.heap.size) :
    ∃ a n c w', Hid ((Builtin.append_ #[28, 9] 0 #[v, .string s]).run Tryz.prog w = .ok (.slice a n c) w') ∧ n = bs.length + s.size ∧ Hid (BytAt w' B (.slice a n c) (bs ++ s.data.toList)) ∧ Hid (Only (fun j => v.ownBlock = some j) w w') := by
  obtain ⟨i0, hi0, hz0, hz1, hz2⟩ := info_parts Tryz.infoB
  obtain ⟨v', w', hr, h1, h2, _⟩ := Lib.run_append_own_string (P := Tryz.prog) (w := w) B 28 9 0 5 i0 Tryz.underlying28 Tryz.underlying9 hi0 hz0 hz1 hz2 v bs.length _ h s (by unfold maxLen; omega) (by omega) hB
  have hsl : s.data.toList.length = s.size := (Lib.size_eq s).symm
  have h1' : BytAt w' B v' (bs ++ s.data.toList) := by
    unfold BytAt
    rw [List.length_append, List.map_append, hsl]
    exact h1
  obtain ⟨a, c, e⟩ := ownN_slice h1'
  rw [List.length_append, hsl] at e
  subst e
  exact ⟨a, _, c, w', hr, rfl, h1', (Only.refl _ w).grown h2 (fun j e _ => e)⟩

set_option maxRecDepth 100000 in
set_option maxHeartbeats 1600000 in
theorem grow_nil (w : World) (n : Nat) (h0 : 0 < n) (hn : n ≤ 1000000) :
    Calls Tryz.prog 89 #[.slice none 0 0, .int .i64 (n : Int)] w fun e w' => ∃ a c, e = .returned (.slice a 0 c) ∧ BytAt w' w.heap.size (.slice a 0 c) [] ∧ Kept w w' := by
  obtain ⟨i0, hi0, hz0, hz1, hz2⟩ := info_parts Tryz.infoB
  have hrun := Lib.run_append_nil_zeros (P := Tryz.prog) w 28 3 0 5 i0 _ .i64 .i64 Tryz.underlying28 Tryz.underlying3 hi0 hz0 n h0 (by rw [hz1]; decide) (by omega) (by rw [hz2]; omega)
  have hge := grownCap_ge w n 0 5
  have hcm := grownCap_le_maxLen w n 0 5 (by unfold maxLen; omega)
  have hsz : (Builtin.zeroCells (Value.int .u8 0).cells n ++ Builtin.zeroCells (Value.int .u8 0).cells (grownCap w n 0 5 - n)).size = grownCap w n 0 5 := by
    rw [Array.size_append, size_zeroCells, size_zeroCells]
    simp [Value.cells]
    omega
  have HF : Hid (BytAt (w.drew.alloc (.cells (Builtin.zeroCells (Value.int .u8 0).cells n ++ Builtin.zeroCells (Value.int .u8 0).cells (grownCap w n 0 5 - n)) 5)) w.heap.size (.slice (some ⟨w.heap.size, 0, none⟩) 0 (grownCap w n 0 5)) [] ∧ Kept w (w.drew.alloc (.cells (Builtin.zeroCells (Value.int .u8 0).cells n ++ Builtin.zeroCells (Value.int .u8 0).cells (grownCap w n 0 5 - n)) 5))) := by
    refine ⟨⟨rfl, .inr ⟨w.heap.size, _, _, rfl, Nat.le_refl _, heap_alloc_new w.drew _, Nat.zero_le _, hcm, by rw [hsz]; omega, by simp⟩⟩, ((Only.refl _ w).drew).alloc _⟩
  have HR := hid hrun
  generalize w.drew.alloc (.cells (Builtin.zeroCells (Value.int .u8 0).cells n ++ Builtin.zeroCells (Value.int .u8 0).cells (grownCap w n 0 5 - n)) 5) = w2 at HF HR
  generalize grownCap w n 0 5 = CAP at HF HR hge
  clear hrun hcm hsz hi0 hz0 hz1 hz2 i0
  have hn0 : ¬ (n : Int) < 0 := by omega
  have hn1 : (0 : Int) < (n : Int) := by omega
  have hsl1 : ∀ W : World, (Instr.sliceAt 28 (.slice none 0 0) none (some (.int .i64 0)) none).run Tryz.prog W = .ok (.slice none 0 0) W := fun W => by kernel_rfl
  have hzB : ∀ W : World, (sizeOf 5).run Tryz.prog W = .ok 1 W := fun W => by kernel_rfl
  have hsl2 : ∀ W : World, (Instr.sliceAt 28 (.slice (some ⟨w.heap.size, 0, none⟩) n CAP) none (some (.int .i64 0)) none).run Tryz.prog W = .ok (.slice (some ⟨w.heap.size, 0, none⟩) 0 CAP) W := fun W => by
    simp [Instr.sliceAt, Instr.slice, Instr.sliceBounds, Instr.sliceBound, run_underlying Tryz.underlying28, asIntOf, Result.andThen, hzB]
    intro _
    rfl
  go_enter Tryz.func89, Tryz.ntmps89
  go_wp2_with (at_builtin; refine Lib.wpList_append_run _ rfl _ _ _ _ rfl _ _ rfl rfl _ _ HR.out ?_)
  (try go_wp2_with fail)
  go_ret
  exact ⟨_, _, rfl, HF.out.1, HF.out.2⟩

set_option maxRecDepth 100000 in
set_option maxHeartbeats 6400000 in
theorem concat4_any (w : World) (sb : Nat) (u1 u2 u3 u4 : Value) (b1 b2 b3 b4 : List UInt8) (hb : Blk w sb [u1, u2, u3, u4] 28) (h1 : SrcOf w u1 (b1.map bV)) (h2 : SrcOf w u2 (b2.map bV)) (h3 : SrcOf w u3 (b3.map bV)) (h4 : SrcOf w u4 (b4.map bV))
    (hl : 0 < b1.length) (hl1 : b1.length ≤ 1000) (hl2 : b2.length ≤ 1000) (hl3 : b3.length ≤ 1000) (hl4 : b4.length ≤ 1000) :
    Calls Tryz.prog 56 #[.slice (some ⟨sb, 0, none⟩) 4 4] w fun e w' => ∃ v, e = .returned v ∧ BytAt w' w.heap.size v (b1 ++ b2 ++ b3 ++ b4) ∧ Kept w w' := by
  obtain ⟨a1, c1, e1⟩ := h1.len
  obtain ⟨a2, c2, e2⟩ := h2.len
  obtain ⟨a3, c3, e3⟩ := h3.len
  obtain ⟨a4, c4, e4⟩ := h4.len
  rw [List.length_map] at e1 e2 e3 e4
  have HG := hid (grow_nil w (b1.length + b2.length + b3.length + b4.length) (by omega) (by omega))
  have HB := hid hb
  have H1 := hid h1
  have H2 := hid h2
  have H3 := hid h3
  have H4 := hid h4
  obtain ⟨N1, hN1⟩ : ∃ N1, b1.length = N1 := ⟨_, rfl⟩
  obtain ⟨N2, hN2⟩ : ∃ N2, b2.length = N2 := ⟨_, rfl⟩
  obtain ⟨N3, hN3⟩ : ∃ N3, b3.length = N3 := ⟨_, rfl⟩
  obtain ⟨N4, hN4⟩ : ∃ N4, b4.length = N4 := ⟨_, rfl⟩
  rw [hN1, hN2, hN3, hN4] at HG
  rw [hN1] at e1 hl1 hl
  rw [hN2] at e2 hl2
  rw [hN3] at e3 hl3
  rw [hN4] at e4 hl4
  have HN := hid (And.intro hN1 (And.intro hN2 (And.intro hN3 hN4)))
  subst e1 e2 e3 e4
  have x0 := hb.cell 0 rfl
  have x1 := hb.cell 1 rfl
  have x2 := hb.cell 2 rfl
  have x3 := hb.cell 3 rfl
  clear hb h1 h2 h3 h4 hN1 hN2 hN3 hN4
  obtain ⟨M2, hM2⟩ : ∃ M, N1 + N2 = M := ⟨_, rfl⟩
  obtain ⟨M3, hM3⟩ : ∃ M, M2 + N3 = M := ⟨_, rfl⟩
  obtain ⟨M4, hM4⟩ : ∃ M, M3 + N4 = M := ⟨_, rfl⟩
  rw [hM2, hM3, hM4] at HG
  have w1 : (N1 : Int) + (N2 : Int) = (M2 : Int) := by omega
  have w2 : (M2 : Int) + (N3 : Int) = (M3 : Int) := by omega
  have w3 : (M3 : Int) + (N4 : Int) = (M4 : Int) := by omega
  have n1 : ¬ (N1 : Int) < 0 := by omega
  have n2 : ¬ (M2 : Int) < 0 := by omega
  have n3 : ¬ (M3 : Int) < 0 := by omega
  have n4 : ¬ (M4 : Int) < 0 := by omega
  go_enter Tryz.func56, Tryz.ntmps56
  go_wp2
  refine wp_loop_rounds 5 ?_
  rw [rounds_succ]
  go_wp2
  rw [rounds_succ]
  go_wp2
  rw [rounds_succ]
  go_wp2
  rw [rounds_succ]
  go_wp2
  rw [rounds_succ]
  go_wp2_with fail
  refine HG.out.mono ?_
  rintro e w3' ⟨a6, c6, rfl, hat6, k6⟩
  have K6 := hid k6
  obtain ⟨e1, e2, e3, e4⟩ := HN.out
  obtain ⟨p1, q1, r1, y1, R1, hn1, hat1, ho1⟩ := byt_app hat6 (H1.out.stay k6) (by simp; omega) k6.size
  have hk1 : Kept w y1 := k6.trans ho1.out (fun j hj e => by have := (ownN_lt hat6 e).1; omega)
  obtain ⟨p2, q2, r2, y2, R2, hn2, hat2, ho2⟩ := byt_app hat1.out (H2.out.stay hk1) (by simp; omega) hk1.size
  have hk2 : Kept w y2 := hk1.trans ho2.out (fun j hj e => by have := (ownN_lt hat1.out e).1; omega)
  obtain ⟨p3, q3, r3, y3, R3, hn3, hat3, ho3⟩ := byt_app hat2.out (H3.out.stay hk2) (by simp; omega) hk2.size
  have hk3 : Kept w y3 := hk2.trans ho3.out (fun j hj e => by have := (ownN_lt hat2.out e).1; omega)
  obtain ⟨p4, q4, r4, y4, R4, hn4, hat4, ho4⟩ := byt_app hat3.out (H4.out.stay hk3) (by simp; omega) hk3.size
  have HK4 := hid (show Kept w y4 from hk3.trans ho4.out (fun j hj e => by have := (ownN_lt hat3.out e).1; omega))
  have g0 := (k6.blk HB.out (fun f => f)).cell 0 rfl
  have g1 := (hk1.blk HB.out (fun f => f)).cell 1 rfl
  have g2 := (hk2.blk HB.out (fun f => f)).cell 2 rfl
  have g3 := (hk3.blk HB.out (fun f => f)).cell 3 rfl
  have HA : Hid (BytAt y4 w.heap.size (.slice p4 q4 r4) (b1 ++ b2 ++ b3 ++ b4)) := by simpa using hat4
  clear hat6 k6 hat1 ho1 hat2 ho2 hat3 ho3 hat4 ho4 hn1 hn2 hn3 hn4 hk1 hk2 hk3 x0 x1 x2 x3 HG e1 e2 e3 e4
  go_wp2_with fail
  refine wp_loop_rounds 5 ?_
  rw [rounds_succ]
  go_wp2_with (at_builtin; refine Lys.wpList_append_run rfl _ _ _ rfl rfl rfl R1 ?_)
  (try go_wp2_with fail)
  rw [rounds_succ]
  go_wp2_with (at_builtin; refine Lys.wpList_append_run rfl _ _ _ rfl rfl rfl R2 ?_)
  (try go_wp2_with fail)
  rw [rounds_succ]
  go_wp2_with (at_builtin; refine Lys.wpList_append_run rfl _ _ _ rfl rfl rfl R3 ?_)
  (try go_wp2_with fail)
  rw [rounds_succ]
  go_wp2_with (at_builtin; refine Lys.wpList_append_run rfl _ _ _ rfl rfl rfl R4 ?_)
  (try go_wp2_with fail)
  rw [rounds_succ]
  go_wp2
  go_ret
  exact ⟨_, rfl, HA.out, HK4.out⟩
end Go.Proofs.YtmacfhhmpnmjeaaGreatDoor.K

/-
  Series in memory, as they are read; the times that they span.
-/
namespace Go.Proofs.YtmacfhhmpnmjeaaGreatDoor.K
open Go.RowKit Go.Proofs.Lys Go.Maps
set_option linter.unusedVariables false
set_option linter.unusedSimpArgs false

/-- Series that are read. -/
def SerIn (w : World) (v : Value) (l : List Ser) : Prop :=
  (∃ a c, v = .slice a 0 c ∧ l = []) ∨ (0 < l.length ∧ ∃ b o c, v = .slice (some ⟨b, o, none⟩) l.length c ∧ ∀ i (hi : i < l.length), ∃ lv sv, w.cell? ⟨b, o + i * 2, none⟩ = some lv ∧ w.cell? ⟨b, o + i * 2 + 1, none⟩ = some sv ∧ N.LabSrc w lv l[i].1 ∧ C.SSrc w sv l[i].2)
theorem cell_kept {w W : World} (k : Kept w W) {a : Addr} {v : Value} (h : w.cell? a = some v) : W.cell? a = some v := by
  rw [World.cell?_of_block (k.block _ (World.block_lt_of_cell? w _ h) (fun f => f))]
  exact h
theorem SerIn.stay {w W : World} {v : Value} {l : List Ser} (h : SerIn w v l) (k : Kept w W) : SerIn W v l := by
  rcases h with h | ⟨h0, b, o, c, e, hc⟩
  · exact .inl h
  · refine .inr ⟨h0, b, o, c, e, fun i hi => ?_⟩
    obtain ⟨lv, sv, c1, c2, h1, h2⟩ := hc i hi
    exact ⟨lv, sv, cell_kept k c1, cell_kept k c2, h1.stay k, h2.stay k⟩
theorem SerIn.len {w : World} {v : Value} {l : List Ser} (h : SerIn w v l) : ∃ a c, v = .slice a l.length c := by
  rcases h with ⟨a, c, e, h0⟩ | ⟨_, b, o, c, e, _⟩
  · exact ⟨a, c, by rw [h0]; exact e⟩
  · exact ⟨_, c, e⟩
theorem SerIn.cell {w : World} {a : Option Addr} {n c : Nat} {l : List Ser} (h : SerIn w (.slice a n c) l) (hn : l.length = n) (k : Nat) (hk : k < n) :
    ∃ b o la lc sa sc, a = some ⟨b, o, none⟩ ∧ w.cell? ⟨b, o + k * 2, none⟩ = some (.slice la (l[k]'(by omega)).1.length lc) ∧ w.cell? ⟨b, o + k * 2 + 1, none⟩ = some (.slice sa (l[k]'(by omega)).2.length sc) ∧ N.LabSrc w (.slice la (l[k]'(by omega)).1.length lc) (l[k]'(by omega)).1 ∧ C.SSrc w (.slice sa (l[k]'(by omega)).2.length sc) (l[k]'(by omega)).2 := by
  rcases h with ⟨a', c', e, h0⟩ | ⟨_, b, o, c', e, hc⟩
  · subst h0
    simp at hn
    omega
  · simp only [Value.slice.injEq] at e
    obtain ⟨lv, sv, c1, c2, h1, h2⟩ := hc k (by omega)
    obtain ⟨la, lc, rfl⟩ := h1.len
    obtain ⟨sa, sc, rfl, _⟩ := id h2.2
    exact ⟨b, o, la, lc, sa, sc, e.1, c1, c2, h1, h2⟩
theorem first_at {s : Ser} {k : Nat} (hk : k < s.2.length) : (s.2.getD k (0, 0)).1 = s.2[k].1 := by
  rw [List.getD_eq_getElem?_getD, List.getElem?_eq_getElem hk]
  rfl
set_option maxRecDepth 100000 in
set_option maxHeartbeats 3200000 in
theorem span_any (w : World) (v : Value) (l : List Ser) (hs : SerIn w v l) (hl : l.length ≤ 1000) (hT : ∀ s ∈ l, s.2 ≠ [] ∧ s.2.length ≤ 100000 ∧ ∀ x ∈ s.2, -9007199254740992 ≤ x.1 ∧ x.1 ≤ 9007199254740992) :
    Calls Tryz.prog 29 #[v] w fun e w' => e = .returned (.tuple #[.int .i64 (spanB l).1, .int .i64 (spanB l).2]) ∧ Kept w w' := by
  obtain ⟨a, c, rfl⟩ := hs.len
  obtain ⟨N, hN⟩ : ∃ N, l.length = N := ⟨_, rfl⟩
  rw [hN] at hs hl ⊢
  have HN := hid hN
  have HS := hid hs
  have HT := hid hT
  clear hs hT hN
  go_enter Tryz.func29, Tryz.ntmps29
  go_wp2_with fail
  go_loopw [2, 3, 10] (fun s2 s3 s10 wr => ∃ (k : Nat) (F T : Int), k ≤ N ∧ s10 = .int .i64 (k : Int) ∧ s2 = .int .i64 F ∧ s3 = .int .i64 T ∧ Hid ((F, T) = spanB (l.take k)) ∧ Kept w wr) (fun _ _ s10 _ => N - (intOf s10).toNat)
  case atStart => exact ⟨0, 0, 0, by omega, rfl, rfl, rfl, hid rfl, Only.refl _ _⟩
  case round =>
    obtain ⟨k, F, T, hk, rfl, rfl, rfl, hsp, kr⟩ := hrel
    by_cases hlt : k < N
    · have hkl : k < l.length := by have := HN.out; omega
      obtain ⟨b, o, la, lc, sa, sc, rfl, c0, c1, h0, h1⟩ := (HS.out.stay kr).cell HN.out k hlt
      obtain ⟨hne, hln, hbd⟩ := HT.out l[k] (List.getElem_mem hkl)
      have hpos : 0 < l[k].2.length := List.length_pos_iff.2 hne
      obtain ⟨sb, so, rfl, y0, y1⟩ := h1.1.cell rfl 0 hpos
      obtain ⟨_, _, e2, z0, z1⟩ := h1.1.cell rfl (l[k].2.length - 1) (by omega)
      clear y1 z1
      simp only [Option.some.injEq, Addr.mk.injEq] at e2
      obtain ⟨rfl, rfl, _⟩ := e2
      have hF := hbd _ (List.getElem_mem hpos)
      have hL := hbd _ (List.getElem_mem (show l[k].2.length - 1 < l[k].2.length by omega))
      have HSP : Hid (spanB (l.take (k + 1)) = spanS (if k = 0 then (l[k].2[0].1, l[k].2[l[k].2.length - 1].1 + 1) else (F, T)) l[k]) := by
        show _ = _
        rw [List.take_succ_eq_append_getElem hkl, span_snoc]
        unfold firstT lastT
        rw [first_at hpos, first_at (by omega)]
        by_cases e : k = 0
        · subst e
          simp
        · rw [if_neg e, if_neg (fun e2 => by have := congrArg List.length e2; rw [List.length_take, List.length_nil] at this; omega), hsp.out]
      have HSS : Hid (∀ p : Int × Int, spanS p l[k] = (min p.1 l[k].2[0].1, max p.2 (l[k].2[l[k].2.length - 1].1 + 1))) := fun p => by
        unfold spanS firstT lastT
        rw [first_at hpos, first_at (by omega)]
      generalize l[k].2[0].1 = FT at y0 hF HSP HSS
      generalize l[k].2[l[k].2.length - 1].1 = LT at z0 hL HSP HSS
      generalize hSL : l[k].2.length = SL at c1 z0 hpos hln
      generalize l[k].1.length = LL at c0
      obtain ⟨SP, hSP⟩ : ∃ SP : Nat, SL = SP + 1 := ⟨SL - 1, by omega⟩
      subst hSP
      rw [show SP + 1 - 1 = SP by omega] at z0
      have KR := hid kr
      clear h0 h1 hne hbd hSL hsp kr
      go_wp2_with fail
      obtain ⟨W1, hW1⟩ : ∃ W1, wr.alloc (.cells #[.slice la LL lc, .slice (some ⟨sb, so, none⟩) (SP + 1) sc] 53) = W1 := ⟨_, rfl⟩
      have hk1 : Kept wr W1 := by rw [← hW1]; exact (Only.refl _ wr).alloc _
      have hb1 : Blk W1 wr.heap.size [.slice la LL lc, .slice (some ⟨sb, so, none⟩) (SP + 1) sc] 53 := by rw [← hW1]; exact Blk.new wr _ _
      have d1 := hb1.cell 1 rfl
      have y1 : W1.cell? ⟨sb, so, none⟩ = some (.int .i64 FT) := by have := cell_kept hk1 y0; simpa using this
      have z1 := cell_kept hk1 z0
      rw [hW1]
      have HK1 := hid (KR.out.trans hk1 (fun _ _ f => f))
      have i1 : ((SP + 1 : Nat) : Int) - 1 = (SP : Int) := by omega
      generalize wr.heap.size = BX at *
      clear hW1 hk1 hb1 c0 c1 y0 z0 KR
      go_quiet (fail)
      have HK2 := hid (show Kept w (W1.drewN nq) from Go.Proofs.YtmacfhhmpnmjeaaGreatDoor.G.kept_drewN HK1.out nq)
      generalize W1.drewN nq = W2 at HK2 ⊢
      clear d1 y1 z1
      by_cases e : k = 0
      · subst e
        rw [if_pos rfl, HSS.out] at HSP
        have e1 : min (FT, LT + 1).1 FT = FT := by simp
        have e2 : max (FT, LT + 1).2 (LT + 1) = LT + 1 := by simp
        rw [e1, e2] at HSP
        go_wp2_with fail
        refine ⟨⟨1, FT, LT + 1, by omega, rfl, rfl, rfl, hid HSP.out.symm, HK2.out⟩, ?_⟩
        simp [intOf]
        omega
      · rw [if_neg e, HSS.out] at HSP
        have e0 : ((k : Int) == 0) = false := by simp; omega
        have e0' : ¬ (k : Int) = 0 := by omega
        go_wp2_with fail
        refine ⟨⟨k + 1, min F FT, max T (LT + 1), by omega, by go_num, rfl, rfl, hid HSP.out.symm, HK2.out⟩, ?_⟩
        simp [intOf]
        omega
    · obtain rfl : N = k := by omega
      have HF : Hid ((F, T) = spanB l) := by
        have h1 := hsp.out
        rw [List.take_of_length_le (by have := HN.out; omega)] at h1
        exact h1
      clear hsp
      go_wp2
      go_ret2
      rw [← HF.out]
      exact ⟨rfl, kr⟩
end Go.Proofs.YtmacfhhmpnmjeaaGreatDoor.K
