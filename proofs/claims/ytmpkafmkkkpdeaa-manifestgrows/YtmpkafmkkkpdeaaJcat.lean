/-
  slices.Grow and slices.Concat of blocks.
-/
import Derived.Test.YtmpkafmkkkpdeaaJlib
import Derived.Lib.AppendZeros
namespace Go.Proofs.Ytmpkafmkkkpdeaa.J
open Go.RowKit Go.Proofs.Lys
set_option linter.unusedVariables false
set_option linter.unusedSimpArgs false

theorem rf_app {w : World} {B : Nat} {v xv : Value} {l q : List Rf} (h : RfAt w B v l) (hs : RfSrc w xv q) (hl : l.length + q.length ≤ 1000000) (hB : B ≤ w.heap.size) :
    ∃ a n c w', Hid ((Builtin.append_ #[22, 22] 0 #[v, xv]).run Try.prog w = .ok (.slice a n c) w') ∧ n = l.length + q.length ∧ Hid (RfAt w' B (.slice a n c) (l ++ q)) ∧ Hid (Only (fun j => v.ownBlock = some j) w w') := by
  obtain ⟨v', w', hr, h1, h2, h3⟩ := rf_append h hs hl hB
  obtain ⟨a, c, e⟩ := ownN_slice h1
  rw [List.length_append] at e
  subst e
  exact ⟨a, _, c, w', hr, rfl, h1, (Only.refl _ w).grown h2 (fun j e _ => e)⟩

abbrev zR : Value := .agg #[.int .i64 0, .int .i64 0, .int .i64 0, .int .i64 0]
set_option maxRecDepth 100000 in
set_option maxHeartbeats 1600000 in
theorem rgrow_nil (w : World) (n : Nat) (h0 : 0 < n) (hn : n ≤ 1000000) :
    Calls Try.prog 30 #[.slice none 0 0, .int .i64 (n : Int)] w fun e w' => ∃ a c, e = .returned (.slice a 0 c) ∧ RfAt w' w.heap.size (.slice a 0 c) [] ∧ Kept w w' := by
  obtain ⟨i0, hi0, hz0, hz1, hz2⟩ := info_parts Try.infoR
  have hrun := Lib.run_append_nil_zeros (P := Try.prog) w 22 3 0 28 i0 _ .i64 .i64 Try.underlying22 Try.underlying3 hi0 hz0 n h0 (by rw [hz1]; decide) (by omega) (by rw [hz2]; omega)
  have hge := grownCap_ge w n 0 28
  have hcm := grownCap_le_maxLen w n 0 28 (by unfold maxLen; omega)
  have hsz : (Builtin.zeroCells zR.cells n ++ Builtin.zeroCells zR.cells (grownCap w n 0 28 - n)).size = grownCap w n 0 28 * 4 := by
    rw [Array.size_append, size_zeroCells, size_zeroCells]
    simp [Value.cells]
    omega
  have HF : Hid (RfAt (w.drew.alloc (.cells (Builtin.zeroCells zR.cells n ++ Builtin.zeroCells zR.cells (grownCap w n 0 28 - n)) 28)) w.heap.size (.slice (some ⟨w.heap.size, 0, none⟩) 0 (grownCap w n 0 28)) [] ∧ Kept w (w.drew.alloc (.cells (Builtin.zeroCells zR.cells n ++ Builtin.zeroCells zR.cells (grownCap w n 0 28 - n)) 28))) := by
    refine ⟨⟨rfl, .inr ⟨w.heap.size, _, _, rfl, Nat.le_refl _, heap_alloc_new w.drew _, Nat.zero_le _, hcm, by rw [hsz], by simp [rfL]⟩⟩, ((Only.refl _ w).drew).alloc _⟩
  have HR := hid hrun
  generalize w.drew.alloc (.cells (Builtin.zeroCells zR.cells n ++ Builtin.zeroCells zR.cells (grownCap w n 0 28 - n)) 28) = w2 at HF HR
  generalize grownCap w n 0 28 = CAP at HF HR hge
  clear hrun hcm hsz hi0 hz0 hz1 hz2 i0
  have hn0 : ¬ (n : Int) < 0 := by omega
  have hn1 : (0 : Int) < (n : Int) := by omega
  have hsl1 : ∀ W : World, (Instr.sliceAt 22 (.slice none 0 0) none (some (.int .i64 0)) none).run Try.prog W = .ok (.slice none 0 0) W := fun W => by kernel_rfl
  have hzB : ∀ W : World, (sizeOf 28).run Try.prog W = .ok 4 W := fun W => by kernel_rfl
  have hsl2 : ∀ W : World, (Instr.sliceAt 22 (.slice (some ⟨w.heap.size, 0, none⟩) n CAP) none (some (.int .i64 0)) none).run Try.prog W = .ok (.slice (some ⟨w.heap.size, 0, none⟩) 0 CAP) W := fun W => by
    simp [Instr.sliceAt, Instr.slice, Instr.sliceBounds, Instr.sliceBound, run_underlying Try.underlying22, asIntOf, Result.andThen, hzB]
    intro _
    rfl
  go_enter Try.func30, Try.ntmps30
  go_wp2_with (at_builtin; refine Lib.wpList_append_run _ rfl _ _ _ _ rfl _ _ rfl rfl _ _ HR.out ?_)
  (try go_wp2_with fail)
  go_ret
  exact ⟨_, _, rfl, HF.out.1, HF.out.2⟩

set_option maxRecDepth 100000 in
set_option maxHeartbeats 3200000 in
theorem rconcat_any (w : World) (sb : Nat) (u1 u2 : Value) (b1 b2 : List Rf) (hb : Blk w sb [u1, u2] 22) (h1 : RfSrc w u1 b1) (h2 : RfSrc w u2 b2) (hl : 0 < b1.length + b2.length) (hl1 : b1.length ≤ 1000) (hl2 : b2.length ≤ 1000) :
    Calls Try.prog 24 #[.slice (some ⟨sb, 0, none⟩) 2 2] w fun e w' => ∃ v, e = .returned v ∧ RfAt w' w.heap.size v (b1 ++ b2) ∧ Kept w w' := by
  obtain ⟨a1, c1, e1⟩ := h1.len
  obtain ⟨a2, c2, e2⟩ := h2.len
  have HG := hid (rgrow_nil w (b1.length + b2.length) hl (by omega))
  have HB := hid hb
  have H1 := hid h1
  have H2 := hid h2
  obtain ⟨N1, hN1⟩ : ∃ N1, b1.length = N1 := ⟨_, rfl⟩
  obtain ⟨N2, hN2⟩ : ∃ N2, b2.length = N2 := ⟨_, rfl⟩
  rw [hN1] at e1 HG hl1 hl
  rw [hN2] at e2 HG hl2 hl
  have HN1 := hid hN1
  have HN2 := hid hN2
  subst e1 e2
  rw [Int.natCast_add] at HG
  have x0 := hb.cell 0 rfl
  have x1 := hb.cell 1 rfl
  clear hb h1 h2 hN1 hN2
  have w1 : IntKind.i64.wrap ((0 : Int) + (N1 : Int)) = (N1 : Int) := by rw [IntKind.wrap_i64]; omega
  have w2 : IntKind.i64.wrap ((N1 : Int) + (N2 : Int)) = ((N1 + N2 : Nat) : Int) := by rw [IntKind.wrap_i64]; omega
  have n1 : ¬ (N1 : Int) < 0 := by omega
  have n2 : ¬ ((N1 : Int) + (N2 : Int)) < 0 := by omega
  go_enter Try.func24, Try.ntmps24
  go_wp2
  refine wp_loop_rounds 3 ?_
  rw [rounds_succ]
  go_wp2
  rw [rounds_succ]
  go_wp2
  rw [rounds_succ]
  go_wp2_with fail
  refine HG.out.mono ?_
  rintro e w3 ⟨a6, c6, rfl, hat6, k6⟩
  have K6 := hid k6
  obtain ⟨a7, n7, c7, w7, r7, hn7, hat7, ho7⟩ := rf_app hat6 (H1.out.stay k6) (by have := HN1.out; simp; omega) k6.size
  have hon7 : Kept w w7 := k6.trans ho7.out (fun j hj e => by have := (ownN_lt hat6 e).1; omega)
  obtain ⟨a8, n8, c8, w8, r8, hn8, hat8, ho8⟩ := rf_app hat7.out (H2.out.stay hon7) (by have h1 := HN1.out; have h2 := HN2.out; simp; omega) hon7.size
  have HK8 := hid (show Kept w w8 from hon7.trans ho8.out (fun j hj e => by have := (ownN_lt hat7.out e).1; omega))
  have hb3 := k6.blk HB.out (fun f => f)
  have hb7 := hon7.blk HB.out (fun f => f)
  have y0 := hb3.cell 0 rfl
  have z1 := hb7.cell 1 rfl
  have HA8 : Hid (RfAt w8 w.heap.size (.slice a8 n8 c8) (b1 ++ b2)) := by simpa using hat8
  clear hat6 k6 hat7 ho7 hat8 ho8 hb3 hb7 hn7 hn8 hon7 x0 x1 HG
  go_wp2_with fail
  refine wp_loop_rounds 3 ?_
  rw [rounds_succ]
  go_wp2_with (at_builtin; refine Lys.wpList_append_run rfl _ _ _ rfl rfl rfl r7 ?_)
  (try go_wp2_with fail)
  rw [rounds_succ]
  go_wp2_with (at_builtin; refine Lys.wpList_append_run rfl _ _ _ rfl rfl rfl r8 ?_)
  (try go_wp2_with fail)
  rw [rounds_succ]
  go_wp2
  go_ret
  exact ⟨_, rfl, HA8.out, HK8.out⟩
end Go.Proofs.Ytmpkafmkkkpdeaa.J
