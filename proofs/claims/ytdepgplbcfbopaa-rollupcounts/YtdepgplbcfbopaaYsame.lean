/-
  Package rollup's laws: buckets that are the same; the example.
-/
import Derived.Test.YtdepgplbcfbopaaYgat
import Derived.Laws.EntriesVeiled
import Derived.Deep.QuietTactic
namespace Go.Proofs.Ytdepgplbcfbopaa.Ru
open Go Go.RowKit Go.Proofs.Lys Go.Shelf
set_option linter.unusedVariables false
set_option linter.unusedSimpArgs false

theorem neq_bk (a b c d e f : Int) (w : World) : (binOp .neq 38 (.agg #[.int .i64 a, .int .i64 b, .int .i64 c, .int .i64 d, .int .i64 e, .int .i64 f]) (.agg #[.int .i64 a, .int .i64 b, .int .i64 c, .int .i64 d, .int .i64 e, .int .i64 f])).run Try.prog w = .ok (.bool false) w := by
  go_simp
set_option maxRecDepth 100000 in
set_option maxHeartbeats 1600000 in
theorem same_any (w : World) (va vb : Value) (l : Bks) (h1 : BkSrc w va l) (h2 : BkSrc w vb l) (hl : l.length ≤ 1000000) :
    Calls Try.prog 11 #[va, vb] w fun e w' => e = .returned (.bool true) ∧ Kept w w' := by
  obtain ⟨a1, c1, rfl⟩ := h1.len
  obtain ⟨a2, c2, rfl⟩ := h2.len
  obtain ⟨L, hL⟩ : ∃ L, l.length = L := ⟨_, rfl⟩
  rw [hL] at h1 h2 hl ⊢
  have HA := hid h1
  have HB := hid h2
  have HL := hid hL
  clear h1 h2 hL
  go_enter Try.func11, Try.ntmps11
  go_wp2
  go_loopw [5] (fun s wr => ∃ (k : Nat), k ≤ L ∧ s = .int .i64 (k : Int) ∧ Kept w wr) (fun s _ => L - (intOf s).toNat)
  case atStart => exact ⟨0, by omega, rfl, Only.refl _ _⟩
  case round =>
    obtain ⟨k, hk, rfl, kr⟩ := hrel
    have KR := hid kr
    by_cases hlt : k < L
    · obtain ⟨b1, o1, rfl, p⟩ := (HA.out.stay kr).cell HL.out k hlt
      obtain ⟨b2, o2, rfl, q⟩ := (HB.out.stay kr).cell HL.out k hlt
      have hkl : k < l.length := by have := HL.out; omega
      obtain ⟨p0, p1, p2, p3, p4, p5⟩ := p.six
      obtain ⟨q0, q1, q2, q3, q4, q5⟩ := q.six
      generalize l[k] = x at p0 p1 p2 p3 p4 p5 q0 q1 q2 q3 q4 q5
      obtain ⟨x0, x1, x2, x3, x4, x5⟩ := x
      simp only at p0 p1 p2 p3 p4 p5 q0 q1 q2 q3 q4 q5
      have hn := neq_bk x0 x1 x2 x3 x4 x5
      clear kr p q
      go_wp2_with fail
      go_quiet (fail)
      go_wp2_with fail
      go_roundw
      case rel => exact ⟨k + 1, by omega, by go_num, kept_drewN KR.out nq⟩
      case measure => simp [intOf]; omega
    · have e : k = L := by omega
      subst e
      clear kr
      go_wp2
      go_ret
      exact ⟨rfl, KR.out⟩

theorem only_cell {w w' : World} {O : Nat → Prop} (k : Only O w w') {b i : Nat} {v : Value} (hb : ¬ O b) (h : w.cell? ⟨b, i, none⟩ = some v) : w'.cell? ⟨b, i, none⟩ = some v := by
  rw [World.cell?_of_block (w := w) (w' := w') (a := ⟨b, i, none⟩) (k.block b (World.block_lt_of_cell? w _ h) hb)]
  exact h
set_option maxRecDepth 100000 in
set_option maxHeartbeats 1600000 in
theorem alive_any (w : World) : Calls Try.prog 7 #[] w fun e w' => e = .returned (.bool true) ∧ Kept w w' := by
  obtain ⟨w2, hw2⟩ : ∃ W, w.alloc (.cells #[.int .i64 1, .int .i64 5, .int .i64 2, .int .i64 3, .int .i64 11, .int .i64 1] 36) = W := ⟨_, rfl⟩
  have k2 : Kept w w2 := by rw [← hw2]; exact (Only.refl _ w).alloc _
  have hbA : Blk w2 w.heap.size [.int .i64 1, .int .i64 5, .int .i64 2, .int .i64 3, .int .i64 11, .int .i64 1] 36 := by rw [← hw2]; exact Blk.new w _ 36
  have h1 : SmpSrc w2 (.slice (some ⟨w.heap.size, 0, none⟩) 3 3) [(1, 5), (2, 3), (11, 1)] := by
    refine .inr ⟨by decide, w.heap.size, 0, 3, rfl, fun i hi => ?_⟩
    match i, hi with
    | 0, _ => exact ⟨hbA.cell 0 rfl, hbA.cell 1 rfl⟩
    | 1, _ => exact ⟨hbA.cell 2 rfl, hbA.cell 3 rfl⟩
    | 2, _ => exact ⟨hbA.cell 4 rfl, hbA.cell 5 rfl⟩
  have HS := hid (buckets_any w2 _ 3 [(1, 5), (2, 3), (11, 1)] 10 h1 (by intro p hp; simp at hp; rcases hp with rfl | rfl | rfl <;> exact ⟨⟨by decide, by decide⟩, ⟨by decide, by decide⟩⟩) ⟨by decide, by decide⟩ (by decide))
  have hg : gat 10 ([((1 : Int), (5 : Int)), (2, 3), (11, 1)].map one) = [⟨0, 2, 8, 3, 5, 3⟩, ⟨10, 1, 1, 1, 1, 1⟩] := by rfl
  have hok : okT T0 ([((1 : Int), (5 : Int)), (2, 3), (11, 1)].map one) := ⟨by decide, by decide, by decide, by decide, by decide, by decide, trivial⟩
  have HG := hid hg
  have HO := hid hok
  have HNU := hid (fun W => num_any 0 W ⟨by decide, by decide⟩)
  have HW2 := hid hw2
  have K2 := hid k2
  clear h1 hbA hw2 k2 hg hok
  go_enter Try.func7, Try.ntmps7
  go_wp2_with fail
  rw [HW2.out]
  refine HS.out.mono ?_
  rintro e w3 ⟨k3, ⟨hb, _⟩ | ⟨_, _, hn, _⟩ | ⟨_, _, _, v3, rfl, h3⟩⟩
  · omega
  · exact absurd HO.out hn
  · rw [HG.out] at h3
    have h4 : World.ownsRow w3 w2.heap.size 38 6 v3 2 (bkL [⟨0, 2, 8, 3, 5, 3⟩, ⟨10, 1, 1, 1, 1, 1⟩]) := h3
    obtain ⟨g, cap, rfl⟩ := ownN_some h4 (by decide)
    have K3 := hid (K2.out.trans k3 (fun _ _ f => f))
    have c0 : w3.cell? ⟨g, 0, none⟩ = some (.int .i64 0) := h4.cellAt 0 (by decide)
    have c1 : w3.cell? ⟨g, 1, none⟩ = some (.int .i64 2) := h4.cellAt 1 (by decide)
    have c2 : w3.cell? ⟨g, 2, none⟩ = some (.int .i64 8) := h4.cellAt 2 (by decide)
    have c3 : w3.cell? ⟨g, 3, none⟩ = some (.int .i64 3) := h4.cellAt 3 (by decide)
    have c4 : w3.cell? ⟨g, 4, none⟩ = some (.int .i64 5) := h4.cellAt 4 (by decide)
    have c5 : w3.cell? ⟨g, 5, none⟩ = some (.int .i64 3) := h4.cellAt 5 (by decide)
    have d0 : w3.cell? ⟨g, 6, none⟩ = some (.int .i64 10) := h4.cellAt 6 (by decide)
    have d1 : w3.cell? ⟨g, 7, none⟩ = some (.int .i64 1) := h4.cellAt 7 (by decide)
    have d2 : w3.cell? ⟨g, 8, none⟩ = some (.int .i64 1) := h4.cellAt 8 (by decide)
    have d3 : w3.cell? ⟨g, 9, none⟩ = some (.int .i64 1) := h4.cellAt 9 (by decide)
    have d4 : w3.cell? ⟨g, 10, none⟩ = some (.int .i64 1) := h4.cellAt 10 (by decide)
    have d5 : w3.cell? ⟨g, 11, none⟩ = some (.int .i64 1) := h4.cellAt 11 (by decide)
    clear HS h3 h4 k3
    go_wp2_with fail
    refine (HNU.out _).mono ?_
    rintro e w4 ⟨rfl, hw4⟩
    replace hw4 := hw4.symm
    subst hw4
    go_wp2
    go_ret
    exact ⟨rfl, K3.out⟩
end Go.Proofs.Ytdepgplbcfbopaa.Ru
