/-
  slices.Insert of one sample: behind all, or into samples that have no room.
-/
import Derived.Test.YtnbfbnhiikliaaaGreatHins
import Derived.Lib.AppendZerosOnto
namespace Go.Proofs.YtnbfbnhiikliaaaGreat.Hd
open Go.RowKit Go.Proofs.Lys Go.Proofs.YtnbfbnhiikliaaaGreat.N
set_option linter.unusedVariables false
set_option linter.unusedSimpArgs false

theorem growfit {n c : Nat} (h : c < n) (hb : n * 16 ≤ 140737488355328) : Builtin.nextslicecap n c * 16 ≤ 281474976710656 := growslice_fits (by omega) hb

/-- The cells behind both copies. -/
theorem grow_cells {C : List Value} {l : Smps} {x : Smp} {i cap : Nat} (hC : C.length = cap * 2) (ht : C.take (i * 2) = smpL (l.take i)) (hi : i < l.length) (hroom : l.length + 1 ≤ cap) :
    let C1 := C.take (i * 2) ++ [Value.int .i64 x.1, Value.int .i64 x.2] ++ C.drop (i * 2 + 2)
    let C2 := C1.take ((i + 1) * 2) ++ smpL (l.drop i) ++ C1.drop ((i + 1) * 2 + (smpL (l.drop i)).length)
    C1.length = cap * 2 ∧ C2.length = cap * 2 ∧ C2.take ((l.length + 1) * 2) = smpL (l.take i ++ x :: l.drop i) := by
  intro C1 C2
  have hd : (smpL (l.drop i)).length = (l.length - i) * 2 := by rw [smpL_len, List.length_drop]
  have htl : (smpL (l.take i)).length = i * 2 := by rw [smpL_len, List.length_take]; omega
  have h1 : C1.length = cap * 2 := by
    simp only [C1, List.length_append, List.length_take, List.length_drop, List.length_cons, List.length_nil]
    omega
  have h2 : C2.length = cap * 2 := by
    simp only [C2, List.length_append, List.length_take, List.length_drop, h1, hd]
    omega
  refine ⟨h1, h2, ?_⟩
  have t1 : C1.take ((i + 1) * 2) = smpL (l.take i ++ [x]) := by
    have e : C1 = smpL (l.take i ++ [x]) ++ C.drop (i * 2 + 2) := by
      simp only [C1]
      rw [ht, smpL_app]
      rfl
    rw [e, List.take_left']
    rw [smpL_len, List.length_append, List.length_take, List.length_singleton]
    omega
  simp only [C2, t1]
  rw [List.take_left']
  · rw [← smpL_app, List.append_assoc]
    rfl
  · rw [List.length_append, hd, smpL_len, List.length_append, List.length_take, List.length_singleton]
    omega

set_option maxRecDepth 100000 in
set_option maxHeartbeats 4000000 in
theorem insert_grow {w : World} {B g cap i xb : Nat} {l : Smps} {x : Smp} (h : SmpAt w B (.slice (some ⟨g, 0, none⟩) l.length cap) l) (hi : i < l.length) (hno : cap < l.length + 1) (hl : l.length ≤ 1000000) (hx : Blk w xb [.int .i64 x.1, .int .i64 x.2] 38) :
    Calls Tryz.prog 57 #[.slice (some ⟨g, 0, none⟩) l.length cap, .int .i64 (i : Int), .slice (some ⟨xb, 0, none⟩) 1 1] w fun e w' =>
      ∃ c, e = .returned (.slice (some ⟨w.heap.size, 0, none⟩) (l.length + 1) c) ∧ SmpAt w' w.heap.size (.slice (some ⟨w.heap.size, 0, none⟩) (l.length + 1) c) (l.take i ++ x :: l.drop i) ∧ Kept w w' := by
  obtain ⟨hll, hrest⟩ := h
  obtain ⟨cur, hb, hg, hnc, hcm, hcs, htake⟩ : ∃ cur, B ≤ g ∧ w.heap[g]? = some (.cells cur 38 (0, 0)) ∧ l.length ≤ cap ∧ cap ≤ maxLen ∧ cur.size = cap * 2 ∧ cur.toList.take (l.length * 2) = smpL l := by
    rcases hrest with ⟨e, _⟩ | ⟨g', cap', cur, hv, hb, hg, hnc, hm, hs, ht⟩
    · cases e
    · simp only [Value.slice.injEq, Option.some.injEq, Addr.mk.injEq] at hv
      obtain ⟨⟨rfl, _⟩, _, rfl⟩ := hv
      exact ⟨cur, hb, hg, hnc, hm, hs, ht⟩
  clear hrest
  have ecap : cap = l.length := by omega
  subst ecap
  have hdl : (smpL (l.drop i)).length = (l.length - i) * 2 := by rw [smpL_len, List.length_drop]
  have cellw : ∀ j v, (smpL l)[j]? = some v → w.cell? ⟨g, j, none⟩ = some v := fun j v hj => by
    have hj2 : j < (smpL l).length := (List.getElem?_eq_some_iff.1 hj).1
    rw [smpL_len] at hj2
    rw [← htake, List.getElem?_take, if_pos (by omega)] at hj
    simp [World.cell?, hg]
    simpa using hj
  obtain ⟨i0, hi0, hz0, hz1, hz2⟩ := info_parts Tryz.infoS
  obtain ⟨k, hk⟩ : ∃ k, k = l.length + 1 - i := ⟨_, rfl⟩
  have hik : i + k = l.length + 1 := by omega
  -- the new row
  have hap := Lib.run_append_grow_zeros (P := Tryz.prog) w 54 3 0 38 i0 _ .i64 .i64 Tryz.underlying54 Tryz.underlying3 hi0 hz0 (some ⟨g, 0, none⟩) i l.length (smpL (l.take i))
    (run_firstCells_some (P := Tryz.prog) w.drew i0.size i ⟨g, 0, none⟩ i l.length (smpL (l.take i)) (by rw [hz1, smpL_len, List.length_take]; omega) (fun j v hj => by
      rw [add_none, Nat.zero_add]
      refine cellw j v ?_
      have hj2 := (List.getElem?_eq_some_iff.1 hj).1
      rw [smpL_len, List.length_take] at hj2
      rw [← smpL_take, List.getElem?_take, if_pos (by omega)] at hj
      exact hj))
    k (by omega) (by rw [hz1]; decide) (by omega) (by omega) (by rw [hz2]; omega) (by rw [hz2, hik]; exact growfit (by omega) (by omega))
  rw [hik] at hap
  generalize hCap : grownCap w (l.length + 1) l.length 38 = cap at hap
  have hcg : l.length + 1 ≤ cap := by rw [← hCap]; exact grownCap_ge _ _ _ _
  have hcM : cap ≤ maxLen := by rw [← hCap]; exact grownCap_le_maxLen _ _ _ _ (by unfold maxLen; omega)
  generalize hA0 : (smpL (l.take i)).toArray ++ Builtin.zeroCells (Value.agg #[.int .i64 0, .int .i64 0]).cells k ++ Builtin.zeroCells (Value.agg #[.int .i64 0, .int .i64 0]).cells (cap - (l.length + 1)) = A0 at hap
  have hzc : (Value.agg #[.int .i64 0, .int .i64 0]).cells.size = 2 := rfl
  have hC0 : A0.toList.length = cap * 2 := by
    rw [← hA0]
    simp only [Array.length_toList, Array.size_append, size_zeroCells, hzc, List.size_toArray, smpL_len, List.length_take]
    omega
  have ht0 : A0.toList.take (i * 2) = smpL (l.take i) := by
    rw [← hA0]
    simp only [Array.toList_append, List.append_assoc]
    rw [List.take_left']
    rw [smpL_len, List.length_take]
    omega
  obtain ⟨q1, q2, q3⟩ := grow_cells (C := A0.toList) (x := x) hC0 ht0 hi hcg
  generalize hC1 : A0.toList.take (i * 2) ++ [Value.int .i64 x.1, Value.int .i64 x.2] ++ A0.toList.drop (i * 2 + 2) = C1 at q1 q2 q3
  generalize hC2 : C1.take ((i + 1) * 2) ++ smpL (l.drop i) ++ C1.drop ((i + 1) * 2 + (smpL (l.drop i)).length) = C2 at q2 q3
  obtain ⟨w1, hw1⟩ : ∃ w1, w1 = w.drew.alloc (.cells A0 38) := ⟨_, rfl⟩
  rw [← hw1] at hap
  have hG1 : w1.heap[w.heap.size]? = some (.cells A0 38 (0, 0)) := by rw [hw1]; exact heap_alloc_new w.drew _
  have k1 : Kept w w1 := by rw [hw1]; exact (Only.refl _ w).drew.alloc _
  have hx1 := k1.blk hx (fun f => f)
  have hxlt := hx.lt
  have hglt := (Array.getElem?_eq_some_iff.1 hg).1
  -- the copies
  have hcp1 : ∀ ty dc, (Builtin.copy_ #[54, 54] ty #[.slice (some ⟨w.heap.size, i * 2, none⟩) (l.length + 1 - i) dc, .slice (some ⟨xb, 0, none⟩) 1 1]).run Tryz.prog w1 = .ok (goInt 1) (w1.setRow w.heap.size C1.toArray) := fun ty dc => by
    have hmin : Nat.min 1 (l.length + 1 - i) = 1 := Nat.min_eq_left (by omega)
    have := copy_two w1 ty w.heap.size (i * 2) (l.length + 1 - i) dc ⟨xb, 0, none⟩ 1 1 A0 [.int .i64 x.1, .int .i64 x.2] hG1 (by rw [hmin]; rfl)
      (fun j v hj => by
        rw [add_none, Nat.zero_add]
        exact hx1.cell j hj) (by have : A0.size = cap * 2 := by simpa using hC0
                                 simp; omega) (by intro v hv; simp at hv; rcases hv with rfl | rfl <;> rfl)
    rw [hmin] at this
    simp only [List.length_cons, List.length_nil] at this
    rw [hC1] at this
    exact this
  obtain ⟨w2, hw2⟩ : ∃ w2, w2 = w1.setRow w.heap.size C1.toArray := ⟨_, rfl⟩
  rw [← hw2] at hcp1
  have hG2 : w2.heap[w.heap.size]? = some (.cells C1.toArray 38 (0, 0)) := by rw [hw2]; exact setRow_heap w1 _ _ _ _ _ hG1
  have cell2 : ∀ j v, (smpL l)[j]? = some v → w2.cell? ⟨g, j, none⟩ = some v := fun j v hj => by
    have h1 := cellw j v hj
    have e : w2.heap[g]? = w.heap[g]? := by
      rw [hw2, setRow_other _ _ _ _ (by omega)]
      exact k1.block g hglt (fun f => f)
    rw [World.cell?_of_block (w := w) (w' := w2) (a := ⟨g, j, none⟩) e]
    exact h1
  have hcp2 : ∀ ty dc sc, (Builtin.copy_ #[54, 54] ty #[.slice (some ⟨w.heap.size, (i + 1) * 2, none⟩) (l.length - i) dc, .slice (some ⟨g, i * 2, none⟩) (l.length - i) sc]).run Tryz.prog w2.drew = .ok (goInt ((l.length - i : Nat) : Int)) (w2.drew.setRow w.heap.size C2.toArray) := fun ty dc sc => by
    have hmin : Nat.min (l.length - i) (l.length - i) = l.length - i := Nat.min_self _
    have := copy_two w2.drew ty w.heap.size ((i + 1) * 2) (l.length - i) dc ⟨g, i * 2, none⟩ (l.length - i) sc C1.toArray (smpL (l.drop i)) hG2 (by rw [hmin, hdl])
      (fun j v hj => by
        rw [add_none]
        refine cell2 (i * 2 + j) v ?_
        rw [← smpL_drop, List.getElem?_drop] at hj
        exact hj) (by rw [hdl]; simp [q1]; omega) (smpL_one _)
    rw [hmin] at this
    simp only [hC2] at this
    exact this
  have HF : Hid (∀ W, W = w2.drew.setRow w.heap.size C2.toArray → SmpAt W w.heap.size (.slice (some ⟨w.heap.size, 0, none⟩) (l.length + 1) cap) (l.take i ++ x :: l.drop i) ∧ Kept w W) := fun W hW => by
    have hlen : (l.take i ++ x :: l.drop i).length = l.length + 1 := by simp; omega
    refine ⟨⟨smpL_len _, .inr ⟨w.heap.size, cap, _, by rw [hlen], Nat.le_refl _, by rw [hW]; exact setRow_heap w2.drew _ _ _ _ _ hG2, by rw [hlen]; exact hcg, hcM, by simpa using q2, by rw [hlen]; exact q3⟩⟩, ?_⟩
    rw [hW, hw2]
    refine ⟨k1.os, k1.tape, k1.output, ?_, fun k hk hn => ?_⟩
    · have := k1.size
      simpa using this
    · rw [setRow_other _ _ _ _ (by omega)]
      show (w1.setRow w.heap.size C1.toArray).heap[k]? = _
      rw [setRow_other _ _ _ _ (by omega)]
      exact k1.block k hk hn
  have s1 := fun W => slice_lo (g := g) (cap := l.length) (n := l.length) (lo := i) (by omega) (by omega) (by omega) W
  have s2 := fun W => slice_hi (g := g) (cap := l.length) (n := l.length) (hi := i) (by omega) (by omega) W
  have s3 := fun W => slice_lo (g := w.heap.size) (cap := cap) (n := l.length + 1) (lo := i) (by omega) (by omega) (by omega) W
  have s4 : ∀ W, (Instr.sliceAt 54 (.slice (some ⟨w.heap.size, 0, none⟩) (l.length + 1) cap) (some (.int .i64 ((i : Int) + 1))) none none).run Tryz.prog W = .ok (.slice (some ⟨w.heap.size, (i + 1) * 2, none⟩) (l.length - i) (cap - (i + 1))) W := fun W => by
    have := slice_lo (g := w.heap.size) (cap := cap) (n := l.length + 1) (lo := i + 1) (by omega) (by omega) (by omega) W
    rw [Nat.add_sub_add_right] at this
    exact this
  have hk2 : IntKind.i64.wrap ((l.length : Int) + 1 - (i : Int)) = (k : Int) := by rw [IntKind.wrap_i64]; omega
  have hkk : (k : Int) = (l.length : Int) + 1 - (i : Int) := by omega
  rw [hkk] at hap
  have HAP := hid hap
  clear q1 q2 q3 hC1 hC2 hdl cellw hg hG1 hG2 hx hx1 htake hcs hw1 hw2 hll hcm hb k1 cell2 hap hC0 ht0 hA0 hCap hkk hk2 hik hk hcM
  generalize l.length = n at s1 s2 s3 s4 hcp1 hcp2 hi HF HAP hcg hl hno hnc ⊢
  go_enter Tryz.func57, Tryz.ntmps57
  go_wp2_with (at_builtin; refine Lib.wpList_append_run _ rfl _ _ _ _ rfl _ _ rfl rfl _ _ HAP.out ?_)
  have hw1 : IntKind.i64.wrap ((i : Int) + 1) = (i : Int) + 1 := by rw [IntKind.wrap_i64]; omega
  have hb1 : (0 : Int) ≤ (i : Int) + 1 := by omega
  have hin : i ≤ n := by omega
  have htn : ((i : Int) + 1).toNat = i + 1 := by omega
  have hb2 : ¬ (cap = i + 1) := by omega
  have hb3 : (i : Int) ≤ (n : Int) := by omega
  have hb4 : ¬ (n = i) := by omega
  have mixed : Tryz.prog.follows Departure.mixedOrders = true := by kernel_rfl
  clear s1 s2 s3 s4
  go_region_law_o (refine copy_step rfl _ _ 54 54 rfl _ _ (by simp [Act.eval, Act.put]) (by simp [Act.eval, Act.put]) (hcp2 _ _ _) ?_)
  go_wp2
  go_ret
  exact ⟨cap, rfl, HF.out _ rfl⟩

/-- What an insertion leaves. -/
def InsP (w : World) (v : Value) (m : Smps) (e : Ending) (w' : World) : Prop :=
  ∃ v', e = .returned v' ∧ SmpAt w' 0 v' m ∧ Only (fun k => v.ownBlock = some k) w w' ∧ ∀ k, v'.ownBlock = some k → v.ownBlock = some k ∨ w.heap.size ≤ k

theorem insert_last {w : World} {v : Value} {l : Smps} {x : Smp} {xb : Nat} (h : SmpAt w 0 v l) (hl : l.length ≤ 100000) (hx : Blk w xb [.int .i64 x.1, .int .i64 x.2] 38) :
    Calls Tryz.prog 57 #[v, .int .i64 (l.length : Int), .slice (some ⟨xb, 0, none⟩) 1 1] w (InsP w v (l ++ [x])) := by
  have hsrc : SmpSrc w (.slice (some ⟨xb, 0, none⟩) 1 1) [x] := .inr ⟨by simp, xb, 0, 1, rfl, fun i hi => by
    have : i = 0 := by simpa using hi
    subst this
    exact ⟨hx.cell 0 rfl, hx.cell 1 rfl⟩⟩
  obtain ⟨v', w', hr, h1, h2, h3⟩ := smp_append h hsrc (by simp; omega) (Nat.zero_le _)
  have HR := hid hr
  have HF : Hid (InsP w v (l ++ [x]) (.returned v') w') := ⟨v', rfl, h1, (Only.refl _ w).grown h2 (fun k e _ => e), fun k hk => by
    rcases h3 with h3 | h3
    · exact .inl (by rw [← h3]; exact hk)
    · rw [h3] at hk
      cases hk
      exact .inr (Nat.le_refl _)⟩
  obtain ⟨a, c, q, rfl, hnc, hs⟩ : ∃ a c q, v = .slice a l.length c ∧ l.length ≤ c ∧ ∀ W, (Instr.sliceAt 54 (.slice a l.length c) (some (.int .i64 (l.length : Int))) none none).run Tryz.prog W = .ok q W := by
    rcases h.2 with ⟨e, h0⟩ | ⟨g, cap, cur, e, hb, hg, hnc, _⟩
    · rw [h0]
      exact ⟨none, 0, .slice none 0 0, e, Nat.le_refl _, fun W => by kernel_rfl⟩
    · refine ⟨some ⟨g, 0, none⟩, cap, ?_⟩
      by_cases hc : cap = l.length
      · subst hc
        exact ⟨.slice (some ⟨g, 0, none⟩) 0 0, e, hnc, fun W => by simp [Instr.sliceAt, Instr.slice, Instr.sliceBounds, Instr.sliceBound, run_underlying Tryz.underlying54, asIntOf, add_none, Result.andThen]⟩
      · exact ⟨_, e, hnc, fun W => slice_lo (Nat.le_refl _) hnc hc W⟩
  clear h hsrc h1 h2 h3 hr hx
  generalize l.length = n at hs HR HF hl hnc ⊢
  go_enter Tryz.func57, Tryz.ntmps57
  go_wp2_with (at_builtin; refine Lys.wpList_append_run rfl _ _ _ rfl rfl rfl HR ?_)
  go_ret
  exact HF.out

/-- slices.Insert of one sample. -/
theorem insert_any {w : World} {v : Value} {l : Smps} {x : Smp} {i xb : Nat} (h : SmpAt w 0 v l) (hi : i ≤ l.length) (hl : l.length ≤ 100000) (hx : Blk w xb [.int .i64 x.1, .int .i64 x.2] 38) (hne : ∀ k, v.ownBlock = some k → xb ≠ k) :
    Calls Tryz.prog 57 #[v, .int .i64 (i : Int), .slice (some ⟨xb, 0, none⟩) 1 1] w (InsP w v (l.take i ++ x :: l.drop i)) := by
  rcases Nat.lt_or_eq_of_le hi with hlt | rfl
  · obtain ⟨g, cap, rfl⟩ := ownN_some h (by omega)
    have hlen : (l.take i ++ x :: l.drop i).length = l.length + 1 := by simp; omega
    by_cases hroom : l.length + 1 ≤ cap
    · refine (insert_room h hlt hroom hx (hne g rfl)).mono ?_
      rintro e w' ⟨rfl, h1, h2⟩
      refine ⟨_, rfl, ownN_base h1 (Nat.zero_le _), h2.mono (fun k _ e => by rw [e]; rfl), fun k hk => .inl hk⟩
    · refine (insert_grow h hlt (by omega) (by omega) hx).mono ?_
      rintro e w' ⟨c, rfl, h1, h2⟩
      refine ⟨_, rfl, ownN_base h1 (Nat.zero_le _), h2.mono (fun _ _ f => f.elim), fun k hk => .inr ?_⟩
      cases hk
      exact Nat.le_refl _
  · have := insert_last (x := x) h hl hx
    rw [List.take_length, List.drop_length]
    exact this
end Go.Proofs.YtnbfbnhiikliaaaGreat.Hd
