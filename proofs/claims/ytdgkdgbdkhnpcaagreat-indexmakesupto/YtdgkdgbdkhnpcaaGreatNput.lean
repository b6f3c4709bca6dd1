/-
  The rows that the document's own Make lays.
-/
import Derived.Test.YtdgkdgbdkhnpcaaGreatNref
namespace Go.Proofs.YtdgkdgbdkhnpcaaGreat.N
open Go.RowKit Go.Proofs.Lys
set_option linter.unusedVariables false
set_option linter.unusedSimpArgs false

/-- A row of labels in two. -/
theorem lab_cut {w : World} {B : Nat} {v : Value} {l : Labs} (h : LabAt w B v l) (k : Nat) (hk : k ≤ l.length) :
    ∃ a1 a2 c2, (∀ W, (Instr.sliceAt 25 v none (some (.int .i64 (k : Int))) (some (.int .i64 (k : Int)))).run Tryz.prog W = .ok (.slice a1 k k) W) ∧ LabSrc w (.slice a1 k k) (l.take k) ∧
      (∀ W, (Instr.sliceAt 25 v (some (.int .i64 (k : Int))) none none).run Tryz.prog W = .ok (.slice a2 (l.length - k) c2) W) ∧ LabSrc w (.slice a2 (l.length - k) c2) (l.drop k) := by
  have ht := Tryz.underlying25
  rcases h.2 with ⟨rfl, h0⟩ | ⟨g, cap, cur, rfl, hb, hg, hnc, hcm, hcs, htake⟩
  · have hl : l = [] := List.length_eq_zero_iff.1 h0
    subst hl
    have hk0 : k = 0 := by simpa using hk
    subst hk0
    exact ⟨none, none, 0, fun W => by kernel_rfl, .inl ⟨_, _, rfl, rfl⟩, fun W => by kernel_rfl, .inl ⟨_, _, rfl, rfl⟩⟩
  · have hs := h.src
    have hkc : k ≤ cap := by omega
    refine ⟨some ⟨g, 0, none⟩, some (if cap = k then ⟨g, 0, none⟩ else ⟨g, k * 2, none⟩), cap - k, fun W => ?_, ?_, fun W => ?_, ?_⟩
    · simp [Instr.sliceAt, Instr.slice, Instr.sliceBounds, Instr.sliceBound, run_underlying ht, asIntOf, hkc, Addr.add, Result.andThen]
    · rcases hs with ⟨a, c, e, e2⟩ | ⟨hpos, b, o, c, e1, hc⟩
      · subst e2
        have hk0 : k = 0 := by simpa using hk
        subst hk0
        exact .inl ⟨_, _, rfl, rfl⟩
      · cases e1
        by_cases hk0 : k = 0
        · subst hk0
          exact .inl ⟨_, _, rfl, rfl⟩
        · have hlt : (l.take k).length = k := by rw [List.length_take]; omega
          refine .inr ⟨by omega, g, 0, k, by rw [hlt], fun i hi => ?_⟩
          rw [List.getElem_take]
          exact hc i (by omega)
    · simp [Instr.sliceAt, Instr.slice, Instr.sliceBounds, Instr.sliceBound, run_underlying ht, asIntOf, hk, Addr.add, Result.andThen]
      by_cases hck : cap = k
      · rw [if_pos hck, if_pos hck]
      · rw [if_neg hck, if_neg hck]
        by_cases hk0 : k * 2 = 0
        · rw [if_pos hk0, hk0]
        · rw [if_neg hk0]
    · by_cases hkl : k = l.length
      · subst hkl
        rw [Nat.sub_self, List.drop_length]
        exact .inl ⟨_, _, rfl, rfl⟩
      · rcases hs with ⟨a, c, e, e2⟩ | ⟨hpos, b, o, c, e1, hc⟩
        · subst e2
          simp at hk hkl
          omega
        · cases e1
          have hlt : (l.drop k).length = l.length - k := List.length_drop
          refine .inr ⟨by omega, g, k * 2, cap - k, by rw [hlt, if_neg (by omega)], fun i hi => ?_⟩
          rw [List.getElem_drop]
          have := hc (k + i) (by omega)
          rw [Nat.zero_add, Nat.add_mul] at this
          exact this

theorem src_cells {w : World} {b o : Nat} {l : Labs} (h : ∀ i (hi : i < l.length), w.cell? ⟨b, o + i * 2, none⟩ = some (.string l[i].1) ∧ w.cell? ⟨b, o + i * 2 + 1, none⟩ = some (.string l[i].2)) : ∀ j u, (labL l)[j]? = some u → w.cell? ((⟨b, o, none⟩ : Addr).add j) = some u := by
  intro j u hu
  rw [add_none]
  have hj : j < (labL l).length := (List.getElem?_eq_some_iff.1 hu).1
  rw [labL_len] at hj
  have hx := labL_at l (j / 2) (by omega)
  have hcc := h (j / 2) (by omega)
  rcases Nat.mod_two_eq_zero_or_one j with hp | hp
  · have ej : j = j / 2 * 2 := by omega
    rw [ej] at hu ⊢
    rw [hx.1] at hu
    cases hu
    exact hcc.1
  · have ej : j = j / 2 * 2 + 1 := by omega
    rw [ej] at hu ⊢
    rw [hx.2] at hu
    cases hu
    rw [← Nat.add_assoc]
    exact hcc.2

/-- A label behind a slice that is full. -/
theorem full_append {w : World} {a : Option Addr} {k xb : Nat} {l : Labs} {x : Lab} (h : LabSrc w (.slice a k k) l) (hl : l.length = k) (hk : k ≤ 1000) (hx : Blk w xb [.string x.1, .string x.2] 27) :
    ∃ c w', Hid ((Builtin.append_ #[25, 25] 0 #[.slice a k k, .slice (some ⟨xb, 0, none⟩) 1 1]).run Tryz.prog w = .ok (.slice (some ⟨w.heap.size, 0, none⟩) (k + 1) c) w') ∧ LabAt w' w.heap.size (.slice (some ⟨w.heap.size, 0, none⟩) (k + 1) c) (l ++ [x]) ∧ Kept w w' := by
  obtain ⟨i0, hi0, hz0, hz1, hz2⟩ := info_parts Tryz.infoLab
  have hnews : ∀ j v, ([.string x.1, .string x.2] : List Value)[j]? = some v → w.cell? ((⟨xb, 0, none⟩ : Addr).add j) = some v := fun j u hj => by rw [add_none, Nat.zero_add]; exact hx.cell j hj
  have e : labL (l ++ [x]) = labL l ++ [.string x.1, .string x.2] := by rw [labL_app]; rfl
  have own : ∀ old, (w.drew.alloc (.cells ((labL l).toArray ++ #[.string x.1, .string x.2] ++ Builtin.zeroCells (Value.agg #[.string ⟨#[]⟩, .string ⟨#[]⟩]).cells (grownCap w (k + 1) old 27 - (k + 1))) 27)).ownsRow w.heap.size 27 2 (.slice (some ⟨w.heap.size, 0, none⟩) (k + 1) (grownCap w (k + 1) old 27)) (l ++ [x]).length (labL (l ++ [x])) := fun old => by
    have hge := grownCap_ge w (k + 1) old 27
    have hcm := grownCap_le_maxLen w (k + 1) old 27 (by unfold maxLen; omega)
    have hlen : (l ++ [x]).length = k + 1 := by rw [List.length_append, hl]; rfl
    refine ⟨labL_len _, .inr ⟨w.heap.size, _, _, by rw [hlen], Nat.le_refl _, heap_alloc_new w.drew _, by rw [hlen]; exact hge, hcm, ?_, ?_⟩⟩
    · simp only [Array.size_append, List.size_toArray, size_zeroCells, labL_len, hl]
      simp [Value.cells]
      omega
    · rw [e, hlen]
      simp only [Array.toList_append]
      rw [List.take_left']
      simp [labL_len, hl]
      omega
  have kept : ∀ o, Kept w (w.drew.alloc o) := fun o => ((Only.refl _ w).drew).alloc o
  rcases h with ⟨a', c', hv, rfl⟩ | ⟨h0, b, o, c', hv, hc⟩
  · simp only [Value.slice.injEq] at hv
    obtain ⟨rfl, rfl, _⟩ := hv
    cases a with
    | none =>
      have hr := run_append_nil (P := Tryz.prog) w 25 0 27 i0 _ Tryz.underlying25 hi0 hz0 ⟨xb, 0, none⟩ 1 1 [.string x.1, .string x.2] (by rw [hz1]; rfl) hnews (by omega) (by omega) (by rw [hz2]; omega)
      refine ⟨_, _, hr, ?_, kept _⟩
      have := own 0
      unfold LabAt
      simpa [labL] using this
    | some b =>
      have hr := run_append_grow (P := Tryz.prog) w 25 0 27 i0 _ Tryz.underlying25 hi0 hz0 b 0 0 [] (by simp) (by simp) ⟨xb, 0, none⟩ 1 1 [.string x.1, .string x.2] (by rw [hz1]; rfl) hnews (by omega) (by omega) (by rw [hz2]; decide)
      refine ⟨_, _, hr, ?_, kept _⟩
      have := own 0
      unfold LabAt
      simpa [labL] using this
  · simp only [Value.slice.injEq] at hv
    obtain ⟨rfl, _, _⟩ := hv
    have hfit : Builtin.nextslicecap (k + 1) k * i0.bytes ≤ 281474976710656 := by
      rw [hz2]
      have := nextslicecap_le (need := k + 1) (old := k) (by omega)
      omega
    have hr := run_append_grow (P := Tryz.prog) w 25 0 27 i0 _ Tryz.underlying25 hi0 hz0 ⟨b, o, none⟩ k k (labL l) (by rw [hz1, labL_len, hl]) (src_cells hc) ⟨xb, 0, none⟩ 1 1 [.string x.1, .string x.2] (by rw [hz1]; rfl) hnews (by omega) (by omega) hfit
    refine ⟨_, _, hr, ?_, kept _⟩
    have := own k
    unfold LabAt
    simpa using this

/-- The three rows that the document's own Make lays for a label. -/
theorem put_rows {w : World} {B : Nat} {v : Value} {l : Labs} (h : LabAt w B v l) (hl : l.length ≤ 100) (k : Nat) (hk : k ≤ l.length) (x : Lab) :
    ∃ a1 a2 c2 a3 c3 w2 g4 c4 w3 g5 c5 w4,
      Hid (∀ W, (Instr.sliceAt 25 v none (some (.int .i64 (k : Int))) (some (.int .i64 (k : Int)))).run Tryz.prog W = .ok (.slice a1 k k) W) ∧
      Hid (∀ W, (Instr.sliceAt 25 v (some (.int .i64 (k : Int))) none none).run Tryz.prog W = .ok (.slice a2 (l.length - k) c2) W) ∧
      Hid ((Builtin.append_ #[25, 25] 0 #[.slice none 0 0, .slice a2 (l.length - k) c2]).run Tryz.prog w = .ok (.slice a3 (l.length - k) c3) w2) ∧
      Hid ((Builtin.append_ #[25, 25] 0 #[.slice a1 k k, .slice (some ⟨w2.heap.size, 0, none⟩) 1 1]).run Tryz.prog (w2.drew.alloc (.cells #[.string x.1, .string x.2] 27)) = .ok (.slice (some ⟨g4, 0, none⟩) (k + 1) c4) w3) ∧
      Hid ((Builtin.append_ #[25, 25] 0 #[.slice (some ⟨g4, 0, none⟩) (k + 1) c4, .slice a3 (l.length - k) c3]).run Tryz.prog w3 = .ok (.slice (some ⟨g5, 0, none⟩) (l.length + 1) c5) w4) ∧
      Hid (LabAt w4 w.heap.size (.slice (some ⟨g5, 0, none⟩) (l.length + 1) c5) (l.take k ++ x :: l.drop k)) ∧ Hid (Kept w w4) ∧ Hid (Kept w w2) ∧ Hid (Kept w2 w3) := by
  obtain ⟨a1, a2, c2, s1, e1, s2, e2⟩ := lab_cut h k hk
  have hlt : (l.take k).length = k := by rw [List.length_take]; omega
  have hld : (l.drop k).length = l.length - k := List.length_drop
  obtain ⟨a3, c3, w2, r3, o3, k2⟩ := lab_copy e2 (by rw [hld]; omega)
  rw [hld] at r3 o3
  have ka : Kept w2 (w2.drew.alloc (.cells #[.string x.1, .string x.2] 27)) := ((Only.refl _ w2).drew).alloc _
  have hbx : Blk (w2.drew.alloc (.cells #[.string x.1, .string x.2] 27)) w2.heap.size [.string x.1, .string x.2] 27 := Blk.new w2.drew _ _
  obtain ⟨c4, w3, r4, o4, k4⟩ := full_append ((e1.stay k2).stay ka) hlt (by omega) hbx
  have h4 : (l.take k ++ [x]).length = k + 1 := by rw [List.length_append, hlt]; rfl
  have k3 : Kept w2 w3 := ka.trans k4 (fun _ _ f => f)
  obtain ⟨v5, w4, r5, o5, g5, _⟩ := lab_append (q := l.drop k) o4 (by have := (LabAt.src o3); exact (this.stay k3)) (by rw [h4, hld]; omega) k4.size
  obtain ⟨g5b, c5, rfl⟩ := ownN_some o5 (by simp; omega)
  have h5 : (l.take k ++ [x] ++ l.drop k).length = l.length + 1 := by rw [List.length_append, h4, hld]; omega
  have o5' : LabAt w4 w.heap.size (.slice (some ⟨g5b, 0, none⟩) (l.take k ++ [x] ++ l.drop k).length c5) (l.take k ++ [x] ++ l.drop k) := ownN_base o5 (Nat.le_trans k2.size ka.size)
  have k5 : Kept w w4 := ((k2.trans k3 (fun _ _ f => f))).grown g5 (fun j hj hjl => by
    have h6 : (w2.drew.alloc (.cells #[.string x.1, .string x.2] 27)).heap.size = j := by simpa [Value.ownBlock] using hj
    have h7 := k2.size
    have h8 := ka.size
    omega)
  rw [h5] at r5 o5'
  have e : l.take k ++ [x] ++ l.drop k = l.take k ++ x :: l.drop k := by simp
  rw [e] at o5'
  exact ⟨a1, a2, c2, a3, c3, w2, _, c4, w3, g5b, c5, w4, s1, s2, r3, r4, r5, o5', k5, k2, k3⟩
end Go.Proofs.YtdgkdgbdkhnpcaaGreat.N
