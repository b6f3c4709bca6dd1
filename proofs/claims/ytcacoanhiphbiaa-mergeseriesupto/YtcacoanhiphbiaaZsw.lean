/-
  A row of series in two; a series behind a slice that is full.
-/
import Derived.Test.YtcacoanhiphbiaaZsv
namespace Go.Proofs.Ytcacoanhiphbiaa.Ms
open Go Go.RowKit Go.Proofs.Lys Go.Maps
open Go.Proofs.Ytcacoanhiphbiaa.N (Labs LabAt LabSrc)
set_option linter.unusedVariables false
set_option linter.unusedSimpArgs false

def SvAt (w : World) (B : Nat) (v : Value) (l : List SV) : Prop := w.ownsRow B 29 2 v l.length (svL l)
theorem sv_src {w : World} {b o : Nat} {l : List SV} (h : ∀ i (hi : i < l.length), w.cell? ⟨b, o + i * 2, none⟩ = some l[i].lv ∧ w.cell? ⟨b, o + i * 2 + 1, none⟩ = some l[i].sv) : ∀ j u, (svL l)[j]? = some u → w.cell? ((⟨b, o, none⟩ : Addr).add j) = some u := by
  intro j u hu
  rw [add_none]
  have hj : j < (svL l).length := (List.getElem?_eq_some_iff.1 hu).1
  rw [svL_len] at hj
  have hx := svL_at l (j / 2) (by omega)
  have hcc := h (j / 2) (by omega)
  rcases Nat.mod_two_eq_zero_or_one j with hp | hp
  · have ej : j = j / 2 * 2 := by omega
    rw [ej] at hu ⊢
    rw [hx.1] at hu
    cases hu
    exact hcc.1
  · have ej : j = j / 2 * 2 + 1 := by omega
    rw [ej] at hu ⊢
    rw [hx.2] at hu
    cases hu
    rw [← Nat.add_assoc]
    exact hcc.2
/-- A row of series in two. -/
theorem sv_cut {w : World} {B : Nat} {v : Value} {l : List SV} (h : SvAt w B v l) (k : Nat) (hk : k ≤ l.length) :
    ∃ a1 a2 c2, (∀ W, (Instr.sliceAt 25 v none (some (.int .i64 (k : Int))) (some (.int .i64 (k : Int)))).run Try.prog W = .ok (.slice a1 k k) W) ∧ SvCells w (.slice a1 k k) (l.take k) ∧
      (∀ W, (Instr.sliceAt 25 v (some (.int .i64 (k : Int))) none none).run Try.prog W = .ok (.slice a2 (l.length - k) c2) W) ∧ SvCells w (.slice a2 (l.length - k) c2) (l.drop k) := by
  have ht := Try.underlying25
  rcases h.2 with ⟨rfl, h0⟩ | ⟨g, cap, cur, rfl, hb, hg, hnc, hcm, hcs, htake⟩
  · have hl : l = [] := List.length_eq_zero_iff.1 h0
    subst hl
    have hk0 : k = 0 := by simpa using hk
    subst hk0
    exact ⟨none, none, 0, fun W => by kernel_rfl, .inl ⟨_, _, rfl, rfl⟩, fun W => by kernel_rfl, .inl ⟨_, _, rfl, rfl⟩⟩
  · have hs := own_cells h
    have hkc : k ≤ cap := by omega
    refine ⟨some ⟨g, 0, none⟩, some (if cap = k then ⟨g, 0, none⟩ else ⟨g, k * 2, none⟩), cap - k, fun W => ?_, ?_, fun W => ?_, ?_⟩
    · simp [Instr.sliceAt, Instr.slice, Instr.sliceBounds, Instr.sliceBound, run_underlying ht, asIntOf, hkc, Addr.add, Result.andThen, Try.sizeSer]
    · rcases hs with ⟨a, c, e, e2⟩ | ⟨b, o, c, e1, hc⟩
      · subst e2
        have hk0 : k = 0 := by simpa using hk
        subst hk0
        exact .inl ⟨_, _, rfl, rfl⟩
      · cases e1
        have hlt : (l.take k).length = k := by rw [List.length_take]; omega
        refine .inr ⟨g, 0, k, by rw [hlt], fun i hi => ?_⟩
        rw [List.getElem_take]
        exact hc i (by omega)
    · simp [Instr.sliceAt, Instr.slice, Instr.sliceBounds, Instr.sliceBound, run_underlying ht, asIntOf, hk, Addr.add, Result.andThen, Try.sizeSer]
      by_cases hck : cap = k
      · rw [if_pos hck, if_pos hck]
      · rw [if_neg hck, if_neg hck]
        by_cases hk0 : k * 2 = 0
        · rw [if_pos hk0, hk0]
        · rw [if_neg hk0]
    · by_cases hkl : k = l.length
      · subst hkl
        rw [Nat.sub_self, List.drop_length]
        exact .inl ⟨_, _, rfl, rfl⟩
      · rcases hs with ⟨a, c, e, e2⟩ | ⟨b, o, c, e1, hc⟩
        · subst e2
          simp at hk hkl
          omega
        · cases e1
          have hlt : (l.drop k).length = l.length - k := List.length_drop
          refine .inr ⟨g, k * 2, cap - k, by rw [hlt, if_neg (by omega)], fun i hi => ?_⟩
          rw [List.getElem_drop]
          have := hc (k + i) (by omega)
          rw [Nat.zero_add, Nat.add_mul] at this
          exact this
/-- A series behind a slice that is full. -/
theorem sv_full {w : World} {a : Option Addr} {k xb : Nat} {l : List SV} {x : SV} (h : SvCells w (.slice a k k) l) (hl : l.length = k) (hk : k ≤ 100000) (hx : Blk w xb [x.lv, x.sv] 29) :
    ∃ c w', Hid ((Builtin.append_ #[25, 25] 0 #[.slice a k k, .slice (some ⟨xb, 0, none⟩) 1 1]).run Try.prog w = .ok (.slice (some ⟨w.heap.size, 0, none⟩) (k + 1) c) w') ∧ SvAt w' w.heap.size (.slice (some ⟨w.heap.size, 0, none⟩) (k + 1) c) (l ++ [x]) ∧ Kept w w' := by
  obtain ⟨i0, hi0, hz0, hz1, hz2⟩ := info_parts Try.infoSerM
  have hnews : ∀ j v, ([x.lv, x.sv] : List Value)[j]? = some v → w.cell? ((⟨xb, 0, none⟩ : Addr).add j) = some v := fun j u hj => by rw [add_none, Nat.zero_add]; exact hx.cell j hj
  have e : svL (l ++ [x]) = svL l ++ [x.lv, x.sv] := by rw [svL_app]; rfl
  have own : ∀ old, (w.drew.alloc (.cells ((svL l).toArray ++ #[x.lv, x.sv] ++ Builtin.zeroCells (Value.agg #[.slice none 0 0, .slice none 0 0]).cells (grownCap w (k + 1) old 29 - (k + 1))) 29)).ownsRow w.heap.size 29 2 (.slice (some ⟨w.heap.size, 0, none⟩) (k + 1) (grownCap w (k + 1) old 29)) (l ++ [x]).length (svL (l ++ [x])) := fun old => by
    have hge := grownCap_ge w (k + 1) old 29
    have hcm := grownCap_le_maxLen w (k + 1) old 29 (by unfold maxLen; omega)
    have hlen : (l ++ [x]).length = k + 1 := by rw [List.length_append, hl]; rfl
    refine ⟨svL_len _, .inr ⟨w.heap.size, _, _, by rw [hlen], Nat.le_refl _, heap_alloc_new w.drew _, by rw [hlen]; exact hge, hcm, ?_, ?_⟩⟩
    · simp only [Array.size_append, List.size_toArray, size_zeroCells, svL_len, hl]
      simp [Value.cells]
      omega
    · rw [e, hlen]
      simp only [Array.toList_append]
      rw [List.take_left']
      simp [svL_len, hl]
      omega
  have kept : ∀ o, Kept w (w.drew.alloc o) := fun o => ((Only.refl _ w).drew).alloc o
  rcases h with ⟨a', c', hv, rfl⟩ | ⟨b, o, c', hv, hc⟩
  · simp only [Value.slice.injEq] at hv
    obtain ⟨rfl, rfl, _⟩ := hv
    cases a with
    | none =>
      have hr := run_append_nil (P := Try.prog) w 25 0 29 i0 _ Try.underlying25 hi0 hz0 ⟨xb, 0, none⟩ 1 1 [x.lv, x.sv] (by rw [hz1]; rfl) hnews (by omega) (by omega) (by rw [hz2]; omega)
      refine ⟨_, _, hr, ?_, kept _⟩
      have := own 0
      unfold SvAt
      simpa [svL] using this
    | some b =>
      have hr := run_append_grow (P := Try.prog) w 25 0 29 i0 _ Try.underlying25 hi0 hz0 b 0 0 [] (by simp) (by simp) ⟨xb, 0, none⟩ 1 1 [x.lv, x.sv] (by rw [hz1]; rfl) hnews (by omega) (by omega) (by rw [hz2]; decide)
      refine ⟨_, _, hr, ?_, kept _⟩
      have := own 0
      unfold SvAt
      simpa [svL] using this
  · simp only [Value.slice.injEq] at hv
    obtain ⟨rfl, _, _⟩ := hv
    have hfit : Builtin.nextslicecap (k + 1) k * i0.bytes ≤ 281474976710656 := by
      rw [hz2]
      have := nextslicecap_le (need := k + 1) (old := k) (by omega)
      omega
    have hr := run_append_grow (P := Try.prog) w 25 0 29 i0 _ Try.underlying25 hi0 hz0 ⟨b, o, none⟩ k k (svL l) (by rw [hz1, svL_len, hl]) (sv_src hc) ⟨xb, 0, none⟩ 1 1 [x.lv, x.sv] (by rw [hz1]; rfl) hnews (by omega) (by omega) hfit
    refine ⟨_, _, hr, ?_, kept _⟩
    have := own k
    unfold SvAt
    simpa using this
end Go.Proofs.Ytcacoanhiphbiaa.Ms
