/-
  Rows of series, joined and cut.
-/
import Derived.Test.YtcacoanhiphbiaaZseq2
import Derived.Test.YtcacoanhiphbiaaZput
namespace Go.Proofs.Ytcacoanhiphbiaa.Ms
open Go Go.RowKit Go.Proofs.Lys Go.Maps
open Go.Proofs.Ytcacoanhiphbiaa.N (Labs LabAt LabSrc)
set_option linter.unusedVariables false
set_option linter.unusedSimpArgs false

/-- A row of series, cell by cell. -/
def SvCells (w : World) (v : Value) (qs : List SV) : Prop :=
  (∃ a c, v = .slice a 0 c ∧ qs = []) ∨ ∃ b o c, v = .slice (some ⟨b, o, none⟩) qs.length c ∧ ∀ i (hi : i < qs.length), w.cell? ⟨b, o + i * 2, none⟩ = some qs[i].lv ∧ w.cell? ⟨b, o + i * 2 + 1, none⟩ = some qs[i].sv
theorem SvCells.stay {w W : World} {v : Value} {qs : List SV} (h : SvCells w v qs) (k : Kept w W) : SvCells W v qs := by
  rcases h with h | ⟨b, o, c, e, hc⟩
  · exact .inl h
  · exact .inr ⟨b, o, c, e, fun i hi => ⟨cell_kept k (hc i hi).1, cell_kept k (hc i hi).2⟩⟩
theorem own_cells {w : World} {B : Nat} {v : Value} {qs : List SV} (h : w.ownsRow B 29 2 v qs.length (svL qs)) : SvCells w v qs := by
  by_cases h0 : qs.length = 0
  · have : qs = [] := List.length_eq_zero_iff.1 h0
    subst this
    obtain ⟨a, c, rfl⟩ := ownN_slice h
    exact .inl ⟨a, c, rfl, rfl⟩
  · obtain ⟨g, cap, rfl⟩ := ownN_some h (by omega)
    refine .inr ⟨g, 0, cap, rfl, fun i hi => ?_⟩
    have hx := svL_at qs i hi
    rw [Nat.zero_add]
    exact ⟨by rw [h.cellAt (i * 2) (by omega)]; exact hx.1, by rw [h.cellAt (i * 2 + 1) (by omega)]; exact hx.2⟩
theorem own_cap {w : World} {B : Nat} {v : Value} {qs : List SV} (h : w.ownsRow B 29 2 v qs.length (svL qs)) : ∃ a c, v = .slice a qs.length c ∧ qs.length ≤ c := by
  rcases h.2 with ⟨rfl, h0⟩ | ⟨g, cap, cur, rfl, _, _, hnc, _⟩
  · exact ⟨none, 0, by rw [h0], by omega⟩
  · exact ⟨_, cap, rfl, hnc⟩
/-- Values that are slices. -/
def SvPlain (qs : List SV) : Prop := ∀ q ∈ qs, (∃ a n c, q.lv = .slice a n c) ∧ ∃ a n c, q.sv = .slice a n c
theorem svL_plain {qs : List SV} (h : SvPlain qs) : ∀ u ∈ svL qs, u.oneCell' = true := by
  induction qs with
  | nil => intro u hu; cases hu
  | cons p r ih =>
    intro u hu
    rw [svL] at hu
    simp only [List.mem_cons] at hu
    rcases hu with rfl | rfl | hu
    · obtain ⟨a, n, c, e⟩ := (h p (List.mem_cons_self ..)).1
      rw [e]; rfl
    · obtain ⟨a, n, c, e⟩ := (h p (List.mem_cons_self ..)).2
      rw [e]; rfl
    · exact ih (fun q hq => h q (List.mem_cons_of_mem _ hq)) u hu
theorem sv_append {w : World} {B : Nat} {v xv : Value} {l q : List SV} (hown : w.ownsRow B 29 2 v l.length (svL l)) (hsrc : SvCells w xv q) (hq : SvPlain q) (hl : l.length + q.length ≤ 1000000) (hB : B ≤ w.heap.size) :
    ∃ v' w', (Builtin.append_ #[25, 25] 0 #[v, xv]).run Try.prog w = .ok v' w' ∧ w'.ownsRow B 29 2 v' (l ++ q).length (svL (l ++ q)) ∧ w.grownBy w' v.ownBlock ∧ (v'.ownBlock = v.ownBlock ∨ v'.ownBlock = some w.heap.size) := by
  obtain ⟨i0, hi0, hz0, hz1, hz2⟩ := info_parts Try.infoSerM
  have hm : l.length + q.length ≤ maxLen := by unfold maxLen; omega
  have ht := Try.underlying25
  have hll : (l ++ q).length = l.length + q.length := List.length_append
  have main : ∀ (a : Addr) (c : Nat), xv = .slice (some a) q.length c → (∀ j u, (svL q)[j]? = some u → w.cell? (a.add j) = some u) → ∃ v' w', (Builtin.append_ #[25, 25] 0 #[v, xv]).run Try.prog w = .ok v' w' ∧ w'.ownsRow B 29 2 v' (l ++ q).length (svL (l ++ q)) ∧ w.grownBy w' v.ownBlock ∧ (v'.ownBlock = v.ownBlock ∨ v'.ownBlock = some w.heap.size) := by
    intro a c e hc
    subst e
    obtain ⟨v', w', hr, h2, h3, _, h5⟩ := run_append_own_at (P := Try.prog) w B _ 0 _ i0 _ 2 48 ht hi0 hz0 hz1 hz2 rfl (by decide) v l.length (svL l) hown a q.length c (svL q) (svL_len q)
      hc (svL_plain hq) hm (by omega) hB
    refine ⟨v', w', hr, ?_, h3, h5⟩
    rw [hll, svL_app]
    exact h2
  rcases hsrc with ⟨a, c, rfl, rfl⟩ | ⟨b, o, c, rfl, hc⟩
  · cases a with
    | none =>
      refine ⟨v, w, ?_, by rw [List.append_nil]; exact hown, World.grownBy.refl _ _, .inl rfl⟩
      rcases hown.2 with ⟨rfl, h0⟩ | ⟨g, cap, cur, rfl, hbg, hg, hnc, hcm, hcs, htake⟩
      · simp [Builtin.append_, run_underlying ht, sizeOf, typeInfo, hi0, Builtin.lenOf, Builtin.firstCells]
      · simp [Builtin.append_, run_underlying ht, sizeOf, typeInfo, hi0, Builtin.lenOf, Builtin.firstCells, hnc, storeCells]
    | some a => exact main a c rfl (fun j u hu => by simp [svL] at hu)
  · refine main _ c rfl (fun j u hu => ?_)
    rw [add_none]
    have hj : j < (svL q).length := (List.getElem?_eq_some_iff.1 hu).1
    rw [svL_len] at hj
    have hx := svL_at q (j / 2) (by omega)
    have hcc := hc (j / 2) (by omega)
    rcases Nat.mod_two_eq_zero_or_one j with hp | hp
    · have ej : j = j / 2 * 2 := by omega
      rw [ej] at hu ⊢
      rw [hx.1] at hu
      cases hu
      exact hcc.1
    · have ej : j = j / 2 * 2 + 1 := by omega
      rw [ej] at hu ⊢
      rw [hx.2] at hu
      cases hu
      rw [← Nat.add_assoc]
      exact hcc.2
/-- A copy of a row of series. -/
theorem sv_copy {w : World} {xv : Value} {q : List SV} (hsrc : SvCells w xv q) (hq : SvPlain q) (hl : q.length ≤ 100000) :
    ∃ v w', Hid ((Builtin.append_ #[25, 25] 0 #[.slice none 0 0, xv]).run Try.prog w = .ok v w') ∧ w'.ownsRow w.heap.size 29 2 v q.length (svL q) ∧ Kept w w' := by
  obtain ⟨v', w', hr, h1, h2, h3⟩ := sv_append (w := w) (B := w.heap.size) (v := .slice none 0 0) (l := []) ⟨rfl, .inl ⟨rfl, rfl⟩⟩ hsrc hq (by simp; omega) (Nat.le_refl _)
  rw [List.nil_append] at h1
  exact ⟨v', w', hr, h1, (Only.refl _ w).grown h2 (fun j hj => by cases hj)⟩
/-- A part of a row of series. -/
theorem sv_part {w : World} {a : Option Addr} {c : Nat} {qs : List SV} (hs : SvCells w (.slice a qs.length c) qs) (hc : qs.length ≤ c) {lo hi : Nat} (h1 : lo ≤ hi) (h2 : hi ≤ qs.length) :
    SvCells w (.slice (if c = lo then a else a.map (·.add (lo * 2))) (hi - lo) (c - lo)) ((qs.take hi).drop lo) := by
  have hlen : ((qs.take hi).drop lo).length = hi - lo := by rw [List.length_drop, List.length_take]; omega
  by_cases h0 : hi - lo = 0
  · have hn : (qs.take hi).drop lo = [] := List.length_eq_zero_iff.1 (by rw [hlen]; exact h0)
    rw [hn, h0]
    exact .inl ⟨_, _, rfl, rfl⟩
  · rcases hs with ⟨x, y, hv, hn⟩ | ⟨b, o, c2, hv, hcell⟩
    · rw [hn] at h2
      simp at h2
      omega
    · simp only [Value.slice.injEq] at hv
      obtain ⟨rfl, _, rfl⟩ := hv
      rw [if_neg (by omega)]
      refine .inr ⟨b, o + lo * 2, c - lo, by rw [hlen, Option.map_some, add_none], fun i hi' => ?_⟩
      rw [hlen] at hi'
      have := hcell (lo + i) (by omega)
      have e5 : ((qs.take hi).drop lo)[i]'(by rw [hlen]; exact hi') = qs[lo + i]'(by omega) := by
        rw [List.getElem_drop, List.getElem_take]
      rw [e5, show o + lo * 2 + i * 2 = o + (lo + i) * 2 by omega]
      exact this
theorem Try.sizeSer (W : World) : (sizeOf 29).run Try.prog W = .ok 2 W := by kernel_rfl
theorem sv_to {w : World} {a : Option Addr} {c : Nat} {qs : List SV} (hs : SvCells w (.slice a qs.length c) qs) (hc : qs.length ≤ c) {hi : Nat} (h2 : hi ≤ qs.length) :
    ∃ a' c', (∀ W, (Instr.sliceAt 25 (.slice a qs.length c) none (some (.int .i64 (hi : Int))) none).run Try.prog W = .ok (.slice a' hi c') W) ∧ SvCells w (.slice a' hi c') (qs.take hi) := by
  have e2 : hi ≤ c := by omega
  refine ⟨_, _, fun W => ?_, by have := sv_part hs hc (Nat.zero_le hi) h2; simpa using this⟩
  simp [Instr.sliceAt, Instr.slice, Instr.sliceBounds, Instr.sliceBound, run_underlying Try.underlying25, asIntOf, e2, Try.sizeSer, Result.andThen]
theorem sv_from {w : World} {a : Option Addr} {c : Nat} {qs : List SV} (hs : SvCells w (.slice a qs.length c) qs) (hc : qs.length ≤ c) {lo : Nat} (h2 : lo ≤ qs.length) :
    ∃ a' c', (∀ W, (Instr.sliceAt 25 (.slice a qs.length c) (some (.int .i64 (lo : Int))) none none).run Try.prog W = .ok (.slice a' (qs.length - lo) c') W) ∧ SvCells w (.slice a' (qs.length - lo) c') (qs.drop lo) := by
  refine ⟨_, _, fun W => ?_, by have := sv_part hs hc h2 (Nat.le_refl _); rw [List.take_length] at this; exact this⟩
  simp [Instr.sliceAt, Instr.slice, Instr.sliceBounds, Instr.sliceBound, run_underlying Try.underlying25, asIntOf, h2, hc, Try.sizeSer, Result.andThen]

end Go.Proofs.Ytcacoanhiphbiaa.Ms
