/-
  Put; the document's own Merge of two; a part of samples.
-/
import Derived.Test.YtcacoanhiphbiaaZrmrg
import Derived.Test.YtcacoanhiphbiaaZrng2
namespace Go.Proofs.Ytcacoanhiphbiaa.Mg
open Go Go.RowKit Go.Proofs.Lys
set_option linter.unusedVariables false
set_option linter.unusedSimpArgs false

theorem rmerge2 (w : World) (v1 v2 : Value) (l1 l2 : Smps) (h1 : SSrc w v1 l1) (h2 : SSrc w v2 l2) (hl : l1.length + l2.length ≤ 100000) :
    Calls Try.prog 21 #[.slice (some ⟨w.heap.size, 0, none⟩) 2 2] (w.alloc (.cells #[v1, v2] 27)) (RngP w (mrg (l1 ++ l2))) := by
  have k : Kept w (w.alloc (.cells #[v1, v2] 27)) := (Only.refl _ w).alloc _
  have hb := Blk.new w [v1, v2] 27
  have hs : LLSrc (w.alloc (.cells #[v1, v2] 27)) (.slice (some ⟨w.heap.size, 0, none⟩) 2 2) [v1, v2] [l1, l2] := by
    refine ⟨.inr ⟨⟨w.heap.size, 0, none⟩, 2, rfl, fun j u hu => by rw [add_none, Nat.zero_add]; exact hb.cell j hu⟩, rfl, fun i hi hi' => ?_⟩
    match i, hi with
    | 0, _ => exact h1.stay k
    | 1, _ => exact h2.stay k
  have hf : ([l1, l2] : List Smps).flatten = l1 ++ l2 := by simp
  refine (rmerge_any _ _ _ _ hs (by rw [hf, List.length_append]; exact hl) (by show 2 ≤ 100000; decide)).mono ?_
  rintro e w' ⟨v, rfl, h3, k3⟩
  rw [hf] at h3
  exact ⟨v, rfl, ownN_base h3 k.size, k.trans k3 (fun _ _ f => f)⟩
theorem ssrc_to {w : World} {a : Option Addr} {L c : Nat} {l : Smps} (hs : SSrc w (.slice a L c) l) (hL : l.length = L) {hi : Nat} (h2 : hi ≤ L) :
    ∃ a' c', (∀ W, (Instr.sliceAt 27 (.slice a L c) none (some (.int .i64 (hi : Int))) none).run Try.prog W = .ok (.slice a' hi c') W) ∧ SSrc w (.slice a' hi c') (l.take hi) := by
  subst hL
  obtain ⟨h1, a2, c2, e, hc⟩ := hs
  simp only [Value.slice.injEq] at e
  obtain ⟨rfl, _, rfl⟩ := e
  have e2 : hi ≤ c := by omega
  have hlen : (l.take hi).length = hi := by rw [List.length_take]; omega
  refine ⟨if c = 0 then a else a.map (·.add (0 * 2)), c, fun W => ?_, by have := smp_part h1 hc (Nat.zero_le hi) h2; simpa using this, _, c, by rw [hlen], by rw [hlen]; exact e2⟩
  simp [Instr.sliceAt, Instr.slice, Instr.sliceBounds, Instr.sliceBound, run_underlying Try.underlying27, asIntOf, e2, Try.sizeSm2, Result.andThen]
theorem row_ssrc {w : World} {g : Nat} {x : Smp} (h : Blk w g [.int .i64 x.1, .int .i64 x.2] 36) : SSrc w (.slice (some ⟨g, 0, none⟩) 1 1) [x] := by
  refine ⟨.inr ⟨by simp, g, 0, 1, rfl, fun i hi => ?_⟩, _, 1, rfl, Nat.le_refl _⟩
  have : i = 0 := by simpa using hi
  subst this
  exact ⟨h.cell 0 rfl, h.cell 1 rfl⟩
end Go.Proofs.Ytcacoanhiphbiaa.Mg
