/-
  Slices of pairs of numbers that came in.
-/
import Derived.Test.YtephpgiiljjieabBlaw
import Derived.Deep.Slices
import Derived.OpenShut
namespace Go.Proofs.Ytephpgiiljjieab
open Go.RowKit Go.Proofs.Lys
set_option linter.unusedVariables false

/-- A slice of pairs of numbers that is read. -/
def PairSrc (w : World) (v : Value) (ps : List (Int × Int)) : Prop :=
  (∃ a c, v = .slice a 0 c ∧ ps = []) ∨
  (0 < ps.length ∧ ∃ b o c, v = .slice (some ⟨b, o, none⟩) ps.length c ∧ ∀ i (hi : i < ps.length), w.cell? ⟨b, o + i * 2, none⟩ = some (.int .i64 ps[i].1) ∧ w.cell? ⟨b, o + i * 2 + 1, none⟩ = some (.int .i64 ps[i].2) ∧ -9223372036854775808 ≤ ps[i].1 ∧ ps[i].1 ≤ 9223372036854775807)

theorem PairSrc.kept {w w' : World} {v : Value} {ps : List (Int × Int)} (h : PairSrc w v ps) (k : Kept w w') : PairSrc w' v ps := by
  have each : ∀ a u, w.cell? a = some u → w'.cell? a = some u := fun a u hc => by
    rw [World.cell?_of_block (w := w) (w' := w') (a := a) (k.block a.block (World.block_lt_of_cell? w a hc) (fun f => f))]
    exact hc
  rcases h with h | ⟨h0, b, o, c, rfl, hc⟩
  · exact .inl h
  · exact .inr ⟨h0, b, o, c, rfl, fun i hi => ⟨each _ _ (hc i hi).1, each _ _ (hc i hi).2.1, (hc i hi).2.2⟩⟩
theorem PairSrc.len {w : World} {v : Value} {ps : List (Int × Int)} (h : PairSrc w v ps) : ∃ a c, v = .slice a ps.length c := by
  rcases h with ⟨a, c, rfl, rfl⟩ | ⟨_, b, o, c, rfl, _⟩
  · exact ⟨a, c, rfl⟩
  · exact ⟨_, c, rfl⟩

theorem Try.cellsPair : Try.prog.cellsOf 48 = 2 := by kernel_rfl
theorem Try.cellsInt : Try.prog.cellsOf 3 = 1 := by kernel_rfl

set_option maxRecDepth 100000 in
theorem open_pairs {H : Type} {enc : TypeId × Value → H} {w : World} {spare : Nat → Bool} {held : Bool} {base : Nat} {a0 : Option Addr} {len0 cap0 : Nat} {x : DataW H × List MemPlace}
    (h : ∃ m, DataW.trod enc Try.prog w base spare held m 39 (Value.slice a0 len0 cap0).cells.toList = some x) : ∃ ps, PairSrc w (.slice a0 len0 cap0) ps := by
  obtain ⟨fuel, hf⟩ := h
  rcases Deep.open_slice Try.underlying39 hf with ⟨hcs, _⟩ | ⟨a, len, cap, m, n, D, Pl, hcs, _, hl, hm, hmm, _, hx⟩
  · simp [Value.cells] at hcs
    obtain ⟨rfl, rfl, rfl⟩ := hcs
    exact ⟨[], .inl ⟨_, _, rfl, rfl⟩⟩
  · simp [Value.cells] at hcs
    obtain ⟨rfl, rfl, rfl⟩ := hcs
    have hlm : len0 ≤ m := by rw [hmm]; split <;> omega
    have each : ∀ i, i < len0 → ∃ q : Int × Int, w.cell? (a.add (i * 2)) = some (.int .i64 q.1) ∧ w.cell? (a.add (i * 2 + 1)) = some (.int .i64 q.2) ∧ -9223372036854775808 ≤ q.1 ∧ q.1 ≤ 9223372036854775807 := by
      intro i hi
      obtain ⟨cs', h1, h2⟩ := hx i (by omega)
      rw [Try.cellsPair] at h1
      obtain ⟨_, hlen, hcell⟩ := World.cells?_some h1
      obtain ⟨xs, k, hk, hxy, _, hxl, hf⟩ := DataW.trod_array Try.underlying48 h2
      match cs', hlen with
      | [v0, v1], _ =>
        have g0 := hf 0 (by omega)
        have g1 := hf 1 (by omega)
        rw [Try.cellsInt] at g0 g1
        rw [List.getElem?_eq_getElem (by omega)] at g0 g1
        obtain ⟨n0, e0, _, wf0⟩ := DataW.trod_int Try.underlying3 g0
        obtain ⟨n1, e1, _⟩ := DataW.trod_int Try.underlying3 g1
        have c0 := hcell 0 (by omega)
        have c1 := hcell 1 (by omega)
        rw [Deep.add_add] at c0 c1
        simp at e0 e1 c0 c1
        exact ⟨(n0, n1), by rw [c0, e0], by rw [c1, e1], bounds_i64 wf0⟩
    obtain ⟨q, hq⟩ := Deep.choose_lt each
    by_cases h0 : len0 = 0
    · subst h0
      exact ⟨[], .inl ⟨_, _, rfl, rfl⟩⟩
    · refine ⟨(List.range len0).map q, .inr ⟨by simp; omega, ?_⟩⟩
      obtain ⟨b, o, spot⟩ := a
      have hs : spot = none := by simpa [Addr.add] using World.cell?_spot (hq 0 (by omega)).1
      subst hs
      refine ⟨b, o, cap0, by simp, fun i hi => ?_⟩
      have hi' : i < len0 := by simpa using hi
      have := hq i hi'
      rw [add_none, add_none, ← Nat.add_assoc] at this
      simpa using this
end Go.Proofs.Ytephpgiiljjieab
