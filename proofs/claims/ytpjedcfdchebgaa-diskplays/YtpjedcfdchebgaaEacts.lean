/-
  Rows of calls, fuses, faults and crashes that came in as data.
-/
import Derived.Test.YtpjedcfdchebgaaLcalls
namespace Go.Proofs.Ytpjedcfdchebgaa
open Go.RowKit Go.Proofs.Lys Go.Maps Go.Shelf
set_option linter.unusedVariables false

/-- An act that came in. -/
structure CAct where
  way : Int
  num : Int
  op : COp
  kv : Value
  keep : List Int
instance : Inhabited CAct := ⟨⟨0, 0, default, .slice none 0 0, []⟩⟩
structure CAct.ok (w : World) (a : CAct) : Prop where
  w0 : -9223372036854775808 ≤ a.way
  w1 : a.way ≤ 9223372036854775807
  n0 : -9223372036854775808 ≤ a.num
  n1 : a.num ≤ 9223372036854775807
  op : a.op.ok w
  keep : NumSrc w a.kv a.keep

theorem Try.cellsAct : Try.prog.cellsOf 34 = 7 := by kernel_rfl
theorem Try.cellsNums : Try.prog.cellsOf 32 = 1 := by kernel_rfl
theorem open_nums1 {H : Type} {enc : TypeId × Value → H} {w : World} {spare : Nat → Bool} {held : Bool} {base fuel : Nat} {v : Value} {x : DataW H × List MemPlace}
    (h : DataW.trod enc Try.prog w base spare held fuel 32 [v] = some x) : ∃ l : List Int, NumSrc w v l := by
  have hv : ∃ a l c, v = .slice a l c := by
    rcases Deep.open_slice Try.underlying32 h with ⟨hcs, _⟩ | ⟨a, len, cap, m, n, D, Pl, hcs, _⟩
    · exact ⟨_, _, _, List.head_eq_of_cons_eq hcs⟩
    · exact ⟨_, _, _, List.head_eq_of_cons_eq hcs⟩
  obtain ⟨a, l, c, rfl⟩ := hv
  exact open_nums ⟨fuel, h⟩

open Go.ChangeShapes in
set_option maxRecDepth 100000 in
theorem open_act {H : Type} {enc : TypeId × Value → H} {w : World} {spare : Nat → Bool} {held : Bool} {base fuel : Nat} {cs : List Value} {x : DataW H × List MemPlace}
    (h : DataW.trod enc Try.prog w base spare held fuel 34 cs = some x) : ∃ q : CAct, q.ok w ∧ cs = [.int .i64 q.way, .int .i64 q.num, .int .i64 q.op.k, .string q.op.n, .string q.op.t, q.op.v, q.kv] := by
  obtain ⟨xs, m, _, _, hlen, hxl, hf⟩ := DataW.trod_struct Try.underlying34 h
  rw [Try.cellsAct] at hlen
  have hxl4 : xs.length = 4 := hxl
  match cs, hlen with
  | [v0, v1, v2, v3, v4, v5, v6], _ =>
    have g0 : DataW.trod enc Try.prog w base spare held m 3 ((([v0, v1, v2, v3, v4, v5, v6] : List Value).drop 0).take (Try.prog.cellsOf 3)) = xs[0]? := hf 0 _ rfl
    have g1 : DataW.trod enc Try.prog w base spare held m 3 ((([v0, v1, v2, v3, v4, v5, v6] : List Value).drop 1).take (Try.prog.cellsOf 3)) = xs[1]? := hf 1 _ rfl
    have g2 : DataW.trod enc Try.prog w base spare held m 31 ((([v0, v1, v2, v3, v4, v5, v6] : List Value).drop 2).take (Try.prog.cellsOf 31)) = xs[2]? := hf 2 _ rfl
    have g3 : DataW.trod enc Try.prog w base spare held m 32 ((([v0, v1, v2, v3, v4, v5, v6] : List Value).drop 6).take (Try.prog.cellsOf 32)) = xs[3]? := hf 3 _ rfl
    rw [Try.cellsInt, List.getElem?_eq_getElem (by omega)] at g0
    rw [Try.cellsInt, List.getElem?_eq_getElem (by omega)] at g1
    rw [Try.cellsOp, List.getElem?_eq_getElem (by omega)] at g2
    rw [Try.cellsNums, List.getElem?_eq_getElem (by omega)] at g3
    obtain ⟨n0, e0, _, wf0⟩ := DataW.trod_int Try.underlying3 g0
    obtain ⟨n1, e1, _, wf1⟩ := DataW.trod_int Try.underlying3 g1
    obtain ⟨q, hq, e2⟩ := open_op g2
    obtain ⟨l, hl⟩ := open_nums1 (v := v6) g3
    have f0 := List.head_eq_of_cons_eq e0
    have f1 := List.head_eq_of_cons_eq e1
    subst f0 f1
    obtain ⟨b1, b2⟩ := bounds_i64 wf0
    obtain ⟨b3, b4⟩ := bounds_i64 wf1
    have e2' : ([v2, v3, v4, v5] : List Value) = [.int .i64 q.k, .string q.n, .string q.t, q.v] := e2
    injection e2' with h2 e2'
    injection e2' with h3 e2'
    injection e2' with h4 e2'
    injection e2' with h5 e2'
    subst h2 h3 h4 h5
    exact ⟨⟨n0, n1, q, v6, l⟩, ⟨b1, b2, b3, b4, hq, hl⟩, rfl⟩

/-- Acts that are read. -/
def ActsSrc (w : World) (v : Value) (ps : List CAct) : Prop :=
  (∃ a c, v = .slice a 0 c ∧ ps = []) ∨
  (0 < ps.length ∧ ∃ b o c, v = .slice (some ⟨b, o, none⟩) ps.length c ∧ ∀ i (hi : i < ps.length), w.cell? ⟨b, o + i * 7, none⟩ = some (.int .i64 ps[i].way) ∧ w.cell? ⟨b, o + i * 7 + 1, none⟩ = some (.int .i64 ps[i].num) ∧ w.cell? ⟨b, o + i * 7 + 2, none⟩ = some (.int .i64 ps[i].op.k) ∧ w.cell? ⟨b, o + i * 7 + 3, none⟩ = some (.string ps[i].op.n) ∧ w.cell? ⟨b, o + i * 7 + 4, none⟩ = some (.string ps[i].op.t) ∧ w.cell? ⟨b, o + i * 7 + 5, none⟩ = some ps[i].op.v ∧ w.cell? ⟨b, o + i * 7 + 6, none⟩ = some ps[i].kv ∧ ps[i].ok w)
theorem ActsSrc.len {w : World} {v : Value} {ps : List CAct} (h : ActsSrc w v ps) : ∃ a c, v = .slice a ps.length c := by
  rcases h with ⟨a, c, rfl, rfl⟩ | ⟨_, b, o, c, rfl, _⟩
  · exact ⟨a, c, rfl⟩
  · exact ⟨_, c, rfl⟩

set_option maxRecDepth 100000 in
theorem open_acts {H : Type} {enc : TypeId × Value → H} {w : World} {spare : Nat → Bool} {held : Bool} {base : Nat} {a0 : Option Addr} {len0 cap0 : Nat} {x : DataW H × List MemPlace}
    (h : ∃ m, DataW.trod enc Try.prog w base spare held m 22 (Value.slice a0 len0 cap0).cells.toList = some x) : ∃ ps, ActsSrc w (.slice a0 len0 cap0) ps := by
  obtain ⟨fuel, hf⟩ := h
  rcases Deep.open_slice Try.underlying22 hf with ⟨hcs, _⟩ | ⟨a, len, cap, m, n, D, Pl, hcs, _, hl, hm, hmm, _, hx⟩
  · simp [Value.cells] at hcs
    obtain ⟨rfl, rfl, rfl⟩ := hcs
    exact ⟨[], .inl ⟨_, _, rfl, rfl⟩⟩
  · simp [Value.cells] at hcs
    obtain ⟨rfl, rfl, rfl⟩ := hcs
    have hlm : len0 ≤ m := by rw [hmm]; split <;> omega
    have each : ∀ i, i < len0 → ∃ q : CAct, w.cell? (a.add (i * 7)) = some (.int .i64 q.way) ∧ w.cell? (a.add (i * 7 + 1)) = some (.int .i64 q.num) ∧ w.cell? (a.add (i * 7 + 2)) = some (.int .i64 q.op.k) ∧ w.cell? (a.add (i * 7 + 3)) = some (.string q.op.n) ∧ w.cell? (a.add (i * 7 + 4)) = some (.string q.op.t) ∧ w.cell? (a.add (i * 7 + 5)) = some q.op.v ∧ w.cell? (a.add (i * 7 + 6)) = some q.kv ∧ q.ok w := by
      intro i hi
      obtain ⟨cs', h1, h2⟩ := hx i (by omega)
      rw [Try.cellsAct] at h1
      obtain ⟨_, hlen, hcell⟩ := World.cells?_some h1
      obtain ⟨q, hq, rfl⟩ := open_act h2
      have c0 := hcell 0 (by omega)
      have c1 := hcell 1 (by omega)
      have c2 := hcell 2 (by omega)
      have c3 := hcell 3 (by omega)
      have c4 := hcell 4 (by omega)
      have c5 := hcell 5 (by omega)
      have c6 := hcell 6 (by omega)
      rw [Deep.add_add] at c0 c1 c2 c3 c4 c5 c6
      exact ⟨q, by simpa using c0, by simpa using c1, by simpa using c2, by simpa using c3, by simpa using c4, by simpa using c5, by simpa using c6, hq⟩
    obtain ⟨q, hq⟩ := Deep.choose_lt each
    by_cases h0 : len0 = 0
    · subst h0
      exact ⟨[], .inl ⟨_, _, rfl, rfl⟩⟩
    · refine ⟨(List.range len0).map q, .inr ⟨by simp; omega, ?_⟩⟩
      obtain ⟨b, o, spot⟩ := a
      have hs : spot = none := by simpa [Addr.add] using World.cell?_spot (hq 0 (by omega)).1
      subst hs
      refine ⟨b, o, cap0, by simp, fun i hi => ?_⟩
      have hi' : i < len0 := by simpa using hi
      have := hq i hi'
      rw [add_none, add_none, add_none, add_none, add_none, add_none, add_none, ← Nat.add_assoc, ← Nat.add_assoc, ← Nat.add_assoc, ← Nat.add_assoc, ← Nat.add_assoc, ← Nat.add_assoc] at this
      simpa using this
end Go.Proofs.Ytpjedcfdchebgaa
