/-
  Manifests that came in.
-/
import Derived.Test.YtjifcgphlidimaaDoorJlib
import Derived.WideShapes
namespace Go.Proofs.YtjifcgphlidimaaDoor.J
open Go.RowKit Go.Proofs.Lys Go.WideShapes
set_option linter.unusedVariables false
set_option linter.unusedSimpArgs false

/-- Blocks that came in. -/
def RIn (w : World) (a : Option Addr) (c : Nat) (l : List Rf) : Prop := RfSrc w (.slice a l.length c) l ∧ l.length ≤ c ∧ c ≤ 9223372036854775807
section
variable {H : Type} {enc : TypeId × Value → H} {w : World} {spare : Nat → Bool} {held : Bool} {base : Nat}
theorem Tryd.cellsIntJ : Tryd.prog.cellsOf 3 = 1 := by kernel_rfl
theorem Tryd.cellsRefJ : Tryd.prog.cellsOf 54 = 4 := by kernel_rfl
theorem Tryd.cellsRefsJ : Tryd.prog.cellsOf 22 = 1 := by kernel_rfl
theorem Tryd.cellsManJ : Tryd.prog.cellsOf 24 = 4 := by kernel_rfl
set_option maxRecDepth 100000 in
theorem open_ref {fuel : Nat} {cs : List Value} {x : DataW H × List MemPlace}
    (h : DataW.trod enc Tryd.prog w base spare held fuel 54 cs = some x) : ∃ q : Rf, cs = [.int .i64 q.1, .int .i64 q.2.1, .int .i64 q.2.2.1, .int .i64 q.2.2.2] := by
  obtain ⟨xs, m, _, _, hlen, hxl, hf⟩ := DataW.trod_struct Tryd.underlying54 h
  rw [Tryd.cellsRefJ] at hlen
  have hxl4 : xs.length = 4 := hxl
  match cs, hlen with
  | [v0, v1, v2, v3], _ =>
    have g0 : DataW.trod enc Tryd.prog w base spare held m 3 ((([v0, v1, v2, v3] : List Value).drop 0).take (Tryd.prog.cellsOf 3)) = xs[0]? := hf 0 _ rfl
    have g1 : DataW.trod enc Tryd.prog w base spare held m 3 ((([v0, v1, v2, v3] : List Value).drop 1).take (Tryd.prog.cellsOf 3)) = xs[1]? := hf 1 _ rfl
    have g2 : DataW.trod enc Tryd.prog w base spare held m 3 ((([v0, v1, v2, v3] : List Value).drop 2).take (Tryd.prog.cellsOf 3)) = xs[2]? := hf 2 _ rfl
    have g3 : DataW.trod enc Tryd.prog w base spare held m 3 ((([v0, v1, v2, v3] : List Value).drop 3).take (Tryd.prog.cellsOf 3)) = xs[3]? := hf 3 _ rfl
    rw [Tryd.cellsIntJ, List.getElem?_eq_getElem (by omega)] at g0 g1 g2 g3
    obtain ⟨n0, e0, _, _⟩ := DataW.trod_int Tryd.underlying3 g0
    obtain ⟨n1, e1, _, _⟩ := DataW.trod_int Tryd.underlying3 g1
    obtain ⟨n2, e2, _, _⟩ := DataW.trod_int Tryd.underlying3 g2
    obtain ⟨n3, e3, _, _⟩ := DataW.trod_int Tryd.underlying3 g3
    have f0 := List.head_eq_of_cons_eq e0
    have f1 := List.head_eq_of_cons_eq e1
    have f2 := List.head_eq_of_cons_eq e2
    have f3 := List.head_eq_of_cons_eq e3
    subst f0 f1 f2 f3
    exact ⟨(n0, n1, n2, n3), rfl⟩
set_option maxRecDepth 100000 in
theorem open_refs {fuel : Nat} {cs : List Value} {x : DataW H × List MemPlace}
    (hf : DataW.trod enc Tryd.prog w base spare held fuel 22 cs = some x) : ∃ (a : Option Addr) (c : Nat) (l : List Rf), cs = [.slice a l.length c] ∧ RIn w a c l := by
  have hM : maxLen = 9223372036854775807 := by decide
  rcases Deep.open_slice Tryd.underlying22 hf with ⟨rfl, _⟩ | ⟨a, len0, cap0, m, n, D, Pl, rfl, _, hl, hm, hmm, _, hx⟩
  · exact ⟨none, 0, [], rfl, .inl ⟨_, _, rfl, rfl⟩, Nat.le_refl _, Nat.zero_le _⟩
  · have hlm : len0 ≤ m := by rw [hmm]; split <;> omega
    have each : ∀ i, i < len0 → ∃ q : Rf, w.cell? (a.add (i * 4)) = some (.int .i64 q.1) ∧ w.cell? (a.add (i * 4 + 1)) = some (.int .i64 q.2.1) ∧ w.cell? (a.add (i * 4 + 2)) = some (.int .i64 q.2.2.1) ∧ w.cell? (a.add (i * 4 + 3)) = some (.int .i64 q.2.2.2) := by
      intro i hi
      obtain ⟨cs', h1, h2⟩ := hx i (by omega)
      rw [Tryd.cellsRefJ] at h1
      obtain ⟨_, hlen, hcell⟩ := World.cells?_some h1
      obtain ⟨q, rfl⟩ := open_ref h2
      have c0 := hcell 0 (by omega)
      have c1 := hcell 1 (by omega)
      have c2 := hcell 2 (by omega)
      have c3 := hcell 3 (by omega)
      rw [Deep.add_add] at c0 c1 c2 c3
      exact ⟨q, by simpa using c0, by simpa using c1, by simpa using c2, by simpa using c3⟩
    have hinh : Inhabited Rf := ⟨(0, 0, 0, 0)⟩
    obtain ⟨q, hq⟩ := Deep.choose_lt each
    by_cases h0 : len0 = 0
    · subst h0
      exact ⟨some a, cap0, [], rfl, .inl ⟨_, _, rfl, rfl⟩, Nat.zero_le _, by omega⟩
    · obtain ⟨b, o, spot⟩ := a
      have hs : spot = none := by simpa [Addr.add] using World.cell?_spot (hq 0 (by omega)).1
      subst hs
      refine ⟨some ⟨b, o, none⟩, cap0, (List.range len0).map q, by simp, .inr ⟨by simp; omega, b, o, cap0, rfl, fun i hi => ?_⟩, by simp; omega, by omega⟩
      have hi' : i < len0 := by simpa using hi
      have := hq i hi'
      rw [add_none, add_none, add_none, add_none, ← Nat.add_assoc, ← Nat.add_assoc, ← Nat.add_assoc] at this
      simpa [RfC] using this

/-- A manifest that came in: its value, where its blocks lie. -/
structure ManC where
  a : Option Addr
  c : Nat
  m : Man
abbrev ManC.v (x : ManC) : Value := manV (.slice x.a x.m.bl.length x.c) x.m
def ManIn (w : World) (x : ManC) : Prop := RIn w x.a x.c x.m.bl
set_option maxRecDepth 100000 in
theorem open_man {v : Value} {x : DataW H × List MemPlace} (hv : Value.okWide Tryd.prog w .any base 24 v)
    (h : ∃ m, DataW.trod enc Tryd.prog w 0 spare held m 24 v.cells.toList = some x) : ∃ q : ManC, v = q.v ∧ ManIn w q := by
  obtain ⟨fuel, h⟩ := h
  obtain ⟨cs, rfl, _⟩ := okWide_struct Tryd.underlying24 hv
  have h' : DataW.trod enc Tryd.prog w 0 spare held fuel 24 cs.toList = some x := h
  obtain ⟨xs, m, _, _, hlen, hxl, hf⟩ := DataW.trod_struct Tryd.underlying24 h'
  rw [Tryd.cellsManJ] at hlen
  have hxl4 : xs.length = 4 := hxl
  obtain ⟨L⟩ := cs
  simp only at hlen hf
  match L, hlen with
  | [v0, v1, v2, v3], _ =>
    have g0 : DataW.trod enc Tryd.prog w 0 spare held m 22 ((([v0, v1, v2, v3] : List Value).drop 0).take (Tryd.prog.cellsOf 22)) = xs[0]? := hf 0 _ rfl
    have g1 : DataW.trod enc Tryd.prog w 0 spare held m 3 ((([v0, v1, v2, v3] : List Value).drop 1).take (Tryd.prog.cellsOf 3)) = xs[1]? := hf 1 _ rfl
    have g2 : DataW.trod enc Tryd.prog w 0 spare held m 3 ((([v0, v1, v2, v3] : List Value).drop 2).take (Tryd.prog.cellsOf 3)) = xs[2]? := hf 2 _ rfl
    have g3 : DataW.trod enc Tryd.prog w 0 spare held m 3 ((([v0, v1, v2, v3] : List Value).drop 3).take (Tryd.prog.cellsOf 3)) = xs[3]? := hf 3 _ rfl
    rw [Tryd.cellsRefsJ, List.getElem?_eq_getElem (by omega)] at g0
    rw [Tryd.cellsIntJ, List.getElem?_eq_getElem (by omega)] at g1 g2 g3
    obtain ⟨a, c, l, e0, hin⟩ := open_refs g0
    obtain ⟨n1, e1, _, _⟩ := DataW.trod_int Tryd.underlying3 g1
    obtain ⟨n2, e2, _, _⟩ := DataW.trod_int Tryd.underlying3 g2
    obtain ⟨n3, e3, _, _⟩ := DataW.trod_int Tryd.underlying3 g3
    have f0 := List.head_eq_of_cons_eq e0
    have f1 := List.head_eq_of_cons_eq e1
    have f2 := List.head_eq_of_cons_eq e2
    have f3 := List.head_eq_of_cons_eq e3
    subst f0 f1 f2 f3
    exact ⟨⟨a, c, ⟨l, n1, n2, n3⟩⟩, rfl, hin⟩
end
end Go.Proofs.YtjifcgphlidimaaDoor.J
