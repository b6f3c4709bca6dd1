/-
  What comes in: rows.
-/
import Derived.Test.YtnbfbnhiikliaaaGreatHlaw2
import Derived.Test.YtnbfbnhiikliaaaGreatNopen
namespace Go.Proofs.YtnbfbnhiikliaaaGreat.Hd
open Go Go.RowKit Go.Proofs.Lys Go.Proofs.YtnbfbnhiikliaaaGreat.N
set_option linter.unusedVariables false

theorem Tryz.cellsRow : Tryz.prog.cellsOf 40 = 3 := by kernel_rfl
theorem Tryz.cellsSmp : Tryz.prog.cellsOf 38 = 2 := by kernel_rfl
theorem Tryz.cellsInt : Tryz.prog.cellsOf 3 = 1 := by kernel_rfl
theorem Tryz.cellsLabs : Tryz.prog.cellsOf 36 = 1 := by kernel_rfl
theorem Tryz.byteRow : 1 ≤ Tryz.prog.bytesOf 40 := by decide +kernel
section
variable {H : Type} {enc : TypeId × Value → H} {w : World} {spare : Nat → Bool} {held : Bool} {base fuel : Nat}
set_option maxRecDepth 100000 in
theorem open_smp {cs : List Value} {x : DataW H × List MemPlace}
    (h : DataW.trod enc Tryz.prog w base spare held fuel 38 cs = some x) : ∃ q : Int × Int, cs = [.int .i64 q.1, .int .i64 q.2] := by
  obtain ⟨xs, m, _, _, hlen, hxl, hf⟩ := DataW.trod_struct Tryz.underlying38 h
  rw [Tryz.cellsSmp] at hlen
  have hxl2 : xs.length = 2 := hxl
  match cs, hlen with
  | [v0, v1], _ =>
    have g0 : DataW.trod enc Tryz.prog w base spare held m 3 ((([v0, v1] : List Value).drop 0).take (Tryz.prog.cellsOf 3)) = xs[0]? := hf 0 _ rfl
    have g1 : DataW.trod enc Tryz.prog w base spare held m 3 ((([v0, v1] : List Value).drop 1).take (Tryz.prog.cellsOf 3)) = xs[1]? := hf 1 _ rfl
    rw [Tryz.cellsInt, List.getElem?_eq_getElem (by omega)] at g0 g1
    obtain ⟨n0, e0, _, wf0⟩ := DataW.trod_int Tryz.underlying3 g0
    obtain ⟨n1, e1, _, wf1⟩ := DataW.trod_int Tryz.underlying3 g1
    have f0 := List.head_eq_of_cons_eq e0
    have f1 := List.head_eq_of_cons_eq e1
    subst f0 f1
    exact ⟨(n0, n1), rfl⟩
/-- A row that came in. -/
structure RowC where
  lv : Value
  r : Row
set_option maxRecDepth 100000 in
theorem open_row {cs : List Value} {x : DataW H × List MemPlace}
    (h : DataW.trod enc Tryz.prog w base spare held fuel 40 cs = some x) (hz : ∀ n ∈ x.1.weights Tryz.prog 40, n ≤ reachBytes) : ∃ q : RowC, cs = [q.lv, .int .i64 q.r.2.1, .int .i64 q.r.2.2] ∧ In w q.lv q.r.1 := by
  obtain ⟨xs, m, _, rfl, hlen, hxl, hf⟩ := DataW.trod_struct Tryz.underlying40 h
  rw [Tryz.cellsRow] at hlen
  have hxl2 : xs.length = 2 := hxl
  match cs, hlen with
  | [v0, v1, v2], _ =>
    have g0 : DataW.trod enc Tryz.prog w base spare held m 36 ((([v0, v1, v2] : List Value).drop 0).take (Tryz.prog.cellsOf 36)) = xs[0]? := hf 0 _ rfl
    have g1 : DataW.trod enc Tryz.prog w base spare held m 38 ((([v0, v1, v2] : List Value).drop 1).take (Tryz.prog.cellsOf 38)) = xs[1]? := hf 1 _ rfl
    rw [Tryz.cellsLabs, List.getElem?_eq_getElem (by omega)] at g0
    rw [Tryz.cellsSmp, List.getElem?_eq_getElem (by omega)] at g1
    obtain ⟨q, e1⟩ := open_smp g1
    have hzz := struct_sized Tryz.underlying40 hz (j := 0) rfl (List.getElem?_eq_getElem (by omega))
    obtain ⟨a, n, c, e0⟩ : ∃ a n c, v0 = .slice a n c := by
      rcases Deep.open_slice Tryz.underlying36 g0 with ⟨hcs, _⟩ | ⟨a, len, cap, m, n, D, Pl, hcs, _⟩
      · exact ⟨none, 0, 0, by simpa using hcs⟩
      · exact ⟨some a, len, cap, by simpa using hcs⟩
    subst e0
    obtain ⟨l, hl⟩ := open_labs ⟨m, g0⟩ hzz
    have e1' : [v1, v2] = [.int .i64 q.1, .int .i64 q.2] := e1
    simp only [List.cons.injEq, and_true] at e1'
    obtain ⟨rfl, rfl⟩ := e1'
    exact ⟨⟨.slice a n c, (l, q)⟩, rfl, hl⟩

set_option maxRecDepth 100000 in
theorem open_rows {a0 : Option Addr} {len0 cap0 : Nat} {x : DataW H × List MemPlace}
    (h : ∃ m, DataW.trod enc Tryz.prog w base spare held m 26 (Value.slice a0 len0 cap0).cells.toList = some x) (hz : ∀ n ∈ x.1.weights Tryz.prog 26, n ≤ reachBytes) : ∃ l : List Row, RowsIn w (.slice a0 len0 cap0) l := by
  obtain ⟨fuel, hf⟩ := h
  rcases Deep.open_slice Tryz.underlying26 hf with ⟨hcs, _⟩ | ⟨a, len, cap, m, n, D, Pl, hcs, _, hl, hm, hmm, rfl, hx⟩
  · simp [Value.cells] at hcs
    obtain ⟨rfl, rfl, rfl⟩ := hcs
    exact ⟨[], .inl ⟨_, _, rfl, rfl⟩, fun x hx => (by cases hx), by simp⟩
  · simp [Value.cells] at hcs
    obtain ⟨rfl, rfl, rfl⟩ := hcs
    have hlm : len0 ≤ m := by rw [hmm]; split <;> omega
    have hr := reachBytes_lt
    have hlen : len0 ≤ reachBytes := by
      have h1 := hz ((len0 + (m - len0)) * Tryz.prog.bytesOf 40) (by simp [DataW.weights, Tryz.underlying26])
      have h2 : (len0 + (m - len0)) * 1 ≤ (len0 + (m - len0)) * Tryz.prog.bytesOf 40 := Nat.mul_le_mul_left _ Tryz.byteRow
      omega
    have hzi : ∀ i, i < len0 → ∀ n ∈ (D i).weights Tryz.prog 40, n ≤ reachBytes := fun i hi n hn => by
      refine hz n ?_
      simp only [DataW.weights, Tryz.underlying26]
      refine List.mem_cons_of_mem _ (List.mem_append_left _ (weights_all (List.mem_map.2 ⟨i, List.mem_range.2 hi, rfl⟩) n hn))
    have each : ∀ i, i < len0 → ∃ q : RowC, w.cell? (a.add (i * 3)) = some q.lv ∧ w.cell? (a.add (i * 3 + 1)) = some (.int .i64 q.r.2.1) ∧ w.cell? (a.add (i * 3 + 2)) = some (.int .i64 q.r.2.2) ∧ In w q.lv q.r.1 := by
      intro i hi
      obtain ⟨cs', h1, h2⟩ := hx i (by omega)
      rw [Tryz.cellsRow] at h1
      obtain ⟨_, hlen, hcell⟩ := World.cells?_some h1
      obtain ⟨q, rfl, hq⟩ := open_row h2 (hzi i hi)
      have c0 := hcell 0 (by omega)
      have c1 := hcell 1 (by omega)
      have c2 := hcell 2 (by omega)
      rw [Deep.add_add] at c0 c1 c2
      exact ⟨q, by simpa using c0, by simpa using c1, by simpa using c2, hq⟩
    have hinh : Inhabited RowC := ⟨⟨.slice none 0 0, ([], (0, 0))⟩⟩
    obtain ⟨q, hq⟩ := Deep.choose_lt each
    have hll : ((List.range len0).map (fun i => (q i).r)).length = len0 := by simp
    refine ⟨(List.range len0).map (fun i => (q i).r), ?_, ?_, by rw [hll]; omega⟩
    · by_cases h0 : len0 = 0
      · subst h0
        exact .inl ⟨_, _, rfl, rfl⟩
      · refine .inr ⟨by rw [hll]; omega, ?_⟩
        obtain ⟨b, o, spot⟩ := a
        have hs : spot = none := by simpa [Addr.add] using World.cell?_spot (hq 0 (by omega)).1
        subst hs
        refine ⟨b, o, cap0, by rw [hll], trivial, fun i hi => ?_⟩
        have hi' : i < len0 := by rw [hll] at hi; exact hi
        have := hq i hi'
        rw [add_none, add_none, add_none, ← Nat.add_assoc, ← Nat.add_assoc] at this
        simp only [List.getElem_map, List.getElem_range]
        exact ⟨_, this.1, this.2.1, this.2.2.1, this.2.2.2.src, fun _ _ _ _ _ => trivial⟩
    · intro y hy
      obtain ⟨i, hi, rfl⟩ := List.mem_map.1 hy
      have := (hq i (List.mem_range.1 hi)).2.2.2
      exact ⟨this.came, this.len⟩
end
end Go.Proofs.YtnbfbnhiikliaaaGreat.Hd
