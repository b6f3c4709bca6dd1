/-
  Lists of series that came in.
-/
import Derived.Test.YtcacoanhiphbiaaZopen
import Derived.Test.YtcacoanhiphbiaaZbig
import Derived.Test.YtcacoanhiphbiaaZsh
namespace Go.Proofs.Ytcacoanhiphbiaa.Ms
open Go Go.RowKit Go.Proofs.Lys
set_option linter.unusedVariables false

/-- Lists of series that came in. -/
structure LRIn (w : World) (v : Value) (vs : List Value) (ls : List (List SVc)) : Prop where
  src : SrcOf w v vs
  len : vs.length = ls.length
  each : ∀ i (h : i < ls.length) (h' : i < vs.length), RIn w vs[i] ls[i]
  size : ls.length ≤ 1000000000000000
theorem LRIn.stay {w W : World} {v : Value} {vs : List Value} {ls : List (List SVc)} (h : LRIn w v vs ls) (k : Kept w W) : LRIn W v vs ls := ⟨h.src.stay k, h.len, fun i h1 h2 => (h.each i h1 h2).stay k, h.size⟩
section
variable {H : Type} {enc : TypeId × Value → H} {w : World} {spare : Nat → Bool} {held : Bool} {base fuel : Nat}
theorem Try.cellsLabsR : Try.prog.cellsOf 26 = 1 := by kernel_rfl
theorem Try.cellsSmpsR : Try.prog.cellsOf 27 = 1 := by kernel_rfl
theorem Try.cellsSerR : Try.prog.cellsOf 29 = 2 := by kernel_rfl
theorem Try.cellsSersR : Try.prog.cellsOf 25 = 1 := by kernel_rfl
theorem Try.byteSerR : 1 ≤ Try.prog.bytesOf 29 := by decide +kernel
theorem Try.byteSersR : 1 ≤ Try.prog.bytesOf 25 := by decide +kernel
set_option maxRecDepth 100000 in
theorem open_rser {cs : List Value} {x : DataW H × List MemPlace}
    (h : DataW.trod enc Try.prog w base spare held fuel 29 cs = some x) (hz : ∀ n ∈ x.1.weights Try.prog 29, n ≤ reachBytes) : ∃ q : SVc, cs = [q.lv, q.sv] ∧ RawS w q := by
  obtain ⟨xs, m, _, rfl, hlen, hxl, hf⟩ := DataW.trod_struct Try.underlying29 h
  rw [Try.cellsSerR] at hlen
  have hxl2 : xs.length = 2 := hxl
  match cs, hlen with
  | [v0, v1], _ =>
    have g0 : DataW.trod enc Try.prog w base spare held m 26 ((([v0, v1] : List Value).drop 0).take (Try.prog.cellsOf 26)) = xs[0]? := hf 0 _ rfl
    have g1 : DataW.trod enc Try.prog w base spare held m 27 ((([v0, v1] : List Value).drop 1).take (Try.prog.cellsOf 27)) = xs[1]? := hf 1 _ rfl
    rw [Try.cellsLabsR, List.getElem?_eq_getElem (by omega)] at g0
    rw [Try.cellsSmpsR, List.getElem?_eq_getElem (by omega)] at g1
    have hz0 := N.struct_sized Try.underlying29 hz (j := 0) rfl (List.getElem?_eq_getElem (by omega))
    have hz1 := N.struct_sized Try.underlying29 hz (j := 1) rfl (List.getElem?_eq_getElem (by omega))
    obtain ⟨a, n, c, e0⟩ : ∃ a n c, v0 = .slice a n c := by
      rcases Deep.open_slice Try.underlying26 g0 with ⟨hcs, _⟩ | ⟨a, len, cap, m, n, D, Pl, hcs, _⟩
      · exact ⟨none, 0, 0, by simpa using hcs⟩
      · exact ⟨some a, len, cap, by simpa using hcs⟩
    obtain ⟨a', n', c', e1⟩ : ∃ a n c, v1 = .slice a n c := by
      rcases Deep.open_slice Try.underlying27 g1 with ⟨hcs, _⟩ | ⟨a, len, cap, m, n, D, Pl, hcs, _⟩
      · exact ⟨none, 0, 0, by simpa using hcs⟩
      · exact ⟨some a, len, cap, by simpa using hcs⟩
    subst e0 e1
    obtain ⟨l, hl⟩ := N.open_labs ⟨m, g0⟩ hz0
    obtain ⟨s, hs, hsl⟩ := Mg.open_smpsZ ⟨m, g1⟩ hz1
    exact ⟨⟨a, n, c, a', n', c', l, s⟩, rfl, hl.src, hs, hl.came, hl.len, by show s.length ≤ _; omega⟩
set_option maxRecDepth 100000 in
theorem open_rsers {a0 : Option Addr} {len0 cap0 : Nat} {x : DataW H × List MemPlace}
    (h : ∃ m, DataW.trod enc Try.prog w base spare held m 25 (Value.slice a0 len0 cap0).cells.toList = some x) (hz : ∀ n ∈ x.1.weights Try.prog 25, n ≤ reachBytes) : ∃ l : List SVc, RIn w (.slice a0 len0 cap0) l := by
  obtain ⟨fuel, hf⟩ := h
  rcases Deep.open_slice Try.underlying25 hf with ⟨hcs, _⟩ | ⟨a, len, cap, m, n, D, Pl, hcs, _, hl, hm, hmm, rfl, hx⟩
  · simp [Value.cells] at hcs
    obtain ⟨rfl, rfl, rfl⟩ := hcs
    exact ⟨[], .inl ⟨_, _, rfl, rfl⟩, ⟨_, _, rfl, Nat.le_refl _⟩, by simp⟩
  · simp [Value.cells] at hcs
    obtain ⟨rfl, rfl, rfl⟩ := hcs
    have hlm : len0 ≤ m := by rw [hmm]; split <;> omega
    have hr := reachBytes_lt
    have hlen : len0 ≤ reachBytes := by
      have h1 := hz ((len0 + (m - len0)) * Try.prog.bytesOf 29) (by simp [DataW.weights, Try.underlying25])
      have h2 : (len0 + (m - len0)) * 1 ≤ (len0 + (m - len0)) * Try.prog.bytesOf 29 := Nat.mul_le_mul_left _ Try.byteSerR
      omega
    have hzi : ∀ i, i < len0 → ∀ n ∈ (D i).weights Try.prog 29, n ≤ reachBytes := fun i hi n hn => by
      refine hz n ?_
      simp only [DataW.weights, Try.underlying25]
      refine List.mem_cons_of_mem _ (List.mem_append_left _ (N.weights_all (List.mem_map.2 ⟨i, List.mem_range.2 hi, rfl⟩) n hn))
    have each : ∀ i, i < len0 → ∃ q : SVc, w.cell? (a.add (i * 2)) = some q.lv ∧ w.cell? (a.add (i * 2 + 1)) = some q.sv ∧ RawS w q := by
      intro i hi
      obtain ⟨cs', h1, h2⟩ := hx i (by omega)
      rw [Try.cellsSerR] at h1
      obtain ⟨_, hlen, hcell⟩ := World.cells?_some h1
      obtain ⟨q, rfl, hq⟩ := open_rser h2 (hzi i hi)
      have c0 := hcell 0 (by omega)
      have c1 := hcell 1 (by omega)
      rw [Deep.add_add] at c0 c1
      exact ⟨q, by simpa using c0, by simpa using c1, hq⟩
    have hinh : Inhabited SVc := ⟨⟨none, 0, 0, none, 0, 0, [], []⟩⟩
    obtain ⟨q, hq⟩ := Deep.choose_lt each
    have hll : ((List.range len0).map q).length = len0 := by simp
    refine ⟨(List.range len0).map q, ?_, ⟨_, _, by rw [hll], by rw [hll]; omega⟩, by rw [hll]; omega⟩
    by_cases h0 : len0 = 0
    · subst h0
      exact .inl ⟨_, _, rfl, rfl⟩
    · refine .inr ⟨by rw [hll]; omega, ?_⟩
      obtain ⟨b, o, spot⟩ := a
      have hs : spot = none := by simpa [Addr.add] using World.cell?_spot (hq 0 (by omega)).1
      subst hs
      refine ⟨b, o, cap0, by rw [hll], fun i hi => ?_⟩
      have hi' : i < len0 := by rw [hll] at hi; exact hi
      have := hq i hi'
      rw [add_none, add_none, ← Nat.add_assoc] at this
      simp only [List.getElem_map, List.getElem_range]
      exact this
theorem open_cellR {cs : List Value} {x : DataW H × List MemPlace} (h : DataW.trod enc Try.prog w base spare held fuel 25 cs = some x) (hz : ∀ n ∈ x.1.weights Try.prog 25, n ≤ reachBytes) : ∃ q : Value × List SVc, cs = [q.1] ∧ RIn w q.1 q.2 := by
  rcases Deep.open_slice Try.underlying25 h with ⟨hcs, _⟩ | ⟨a, len, cap, m, n, D, Pl, hcs, _⟩
  · subst hcs
    obtain ⟨l, hl⟩ := open_rsers (a0 := none) (len0 := 0) (cap0 := 0) ⟨fuel, by simpa [Value.cells] using h⟩ hz
    exact ⟨(_, l), rfl, hl⟩
  · subst hcs
    obtain ⟨l, hl⟩ := open_rsers (a0 := some a) (len0 := len) (cap0 := cap) ⟨fuel, by simpa [Value.cells] using h⟩ hz
    exact ⟨(_, l), rfl, hl⟩
/-- What came in: the lists, and where each lies. -/
def LLR (w : World) (v : Value) (ls : List (List SVc)) : Prop := ∃ vs, LRIn w v vs ls
theorem open_llR {a0 : Option Addr} {len0 cap0 : Nat} {x : DataW H × List MemPlace}
    (h : ∃ m, DataW.trod enc Try.prog w base spare held m 22 (Value.slice a0 len0 cap0).cells.toList = some x) (hz : ∀ n ∈ x.1.weights Try.prog 22, n ≤ reachBytes) : ∃ l : List (List SVc), LLR w (.slice a0 len0 cap0) l := by
  obtain ⟨fuel, hf⟩ := h
  rcases Deep.open_slice Try.underlying22 hf with ⟨hcs, _⟩ | ⟨a, len, cap, m, n, D, Pl, hcs, _, hl, hm, hmm, rfl, hx⟩
  · simp [Value.cells] at hcs
    obtain ⟨rfl, rfl, rfl⟩ := hcs
    exact ⟨[], [], .inl ⟨rfl, rfl⟩, rfl, fun i h => absurd h (by simp), by simp⟩
  · simp [Value.cells] at hcs
    obtain ⟨rfl, rfl, rfl⟩ := hcs
    have hlm : len0 ≤ m := by rw [hmm]; split <;> omega
    have hr := reachBytes_lt
    have hlen : len0 ≤ reachBytes := by
      have h1 := hz ((len0 + (m - len0)) * Try.prog.bytesOf 25) (by simp [DataW.weights, Try.underlying22])
      have h2 : (len0 + (m - len0)) * 1 ≤ (len0 + (m - len0)) * Try.prog.bytesOf 25 := Nat.mul_le_mul_left _ Try.byteSersR
      omega
    have hzi : ∀ i, i < len0 → ∀ n ∈ (D i).weights Try.prog 25, n ≤ reachBytes := fun i hi n hn => by
      refine hz n ?_
      simp only [DataW.weights, Try.underlying22]
      refine List.mem_cons_of_mem _ (List.mem_append_left _ (N.weights_all (List.mem_map.2 ⟨i, List.mem_range.2 hi, rfl⟩) n hn))
    have each : ∀ i, i < len0 → ∃ q : Value × List SVc, w.cell? (a.add i) = some q.1 ∧ RIn w q.1 q.2 := by
      intro i hi
      obtain ⟨cs', h1, h2⟩ := hx i (by omega)
      rw [Try.cellsSersR] at h1
      obtain ⟨_, hlen, hcell⟩ := World.cells?_some h1
      obtain ⟨q, rfl, hq⟩ := open_cellR h2 (hzi i hi)
      have c0 := hcell 0 (by simp)
      rw [Deep.add_add] at c0
      exact ⟨q, by simpa using c0, hq⟩
    have hinh : Inhabited (Value × List SVc) := ⟨(.slice none 0 0, [])⟩
    obtain ⟨q, hq⟩ := Deep.choose_lt each
    refine ⟨(List.range len0).map (fun i => (q i).2), (List.range len0).map (fun i => (q i).1), .inr ⟨a, cap0, by simp, fun j u hu => ?_⟩, by simp, fun i h1 h2 => ?_, by simp; omega⟩
    · have hj : j < len0 := by
        have := (List.getElem?_eq_some_iff.1 hu).1
        simpa using this
      have hu2 : (q j).1 = u := by
        rw [List.getElem?_map, List.getElem?_range hj] at hu
        simpa using hu
      rw [← hu2]
      exact (hq j hj).1
    · have hi : i < len0 := by simpa using h1
      simpa using (hq i hi).2
end
end Go.Proofs.Ytcacoanhiphbiaa.Ms
