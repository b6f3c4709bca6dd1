/-
  Nopen, Xopen.
-/
import Derived.Test.YteknpfldemgmnaaGreatQ35
import Derived.SizedLaws
import Derived.Deep.Slices
import Derived.OpenShut
import Derived.ChangeOld
import Derived.Test.YteknpfldemgmnaaGreatQ29

/-
  Labels that came in as data of the sizes that the form allows.
-/
namespace Go.Proofs.YteknpfldemgmnaaGreat.N
open Go.RowKit Go.Proofs.Lys
set_option linter.unusedVariables false

section
variable {H : Type} {enc : TypeId × Value → H} {P : Program} {w : World} {spare : Nat → Bool} {held : Bool} {base fuel : Nat}

theorem weights_all {e : TypeId} : ∀ {l : List (DataW H)} {d : DataW H}, d ∈ l → ∀ n ∈ d.weights P e, n ∈ DataW.weightsAll P e l
  | d0 :: r, d, hd, n, hn => by
    simp only [DataW.weightsAll, List.mem_append]
    rcases List.mem_cons.1 hd with rfl | hd
    · exact .inl hn
    · exact .inr (weights_all hd n hn)
theorem slice_sized {t e : TypeId} {v : Value} {x : DataW H × List MemPlace} (ht : P.underlying t = some (.slice e)) (hb : 1 ≤ P.bytesOf e) (h : DataW.trod enc P w base spare held fuel t [v] = some x) (hz : ∀ n ∈ x.1.weights P t, n ≤ reachBytes) :
    ∀ a l c, v = .slice a l c → l ≤ reachBytes := by
  intro a l c hv
  subst hv
  rcases Deep.open_slice ht h with ⟨hcs, _⟩ | ⟨a', len, cap, m, n, D, Pl, hcs, _, hl, hm, hmm, rfl, hx⟩
  · have := List.head_eq_of_cons_eq hcs
    cases this
    omega
  · have := List.head_eq_of_cons_eq hcs
    cases this
    have hlm : l ≤ m := by rw [hmm]; split <;> omega
    have h1 := hz ((l + (m - l)) * P.bytesOf e) (by simp [DataW.weights, ht])
    have h2 : (l + (m - l)) * 1 ≤ (l + (m - l)) * P.bytesOf e := Nat.mul_le_mul_left _ hb
    omega
theorem string_sized {t : TypeId} {v : Value} {x : DataW H × List MemPlace} (ht : P.underlying t = some .string) (h : DataW.trod enc P w base spare held fuel t [v] = some x) (hz : ∀ n ∈ x.1.weights P t, n ≤ reachBytes) :
    ∀ s, v = .string s → s.size ≤ reachBytes := by
  intro s hv
  subst hv
  obtain ⟨s', e1, rfl, _⟩ := DataW.trod_string ht h
  have := List.head_eq_of_cons_eq e1
  cases this
  have h1 := hz s.data.toList.length (List.mem_singleton.2 rfl)
  have : s.size = s.data.toList.length := (Array.length_toList (xs := s.data)).symm
  omega
theorem struct_sized {t : TypeId} {fs : Array Field} {xs : List (DataW H × List MemPlace)} (ht : P.underlying t = some (.struct fs)) (hz : ∀ n ∈ (DataW.agg (xs.map (·.1)) : DataW H).weights P t, n ≤ reachBytes) {j : Nat} {ty : TypeId} {x : DataW H × List MemPlace} (hj : (fs.toList.map (·.type))[j]? = some ty) (hx : xs[j]? = some x) :
    ∀ n ∈ x.1.weights P ty, n ≤ reachBytes := by
  intro n hn
  refine hz n ?_
  simp only [DataW.weights, ht]
  exact DataW.weights_mem_each hj (by rw [List.getElem?_map, hx]; rfl) n hn
end


section
variable {H : Type} {enc : TypeId × Value → H} {w : World} {spare : Nat → Bool} {held : Bool} {base fuel : Nat}

theorem Tryz.byteLab : 1 ≤ Tryz.prog.bytesOf 43 := by decide +kernel
theorem Tryz.cellsLab : Tryz.prog.cellsOf 43 = 2 := by kernel_rfl
theorem Tryz.cellsStrN : Tryz.prog.cellsOf 9 = 1 := by kernel_rfl

set_option maxRecDepth 100000 in
theorem open_lab {cs : List Value} {x : DataW H × List MemPlace}
    (h : DataW.trod enc Tryz.prog w base spare held fuel 43 cs = some x) (hz : ∀ n ∈ x.1.weights Tryz.prog 43, n ≤ reachBytes) : ∃ q : Lab, cs = [.string q.1, .string q.2] ∧ q.1.size ≤ 1000000000000000 ∧ q.2.size ≤ 1000000000000000 := by
  obtain ⟨xs, m, _, rfl, hlen, hxl, hf⟩ := DataW.trod_struct Tryz.underlying43 h
  rw [Tryz.cellsLab] at hlen
  have hxl2 : xs.length = 2 := hxl
  have hr := reachBytes_lt
  match cs, hlen with
  | [v0, v1], _ =>
    have g0 : DataW.trod enc Tryz.prog w base spare held m 9 ((([v0, v1] : List Value).drop 0).take (Tryz.prog.cellsOf 9)) = xs[0]? := hf 0 _ rfl
    have g1 : DataW.trod enc Tryz.prog w base spare held m 9 ((([v0, v1] : List Value).drop 1).take (Tryz.prog.cellsOf 9)) = xs[1]? := hf 1 _ rfl
    rw [Tryz.cellsStrN, List.getElem?_eq_getElem (by omega)] at g0 g1
    obtain ⟨s0, e0, _, _⟩ := DataW.trod_string Tryz.underlying9 g0
    obtain ⟨s1, e1, _, _⟩ := DataW.trod_string Tryz.underlying9 g1
    have z0 := string_sized (v := v0) Tryz.underlying9 g0 (struct_sized Tryz.underlying43 hz (j := 0) rfl (List.getElem?_eq_getElem (by omega)))
    have z1 := string_sized (v := v1) Tryz.underlying9 g1 (struct_sized Tryz.underlying43 hz (j := 1) rfl (List.getElem?_eq_getElem (by omega)))
    have f0 := List.head_eq_of_cons_eq e0
    have f1 := List.head_eq_of_cons_eq e1
    subst f0 f1
    have t0 := z0 _ rfl
    have t1 := z1 _ rfl
    exact ⟨(s0, s1), rfl, by show s0.size ≤ _; omega, by show s1.size ≤ _; omega⟩

theorem mx_of {W : World} (h : W.ShapedOpen Tryz.prog) : Mx W :=
  cell_of_shapedOpen_int (t := 3) (zero := #[.int .i64 0]) h (by decide +kernel) (by kernel_rfl) rfl (by kernel_rfl) (by kernel_rfl) Tryz.underlying3

open Go.ChangeShapes in
/-- Bytes that came in. -/
theorem open_bytesN {a0 : Option Addr} {len0 cap0 : Nat} {x : DataW H × List MemPlace}
    (h : ∃ m, DataW.trod enc Tryz.prog w base spare held m 30 (Value.slice a0 len0 cap0).cells.toList = some x) (hz : ∀ n ∈ x.1.weights Tryz.prog 30, n ≤ reachBytes) : ∃ bs : List UInt8, SrcOf w (.slice a0 len0 cap0) (bs.map bV) ∧ bs.length ≤ 1000000000000000 := by
  obtain ⟨fuel, hf⟩ := h
  have hr := reachBytes_lt
  have hsz := slice_sized (v := .slice a0 len0 cap0) Tryz.underlying30 (by decide +kernel) hf hz _ _ _ rfl
  rcases open_ints Tryz.underlying30 Tryz.underlying5 (by kernel_rfl) hf with ⟨hcs, _⟩ | ⟨a, l, c, zs, hcs, _, hl, hm, hz2, _, hcell, hwz⟩
  · simp [Value.cells] at hcs
    obtain ⟨rfl, rfl, rfl⟩ := hcs
    exact ⟨[], .inl ⟨rfl, rfl⟩, by simp⟩
  · simp [Value.cells] at hcs
    obtain ⟨rfl, rfl, rfl⟩ := hcs
    have hzl : len0 ≤ zs.length := by rw [hz2]; split <;> omega
    have hlen : (zs.take len0).length = len0 := by rw [List.length_take]; omega
    have hsrc : SrcOf w (.slice (some a) len0 cap0) ((zs.take len0).map (Value.int .u8)) := .inr ⟨a, cap0, by rw [List.length_map, hlen], fun j u hu => by
      rw [List.getElem?_map, List.getElem?_take] at hu
      split at hu
      · rw [List.getElem?_eq_getElem (by omega)] at hu
        cases hu
        rw [hcell j (by omega), List.getD_eq_getElem?_getD, List.getElem?_eq_getElem (by omega)]
        rfl
      · cases hu⟩
    obtain ⟨bs, hbl, hb⟩ := bytes_src hsrc (fun n hn => hwz n (List.mem_of_mem_take hn))
    exact ⟨bs, hb, by omega⟩

/-- Labels that came in. -/
structure In (w : World) (v : Value) (l : Labs) : Prop where
  src : LabSrc w v l
  came : Came l
  len : l.length ≤ 1000000000000000
set_option maxRecDepth 100000 in
theorem open_labs {a0 : Option Addr} {len0 cap0 : Nat} {x : DataW H × List MemPlace}
    (h : ∃ m, DataW.trod enc Tryz.prog w base spare held m 44 (Value.slice a0 len0 cap0).cells.toList = some x) (hz : ∀ n ∈ x.1.weights Tryz.prog 44, n ≤ reachBytes) : ∃ l : Labs, In w (.slice a0 len0 cap0) l := by
  obtain ⟨fuel, hf⟩ := h
  rcases Deep.open_slice Tryz.underlying44 hf with ⟨hcs, _⟩ | ⟨a, len, cap, m, n, D, Pl, hcs, _, hl, hm, hmm, rfl, hx⟩
  · simp [Value.cells] at hcs
    obtain ⟨rfl, rfl, rfl⟩ := hcs
    exact ⟨[], .inl ⟨_, _, rfl, rfl⟩, fun x hx => (by cases hx), by simp⟩
  · simp [Value.cells] at hcs
    obtain ⟨rfl, rfl, rfl⟩ := hcs
    have hlm : len0 ≤ m := by rw [hmm]; split <;> omega
    have hr := reachBytes_lt
    have hlen : len0 ≤ reachBytes := by
      have h1 := hz ((len0 + (m - len0)) * Tryz.prog.bytesOf 43) (by simp [DataW.weights, Tryz.underlying44])
      have h2 : (len0 + (m - len0)) * 1 ≤ (len0 + (m - len0)) * Tryz.prog.bytesOf 43 := Nat.mul_le_mul_left _ Tryz.byteLab
      omega
    have hzi : ∀ i, i < len0 → ∀ n ∈ (D i).weights Tryz.prog 43, n ≤ reachBytes := fun i hi n hn => by
      refine hz n ?_
      simp only [DataW.weights, Tryz.underlying44]
      refine List.mem_cons_of_mem _ (List.mem_append_left _ (weights_all (List.mem_map.2 ⟨i, List.mem_range.2 hi, rfl⟩) n hn))
    have each : ∀ i, i < len0 → ∃ q : Lab, w.cell? (a.add (i * 2)) = some (.string q.1) ∧ w.cell? (a.add (i * 2 + 1)) = some (.string q.2) ∧ q.1.size ≤ 1000000000000000 ∧ q.2.size ≤ 1000000000000000 := by
      intro i hi
      obtain ⟨cs', h1, h2⟩ := hx i (by omega)
      rw [Tryz.cellsLab] at h1
      obtain ⟨_, hlen, hcell⟩ := World.cells?_some h1
      obtain ⟨q, rfl, hq⟩ := open_lab h2 (hzi i hi)
      have c0 := hcell 0 (by omega)
      have c1 := hcell 1 (by omega)
      rw [Deep.add_add] at c0 c1
      exact ⟨q, by simpa using c0, by simpa using c1, hq⟩
    obtain ⟨q, hq⟩ := Deep.choose_lt each
    have hll : ((List.range len0).map q).length = len0 := by simp
    refine ⟨(List.range len0).map q, ?_, ?_, by rw [hll]; omega⟩
    · by_cases h0 : len0 = 0
      · subst h0
        exact .inl ⟨_, _, rfl, rfl⟩
      · refine .inr ⟨by rw [hll]; omega, ?_⟩
        obtain ⟨b, o, spot⟩ := a
        have hs : spot = none := by simpa [Addr.add] using World.cell?_spot (hq 0 (by omega)).1
        subst hs
        refine ⟨b, o, cap0, by rw [hll], fun i hi => ?_⟩
        have hi' : i < len0 := by rw [hll] at hi; exact hi
        have := hq i hi'
        rw [add_none, add_none, ← Nat.add_assoc] at this
        simp only [List.getElem_map, List.getElem_range]
        exact ⟨this.1, this.2.1⟩
    · intro y hy
      obtain ⟨i, hi, rfl⟩ := List.mem_map.1 hy
      exact (hq i (List.mem_range.1 hi)).2.2
end
end Go.Proofs.YteknpfldemgmnaaGreat.N

/-
  Labels of many series that came in.
-/
namespace Go.Proofs.YteknpfldemgmnaaGreat.X
open Go.RowKit Go.Proofs.Lys Go.Maps Go.Proofs.YteknpfldemgmnaaGreat.N
set_option linter.unusedVariables false
set_option linter.unusedSimpArgs false
/-- Labels of many series that came in. -/
structure LIn (w : World) (v : Value) (L : List Labs) : Prop where
  in_ : ∃ vs : List Value, SrcOf w v vs ∧ vs.length = L.length ∧ ∀ i (h : i < vs.length) (h2 : i < L.length), In w vs[i] L[i]
  len : L.length ≤ 1000000000000000
theorem LIn.src {w : World} {v : Value} {L : List Labs} (h : LIn w v L) : LSrc w v L := by
  obtain ⟨vs, h1, h2, h3⟩ := h.in_
  exact ⟨vs, h1, h2, fun i a b => (h3 i a b).src⟩
theorem LIn.came {w : World} {v : Value} {L : List Labs} (h : LIn w v L) : ∀ l ∈ L, Came l ∧ l.length ≤ 1000000000000000 := by
  intro l hl
  obtain ⟨vs, h1, h2, h3⟩ := h.in_
  obtain ⟨i, hi, rfl⟩ := List.getElem_of_mem hl
  exact ⟨(h3 i (by omega) hi).came, (h3 i (by omega) hi).len⟩
section
variable {H : Type} {enc : TypeId × Value → H} {w : World} {spare : Nat → Bool} {held : Bool} {base fuel : Nat}
theorem Tryz.cellsLabsX : Tryz.prog.cellsOf 44 = 1 := by kernel_rfl
theorem Tryz.byteLabsX : 1 ≤ Tryz.prog.bytesOf 44 := by decide +kernel
theorem open_cellR {cs : List Value} {x : DataW H × List MemPlace} (h : DataW.trod enc Tryz.prog w base spare held fuel 44 cs = some x) (hz : ∀ n ∈ x.1.weights Tryz.prog 44, n ≤ reachBytes) : ∃ q : Value × Labs, cs = [q.1] ∧ In w q.1 q.2 := by
  rcases Deep.open_slice Tryz.underlying44 h with ⟨hcs, _⟩ | ⟨a, len, cap, m, n, D, Pl, hcs, _⟩
  · subst hcs
    obtain ⟨l, hl⟩ := open_labs (a0 := none) (len0 := 0) (cap0 := 0) ⟨fuel, by simpa [Value.cells] using h⟩ hz
    exact ⟨(_, l), rfl, hl⟩
  · subst hcs
    obtain ⟨l, hl⟩ := open_labs (a0 := some a) (len0 := len) (cap0 := cap) ⟨fuel, by simpa [Value.cells] using h⟩ hz
    exact ⟨(_, l), rfl, hl⟩
theorem open_labss {a0 : Option Addr} {len0 cap0 : Nat} {x : DataW H × List MemPlace}
    (h : ∃ m, DataW.trod enc Tryz.prog w base spare held m 22 (Value.slice a0 len0 cap0).cells.toList = some x) (hz : ∀ n ∈ x.1.weights Tryz.prog 22, n ≤ reachBytes) : ∃ l : List Labs, LIn w (.slice a0 len0 cap0) l := by
  obtain ⟨fuel, hf⟩ := h
  rcases Deep.open_slice Tryz.underlying22 hf with ⟨hcs, _⟩ | ⟨a, len, cap, m, n, D, Pl, hcs, _, hl, hm, hmm, rfl, hx⟩
  · simp [Value.cells] at hcs
    obtain ⟨rfl, rfl, rfl⟩ := hcs
    exact ⟨[], ⟨[], .inl ⟨rfl, rfl⟩, rfl, fun i h => absurd h (by simp)⟩, by simp⟩
  · simp [Value.cells] at hcs
    obtain ⟨rfl, rfl, rfl⟩ := hcs
    have hlm : len0 ≤ m := by rw [hmm]; split <;> omega
    have hr := reachBytes_lt
    have hlen : len0 ≤ reachBytes := by
      have h1 := hz ((len0 + (m - len0)) * Tryz.prog.bytesOf 44) (by simp [DataW.weights, Tryz.underlying22])
      have h2 : (len0 + (m - len0)) * 1 ≤ (len0 + (m - len0)) * Tryz.prog.bytesOf 44 := Nat.mul_le_mul_left _ Tryz.byteLabsX
      omega
    have hzi : ∀ i, i < len0 → ∀ n ∈ (D i).weights Tryz.prog 44, n ≤ reachBytes := fun i hi n hn => by
      refine hz n ?_
      simp only [DataW.weights, Tryz.underlying22]
      refine List.mem_cons_of_mem _ (List.mem_append_left _ (weights_all (List.mem_map.2 ⟨i, List.mem_range.2 hi, rfl⟩) n hn))
    have each : ∀ i, i < len0 → ∃ q : Value × Labs, w.cell? (a.add i) = some q.1 ∧ In w q.1 q.2 := by
      intro i hi
      obtain ⟨cs', h1, h2⟩ := hx i (by omega)
      rw [Tryz.cellsLabsX] at h1
      obtain ⟨_, hlen, hcell⟩ := World.cells?_some h1
      obtain ⟨q, rfl, hq⟩ := open_cellR h2 (hzi i hi)
      have c0 := hcell 0 (by simp)
      rw [Deep.add_add] at c0
      exact ⟨q, by simpa using c0, hq⟩
    have hinh : Inhabited (Value × Labs) := ⟨(.slice none 0 0, [])⟩
    obtain ⟨q, hq⟩ := Deep.choose_lt each
    refine ⟨(List.range len0).map (fun i => (q i).2), ⟨(List.range len0).map (fun i => (q i).1), .inr ⟨a, cap0, by simp, fun j u hu => ?_⟩, by simp, fun i h1 h2 => ?_⟩, by simp; omega⟩
    · have hj : j < len0 := by
        have := (List.getElem?_eq_some_iff.1 hu).1
        simpa using this
      have hu2 : (q j).1 = u := by
        rw [List.getElem?_map, List.getElem?_range hj] at hu
        simpa using hu
      rw [← hu2]
      exact (hq j hj).1
    · have hi : i < len0 := by simpa using h1
      simpa using (hq i hi).2
end
end Go.Proofs.YteknpfldemgmnaaGreat.X
