/-
  Labels that came in as data of the sizes that the form allows.
-/
import Derived.Test.YtcacoanhiphbiaaNref
import Derived.SizedLaws
import Derived.Deep.Slices
import Derived.OpenShut
import Derived.ChangeOld
namespace Go.Proofs.Ytcacoanhiphbiaa.N
open Go.RowKit Go.Proofs.Lys
set_option linter.unusedVariables false

section
variable {H : Type} {enc : TypeId × Value → H} {P : Program} {w : World} {spare : Nat → Bool} {held : Bool} {base fuel : Nat}

theorem weights_all {e : TypeId} : ∀ {l : List (DataW H)} {d : DataW H}, d ∈ l → ∀ n ∈ d.weights P e, n ∈ DataW.weightsAll P e l
  | d0 :: r, d, hd, n, hn => by
    simp only [DataW.weightsAll, List.mem_append]
    rcases List.mem_cons.1 hd with rfl | hd
    · exact .inl hn
    · exact .inr (weights_all hd n hn)
theorem slice_sized {t e : TypeId} {v : Value} {x : DataW H × List MemPlace} (ht : P.underlying t = some (.slice e)) (hb : 1 ≤ P.bytesOf e) (h : DataW.trod enc P w base spare held fuel t [v] = some x) (hz : ∀ n ∈ x.1.weights P t, n ≤ reachBytes) :
    ∀ a l c, v = .slice a l c → l ≤ reachBytes := by
  intro a l c hv
  subst hv
  rcases Deep.open_slice ht h with ⟨hcs, _⟩ | ⟨a', len, cap, m, n, D, Pl, hcs, _, hl, hm, hmm, rfl, hx⟩
  · have := List.head_eq_of_cons_eq hcs
    cases this
    omega
  · have := List.head_eq_of_cons_eq hcs
    cases this
    have hlm : l ≤ m := by rw [hmm]; split <;> omega
    have h1 := hz ((l + (m - l)) * P.bytesOf e) (by simp [DataW.weights, ht])
    have h2 : (l + (m - l)) * 1 ≤ (l + (m - l)) * P.bytesOf e := Nat.mul_le_mul_left _ hb
    omega
theorem string_sized {t : TypeId} {v : Value} {x : DataW H × List MemPlace} (ht : P.underlying t = some .string) (h : DataW.trod enc P w base spare held fuel t [v] = some x) (hz : ∀ n ∈ x.1.weights P t, n ≤ reachBytes) :
    ∀ s, v = .string s → s.size ≤ reachBytes := by
  intro s hv
  subst hv
  obtain ⟨s', e1, rfl, _⟩ := DataW.trod_string ht h
  have := List.head_eq_of_cons_eq e1
  cases this
  have h1 := hz s.data.toList.length (List.mem_singleton.2 rfl)
  have : s.size = s.data.toList.length := (Array.length_toList (xs := s.data)).symm
  omega
theorem struct_sized {t : TypeId} {fs : Array Field} {xs : List (DataW H × List MemPlace)} (ht : P.underlying t = some (.struct fs)) (hz : ∀ n ∈ (DataW.agg (xs.map (·.1)) : DataW H).weights P t, n ≤ reachBytes) {j : Nat} {ty : TypeId} {x : DataW H × List MemPlace} (hj : (fs.toList.map (·.type))[j]? = some ty) (hx : xs[j]? = some x) :
    ∀ n ∈ x.1.weights P ty, n ≤ reachBytes := by
  intro n hn
  refine hz n ?_
  simp only [DataW.weights, ht]
  exact DataW.weights_mem_each hj (by rw [List.getElem?_map, hx]; rfl) n hn
end


section
variable {H : Type} {enc : TypeId × Value → H} {w : World} {spare : Nat → Bool} {held : Bool} {base fuel : Nat}

theorem Try.byteLab : 1 ≤ Try.prog.bytesOf 45 := by decide +kernel
theorem Try.cellsLab : Try.prog.cellsOf 45 = 2 := by kernel_rfl
theorem Try.cellsStrN : Try.prog.cellsOf 9 = 1 := by kernel_rfl

set_option maxRecDepth 100000 in
theorem open_lab {cs : List Value} {x : DataW H × List MemPlace}
    (h : DataW.trod enc Try.prog w base spare held fuel 45 cs = some x) (hz : ∀ n ∈ x.1.weights Try.prog 45, n ≤ reachBytes) : ∃ q : Lab, cs = [.string q.1, .string q.2] ∧ q.1.size ≤ 1000000000000000 ∧ q.2.size ≤ 1000000000000000 := by
  obtain ⟨xs, m, _, rfl, hlen, hxl, hf⟩ := DataW.trod_struct Try.underlying45 h
  rw [Try.cellsLab] at hlen
  have hxl2 : xs.length = 2 := hxl
  have hr := reachBytes_lt
  match cs, hlen with
  | [v0, v1], _ =>
    have g0 : DataW.trod enc Try.prog w base spare held m 9 ((([v0, v1] : List Value).drop 0).take (Try.prog.cellsOf 9)) = xs[0]? := hf 0 _ rfl
    have g1 : DataW.trod enc Try.prog w base spare held m 9 ((([v0, v1] : List Value).drop 1).take (Try.prog.cellsOf 9)) = xs[1]? := hf 1 _ rfl
    rw [Try.cellsStrN, List.getElem?_eq_getElem (by omega)] at g0 g1
    obtain ⟨s0, e0, _, _⟩ := DataW.trod_string Try.underlying9 g0
    obtain ⟨s1, e1, _, _⟩ := DataW.trod_string Try.underlying9 g1
    have z0 := string_sized (v := v0) Try.underlying9 g0 (struct_sized Try.underlying45 hz (j := 0) rfl (List.getElem?_eq_getElem (by omega)))
    have z1 := string_sized (v := v1) Try.underlying9 g1 (struct_sized Try.underlying45 hz (j := 1) rfl (List.getElem?_eq_getElem (by omega)))
    have f0 := List.head_eq_of_cons_eq e0
    have f1 := List.head_eq_of_cons_eq e1
    subst f0 f1
    have t0 := z0 _ rfl
    have t1 := z1 _ rfl
    exact ⟨(s0, s1), rfl, by show s0.size ≤ _; omega, by show s1.size ≤ _; omega⟩

/-- Labels that came in. -/
structure In (w : World) (v : Value) (l : Labs) : Prop where
  src : LabSrc w v l
  came : Came l
  len : l.length ≤ 1000000000000000
set_option maxRecDepth 100000 in
theorem open_labs {a0 : Option Addr} {len0 cap0 : Nat} {x : DataW H × List MemPlace}
    (h : ∃ m, DataW.trod enc Try.prog w base spare held m 26 (Value.slice a0 len0 cap0).cells.toList = some x) (hz : ∀ n ∈ x.1.weights Try.prog 26, n ≤ reachBytes) : ∃ l : Labs, In w (.slice a0 len0 cap0) l := by
  obtain ⟨fuel, hf⟩ := h
  rcases Deep.open_slice Try.underlying26 hf with ⟨hcs, _⟩ | ⟨a, len, cap, m, n, D, Pl, hcs, _, hl, hm, hmm, rfl, hx⟩
  · simp [Value.cells] at hcs
    obtain ⟨rfl, rfl, rfl⟩ := hcs
    exact ⟨[], .inl ⟨_, _, rfl, rfl⟩, fun x hx => (by cases hx), by simp⟩
  · simp [Value.cells] at hcs
    obtain ⟨rfl, rfl, rfl⟩ := hcs
    have hlm : len0 ≤ m := by rw [hmm]; split <;> omega
    have hr := reachBytes_lt
    have hlen : len0 ≤ reachBytes := by
      have h1 := hz ((len0 + (m - len0)) * Try.prog.bytesOf 45) (by simp [DataW.weights, Try.underlying26])
      have h2 : (len0 + (m - len0)) * 1 ≤ (len0 + (m - len0)) * Try.prog.bytesOf 45 := Nat.mul_le_mul_left _ Try.byteLab
      omega
    have hzi : ∀ i, i < len0 → ∀ n ∈ (D i).weights Try.prog 45, n ≤ reachBytes := fun i hi n hn => by
      refine hz n ?_
      simp only [DataW.weights, Try.underlying26]
      refine List.mem_cons_of_mem _ (List.mem_append_left _ (weights_all (List.mem_map.2 ⟨i, List.mem_range.2 hi, rfl⟩) n hn))
    have each : ∀ i, i < len0 → ∃ q : Lab, w.cell? (a.add (i * 2)) = some (.string q.1) ∧ w.cell? (a.add (i * 2 + 1)) = some (.string q.2) ∧ q.1.size ≤ 1000000000000000 ∧ q.2.size ≤ 1000000000000000 := by
      intro i hi
      obtain ⟨cs', h1, h2⟩ := hx i (by omega)
      rw [Try.cellsLab] at h1
      obtain ⟨_, hlen, hcell⟩ := World.cells?_some h1
      obtain ⟨q, rfl, hq⟩ := open_lab h2 (hzi i hi)
      have c0 := hcell 0 (by omega)
      have c1 := hcell 1 (by omega)
      rw [Deep.add_add] at c0 c1
      exact ⟨q, by simpa using c0, by simpa using c1, hq⟩
    obtain ⟨q, hq⟩ := Deep.choose_lt each
    have hll : ((List.range len0).map q).length = len0 := by simp
    refine ⟨(List.range len0).map q, ?_, ?_, by rw [hll]; omega⟩
    · by_cases h0 : len0 = 0
      · subst h0
        exact .inl ⟨_, _, rfl, rfl⟩
      · refine .inr ⟨by rw [hll]; omega, ?_⟩
        obtain ⟨b, o, spot⟩ := a
        have hs : spot = none := by simpa [Addr.add] using World.cell?_spot (hq 0 (by omega)).1
        subst hs
        refine ⟨b, o, cap0, by rw [hll], fun i hi => ?_⟩
        have hi' : i < len0 := by rw [hll] at hi; exact hi
        have := hq i hi'
        rw [add_none, add_none, ← Nat.add_assoc] at this
        simp only [List.getElem_map, List.getElem_range]
        exact ⟨this.1, this.2.1⟩
    · intro y hy
      obtain ⟨i, hi, rfl⟩ := List.mem_map.1 hy
      exact (hq i (List.mem_range.1 hi)).2.2
end
end Go.Proofs.Ytcacoanhiphbiaa.N
