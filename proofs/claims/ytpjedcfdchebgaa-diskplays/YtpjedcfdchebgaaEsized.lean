/-
  Acts that came in as data of the sizes that the form allows.
-/
import Derived.Test.YtpjedcfdchebgaaEbig
import Derived.SizedLaws
namespace Go.Proofs.Ytpjedcfdchebgaa
open Go.RowKit Go.Proofs.Lys Go.Maps Go.Shelf
set_option linter.unusedVariables false

section
variable {H : Type} {enc : TypeId × Value → H} {P : Program} {w : World} {spare : Nat → Bool} {held : Bool} {base fuel : Nat}

theorem weights_all {e : TypeId} : ∀ {l : List (DataW H)} {d : DataW H}, d ∈ l → ∀ n ∈ d.weights P e, n ∈ DataW.weightsAll P e l
  | d0 :: r, d, hd, n, hn => by
    simp only [DataW.weightsAll, List.mem_append]
    rcases List.mem_cons.1 hd with rfl | hd
    · exact .inl hn
    · exact .inr (weights_all hd n hn)
theorem slice_sized {t e : TypeId} {v : Value} {x : DataW H × List MemPlace} (ht : P.underlying t = some (.slice e)) (hb : 1 ≤ P.bytesOf e) (h : DataW.trod enc P w base spare held fuel t [v] = some x) (hz : ∀ n ∈ x.1.weights P t, n ≤ reachBytes) :
    ∀ a l c, v = .slice a l c → l ≤ reachBytes := by
  intro a l c hv
  subst hv
  rcases Deep.open_slice ht h with ⟨hcs, _⟩ | ⟨a', len, cap, m, n, D, Pl, hcs, _, hl, hm, hmm, rfl, hx⟩
  · have := List.head_eq_of_cons_eq hcs
    cases this
    omega
  · have := List.head_eq_of_cons_eq hcs
    cases this
    have hlm : l ≤ m := by rw [hmm]; split <;> omega
    have h1 := hz ((l + (m - l)) * P.bytesOf e) (by simp [DataW.weights, ht])
    have h2 : (l + (m - l)) * 1 ≤ (l + (m - l)) * P.bytesOf e := Nat.mul_le_mul_left _ hb
    omega
theorem string_sized {t : TypeId} {v : Value} {x : DataW H × List MemPlace} (ht : P.underlying t = some .string) (h : DataW.trod enc P w base spare held fuel t [v] = some x) (hz : ∀ n ∈ x.1.weights P t, n ≤ reachBytes) :
    ∀ s, v = .string s → s.size ≤ reachBytes := by
  intro s hv
  subst hv
  obtain ⟨s', e1, rfl, _⟩ := DataW.trod_string ht h
  have := List.head_eq_of_cons_eq e1
  cases this
  have h1 := hz s.data.toList.length (List.mem_singleton.2 rfl)
  have : s.size = s.data.toList.length := (Array.length_toList (xs := s.data)).symm
  omega
theorem struct_sized {t : TypeId} {fs : Array Field} {xs : List (DataW H × List MemPlace)} (ht : P.underlying t = some (.struct fs)) (hz : ∀ n ∈ (DataW.agg (xs.map (·.1)) : DataW H).weights P t, n ≤ reachBytes) {j : Nat} {ty : TypeId} {x : DataW H × List MemPlace} (hj : (fs.toList.map (·.type))[j]? = some ty) (hx : xs[j]? = some x) :
    ∀ n ∈ x.1.weights P ty, n ≤ reachBytes := by
  intro n hn
  refine hz n ?_
  simp only [DataW.weights, ht]
  exact DataW.weights_mem_each hj (by rw [List.getElem?_map, hx]; rfl) n hn
end

section
variable {H : Type} {enc : TypeId × Value → H} {w : World} {spare : Nat → Bool} {held : Bool} {base fuel : Nat}

theorem Try.byteByte : 1 ≤ Try.prog.bytesOf 5 := by decide +kernel
theorem Try.byteInt : 1 ≤ Try.prog.bytesOf 3 := by decide +kernel
theorem Try.byteAct : 1 ≤ Try.prog.bytesOf 34 := by decide +kernel

theorem op_sized {v0 v1 v2 v3 : Value} {x : DataW H × List MemPlace} (h : DataW.trod enc Try.prog w base spare held fuel 31 [v0, v1, v2, v3] = some x) (hz : ∀ n ∈ x.1.weights Try.prog 31, n ≤ reachBytes) :
    (∀ s, v1 = .string s → s.size ≤ reachBytes) ∧ (∀ s, v2 = .string s → s.size ≤ reachBytes) ∧ ∀ a l c, v3 = .slice a l c → l ≤ reachBytes := by
  obtain ⟨xs, m, _, rfl, hlen, hxl, hf⟩ := DataW.trod_struct Try.underlying31 h
  have hxl4 : xs.length = 4 := hxl
  have g1 : DataW.trod enc Try.prog w base spare held m 9 ((([v0, v1, v2, v3] : List Value).drop 1).take (Try.prog.cellsOf 9)) = xs[1]? := hf 1 _ rfl
  have g2 : DataW.trod enc Try.prog w base spare held m 9 ((([v0, v1, v2, v3] : List Value).drop 2).take (Try.prog.cellsOf 9)) = xs[2]? := hf 2 _ rfl
  have g3 : DataW.trod enc Try.prog w base spare held m 29 ((([v0, v1, v2, v3] : List Value).drop 3).take (Try.prog.cellsOf 29)) = xs[3]? := hf 3 _ rfl
  rw [Try.cellsStr, List.getElem?_eq_getElem (by omega)] at g1
  rw [Try.cellsStr, List.getElem?_eq_getElem (by omega)] at g2
  rw [Try.cellsBytes, List.getElem?_eq_getElem (by omega)] at g3
  exact ⟨string_sized (v := v1) Try.underlying9 g1 (struct_sized Try.underlying31 hz (j := 1) rfl (List.getElem?_eq_getElem (by omega))),
    string_sized (v := v2) Try.underlying9 g2 (struct_sized Try.underlying31 hz (j := 2) rfl (List.getElem?_eq_getElem (by omega))),
    slice_sized (v := v3) Try.underlying29 Try.byteByte g3 (struct_sized Try.underlying31 hz (j := 3) rfl (List.getElem?_eq_getElem (by omega)))⟩

theorem src_slice {w : World} {v : Value} {xs : List Value} (h : SrcOf w v xs) : ∃ a c, v = .slice a xs.length c := h.len

theorem open_act2 {cs : List Value} {x : DataW H × List MemPlace}
    (h : DataW.trod enc Try.prog w base spare held fuel 34 cs = some x) (hz : ∀ n ∈ x.1.weights Try.prog 34, n ≤ reachBytes) : ∃ q : CAct, q.ok w ∧ q.small ∧ cs = [.int .i64 q.way, .int .i64 q.num, .int .i64 q.op.k, .string q.op.n, .string q.op.t, q.op.v, q.kv] := by
  obtain ⟨q, hq, rfl⟩ := open_act h
  refine ⟨q, hq, ?_, rfl⟩
  obtain ⟨xs, m, _, rfl, hlen, hxl, hf⟩ := DataW.trod_struct Try.underlying34 h
  have hxl4 : xs.length = 4 := hxl
  have g2 : DataW.trod enc Try.prog w base spare held m 31 ((([.int .i64 q.way, .int .i64 q.num, .int .i64 q.op.k, .string q.op.n, .string q.op.t, q.op.v, q.kv] : List Value).drop 2).take (Try.prog.cellsOf 31)) = xs[2]? := hf 2 _ rfl
  have g3 : DataW.trod enc Try.prog w base spare held m 32 ((([.int .i64 q.way, .int .i64 q.num, .int .i64 q.op.k, .string q.op.n, .string q.op.t, q.op.v, q.kv] : List Value).drop 6).take (Try.prog.cellsOf 32)) = xs[3]? := hf 3 _ rfl
  rw [Try.cellsOp, List.getElem?_eq_getElem (by omega)] at g2
  rw [Try.cellsNums, List.getElem?_eq_getElem (by omega)] at g3
  obtain ⟨s1, s2, s3⟩ := op_sized (v0 := .int .i64 q.op.k) (v1 := .string q.op.n) (v2 := .string q.op.t) (v3 := q.op.v) g2 (struct_sized Try.underlying34 hz (j := 2) rfl (List.getElem?_eq_getElem (by omega)))
  have s4 := slice_sized (v := q.kv) Try.underlying32 Try.byteInt g3 (struct_sized Try.underlying34 hz (j := 3) rfl (List.getElem?_eq_getElem (by omega)))
  obtain ⟨a, c, e⟩ := hq.op.src.len
  obtain ⟨a2, c2, e2, _⟩ := hq.keep.2
  have hr := reachBytes_lt
  have t1 := s1 _ rfl
  have t2 := s2 _ rfl
  have t3 := s3 _ _ _ e
  have t4 := s4 _ _ _ e2
  rw [List.length_map] at t3
  exact ⟨by omega, by omega, by omega, by omega⟩

set_option maxRecDepth 100000 in
theorem open_acts2 {a0 : Option Addr} {len0 cap0 : Nat} {x : DataW H × List MemPlace}
    (h : ∃ m, DataW.trod enc Try.prog w base spare held m 22 (Value.slice a0 len0 cap0).cells.toList = some x) (hz : ∀ n ∈ x.1.weights Try.prog 22, n ≤ reachBytes) : ∃ ps, ActsSrc w (.slice a0 len0 cap0) ps ∧ (∀ a ∈ ps, a.small) ∧ ps.length ≤ 281474976710656 := by
  obtain ⟨fuel, hf⟩ := h
  rcases Deep.open_slice Try.underlying22 hf with ⟨hcs, _⟩ | ⟨a, len, cap, m, n, D, Pl, hcs, _, hl, hm, hmm, rfl, hx⟩
  · simp [Value.cells] at hcs
    obtain ⟨rfl, rfl, rfl⟩ := hcs
    exact ⟨[], .inl ⟨_, _, rfl, rfl⟩, by simp, by simp⟩
  · simp [Value.cells] at hcs
    obtain ⟨rfl, rfl, rfl⟩ := hcs
    have hlm : len0 ≤ m := by rw [hmm]; split <;> omega
    have hr := reachBytes_lt
    have hlen : len0 ≤ reachBytes := by
      have h1 := hz ((len0 + (m - len0)) * Try.prog.bytesOf 34) (by simp [DataW.weights, Try.underlying22])
      have h2 : (len0 + (m - len0)) * 1 ≤ (len0 + (m - len0)) * Try.prog.bytesOf 34 := Nat.mul_le_mul_left _ Try.byteAct
      omega
    have hzi : ∀ i, i < len0 → ∀ n ∈ (D i).weights Try.prog 34, n ≤ reachBytes := fun i hi n hn => by
      refine hz n ?_
      simp only [DataW.weights, Try.underlying22]
      refine List.mem_cons_of_mem _ (List.mem_append_left _ (weights_all (List.mem_map.2 ⟨i, List.mem_range.2 hi, rfl⟩) n hn))
    have each : ∀ i, i < len0 → ∃ q : CAct, w.cell? (a.add (i * 7)) = some (.int .i64 q.way) ∧ w.cell? (a.add (i * 7 + 1)) = some (.int .i64 q.num) ∧ w.cell? (a.add (i * 7 + 2)) = some (.int .i64 q.op.k) ∧ w.cell? (a.add (i * 7 + 3)) = some (.string q.op.n) ∧ w.cell? (a.add (i * 7 + 4)) = some (.string q.op.t) ∧ w.cell? (a.add (i * 7 + 5)) = some q.op.v ∧ w.cell? (a.add (i * 7 + 6)) = some q.kv ∧ q.ok w ∧ q.small := by
      intro i hi
      obtain ⟨cs', h1, h2⟩ := hx i (by omega)
      rw [Try.cellsAct] at h1
      obtain ⟨_, hlen, hcell⟩ := World.cells?_some h1
      obtain ⟨q, hq, hsm, rfl⟩ := open_act2 h2 (hzi i hi)
      have c0 := hcell 0 (by omega)
      have c1 := hcell 1 (by omega)
      have c2 := hcell 2 (by omega)
      have c3 := hcell 3 (by omega)
      have c4 := hcell 4 (by omega)
      have c5 := hcell 5 (by omega)
      have c6 := hcell 6 (by omega)
      rw [Deep.add_add] at c0 c1 c2 c3 c4 c5 c6
      exact ⟨q, by simpa using c0, by simpa using c1, by simpa using c2, by simpa using c3, by simpa using c4, by simpa using c5, by simpa using c6, hq, hsm⟩
    obtain ⟨q, hq⟩ := Deep.choose_lt each
    by_cases h0 : len0 = 0
    · subst h0
      exact ⟨[], .inl ⟨_, _, rfl, rfl⟩, by simp, by simp⟩
    · refine ⟨(List.range len0).map q, .inr ⟨by simp; omega, ?_⟩, ?_, by simp; omega⟩
      · obtain ⟨b, o, spot⟩ := a
        have hs : spot = none := by simpa [Addr.add] using World.cell?_spot (hq 0 (by omega)).1
        subst hs
        refine ⟨b, o, cap0, by simp, fun i hi => ?_⟩
        have hi' : i < len0 := by simpa using hi
        have := hq i hi'
        rw [add_none, add_none, add_none, add_none, add_none, add_none, add_none, ← Nat.add_assoc, ← Nat.add_assoc, ← Nat.add_assoc, ← Nat.add_assoc, ← Nat.add_assoc, ← Nat.add_assoc] at this
        obtain ⟨p0, p1, p2, p3, p4, p5, p6, p7, _⟩ := this
        simpa using ⟨p0, p1, p2, p3, p4, p5, p6, p7⟩
      · intro y hy
        obtain ⟨i, hi, rfl⟩ := List.mem_map.1 hy
        exact (hq i (List.mem_range.1 hi)).2.2.2.2.2.2.2.2
end
end Go.Proofs.Ytpjedcfdchebgaa
