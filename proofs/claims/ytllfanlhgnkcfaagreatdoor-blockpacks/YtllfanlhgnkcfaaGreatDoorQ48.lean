/-
  Nopen, Copen, Kopen.
-/
import Derived.Test.YtllfanlhgnkcfaaGreatDoorQ46
import Derived.SizedLaws
import Derived.Deep.Slices
import Derived.OpenShut
import Derived.ChangeOld
import Derived.Test.YtllfanlhgnkcfaaGreatDoorQ15
import Derived.Test.YtllfanlhgnkcfaaGreatDoorQ28
namespace Go.Proofs.YtllfanlhgnkcfaaGreatDoor.N
open Go.RowKit Go.Proofs.Lys
set_option linter.unusedVariables false
section
variable {H : Type} {enc : TypeId × Value → H} {P : Program} {w : World} {spare : Nat → Bool} {held : Bool} {base fuel : Nat}
theorem weights_all {e : TypeId} : ∀ {l : List (DataW H)} {d : DataW H}, d ∈ l → ∀ n ∈ d.weights P e, n ∈ DataW.weightsAll P e l
 | d0 :: r, d, hd, n, hn => by
  simp only [DataW.weightsAll, List.mem_append]
  rcases List.mem_cons.1 hd with rfl | hd
  ·exact .inl hn
  ·exact .inr (weights_all hd n hn)
theorem slice_sized {t e : TypeId} {v : Value} {x : DataW H × List MemPlace} (ht : P.underlying t = some (.slice e)) (hb : 1 ≤ P.bytesOf e) (h : DataW.trod enc P w base spare held fuel t [v] = some x) (hz : ∀ n ∈ x.1.weights P t, n ≤ reachBytes) :
  ∀ a l c, v = .slice a l c → l ≤ reachBytes := by
 intro a l c hv
 subst hv
 rcases Deep.open_slice ht h with ⟨hcs, _⟩ | ⟨a', len, cap, m, n, D, Pl, hcs, _, hl, hm, hmm, rfl, hx⟩
 ·have := List.head_eq_of_cons_eq hcs
  cases this
  omega
 ·have := List.head_eq_of_cons_eq hcs
  cases this
  have hlm : l ≤ m := by rw [hmm]; split <;> omega
  have h1 := hz ((l + (m - l)) * P.bytesOf e) (by simp [DataW.weights, ht])
  have h2 : (l + (m - l)) * 1 ≤ (l + (m - l)) * P.bytesOf e := Nat.mul_le_mul_left _ hb
  omega
theorem string_sized {t : TypeId} {v : Value} {x : DataW H × List MemPlace} (ht : P.underlying t = some .string) (h : DataW.trod enc P w base spare held fuel t [v] = some x) (hz : ∀ n ∈ x.1.weights P t, n ≤ reachBytes) :
  ∀ s, v = .string s → s.size ≤ reachBytes := by
 intro s hv
 subst hv
 obtain ⟨s', e1, rfl, _⟩ := DataW.trod_string ht h
 have := List.head_eq_of_cons_eq e1
 cases this
 have h1 := hz s.data.toList.length (List.mem_singleton.2 rfl)
 have : s.size = s.data.toList.length := (Array.length_toList (xs := s.data)).symm
 omega
theorem struct_sized {t : TypeId} {fs : Array Field} {xs : List (DataW H × List MemPlace)} (ht : P.underlying t = some (.struct fs)) (hz : ∀ n ∈ (DataW.agg (xs.map (·.1)) : DataW H).weights P t, n ≤ reachBytes) {j : Nat} {ty : TypeId} {x : DataW H × List MemPlace} (hj : (fs.toList.map (·.type))[j]? = some ty) (hx : xs[j]? = some x) :
  ∀ n ∈ x.1.weights P ty, n ≤ reachBytes := by
 intro n hn
 refine hz n ?_
 simp only [DataW.weights, ht]
 exact DataW.weights_mem_each hj (by rw [List.getElem?_map, hx]; rfl) n hn
end
section
variable {H : Type} {enc : TypeId × Value → H} {w : World} {spare : Nat → Bool} {held : Bool} {base fuel : Nat}
theorem Tryz.byteLab : 1 ≤ Tryz.prog.bytesOf 71 := by decide +kernel
theorem Tryz.cellsLab : Tryz.prog.cellsOf 71 = 2 := by kernel_rfl
theorem Tryz.cellsStrN : Tryz.prog.cellsOf 9 = 1 := by kernel_rfl
set_option maxRecDepth 100000 in
theorem open_lab {cs : List Value} {x : DataW H × List MemPlace}
  (h : DataW.trod enc Tryz.prog w base spare held fuel 71 cs = some x) (hz : ∀ n ∈ x.1.weights Tryz.prog 71, n ≤ reachBytes) : ∃ q : Lab, cs = [.string q.1, .string q.2] ∧ q.1.size ≤ 1000000000000000 ∧ q.2.size ≤ 1000000000000000 := by
 obtain ⟨xs, m, _, rfl, hlen, hxl, hf⟩ := DataW.trod_struct Tryz.underlying71 h
 rw [Tryz.cellsLab] at hlen
 have hxl2 : xs.length = 2 := hxl
 have hr := reachBytes_lt
 match cs, hlen with
 | [v0, v1], _ =>
  have g0 : DataW.trod enc Tryz.prog w base spare held m 9 ((([v0, v1] : List Value).drop 0).take (Tryz.prog.cellsOf 9)) = xs[0]? := hf 0 _ rfl
  have g1 : DataW.trod enc Tryz.prog w base spare held m 9 ((([v0, v1] : List Value).drop 1).take (Tryz.prog.cellsOf 9)) = xs[1]? := hf 1 _ rfl
  rw [Tryz.cellsStrN, List.getElem?_eq_getElem (by omega)] at g0 g1
  obtain ⟨s0, e0, _, _⟩ := DataW.trod_string Tryz.underlying9 g0
  obtain ⟨s1, e1, _, _⟩ := DataW.trod_string Tryz.underlying9 g1
  have z0 := string_sized (v := v0) Tryz.underlying9 g0 (struct_sized Tryz.underlying71 hz (j := 0) rfl (List.getElem?_eq_getElem (by omega)))
  have z1 := string_sized (v := v1) Tryz.underlying9 g1 (struct_sized Tryz.underlying71 hz (j := 1) rfl (List.getElem?_eq_getElem (by omega)))
  have f0 := List.head_eq_of_cons_eq e0
  have f1 := List.head_eq_of_cons_eq e1
  subst f0 f1
  have t0 := z0 _ rfl
  have t1 := z1 _ rfl
  exact ⟨(s0, s1), rfl, by show s0.size ≤ _; omega, by show s1.size ≤ _; omega⟩
theorem mx_of {W : World} (h : W.ShapedOpen Tryz.prog) : Mx W :=
 cell_of_shapedOpen_int (t := 3) (zero := #[.int .i64 0]) h (by decide +kernel) (by kernel_rfl) rfl (by kernel_rfl) (by kernel_rfl) Tryz.underlying3
structure In (w : World) (v : Value) (l : Labs) : Prop where
 src : LabSrc w v l
 came : Came l
 len : l.length ≤ 1000000000000000
set_option maxRecDepth 100000 in
theorem open_labs {a0 : Option Addr} {len0 cap0 : Nat} {x : DataW H × List MemPlace}
  (h : ∃ m, DataW.trod enc Tryz.prog w base spare held m 45 (Value.slice a0 len0 cap0).cells.toList = some x) (hz : ∀ n ∈ x.1.weights Tryz.prog 45, n ≤ reachBytes) : ∃ l : Labs, In w (.slice a0 len0 cap0) l := by
 obtain ⟨fuel, hf⟩ := h
 rcases Deep.open_slice Tryz.underlying45 hf with ⟨hcs, _⟩ | ⟨a, len, cap, m, n, D, Pl, hcs, _, hl, hm, hmm, rfl, hx⟩
 ·simp [Value.cells] at hcs
  obtain ⟨rfl, rfl, rfl⟩ := hcs
  exact ⟨[], .inl ⟨_, _, rfl, rfl⟩, fun x hx => (by cases hx), by simp⟩
 ·simp [Value.cells] at hcs
  obtain ⟨rfl, rfl, rfl⟩ := hcs
  have hlm : len0 ≤ m := by rw [hmm]; split <;> omega
  have hr := reachBytes_lt
  have hlen : len0 ≤ reachBytes := by
   have h1 := hz ((len0 + (m - len0)) * Tryz.prog.bytesOf 71) (by simp [DataW.weights, Tryz.underlying45])
   have h2 : (len0 + (m - len0)) * 1 ≤ (len0 + (m - len0)) * Tryz.prog.bytesOf 71 := Nat.mul_le_mul_left _ Tryz.byteLab
   omega
  have hzi : ∀ i, i < len0 → ∀ n ∈ (D i).weights Tryz.prog 71, n ≤ reachBytes := fun i hi n hn => by
   refine hz n ?_
   simp only [DataW.weights, Tryz.underlying45]
   refine List.mem_cons_of_mem _ (List.mem_append_left _ (weights_all (List.mem_map.2 ⟨i, List.mem_range.2 hi, rfl⟩) n hn))
  have each : ∀ i, i < len0 → ∃ q : Lab, w.cell? (a.add (i * 2)) = some (.string q.1) ∧ w.cell? (a.add (i * 2 + 1)) = some (.string q.2) ∧ q.1.size ≤ 1000000000000000 ∧ q.2.size ≤ 1000000000000000 := by
   intro i hi
   obtain ⟨cs', h1, h2⟩ := hx i (by omega)
   rw [Tryz.cellsLab] at h1
   obtain ⟨_, hlen, hcell⟩ := World.cells?_some h1
   obtain ⟨q, rfl, hq⟩ := open_lab h2 (hzi i hi)
   have c0 := hcell 0 (by omega)
   have c1 := hcell 1 (by omega)
   rw [Deep.add_add] at c0 c1
   exact ⟨q, by simpa using c0, by simpa using c1, hq⟩
  obtain ⟨q, hq⟩ := Deep.choose_lt each
  have hll : ((List.range len0).map q).length = len0 := by simp
  refine ⟨(List.range len0).map q, ?_, ?_, by rw [hll]; omega⟩
  ·by_cases h0 : len0 = 0
   ·subst h0
    exact .inl ⟨_, _, rfl, rfl⟩
   ·refine .inr ⟨by rw [hll]; omega, ?_⟩
    obtain ⟨b, o, spot⟩ := a
    have hs : spot = none := by simpa [Addr.add] using World.cell?_spot (hq 0 (by omega)).1
    subst hs
    refine ⟨b, o, cap0, by rw [hll], fun i hi => ?_⟩
    have hi' : i < len0 := by rw [hll] at hi; exact hi
    have := hq i hi'
    rw [add_none, add_none, ← Nat.add_assoc] at this
    simp only [List.getElem_map, List.getElem_range]
    exact ⟨this.1, this.2.1⟩
  ·intro y hy
   obtain ⟨i, hi, rfl⟩ := List.mem_map.1 hy
   exact (hq i (List.mem_range.1 hi)).2.2
end
end Go.Proofs.YtllfanlhgnkcfaaGreatDoor.N
namespace Go.Proofs.YtllfanlhgnkcfaaGreatDoor.C
open Go.RowKit Go.Proofs.Lys
set_option linter.unusedVariables false
theorem in64 {zs : List Int} (h : ∀ n ∈ zs, (Lit.int .i64 n).wf = true) : V.In64 zs := by
 intro n hn
 have := h n hn
 simp [Lit.wf, IntKind.min, IntKind.max, IntKind.bits, IntKind.signed] at this
 omega
theorem Tryz.cellsSmp : Tryz.prog.cellsOf 53 = 2 := by kernel_rfl
theorem Tryz.cellsInt8 : Tryz.prog.cellsOf 3 = 1 := by kernel_rfl
set_option maxRecDepth 100000 in
theorem open_smp {H : Type} {enc : TypeId × Value → H} {w : World} {spare : Nat → Bool} {held : Bool} {base fuel : Nat} {cs : List Value} {x : DataW H × List MemPlace}
  (h : DataW.trod enc Tryz.prog w base spare held fuel 53 cs = some x) : ∃ q : Int × Int, cs = [.int .i64 q.1, .int .i64 q.2] ∧ (Lit.int .i64 q.2).wf = true := by
 obtain ⟨xs, m, _, _, hlen, hxl, hf⟩ := DataW.trod_struct Tryz.underlying53 h
 rw [Tryz.cellsSmp] at hlen
 have hxl2 : xs.length = 2 := hxl
 match cs, hlen with
 | [v0, v1], _ =>
  have g0 : DataW.trod enc Tryz.prog w base spare held m 3 ((([v0, v1] : List Value).drop 0).take (Tryz.prog.cellsOf 3)) = xs[0]? := hf 0 _ rfl
  have g1 : DataW.trod enc Tryz.prog w base spare held m 3 ((([v0, v1] : List Value).drop 1).take (Tryz.prog.cellsOf 3)) = xs[1]? := hf 1 _ rfl
  rw [Tryz.cellsInt8, List.getElem?_eq_getElem (by omega)] at g0 g1
  obtain ⟨n0, e0, _, wf0⟩ := DataW.trod_int Tryz.underlying3 g0
  obtain ⟨n1, e1, _, wf1⟩ := DataW.trod_int Tryz.underlying3 g1
  have f0 := List.head_eq_of_cons_eq e0
  have f1 := List.head_eq_of_cons_eq e1
  subst f0 f1
  exact ⟨(n0, n1), rfl, wf1⟩
set_option maxRecDepth 100000 in
theorem open_smps {H : Type} {enc : TypeId × Value → H} {w : World} {spare : Nat → Bool} {held : Bool} {base : Nat} {a0 : Option Addr} {len0 cap0 : Nat} {x : DataW H × List MemPlace}
  (h : ∃ m, DataW.trod enc Tryz.prog w base spare held m 46 (Value.slice a0 len0 cap0).cells.toList = some x) : ∃ l : Smps, SSrc w (.slice a0 len0 cap0) l ∧ V.In64 (l.map (·.2)) := by
 obtain ⟨fuel, hf⟩ := h
 rcases Deep.open_slice Tryz.underlying46 hf with ⟨hcs, _⟩ | ⟨a, len, cap, m, n, D, Pl, hcs, _, hl, hm, hmm, _, hx⟩
 ·simp [Value.cells] at hcs
  obtain ⟨rfl, rfl, rfl⟩ := hcs
  exact ⟨[], ⟨.inl ⟨_, _, rfl, rfl⟩, _, _, rfl, Nat.le_refl _⟩, fun v hv => by cases hv⟩
 ·simp [Value.cells] at hcs
  obtain ⟨rfl, rfl, rfl⟩ := hcs
  have hlm : len0 ≤ m := by rw [hmm]; split <;> omega
  have each : ∀ i, i < len0 → ∃ q : Int × Int, w.cell? (a.add (i * 2)) = some (.int .i64 q.1) ∧ w.cell? (a.add (i * 2 + 1)) = some (.int .i64 q.2) ∧ (Lit.int .i64 q.2).wf = true := by
   intro i hi
   obtain ⟨cs', h1, h2⟩ := hx i (by omega)
   rw [Tryz.cellsSmp] at h1
   obtain ⟨_, hlen, hcell⟩ := World.cells?_some h1
   obtain ⟨q, rfl, hq⟩ := open_smp h2
   have c0 := hcell 0 (by omega)
   have c1 := hcell 1 (by omega)
   rw [Deep.add_add] at c0 c1
   exact ⟨q, by simpa using c0, by simpa using c1, hq⟩
  obtain ⟨q, hq⟩ := Deep.choose_lt each
  have hin : V.In64 (((List.range len0).map q).map (·.2)) := in64 (fun z hz => by
   obtain ⟨p, hp, rfl⟩ := List.mem_map.1 hz
   obtain ⟨i, hi, rfl⟩ := List.mem_map.1 hp
   exact (hq i (List.mem_range.1 hi)).2.2)
  have hll : ((List.range len0).map q).length = len0 := by simp
  refine ⟨(List.range len0).map q, ⟨?_, some a, cap0, by rw [hll], by rw [hll]; exact hl⟩, hin⟩
  by_cases h0 : len0 = 0
  ·subst h0
   exact .inl ⟨_, _, rfl, rfl⟩
  ·refine .inr ⟨by rw [hll]; omega, ?_⟩
   obtain ⟨b, o, spot⟩ := a
   have hs : spot = none := by simpa [Addr.add] using World.cell?_spot (hq 0 (by omega)).1
   subst hs
   refine ⟨b, o, cap0, by rw [hll], fun i hi => ?_⟩
   have hi' : i < len0 := by rw [hll] at hi; exact hi
   have := hq i hi'
   rw [add_none, add_none, ← Nat.add_assoc] at this
   simp only [List.getElem_map, List.getElem_range]
   exact ⟨this.1, this.2.1⟩
end Go.Proofs.YtllfanlhgnkcfaaGreatDoor.C
namespace Go.Proofs.YtllfanlhgnkcfaaGreatDoor.K
open Go.RowKit Go.Proofs.Lys Go.Maps
set_option linter.unusedVariables false
set_option linter.unusedSimpArgs false
structure SIn (w : World) (v : Value) (l : List Ser) : Prop where
 src : SerIn w v l
 came : ∀ s ∈ l, N.Came s.1 ∧ s.1.length ≤ 1000000000000000 ∧ s.2.length ≤ 1000000000000000
 len : l.length ≤ 1000000000000000
section
variable {H : Type} {enc : TypeId × Value → H} {w : World} {spare : Nat → Bool} {held : Bool} {base fuel : Nat}
theorem Tryz.cellsLabsK : Tryz.prog.cellsOf 45 = 1 := by kernel_rfl
theorem Tryz.cellsSmpsK : Tryz.prog.cellsOf 46 = 1 := by kernel_rfl
theorem Tryz.cellsSerK : Tryz.prog.cellsOf 48 = 2 := by kernel_rfl
theorem Tryz.byteSerK : 1 ≤ Tryz.prog.bytesOf 48 := by decide +kernel
theorem Tryz.byteSmpK : 1 ≤ Tryz.prog.bytesOf 53 := by decide +kernel
structure SerC where
 lv : Value
 sv : Value
 s : Ser
set_option maxRecDepth 100000 in
theorem open_ser {cs : List Value} {x : DataW H × List MemPlace}
  (h : DataW.trod enc Tryz.prog w base spare held fuel 48 cs = some x) (hz : ∀ n ∈ x.1.weights Tryz.prog 48, n ≤ reachBytes) : ∃ q : SerC, cs = [q.lv, q.sv] ∧ N.In w q.lv q.s.1 ∧ C.SSrc w q.sv q.s.2 ∧ q.s.2.length ≤ 1000000000000000 ∧ V.In64 (q.s.2.map (·.2)) := by
 obtain ⟨xs, m, _, rfl, hlen, hxl, hf⟩ := DataW.trod_struct Tryz.underlying48 h
 rw [Tryz.cellsSerK] at hlen
 have hxl2 : xs.length = 2 := hxl
 have hr := reachBytes_lt
 match cs, hlen with
 | [v0, v1], _ =>
  have g0 : DataW.trod enc Tryz.prog w base spare held m 45 ((([v0, v1] : List Value).drop 0).take (Tryz.prog.cellsOf 45)) = xs[0]? := hf 0 _ rfl
  have g1 : DataW.trod enc Tryz.prog w base spare held m 46 ((([v0, v1] : List Value).drop 1).take (Tryz.prog.cellsOf 46)) = xs[1]? := hf 1 _ rfl
  rw [Tryz.cellsLabsK, List.getElem?_eq_getElem (by omega)] at g0
  rw [Tryz.cellsSmpsK, List.getElem?_eq_getElem (by omega)] at g1
  have hz0 := N.struct_sized Tryz.underlying48 hz (j := 0) rfl (List.getElem?_eq_getElem (by omega))
  have hz1 := N.struct_sized Tryz.underlying48 hz (j := 1) rfl (List.getElem?_eq_getElem (by omega))
  obtain ⟨a, n, c, e0⟩ : ∃ a n c, v0 = .slice a n c := by
   rcases Deep.open_slice Tryz.underlying45 g0 with ⟨hcs, _⟩ | ⟨a, len, cap, m, n, D, Pl, hcs, _⟩
   ·exact ⟨none, 0, 0, by simpa using hcs⟩
   ·exact ⟨some a, len, cap, by simpa using hcs⟩
  obtain ⟨a', n', c', e1⟩ : ∃ a n c, v1 = .slice a n c := by
   rcases Deep.open_slice Tryz.underlying46 g1 with ⟨hcs, _⟩ | ⟨a, len, cap, m, n, D, Pl, hcs, _⟩
   ·exact ⟨none, 0, 0, by simpa using hcs⟩
   ·exact ⟨some a, len, cap, by simpa using hcs⟩
  subst e0 e1
  obtain ⟨l, hl⟩ := N.open_labs ⟨m, g0⟩ hz0
  obtain ⟨s, hs, hvs⟩ := C.open_smps ⟨m, g1⟩
  have hn := N.slice_sized (v := .slice a' n' c') Tryz.underlying46 Tryz.byteSmpK g1 hz1 a' n' c' rfl
  obtain ⟨_, _, e, _⟩ := hs.2
  have e9 : n' = s.length := by injection e
  exact ⟨⟨.slice a n c, .slice a' n' c', (l, s)⟩, rfl, hl, hs, by show s.length ≤ _; omega, hvs⟩
set_option maxRecDepth 100000 in
theorem open_sersV {a0 : Option Addr} {len0 cap0 : Nat} {x : DataW H × List MemPlace}
  (h : ∃ m, DataW.trod enc Tryz.prog w base spare held m 22 (Value.slice a0 len0 cap0).cells.toList = some x) (hz : ∀ n ∈ x.1.weights Tryz.prog 22, n ≤ reachBytes) : ∃ l : List Ser, SIn w (.slice a0 len0 cap0) l ∧ ∀ s ∈ l, V.In64 (s.2.map (·.2)) := by
 obtain ⟨fuel, hf⟩ := h
 rcases Deep.open_slice Tryz.underlying22 hf with ⟨hcs, _⟩ | ⟨a, len, cap, m, n, D, Pl, hcs, _, hl, hm, hmm, rfl, hx⟩
 ·simp [Value.cells] at hcs
  obtain ⟨rfl, rfl, rfl⟩ := hcs
  exact ⟨[], ⟨.inl ⟨_, _, rfl, rfl⟩, fun x hx => (by cases hx), by simp⟩, fun x hx => (by cases hx)⟩
 ·simp [Value.cells] at hcs
  obtain ⟨rfl, rfl, rfl⟩ := hcs
  have hlm : len0 ≤ m := by rw [hmm]; split <;> omega
  have hr := reachBytes_lt
  have hlen : len0 ≤ reachBytes := by
   have h1 := hz ((len0 + (m - len0)) * Tryz.prog.bytesOf 48) (by simp [DataW.weights, Tryz.underlying22])
   have h2 : (len0 + (m - len0)) * 1 ≤ (len0 + (m - len0)) * Tryz.prog.bytesOf 48 := Nat.mul_le_mul_left _ Tryz.byteSerK
   omega
  have hzi : ∀ i, i < len0 → ∀ n ∈ (D i).weights Tryz.prog 48, n ≤ reachBytes := fun i hi n hn => by
   refine hz n ?_
   simp only [DataW.weights, Tryz.underlying22]
   refine List.mem_cons_of_mem _ (List.mem_append_left _ (N.weights_all (List.mem_map.2 ⟨i, List.mem_range.2 hi, rfl⟩) n hn))
  have each : ∀ i, i < len0 → ∃ q : SerC, w.cell? (a.add (i * 2)) = some q.lv ∧ w.cell? (a.add (i * 2 + 1)) = some q.sv ∧ N.In w q.lv q.s.1 ∧ C.SSrc w q.sv q.s.2 ∧ q.s.2.length ≤ 1000000000000000 ∧ V.In64 (q.s.2.map (·.2)) := by
   intro i hi
   obtain ⟨cs', h1, h2⟩ := hx i (by omega)
   rw [Tryz.cellsSerK] at h1
   obtain ⟨_, hlen, hcell⟩ := World.cells?_some h1
   obtain ⟨q, rfl, hq⟩ := open_ser h2 (hzi i hi)
   have c0 := hcell 0 (by omega)
   have c1 := hcell 1 (by omega)
   rw [Deep.add_add] at c0 c1
   exact ⟨q, by simpa using c0, by simpa using c1, hq⟩
  have hinh : Inhabited SerC := ⟨⟨.slice none 0 0, .slice none 0 0, ([], [])⟩⟩
  obtain ⟨q, hq⟩ := Deep.choose_lt each
  have hll : ((List.range len0).map (fun i => (q i).s)).length = len0 := by simp
  refine ⟨(List.range len0).map (fun i => (q i).s), ⟨?_, ?_, by rw [hll]; omega⟩, fun y hy => ?_⟩
  ·by_cases h0 : len0 = 0
   ·subst h0
    exact .inl ⟨_, _, rfl, rfl⟩
   ·refine .inr ⟨by rw [hll]; omega, ?_⟩
    obtain ⟨b, o, spot⟩ := a
    have hs : spot = none := by simpa [Addr.add] using World.cell?_spot (hq 0 (by omega)).1
    subst hs
    refine ⟨b, o, cap0, by rw [hll], fun i hi => ?_⟩
    have hi' : i < len0 := by rw [hll] at hi; exact hi
    have := hq i hi'
    rw [add_none, add_none, ← Nat.add_assoc] at this
    simp only [List.getElem_map, List.getElem_range]
    exact ⟨_, _, this.1, this.2.1, this.2.2.1.src, this.2.2.2.1⟩
  ·intro y hy
   obtain ⟨i, hi, rfl⟩ := List.mem_map.1 hy
   have := (hq i (List.mem_range.1 hi)).2.2
   exact ⟨this.1.came, this.1.len, this.2.2.1⟩
  ·obtain ⟨i, hi, rfl⟩ := List.mem_map.1 hy
   exact (hq i (List.mem_range.1 hi)).2.2.2.2.2
end
end Go.Proofs.YtllfanlhgnkcfaaGreatDoor.K
