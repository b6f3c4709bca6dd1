/-
  Samples and numbers that came in.
-/
import Derived.Test.YtjjmidooikgaaaaPtlow
import Derived.Deep.Slices
import Derived.OpenShut
import Derived.ChangeOld
namespace Go.Proofs.Ytjjmidooikgaaaa.Rs
open Go Go.RowKit Go.Proofs.Lys
open Ru (In64)
set_option linter.unusedVariables false

/-- Samples that came in. -/
def SIn (w : World) (v : Value) (l : Smps) : Prop := SSrc w v l ∧ l.length ≤ 140737488351232 ∧ ∀ p ∈ l, In64 p.1 ∧ In64 p.2
theorem in64_wf {n : Int} (h : (Lit.int .i64 n).wf = true) : In64 n := by
  simp only [Lit.wf, Bool.and_eq_true, decide_eq_true_eq] at h
  have m0 : IntKind.i64.min = -9223372036854775808 := by decide
  have m1 : IntKind.i64.max = 9223372036854775807 := by decide
  rw [m0, m1] at h
  exact h
theorem Try.cellsSmpR : Try.prog.cellsOf 36 = 2 := by kernel_rfl
theorem Try.cellsIntR : Try.prog.cellsOf 3 = 1 := by kernel_rfl
theorem Try.bytesSmpR : 1 ≤ Try.prog.bytesOf 36 := by decide +kernel
set_option maxRecDepth 100000 in
theorem open_smpR {H : Type} {enc : TypeId × Value → H} {w : World} {spare : Nat → Bool} {held : Bool} {base fuel : Nat} {cs : List Value} {x : DataW H × List MemPlace}
    (h : DataW.trod enc Try.prog w base spare held fuel 36 cs = some x) : ∃ q : Int × Int, cs = [.int .i64 q.1, .int .i64 q.2] ∧ In64 q.1 ∧ In64 q.2 := by
  obtain ⟨xs, m, _, _, hlen, hxl, hf⟩ := DataW.trod_struct Try.underlying36 h
  rw [Try.cellsSmpR] at hlen
  have hxl2 : xs.length = 2 := hxl
  match cs, hlen with
  | [v0, v1], _ =>
    have g0 : DataW.trod enc Try.prog w base spare held m 3 ((([v0, v1] : List Value).drop 0).take (Try.prog.cellsOf 3)) = xs[0]? := hf 0 _ rfl
    have g1 : DataW.trod enc Try.prog w base spare held m 3 ((([v0, v1] : List Value).drop 1).take (Try.prog.cellsOf 3)) = xs[1]? := hf 1 _ rfl
    rw [Try.cellsIntR, List.getElem?_eq_getElem (by omega)] at g0 g1
    obtain ⟨n0, e0, _, wf0⟩ := DataW.trod_int Try.underlying3 g0
    obtain ⟨n1, e1, _, wf1⟩ := DataW.trod_int Try.underlying3 g1
    have f0 := List.head_eq_of_cons_eq e0
    have f1 := List.head_eq_of_cons_eq e1
    subst f0 f1
    exact ⟨(n0, n1), rfl, in64_wf wf0, in64_wf wf1⟩
set_option maxRecDepth 100000 in
theorem open_smpsR {H : Type} {enc : TypeId × Value → H} {w : World} {spare : Nat → Bool} {held : Bool} {base : Nat} {a0 : Option Addr} {len0 cap0 : Nat} {x : DataW H × List MemPlace}
    (h : ∃ m, DataW.trod enc Try.prog w base spare held m 22 (Value.slice a0 len0 cap0).cells.toList = some x) (hz : ∀ n ∈ x.1.weights Try.prog 22, n ≤ reachBytes) : ∃ l : Smps, SIn w (.slice a0 len0 cap0) l := by
  obtain ⟨fuel, hf⟩ := h
  rcases Deep.open_slice Try.underlying22 hf with ⟨hcs, _⟩ | ⟨a, len, cap, m, n, D, Pl, hcs, _, hl, hm, hmm, hxe, hx⟩
  · simp [Value.cells] at hcs
    obtain ⟨rfl, rfl, rfl⟩ := hcs
    exact ⟨[], ⟨.inl ⟨_, _, rfl, rfl⟩, _, _, rfl, Nat.le_refl _⟩, by decide, fun p hp => by cases hp⟩
  · simp [Value.cells] at hcs
    obtain ⟨rfl, rfl, rfl⟩ := hcs
    have hlm : len0 ≤ m := by rw [hmm]; split <;> omega
    have hsize : len0 ≤ 140737488351232 := by
      subst hxe
      have h1 := hz ((len0 + (m - len0)) * Try.prog.bytesOf 36) (by simp [DataW.weights, Try.underlying22])
      have h2 : (len0 + (m - len0)) * 1 ≤ (len0 + (m - len0)) * Try.prog.bytesOf 36 := Nat.mul_le_mul_left _ Try.bytesSmpR
      have hr : reachBytes = 140737488351232 := by decide
      omega
    have each : ∀ i, i < len0 → ∃ q : Int × Int, (w.cell? (a.add (i * 2)) = some (.int .i64 q.1) ∧ w.cell? (a.add (i * 2 + 1)) = some (.int .i64 q.2)) ∧ In64 q.1 ∧ In64 q.2 := by
      intro i hi
      obtain ⟨cs', h1, h2⟩ := hx i (by omega)
      rw [Try.cellsSmpR] at h1
      obtain ⟨_, hlen, hcell⟩ := World.cells?_some h1
      obtain ⟨q, rfl, hq1, hq2⟩ := open_smpR h2
      have c0 := hcell 0 (by omega)
      have c1 := hcell 1 (by omega)
      rw [Deep.add_add] at c0 c1
      exact ⟨q, ⟨by simpa using c0, by simpa using c1⟩, hq1, hq2⟩
    have hinh : Inhabited (Int × Int) := ⟨(0, 0)⟩
    obtain ⟨q, hq⟩ := Deep.choose_lt each
    by_cases h0 : len0 = 0
    · subst h0
      exact ⟨[], ⟨.inl ⟨_, _, rfl, rfl⟩, _, _, rfl, Nat.zero_le _⟩, by decide, fun p hp => by cases hp⟩
    · obtain ⟨b, o, spot⟩ := a
      have hs : spot = none := by simpa [Addr.add] using World.cell?_spot (hq 0 (by omega)).1.1
      subst hs
      refine ⟨(List.range len0).map q, ⟨.inr ⟨by simp; omega, b, o, cap0, by simp, fun i hi => ?_⟩, some ⟨b, o, none⟩, cap0, by simp, by simp; omega⟩, by simp; omega, fun p hp => ?_⟩
      · have hi' : i < len0 := by simpa using hi
        have := (hq i hi').1
        rw [add_none, add_none, ← Nat.add_assoc] at this
        simpa using this
      · obtain ⟨i, hi, rfl⟩ := List.mem_map.1 hp
        exact (hq i (List.mem_range.1 hi)).2
open Go.ChangeShapes in
theorem open_row {H : Type} {enc : TypeId × Value → H} {w : World} {spare : Nat → Bool} {held : Bool} {base : Nat} {a0 : Option Addr} {len0 cap0 : Nat} {x : DataW H × List MemPlace} {t e : TypeId} {k : IntKind} (ht : Try.prog.underlying t = some (.slice e)) (he : Try.prog.underlying e = some (.int k)) (hc : Try.prog.cellsOf e = 1)
    (h : ∃ m, DataW.trod enc Try.prog w base spare held m t (Value.slice a0 len0 cap0).cells.toList = some x) : ∃ zs : List Int, SrcOf w (.slice a0 len0 cap0) (zs.map (Value.int k)) ∧ zs.length = len0 ∧ len0 ≤ cap0 ∧ cap0 ≤ maxLen ∧ ∀ n ∈ zs, (Lit.int k n).wf = true := by
  obtain ⟨fuel, hf⟩ := h
  rcases open_ints ht he hc hf with ⟨hcs, _⟩ | ⟨a, l, c, zs, hcs, _, hl, hm, hz, _, hcell, hwz⟩
  · simp [Value.cells] at hcs
    obtain ⟨rfl, rfl, rfl⟩ := hcs
    exact ⟨[], .inl ⟨rfl, rfl⟩, rfl, Nat.le_refl _, Nat.zero_le _, by simp⟩
  · simp [Value.cells] at hcs
    obtain ⟨rfl, rfl, rfl⟩ := hcs
    have hzl : len0 ≤ zs.length := by rw [hz]; split <;> omega
    have hlen : (zs.take len0).length = len0 := by rw [List.length_take]; omega
    refine ⟨zs.take len0, .inr ⟨a, cap0, by rw [List.length_map, hlen], fun j u hu => ?_⟩, hlen, hl, hm, fun n hn => hwz n (List.mem_of_mem_take hn)⟩
    rw [List.getElem?_map, List.getElem?_take] at hu
    split at hu
    · rw [List.getElem?_eq_getElem (by omega)] at hu
      cases hu
      rw [hcell j (by omega), List.getD_eq_getElem?_getD, List.getElem?_eq_getElem (by omega)]
      rfl
    · cases hu
/-- Numbers that came in. -/
def IIn (w : World) (v : Value) (l : List Int) : Prop := SrcOf w v (l.map (Value.int .i64)) ∧ l.length ≤ 9223372036854775807 ∧ ∀ n ∈ l, In64 n
theorem open_ints21 {H : Type} {enc : TypeId × Value → H} {w : World} {spare : Nat → Bool} {held : Bool} {base : Nat} {a0 : Option Addr} {len0 cap0 : Nat} {x : DataW H × List MemPlace}
    (h : ∃ m, DataW.trod enc Try.prog w base spare held m 24 (Value.slice a0 len0 cap0).cells.toList = some x) : ∃ l : List Int, IIn w (.slice a0 len0 cap0) l := by
  obtain ⟨zs, h1, h2, h3, h4, h5⟩ := open_row Try.underlying24 Try.underlying3 (by kernel_rfl) h
  have hm : maxLen = 9223372036854775807 := by decide
  exact ⟨zs, h1, by omega, fun n hn => in64_wf (h5 n hn)⟩
end Go.Proofs.Ytjjmidooikgaaaa.Rs
