/-
  Samples that came in.
-/
import Derived.Test.YtcacoanhiphbiaaZlaw
import Derived.Deep.Slices
import Derived.OpenShut
import Derived.ChangeOld
namespace Go.Proofs.Ytcacoanhiphbiaa.Mg
open Go Go.RowKit Go.Proofs.Lys
set_option linter.unusedVariables false

/-- Samples that came in. -/
def SIn (w : World) (v : Value) (l : Smps) : Prop := SSrc w v l ∧ l.length ≤ 140737488351232
theorem Try.cellsSmpZ : Try.prog.cellsOf 36 = 2 := by kernel_rfl
theorem Try.cellsIntZ : Try.prog.cellsOf 3 = 1 := by kernel_rfl
theorem Try.bytesSmpZ : 1 ≤ Try.prog.bytesOf 36 := by decide +kernel
set_option maxRecDepth 100000 in
theorem open_smpZ {H : Type} {enc : TypeId × Value → H} {w : World} {spare : Nat → Bool} {held : Bool} {base fuel : Nat} {cs : List Value} {x : DataW H × List MemPlace}
    (h : DataW.trod enc Try.prog w base spare held fuel 36 cs = some x) : ∃ q : Int × Int, cs = [.int .i64 q.1, .int .i64 q.2] := by
  obtain ⟨xs, m, _, _, hlen, hxl, hf⟩ := DataW.trod_struct Try.underlying36 h
  rw [Try.cellsSmpZ] at hlen
  have hxl2 : xs.length = 2 := hxl
  match cs, hlen with
  | [v0, v1], _ =>
    have g0 : DataW.trod enc Try.prog w base spare held m 3 ((([v0, v1] : List Value).drop 0).take (Try.prog.cellsOf 3)) = xs[0]? := hf 0 _ rfl
    have g1 : DataW.trod enc Try.prog w base spare held m 3 ((([v0, v1] : List Value).drop 1).take (Try.prog.cellsOf 3)) = xs[1]? := hf 1 _ rfl
    rw [Try.cellsIntZ, List.getElem?_eq_getElem (by omega)] at g0 g1
    obtain ⟨n0, e0, _, wf0⟩ := DataW.trod_int Try.underlying3 g0
    obtain ⟨n1, e1, _, wf1⟩ := DataW.trod_int Try.underlying3 g1
    have f0 := List.head_eq_of_cons_eq e0
    have f1 := List.head_eq_of_cons_eq e1
    subst f0 f1
    exact ⟨(n0, n1), rfl⟩
set_option maxRecDepth 100000 in
theorem open_smpsZ {H : Type} {enc : TypeId × Value → H} {w : World} {spare : Nat → Bool} {held : Bool} {base : Nat} {a0 : Option Addr} {len0 cap0 : Nat} {x : DataW H × List MemPlace}
    (h : ∃ m, DataW.trod enc Try.prog w base spare held m 27 (Value.slice a0 len0 cap0).cells.toList = some x) (hz : ∀ n ∈ x.1.weights Try.prog 27, n ≤ reachBytes) : ∃ l : Smps, SIn w (.slice a0 len0 cap0) l := by
  obtain ⟨fuel, hf⟩ := h
  rcases Deep.open_slice Try.underlying27 hf with ⟨hcs, _⟩ | ⟨a, len, cap, m, n, D, Pl, hcs, _, hl, hm, hmm, hxe, hx⟩
  · simp [Value.cells] at hcs
    obtain ⟨rfl, rfl, rfl⟩ := hcs
    exact ⟨[], ⟨.inl ⟨_, _, rfl, rfl⟩, _, _, rfl, Nat.le_refl _⟩, by decide⟩
  · simp [Value.cells] at hcs
    obtain ⟨rfl, rfl, rfl⟩ := hcs
    have hlm : len0 ≤ m := by rw [hmm]; split <;> omega
    have hsize : len0 ≤ 140737488351232 := by
      subst hxe
      have h1 := hz ((len0 + (m - len0)) * Try.prog.bytesOf 36) (by simp [DataW.weights, Try.underlying27])
      have h2 : (len0 + (m - len0)) * 1 ≤ (len0 + (m - len0)) * Try.prog.bytesOf 36 := Nat.mul_le_mul_left _ Try.bytesSmpZ
      have hr : reachBytes = 140737488351232 := by decide
      omega
    have each : ∀ i, i < len0 → ∃ q : Int × Int, w.cell? (a.add (i * 2)) = some (.int .i64 q.1) ∧ w.cell? (a.add (i * 2 + 1)) = some (.int .i64 q.2) := by
      intro i hi
      obtain ⟨cs', h1, h2⟩ := hx i (by omega)
      rw [Try.cellsSmpZ] at h1
      obtain ⟨_, hlen, hcell⟩ := World.cells?_some h1
      obtain ⟨q, rfl⟩ := open_smpZ h2
      have c0 := hcell 0 (by omega)
      have c1 := hcell 1 (by omega)
      rw [Deep.add_add] at c0 c1
      exact ⟨q, by simpa using c0, by simpa using c1⟩
    have hinh : Inhabited (Int × Int) := ⟨(0, 0)⟩
    obtain ⟨q, hq⟩ := Deep.choose_lt each
    by_cases h0 : len0 = 0
    · subst h0
      exact ⟨[], ⟨.inl ⟨_, _, rfl, rfl⟩, _, _, rfl, Nat.zero_le _⟩, by decide⟩
    · obtain ⟨b, o, spot⟩ := a
      have hs : spot = none := by simpa [Addr.add] using World.cell?_spot (hq 0 (by omega)).1
      subst hs
      refine ⟨(List.range len0).map q, ⟨.inr ⟨by simp; omega, b, o, cap0, by simp, fun i hi => ?_⟩, some ⟨b, o, none⟩, cap0, by simp, by simp; omega⟩, by simp; omega⟩
      have hi' : i < len0 := by simpa using hi
      have := hq i hi'
      rw [add_none, add_none, ← Nat.add_assoc] at this
      simpa using this
end Go.Proofs.Ytcacoanhiphbiaa.Mg
