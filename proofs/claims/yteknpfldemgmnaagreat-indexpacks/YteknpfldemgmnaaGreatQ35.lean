/-
  Nread.
-/
import Derived.Test.YteknpfldemgmnaaGreatQ10
import Derived.Test.YteknpfldemgmnaaGreatQ13
import Derived.Test.YteknpfldemgmnaaGreatQ26
import Derived.Shelf.Vars

/-
  A text taken apart into labels.
-/
namespace Go.Proofs.YteknpfldemgmnaaGreat.N
open Go.RowKit Go.Proofs.Lys
set_option linter.unusedVariables false
set_option linter.unusedSimpArgs false

/-- The library's variable MaxLen holds a number. -/
def Mx (w : World) : Prop := ∃ m, w.cell? ⟨0, 0, none⟩ = some (.int .i64 m)
theorem Mx.stay {w W : World} (h : Mx w) (k : Kept w W) : Mx W := by
  obtain ⟨m, hm⟩ := h
  refine ⟨m, ?_⟩
  rw [World.cell?_of_block (w := w) (w' := W) (k.block _ (World.block_lt_of_cell? w _ hm) (fun f => f))]
  exact hm

theorem results_cell_tmp2 {P : Program} {fn : Func} {p u v : Tmp} {ty : TypeId} (h : fn.results = #[.cell p ty, .tmp u, .tmp v]) (tmps : Array Value) (w : World) (g : Nat) (t : TypeId) (cs : Array Value) (fr : Nat × Nat) (d : TypeDesc)
    (hp : tmps.getD p undef = .pointer (some ⟨g, 0, none⟩)) (hg : w.heap[g]? = some (.cells cs t fr))
    (hu : P.underlying ty = some d) (hd : (match d with | .struct _ | .array _ _ => true | _ => false) = true) (hi : (P.info? ty).map (·.size) = some cs.size) :
    (results fn tmps).run P w = .ok (.tuple #[.agg cs, tmps.getD u undef, tmps.getD v undef]) w := by
  have hp' : tmps[p]?.getD undef = .pointer (some ⟨g, 0, none⟩) := by simpa using hp
  simp [results, h, hp', asAddr, run_loadVar_row w g t ty cs fr d hg hu hd hi]

theorem clone_any (w : World) (s : ByteArray) (hs : s.size ≤ 1000000) : Calls Tryz.prog 49 #[.string s] w fun e w' => e = .returned (.string s) ∧ Kept w w' := by
  have H := hid (Tryz.stringslite_Clone s w (by omega))
  go_enter Tryz.func49, Tryz.ntmps49
  go_wp2_with fail
  refine H.out.mono ?_
  rintro e w1 ⟨rfl, k1⟩
  go_wp2
  go_ret
  exact ⟨rfl, ⟨k1.os, k1.tape, k1.output, k1.size, fun q hq _ => k1.block q hq⟩⟩

/-- What readLabel answers. -/
def LabelA (e : Ending) : Option ((List UInt8 × List UInt8) × List UInt8) → Prop
  | some (x, r) => e = .returned (.tuple #[.agg #[.string (mkB x.1), .string (mkB x.2)], .string (mkB r), .bool true])
  | none => ∃ X Y R, e = .returned (.tuple #[.agg #[.string X, .string Y], .string R, .bool false])
theorem Tryz.sizeLabN : (Tryz.prog.info? 43).map (·.size) = some 2 := by kernel_rfl
theorem cut_len (s sep : List UInt8) : (Lib.cut s sep).1.length ≤ s.length ∧ (Lib.cut s sep).2.1.length ≤ s.length := by
  unfold Lib.cut
  split
  · simp only [List.length_take, List.length_drop]
    omega
  · simp
theorem mkB_size (l : List UInt8) : (mkB l).size = l.length := by rw [Lib.size_eq]

end Go.Proofs.YteknpfldemgmnaaGreat.N
