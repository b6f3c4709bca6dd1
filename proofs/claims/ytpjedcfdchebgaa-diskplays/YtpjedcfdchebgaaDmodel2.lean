/-
  What Read answers of the document's disk as plain data; so few steps and names. No program is named here.
-/
import Derived.Test.YtpjedcfdchebgaaDmodel
namespace Go.Proofs.Lys

/-- What Read answers. -/
def DModel.read (m : DModel) (n : List UInt8) : Nat × List UInt8 := if m.off then (12, []) else match DD.look m.dir n with | none => (6, []) | some f => (0, (m.fileAt f).b)

/-- So few steps and names. -/
def DModel.few (m : DModel) : Prop := m.steps ≤ 1000000000 ∧ m.dir.length + m.sure.length + m.acts.length < 1000000

theorem do_own {m : DModel} {o : DOp} (h1 : 0 ≤ o.kind) (h1' : o.kind ≤ 5) (h2 : m.off = false) (h3 : m.fuse ≠ some 0) (h4 : m.own o ≠ 0) : m.doOp o = (m.own o, m) := by
  unfold DModel.doOp
  rw [if_neg (by omega), if_neg (by rw [h2]; decide), if_neg h3, if_pos h4]
theorem do_done {m : DModel} {o : DOp} (h1 : 0 ≤ o.kind) (h1' : o.kind ≤ 5) (h2 : m.off = false) (h3 : m.fuse ≠ some 0) (h4 : m.own o = 0) (h5 : m.fault ≠ some 0) : m.doOp o = (0, (m.done o).count) := by
  unfold DModel.doOp
  rw [if_neg (by omega), if_neg (by rw [h2]; decide), if_neg h3, if_neg (by rw [h4]; decide), if_neg h5]
theorem do_fault {m : DModel} {o : DOp} (h1 : 0 ≤ o.kind) (h1' : o.kind ≤ 5) (h2 : m.off = false) (h3 : m.fuse ≠ some 0) (h4 : m.own o = 0) (h5 : m.fault = some 0) : m.doOp o = (10, { m with fault := none }) := by
  unfold DModel.doOp
  rw [if_neg (by omega), if_neg (by rw [h2]; decide), if_neg h3, if_neg (by rw [h4]; decide), if_pos h5]
theorem do_blown {m : DModel} {o : DOp} (h1 : 0 ≤ o.kind) (h1' : o.kind ≤ 5) (h2 : m.off = false) (h3 : m.fuse = some 0) : m.doOp o = (12, { m with off := true }) := by
  unfold DModel.doOp
  rw [if_neg (by omega), if_neg (by rw [h2]; decide), if_pos h3]
theorem do_off {m : DModel} {o : DOp} (h1 : 0 ≤ o.kind) (h1' : o.kind ≤ 5) (h2 : m.off = true) : m.doOp o = (12, m) := by
  unfold DModel.doOp
  rw [if_neg (by omega), if_pos h2]
end Go.Proofs.Lys
