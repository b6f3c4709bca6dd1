/-
  Read of a file that is there.
-/
import Derived.Test.YtpjedcfdchebgaaDread
import Derived.Test.YtpjedcfdchebgaaBclone
namespace Go.Proofs.Ytpjedcfdchebgaa
open Go.RowKit Go.Proofs.Lys Go.Maps Go.Shelf
set_option linter.unusedVariables false

section
variable {w : World} {c : Conc} {O : Nat → Prop} {m : DModel}

theorem read_some (h : DiskAt w c O m) (hoff : m.off = false) {s : ByteArray} (hs : s.size ≤ maxLen) {f : Nat} (hf : DD.look m.dir s.data.toList = some f) :
    Calls Try.prog 32 #[.pointer (some ⟨c.d, 0, none⟩), .string s] w fun e w' => ∃ v, e = .returned (.tuple #[v, .int .i64 0]) ∧ w'.ownsRow w.heap.size 5 1 v (m.fileAt f).b.length ((m.fileAt f).b.map bV) ∧ Kept w w' := by
  have hfl : f < m.files.length := h.rest.dirF (s.data.toList, f) (look_mem hf)
  have hr := look_run h.rest.isM hs
  rw [hf] at hr
  simp only [ptrOf] at hr
  obtain ⟨c0, c1, c2, c3, c4, c5, c6, c7, c8, c9, cf⟩ := dfacts h.cells
  rw [hoff] at c2
  have f0 := (h.rest.file f hfl).cell 0 rfl
  have hB : w.ownsRow 0 5 1 (c.bs f) (m.fileAt f).b.length ((m.fileAt f).b.map bV) := h.rest.bytes f hfl
  have hcl := Hid.mk (clone_any w (c.bs f) (m.fileAt f).b (own_src hB) (by have := (h.rest.lens f hfl).1; omega))
  generalize c.blk.getD f 0 = q at hr f0
  generalize c.bs f = bv at f0 hB hcl
  obtain ⟨ba, bc, rfl⟩ := own_slice hB
  clear hB c0 c1 c3 c4 c5 c6 c8 c9
  go_enter Try.func32, Try.ntmps32
  go_wp2_with fail
  refine hcl.out.mono ?_
  rintro e w1 ⟨v, rfl, ho, hk⟩
  go_wp2_with fail
  go_ret2
  exact ⟨v, rfl, ho, hk⟩
end
end Go.Proofs.Ytpjedcfdchebgaa
