/-
  Read: all bytes of a file, copied.
-/
import Derived.Test.YtpjedcfdchebgaaDlist
namespace Go.Proofs.Ytpjedcfdchebgaa
open Go.RowKit Go.Proofs.Lys Go.Maps Go.Shelf
set_option linter.unusedVariables false

section
variable {w : World} {c : Conc} {O : Nat → Prop} {m : DModel}

theorem read_off (h : DiskAt w c O m) (hoff : m.off = true) (s : ByteArray) : Calls Try.prog 32 #[.pointer (some ⟨c.d, 0, none⟩), .string s] w fun e w' => e = .returned (.tuple #[.slice none 0 0, .int .i64 12]) ∧ w' = w := by
  obtain ⟨c0, c1, c2, c3, c4, c5, c6, c7, c8, c9, cf⟩ := dfacts h.cells
  rw [hoff] at c2
  go_enter Try.func32, Try.ntmps32
  go_wp2
  go_ret2
  exact ⟨rfl, rfl⟩

theorem read_none (h : DiskAt w c O m) (hoff : m.off = false) {s : ByteArray} (hs : s.size ≤ maxLen) (hf : DD.look m.dir s.data.toList = none) : Calls Try.prog 32 #[.pointer (some ⟨c.d, 0, none⟩), .string s] w fun e w' => e = .returned (.tuple #[.slice none 0 0, .int .i64 6]) ∧ w' = w := by
  have hr := look_run h.rest.isM hs
  rw [hf] at hr
  simp only [ptrOf] at hr
  obtain ⟨c0, c1, c2, c3, c4, c5, c6, c7, c8, c9, cf⟩ := dfacts h.cells
  rw [hoff] at c2
  go_enter Try.func32, Try.ntmps32
  go_wp2
  go_ret2
  exact ⟨rfl, rfl⟩

end
end Go.Proofs.Ytpjedcfdchebgaa
