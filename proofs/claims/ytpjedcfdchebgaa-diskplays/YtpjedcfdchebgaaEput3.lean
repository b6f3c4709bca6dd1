/-
  What a directory has behind a put.
-/
import Derived.Test.YtpjedcfdchebgaaElast
namespace Go.Proofs.Ytpjedcfdchebgaa
open Go.RowKit Go.Proofs.Lys Go.Maps Go.Shelf
set_option linter.unusedVariables false

theorem ins_mem (x : List UInt8 × Nat) (l : DDir) {p : List UInt8 × Nat} (h : p ∈ DD.ins x l) : p = x ∨ p ∈ l := by
  induction l with
  | nil => simpa [DD.ins] using h
  | cons y r ih =>
    unfold DD.ins at h
    split at h
    · exact List.mem_cons.1 h
    · rcases List.mem_cons.1 h with h | h
      · exact .inr (by rw [h]; exact List.mem_cons_self)
      · exact (ih h).imp id (fun h => List.mem_cons_of_mem _ h)
theorem put_mem {l : DDir} {n : List UInt8} {f : Nat} {p : List UInt8 × Nat} (h : p ∈ DD.put l n f) : p.2 = f ∨ p ∈ l := by
  rcases ins_mem _ _ h with h | h
  · exact .inl (by rw [h])
  · exact .inr (List.mem_filter.1 h).1
end Go.Proofs.Ytpjedcfdchebgaa
