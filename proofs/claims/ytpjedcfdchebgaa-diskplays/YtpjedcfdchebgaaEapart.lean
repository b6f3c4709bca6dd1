/-
  Bytes that lie apart from a disk.
-/
import Derived.Test.YtpjedcfdchebgaaEbytes
namespace Go.Proofs.Ytpjedcfdchebgaa
open Go.RowKit Go.Proofs.Lys Go.Maps Go.Shelf
set_option linter.unusedVariables false

theorem SrcOf.apart2 {w w' : World} {O : Nat → Prop} {ba : Option Addr} {n bc : Nat} {bs : List UInt8} (h : SrcOf w (.slice ba n bc) (bs.map bV)) (k : Only O w w') (hO : ∀ a, ba = some a → 0 < bs.length → ¬ O a.block) : SrcOf w' (.slice ba n bc) (bs.map bV) := by
  by_cases h0 : bs = []
  · subst h0
    rcases h with h | ⟨a, c, e, _⟩
    · exact .inl h
    · exact .inr ⟨a, c, e, fun j u hu => by simp at hu⟩
  · exact SrcOf.apart h k (fun a ha => hO a ha (by
      cases bs with
      | nil => exact absurd rfl h0
      | cons x r => simp))
end Go.Proofs.Ytpjedcfdchebgaa
