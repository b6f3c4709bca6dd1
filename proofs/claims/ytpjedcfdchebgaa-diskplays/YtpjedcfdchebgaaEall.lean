/-
  The document's own disk: Do.
-/
import Derived.Test.YtpjedcfdchebgaaEdone0
import Derived.Test.YtpjedcfdchebgaaEdone1
import Derived.Test.YtpjedcfdchebgaaEdone2
import Derived.Test.YtpjedcfdchebgaaEdone3
import Derived.Test.YtpjedcfdchebgaaEdone4
import Derived.Test.YtpjedcfdchebgaaEdone5
namespace Go.Proofs.Ytpjedcfdchebgaa
open Go.RowKit Go.Proofs.Lys Go.Maps Go.Shelf
set_option linter.unusedVariables false

theorem rdo_any {w : World} {c : RConc} {O : Nat → Prop} {m : DModel} (h : RAt w c O m) (hd : m.dir.length ≤ 10000) (hnd : (m.dir.map (·.2)).Nodup) (k : Int) (n t bs : List UInt8) (ba : Option Addr) (bc : Nat) (hB : bs.length ≤ 1000000) (hsrc : SrcOf w (.slice ba bs.length bc) (bs.map bV))
    (hst : m.steps ≤ 1000000000) (hac : m.acts.length ≤ 100000) (hfl : m.files.length ≤ 100000) (hap : ∀ a, ba = some a → 0 < bs.length → ¬ O a.block) (hfb : ∀ x, m.fuse = some x → x ≤ 9223372036854775807) (hab : ∀ x, m.fault = some x → x ≤ 9223372036854775807) :
    Calls Try.prog 14 #[.pointer (some ⟨c.d, 0, none⟩), .agg #[.int .i64 k, .string ⟨n.toArray⟩, .string ⟨t.toArray⟩, .slice ba bs.length bc]] w (RPost w c O m ⟨k, n, t, bs⟩) := by
  by_cases hk : k < 0 ∨ 5 < k
  · exact rdo_bad h k n t bs _ hk ⟨_, _, _, rfl⟩
  have hk0 : 0 ≤ k := by omega
  have hk5 : k ≤ 5 := by omega
  cases hoff : m.off with
  | true => exact rdo_off h k n t bs _ hk0 hk5 ⟨_, _, _, rfl⟩ hoff
  | false =>
    by_cases hf : m.fuse = some 0
    · exact rdo_blown h k n t bs _ hk0 hk5 ⟨_, _, _, rfl⟩ hoff hf
    by_cases ho : m.own ⟨k, n, t, bs⟩ = 0
    · by_cases hfa : m.fault = some 0
      · exact rdo_fault h hd hnd k n t bs ba bc hk0 hk5 hB hoff hf ho hfa
      · rcases (by omega : k = 0 ∨ k = 1 ∨ k = 2 ∨ k = 3 ∨ k = 4 ∨ k = 5) with e | e | e | e | e | e <;> subst e
        · exact rdone0 h hd hnd n t bs ba bc hB hsrc hoff hf ho hfa hst hac hfl hfb hab
        · exact rdone1 h hd hnd n t bs ba bc hB hsrc hoff hf ho hfa hst hac hfl hap hfb hab
        · exact rdone2 h hd hnd n t bs ba bc hB hsrc hoff hf ho hfa hst hac hfl hfb hab
        · exact rdone3 h hd hnd n t bs ba bc hB hsrc hoff hf ho hfa hst hac hfl hfb hab
        · exact rdone4 h hd hnd n t bs ba bc hB hsrc hoff hf ho hfa hst hac hfl hfb hab
        · exact rdone5 h hd hnd n t bs ba bc hB hsrc hoff hf ho hfa hst hac hfl hfb hab
    · exact rdo_own h hd hnd k n t bs ba bc hk0 hk5 hB hoff hf ho
end Go.Proofs.Ytpjedcfdchebgaa
