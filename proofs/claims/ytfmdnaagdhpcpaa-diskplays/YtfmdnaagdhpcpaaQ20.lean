/-
  Ebytes, Eapart.
-/
import Derived.Test.YtfmdnaagdhpcpaaQ18

/-
  The document's own disk: a file's bytes grow.
-/
namespace Go.Proofs.Ytfmdnaagdhpcpaa
open Go.RowKit Go.Proofs.Lys Go.Maps Go.Shelf
set_option linter.unusedVariables false

theorem SrcOf.apart {w w' : World} {O : Nat → Prop} {ba : Option Addr} {n bc : Nat} {xs : List Value} (h : SrcOf w (.slice ba n bc) xs) (k : Only O w w') (hO : ∀ a, ba = some a → ¬ O a.block) : SrcOf w' (.slice ba n bc) xs := by
  rcases h with h | ⟨a, c, e, hc⟩
  · exact .inl h
  · cases e
    refine .inr ⟨a, bc, rfl, fun j u hu => ?_⟩
    have h1 := hc j u hu
    have hb : (a.add j).block = a.block := by unfold Addr.add; split <;> rfl
    rw [World.cell?_of_block (w := w) (w' := w') (a := a.add j) (k.block (a.add j).block (World.block_lt_of_cell? w _ h1) (by rw [hb]; exact hO a rfl))]
    exact h1

section
variable {w w5 w6 : World} {c c5 : RConc} {O : Nat → Prop} {m m5 : DModel} {vs : List Value}
theorem Now.bytes (N : Now w c O vs w5 c5 m5) {F fg fcap : Nat} {v' : Value} {b' : List UInt8} (hF : F < c5.fs.length) (k : Kept w5 w6) (hv : w6.ownsRow w5.heap.size 5 1 v' b'.length (b'.map bV)) (hl : b'.length ≤ 16777216) (hs : c5.fs[F].2.sure ≤ b'.length) (hfv : c5.fv = .slice (some ⟨fg, 0, none⟩) c5.fs.length fcap) :
    Now w c O vs (w6.setCell ⟨fg, F * 2, none⟩ v') { c5 with fs := c5.fs.set F (v', ⟨b', c5.fs[F].2.sure⟩) } { m5 with files := m5.files.set F ⟨b', c5.fs[F].2.sure⟩ } := by
  have N6 := N.stay k
  have h6 := N6.at5
  have k7 : Only (fun k => c5.fv.ownBlock = some k) w6 (w6.setCell ⟨fg, F * 2, none⟩ v') := (Only.refl (fun k => c5.fv.ownBlock = some k) _).setCell (fun _ => by rw [hfv]; rfl) _
  have kt : Only (Grow O w w6) w6 (w6.setCell ⟨fg, F * 2, none⟩ v') := k7.mono (fun j _ e => h6.oF j e)
  have ne : ∀ {e : TypeId} {k : Nat}, Typed w6 k e → e ≠ 70 → ¬ c5.fv.ownBlock = some k := fun ht hne e => ht.ne (ownN_typed h6.files e) hne rfl
  refine N6.step (h6.setFile hF k7 ?_ (ownN_base (ownN_only hv k7 (fun b e => ne (ownN_typed hv e) (by decide))) (Nat.zero_le _)) ⟨hl, hs⟩ (fun j hj => .inl hj) (fun j e => ?_) (fun j hj => ?_)) rfl kt (k7.blk N6.op (ne N6.op.typed (by decide)))
  · have hf2 := h6.files
    rw [hfv] at hf2
    have := (hf2.stored (F * 2) v').1
    rw [filL_set _ _ _ _ hF, hfv]
    have e : ((filL c5.fs).set (F * 2) v').set (F * 2 + 1) (.int .i64 (c5.fs[F].2.sure : Int)) = (filL c5.fs).set (F * 2) v' := by
      apply List.ext_getElem?
      intro i
      rw [List.getElem?_set]
      split
      · rename_i e
        subst e
        rw [List.getElem?_set_ne (by omega), (filL_at c5.fs F hF).2]
        split
        · rfl
        · rename_i hh
          exact absurd (by rw [List.length_set, filL_len]; omega) hh
      · rfl
    rw [e]
    exact this
  · have := ownN_lt hv e
    have hb := N.big
    exact .inl (.inr ⟨by omega, this.2⟩)
  · rcases hj with hj | hj
    · exact Nat.lt_of_lt_of_le (h6.top j hj) k7.size
    · exact hj.2
end
end Go.Proofs.Ytfmdnaagdhpcpaa

/-
  Bytes that lie apart from a disk.
-/
namespace Go.Proofs.Ytfmdnaagdhpcpaa
open Go.RowKit Go.Proofs.Lys Go.Maps Go.Shelf
set_option linter.unusedVariables false

theorem SrcOf.apart2 {w w' : World} {O : Nat → Prop} {ba : Option Addr} {n bc : Nat} {bs : List UInt8} (h : SrcOf w (.slice ba n bc) (bs.map bV)) (k : Only O w w') (hO : ∀ a, ba = some a → 0 < bs.length → ¬ O a.block) : SrcOf w' (.slice ba n bc) (bs.map bV) := by
  by_cases h0 : bs = []
  · subst h0
    rcases h with h | ⟨a, c, e, _⟩
    · exact .inl h
    · exact .inr ⟨a, c, e, fun j u hu => by simp at hu⟩
  · exact SrcOf.apart h k (fun a ha => hO a ha (by
      cases bs with
      | nil => exact absurd rfl h0
      | cons x r => simp))
end Go.Proofs.Ytfmdnaagdhpcpaa
