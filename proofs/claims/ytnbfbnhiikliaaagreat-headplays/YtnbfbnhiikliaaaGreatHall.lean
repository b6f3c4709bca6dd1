/-
  All.
-/
import Derived.Test.YtnbfbnhiikliaaaGreatHgather
namespace Go.Proofs.YtnbfbnhiikliaaaGreat.Hd
open Go.RowKit Go.Proofs.Lys Go.Maps Go.Proofs.YtnbfbnhiikliaaaGreat.N
set_option linter.unusedVariables false
set_option linter.unusedSimpArgs false

/-- What All leaves. -/
def AllP (w : World) (M : Mod) (e : Ending) (w' : World) : Prop := ∃ v qs, e = .returned v ∧ SerAt w' w.heap.size v qs ∧ qs.map serV = M ∧ Kept w w'
theorem part_all {h : HeadC} {M : Mod} (hI : Is h M) (hc : countM M ≤ 100000) (B : Nat) : Part 47 #[] id id (fun _ => True) (fun _ _ => False) (fun _ => False) B h.cs where
  enters := enters_of Tryz.func47 (by kernel_rfl) rfl
  keeps := fun _ _ _ _ => trivial
  b := fun _ => rfl
  lv := fun _ => rfl
  labs := fun _ => rfl
  has := fun _ _ _ h => h
  sub := fun _ _ _ h => h.elim
  call := fun W c hc' hS _ => by
    refine (all_any W c hS (by have := cs_len hI hc'; omega)).mono ?_
    rintro e w' ⟨v', rfl, h1, k⟩
    exact ⟨v', rfl, h1, hS.only k (fun _ _ f => f), k⟩
theorem all_head {w : World} {h : HeadC} {O : Nat → Prop} {M : Mod} (hA : HeadAt w h O) (hI : Is h M) (hc : countM M ≤ 100000) :
    Calls Tryz.prog 23 #[.pointer (some ⟨h.hb, 0, none⟩)] w (AllP w M) := by
  have HG := hid (gather_any hA hI (S := fun _ => False) (fun _ f => f.elim) (part_all hI hc w.heap.size) trivial)
  have HM := hid (partM_id hI.ok)
  clear hA hI hc
  generalize h.hb = hb at *
  go_enter Tryz.func23, Tryz.ntmps23
  go_wp2_with fail
  refine HG.out.mono ?_
  rintro e w1 ⟨v, qs, rfl, h1, h2, h3, _⟩
  have H1 := hid h1
  have H2 := hid h2
  have H3 := hid h3
  clear h1 h2 h3 HG
  go_wp2
  go_ret
  exact ⟨_, qs, rfl, H1.out, by rw [H2.out, HM.out], H3.out⟩
end Go.Proofs.YtnbfbnhiikliaaaGreat.Hd
