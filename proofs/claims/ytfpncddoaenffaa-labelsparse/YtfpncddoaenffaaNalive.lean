/-
  The document's example; the law of the order.
-/
import Derived.Test.YtfpncddoaenffaaNtxt
import Derived.Test.YtfpncddoaenffaaNcmp
namespace Go.Proofs.Ytfpncddoaenffaa.N
open Go.RowKit Go.Proofs.Lys
set_option linter.unusedVariables false
set_option linter.unusedSimpArgs false

abbrev exL : Labs := [(⟨#[98]⟩, ⟨#[50]⟩), (⟨#[97]⟩, ⟨#[49]⟩)]
abbrev exM : Labs := [(⟨#[97]⟩, ⟨#[49]⟩), (⟨#[98]⟩, ⟨#[50]⟩)]
theorem ex_make : makeL exL = some exM := by decide +kernel
theorem ex_text : txtB exM = ⟨#[123, 97, 61, 34, 49, 34, 44, 98, 61, 34, 50, 34, 125]⟩ := by decide +kernel
theorem ex_src (w : World) : LabSrc (w.alloc (.cells #[.string ⟨#[98]⟩, .string ⟨#[50]⟩, .string ⟨#[97]⟩, .string ⟨#[49]⟩] 30)) (.slice (some ⟨w.heap.size, 0, none⟩) 2 2) exL := by
  have hb := Blk.new w [.string ⟨#[98]⟩, .string ⟨#[50]⟩, .string ⟨#[97]⟩, .string ⟨#[49]⟩] 30
  refine .inr ⟨by decide, w.heap.size, 0, 2, rfl, fun i hi => ?_⟩
  have : i = 0 ∨ i = 1 := by simp at hi; omega
  rcases this with rfl | rfl
  · exact ⟨hb.cell 0 rfl, hb.cell 1 rfl⟩
  · exact ⟨hb.cell 2 rfl, hb.cell 3 rfl⟩
theorem ex_small : Small exL ∧ Small exM := by
  constructor
  · intro x hx
    simp at hx
    rcases hx with rfl | rfl <;> decide
  · intro x hx
    simp at hx
    rcases hx with rfl | rfl <;> decide

set_option maxRecDepth 100000 in
set_option maxHeartbeats 1600000 in
theorem alive_any (w : World) : Calls Try.prog 8 #[] w fun e w' => e = .returned (.bool true) ∧ Kept w w' := by
  have H1 := hid (make_any _ _ exL (ex_src w) (by decide) ex_small.1)
  rw [ex_make] at H1
  have H3 := hid (fun W => num_any W 0)
  go_enter Try.func8, Try.ntmps8
  go_wp2_with fail
  refine H1.out.mono ?_
  rintro e w1 ⟨⟨u, n, rfl, rfl, hat⟩, k1⟩
  have hat2 : LabAt w1 _ u exM := hat
  obtain ⟨g, cap, rfl⟩ := ownN_some hat2 (by decide)
  obtain ⟨b1, o1, e1, x1, _⟩ := (LabAt.src hat2).cell rfl 0 (by decide)
  simp only [Option.some.injEq, Addr.mk.injEq] at e1
  obtain ⟨rfl, rfl, _⟩ := e1
  have x1' : w1.cell? ⟨g, 0, none⟩ = some (.string ⟨#[97]⟩) := x1
  have H2 := hid (text_any w1 _ exM (LabAt.src hat2) (by decide) ex_small.2)
  rw [ex_text] at H2
  have HK := hid (((Only.refl _ w).alloc _).trans k1 (fun _ _ f => f))
  have hl : exM.length = 2 := rfl
  rw [hl] at H2 ⊢
  clear hat hat2 x1 k1 H1
  go_wp2_with fail
  refine (H3.out _).mono ?_
  rintro e w2 ⟨rfl, hw⟩
  replace hw := hw.symm
  subst hw
  go_wp2_with fail
  refine H2.out.mono ?_
  rintro e w2 ⟨rfl, k2⟩
  go_wp2
  go_ret
  exact ⟨rfl, HK.out.trans k2 (fun _ _ f => f)⟩
end Go.Proofs.Ytfpncddoaenffaa.N
