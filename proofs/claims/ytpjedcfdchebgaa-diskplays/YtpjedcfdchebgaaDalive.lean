/-
  The document's example of a disk.
-/
import Derived.Test.YtpjedcfdchebgaaDup
import Derived.Laws.IdiomStrings
import Derived.Laws.BytesArg
import Derived.Lib.SlBytesConst
import Derived.Deep.QuietTactic
import Derived.BigQuiet
namespace Go.Proofs.Ytpjedcfdchebgaa
open Go.RowKit Go.Proofs.Lys Go.Maps Go.Shelf
set_option linter.unusedVariables false

/-- The text of bytes that are owned. -/
theorem text_own {w : World} {base : Nat} {v : Value} {n : Nat} {bs : List UInt8} (h : w.ownsRow base 5 1 v n (bs.map bV)) : (convert 29 9 v).run Try.prog w = .ok (.string ⟨bs.toArray⟩) w := by
  have hl := own_len h
  rw [List.length_map] at hl
  subst hl
  rcases h.2 with ⟨rfl, h0⟩ | ⟨g, cap, cur, rfl, _⟩
  · have : bs = [] := List.length_eq_zero_iff.1 h0
    subst this
    exact run_convert_bytes_nil (P := Try.prog) w 29 5 Try.underlying29 Try.underlying5 0 0 9 Try.underlying9
  · refine run_convert_bytes_back (P := Try.prog) w 29 9 5 ⟨g, 0, none⟩ cap bs Try.underlying29 Try.underlying5 Try.underlying9 (fun j hj => ?_)
    rw [add_none, Nat.zero_add, h.cellAt j (by omega), List.getElem?_map, List.getElem?_eq_getElem hj]
    rfl

def al1 : DModel := ((DModel.start 1000).doOp ⟨0, [97], [], []⟩).2
def al2 : DModel := (al1.doOp ⟨1, [97], [], [97, 98, 99]⟩).2
def al3 : DModel := (al2.doOp ⟨2, [97], [], []⟩).2
def al4 : DModel := (al3.doOp ⟨5, [], [], []⟩).2
def al5 : DModel := (al4.doOp ⟨1, [97], [], [100, 101]⟩).2
def al6 : DModel := al5.crash [1, 1]
theorem al0_few : (DModel.start 1000).few := by unfold DModel.few; decide +kernel
theorem al1_few : al1.few := by unfold DModel.few; decide +kernel
theorem al2_few : al2.few := by unfold DModel.few; decide +kernel
theorem al3_few : al3.few := by unfold DModel.few; decide +kernel
theorem al4_few : al4.few := by unfold DModel.few; decide +kernel
theorem al5_few : al5.few := by unfold DModel.few; decide +kernel
theorem al6_read : al6.read [97] = (0, [97, 98, 99, 193]) := by decide +kernel
theorem al6_steps : al6.steps = 5 := by decide +kernel
theorem small (a : Array UInt8) (h : a.size ≤ 100) : (⟨a⟩ : ByteArray).size ≤ maxLen := by
  have : (⟨a⟩ : ByteArray).size = a.size := rfl
  unfold maxLen
  omega

set_option maxRecDepth 100000 in
set_option maxHeartbeats 1600000 in
theorem alive3_any (w : World) : Calls Try.prog 7 #[] w fun e w' => e = .returned (.bool true) ∧ Kept w w' := by
  have hcv := fun (w : World) (C : Array Value) (n c : Nat) => Lib.run_convert_bytes_const (P := Try.prog) w 29 5 C n c Try.underlying29 Try.underlying5
  go_enter Try.func7, Try.ntmps7
  go_wp2_with fail
  refine (up_new (Only.refl (fun _ => False) w) 1000).mono ?_
  rintro e w1 ⟨rfl, h1⟩
  have H1 := Hid.mk h1
  clear h1
  go_wp2_with fail
  refine (up_create H1.out (small _ (by decide)) al0_few).mono ?_
  rintro e w2 ⟨rfl, h2⟩
  have H2 : Hid (Up w w2 w.heap.size al1) := h2
  clear h2 H1
  go_wp2_with fail
  refine (up_append (m := al1) (H2.out.stay ((Only.refl _ _).alloc _)) (small _ (by decide)) (src_lit [97, 98, 99] w2 rfl) (by decide) al1_few).mono ?_
  rintro e w3 ⟨rfl, h3⟩
  have H3 : Hid (Up w w3 w.heap.size al2) := h3
  clear h3 H2
  go_wp2_with fail
  refine (up_sync H3.out (small _ (by decide)) al2_few).mono ?_
  rintro e w4 ⟨rfl, h4⟩
  have H4 : Hid (Up w w4 w.heap.size al3) := h4
  clear h4 H3
  go_wp2_with fail
  refine (up_syncdir H4.out al3_few).mono ?_
  rintro e w5 ⟨rfl, h5⟩
  have H5 : Hid (Up w w5 w.heap.size al4) := h5
  clear h5 H4
  go_wp2_with fail
  refine (up_append (m := al4) (H5.out.stay ((Only.refl _ _).alloc _)) (small _ (by decide)) (src_lit [100, 101] w5 rfl) (by decide) al4_few).mono ?_
  rintro e w6 ⟨rfl, h6⟩
  have H6 : Hid (Up w w6 w.heap.size al5) := h6
  clear h6 H5
  go_wp2_with fail
  refine (up_crash_lit (keep := [1, 1]) H6.out al5_few (by simp) rfl).mono ?_
  rintro e w7 ⟨rfl, h7⟩
  have H7 : Hid (Up w w7 w.heap.size al6) := h7
  clear h7 H6
  go_wp2_with fail
  refine (up_read H7.out (small _ (by decide))).mono ?_
  rintro e w8 ⟨v, rfl, ho, hk, h8⟩
  have er : al6.read (⟨#[97]⟩ : ByteArray).data.toList = (0, [97, 98, 99, 193]) := al6_read
  rw [er] at ho ⊢
  have H8 := Hid.mk h8
  have hc := text_own ho
  clear h8 ho hk H7 er
  go_wp2_with (go_at_call 13; refine (num3_any _ _).mono ?_; rintro e w' ⟨rfl, hw⟩; replace hw := hw.symm; subst hw)
  have hst := up_steps H8.out
  rw [al6_steps] at hst
  refine hst.mono ?_
  rintro e w9 ⟨rfl, hw⟩
  replace hw := hw.symm
  subst hw
  go_wp2_with fail
  go_ret
  exact ⟨rfl, H8.out.kept⟩
end Go.Proofs.Ytpjedcfdchebgaa
