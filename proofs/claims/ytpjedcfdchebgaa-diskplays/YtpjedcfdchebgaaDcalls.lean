/-
  The calls by name: each is the step that Do is told.
-/
import Derived.Test.YtpjedcfdchebgaaDdo
namespace Go.Proofs.Ytpjedcfdchebgaa
open Go.RowKit Go.Proofs.Lys Go.Maps Go.Shelf
set_option linter.unusedVariables false

section
variable {w : World} {c : Conc} {O : Nat → Prop} {m : DModel}

/-- What a step comes to. -/
abbrev DPost (w : World) (c : Conc) (O : Nat → Prop) (m : DModel) (o : DOp) (e : Ending) (w' : World) : Prop :=
  e = .returned (.int .i64 ((m.doOp o).1 : Int)) ∧ Only O w w' ∧ ∃ c', c'.d = c.d ∧ DiskAt w' c' (Grow O w w') (m.doOp o).2

theorem empty_size : (ByteArray.mk #[]).size ≤ maxLen := by unfold maxLen; decide

set_option maxHeartbeats 400000 in
theorem create_any (h : DiskAt w c O m) {s : ByteArray} (hs : s.size ≤ maxLen) (hsteps : m.steps ≤ 1000000000) (hsmall : m.dir.length + m.sure.length + m.acts.length < 1000000) :
    Calls Try.prog 11 #[.pointer (some ⟨c.d, 0, none⟩), .string s] w (DPost w c O m ⟨0, s.data.toList, [], []⟩) := by
  have F := Hid.mk (do_any h ⟨0, s.data.toList, [], []⟩ hs rfl empty_size rfl (bv := .slice none 0 0) (.inl ⟨none, 0, rfl, rfl⟩) (by simp) hsteps hsmall)
  clear hs hsteps hsmall
  go_enter Try.func11, Try.ntmps11
  go_wp2_with fail
  refine F.out.mono ?_
  rintro e w1 ⟨rfl, hk, hc⟩
  go_wp2_with fail
  go_ret
  exact ⟨rfl, hk, hc⟩

set_option maxHeartbeats 400000 in
theorem append_any (h : DiskAt w c O m) {s : ByteArray} (hs : s.size ≤ maxLen) {bv : Value} {bs : List UInt8} (hsrc : SrcAt w bv bs) (hbl : bs.length ≤ 140737488355328) (hsteps : m.steps ≤ 1000000000) (hsmall : m.dir.length + m.sure.length + m.acts.length < 1000000) :
    Calls Try.prog 29 #[.pointer (some ⟨c.d, 0, none⟩), .string s, bv] w (DPost w c O m ⟨1, s.data.toList, [], bs⟩) := by
  have F := Hid.mk (do_any h ⟨1, s.data.toList, [], bs⟩ hs rfl empty_size rfl hsrc hbl hsteps hsmall)
  obtain ⟨ba, bc, rfl⟩ := hsrc.len
  clear hs hsteps hsmall hsrc
  go_enter Try.func29, Try.ntmps29
  go_wp2_with fail
  refine F.out.mono ?_
  rintro e w1 ⟨rfl, hk, hc⟩
  go_wp2_with fail
  go_ret
  exact ⟨rfl, hk, hc⟩

set_option maxHeartbeats 400000 in
theorem sync_any (h : DiskAt w c O m) {s : ByteArray} (hs : s.size ≤ maxLen) (hsteps : m.steps ≤ 1000000000) (hsmall : m.dir.length + m.sure.length + m.acts.length < 1000000) :
    Calls Try.prog 30 #[.pointer (some ⟨c.d, 0, none⟩), .string s] w (DPost w c O m ⟨2, s.data.toList, [], []⟩) := by
  have F := Hid.mk (do_any h ⟨2, s.data.toList, [], []⟩ hs rfl empty_size rfl (bv := .slice none 0 0) (.inl ⟨none, 0, rfl, rfl⟩) (by simp) hsteps hsmall)
  clear hs hsteps hsmall
  go_enter Try.func30, Try.ntmps30
  go_wp2_with fail
  refine F.out.mono ?_
  rintro e w1 ⟨rfl, hk, hc⟩
  go_wp2_with fail
  go_ret
  exact ⟨rfl, hk, hc⟩

set_option maxHeartbeats 400000 in
theorem syncdir_any (h : DiskAt w c O m) (hsteps : m.steps ≤ 1000000000) (hsmall : m.dir.length + m.sure.length + m.acts.length < 1000000) :
    Calls Try.prog 31 #[.pointer (some ⟨c.d, 0, none⟩)] w (DPost w c O m ⟨5, [], [], []⟩) := by
  have F := Hid.mk (do_any h ⟨5, [], [], []⟩ empty_size rfl empty_size rfl (bv := .slice none 0 0) (.inl ⟨none, 0, rfl, rfl⟩) (by simp) hsteps hsmall)
  clear hsteps hsmall
  go_enter Try.func31, Try.ntmps31
  go_wp2_with fail
  refine F.out.mono ?_
  rintro e w1 ⟨rfl, hk, hc⟩
  go_wp2_with fail
  go_ret
  exact ⟨rfl, hk, hc⟩
end
end Go.Proofs.Ytpjedcfdchebgaa
