/-
  Looking at a disk: find, Steps, On, Room; laying a fuse or a fault.
-/
import Derived.Test.YtephpgiiljjieabDacts
namespace Go.Proofs.Ytephpgiiljjieab
open Go.RowKit Go.Proofs.Lys Go.Maps
set_option linter.unusedVariables false

section
variable {w : World} {c : Conc} {O : Nat → Prop} {m : DModel} {s : ByteArray}

theorem ret_val {a b : Value} (h : a = b) : Ending.returned a = .returned b := by rw [h]

set_option maxHeartbeats 400000 in
theorem find_some (h : DiskAt w c O m) (hs : s.size ≤ maxLen) {f : Nat} (hf : DD.look m.dir s.data.toList = some f) :
    Calls Try.prog 61 #[.pointer (some ⟨c.d, 0, none⟩), .string s] w fun e w' => e = .returned (.pointer (some ⟨c.blk.getD f 0, 0, none⟩)) ∧ w' = w := by
  have hr := look_run h.rest.isM hs
  rw [hf] at hr
  simp only [ptrOf] at hr
  obtain ⟨c0, c1, c2, c3, c4, c5, c6, c7, c8, c9, cf⟩ := dfacts h.cells
  go_enter Try.func61, Try.ntmps61
  go_wp2_with fail
  refine (refuse_no _ _).mono ?_
  rintro e w1 ⟨rfl, rfl⟩
  go_wp2_with fail
  go_ret
  exact ⟨rfl, rfl⟩

set_option maxHeartbeats 400000 in
theorem find_none (h : DiskAt w c O m) (hs : s.size ≤ maxLen) (hf : DD.look m.dir s.data.toList = none) :
    Calls Try.prog 61 #[.pointer (some ⟨c.d, 0, none⟩), .string s] w fun e w' => e = gaveUp 6 ∧ w' = w := by
  have hr := look_run h.rest.isM hs
  rw [hf] at hr
  simp only [ptrOf] at hr
  obtain ⟨c0, c1, c2, c3, c4, c5, c6, c7, c8, c9, cf⟩ := dfacts h.cells
  go_enter Try.func61, Try.ntmps61
  go_wp2_with fail
  refine (refuse_yes _ _).mono ?_
  rintro e w1 ⟨rfl, rfl⟩
  exact ⟨rfl, rfl, rfl⟩

theorem steps_any (h : DiskAt w c O m) : Calls Try.prog 32 #[.pointer (some ⟨c.d, 0, none⟩)] w fun e w' => e = .returned (.int .i64 (m.steps : Int)) ∧ w' = w := by
  obtain ⟨c0, c1, c2, c3, c4, c5, c6, c7, c8, c9, cf⟩ := dfacts h.cells
  go_enter Try.func32, Try.ntmps32
  go_wp2
  go_ret
  exact ⟨rfl, rfl⟩

theorem lay_isSome (n : Int) : decide (0 ≤ n) = (DModel.lay n).isSome := by
  unfold DModel.lay
  by_cases h : n < 0
  · rw [if_pos h]
    simp
    omega
  · rw [if_neg h]
    simp
    omega
theorem lay_eq {n : Int} {k : Nat} (h : DModel.lay n = some k) : n = k := by
  unfold DModel.lay at h
  split at h
  · cases h
  · cases h
    omega

end
end Go.Proofs.Ytephpgiiljjieab
