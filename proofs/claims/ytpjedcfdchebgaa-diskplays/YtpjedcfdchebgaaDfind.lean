/-
  Looking at a disk: find, Steps, On, Room; laying a fuse or a fault.
-/
import Derived.Test.YtpjedcfdchebgaaDacts
namespace Go.Proofs.Ytpjedcfdchebgaa
open Go.RowKit Go.Proofs.Lys Go.Maps
set_option linter.unusedVariables false

section
variable {w : World} {c : Conc} {O : Nat → Prop} {m : DModel} {s : ByteArray}

theorem ret_val {a b : Value} (h : a = b) : Ending.returned a = .returned b := by rw [h]

set_option maxHeartbeats 400000 in
theorem find_some (h : DiskAt w c O m) (hs : s.size ≤ maxLen) {f : Nat} (hf : DD.look m.dir s.data.toList = some f) :
    Calls Try.prog 71 #[.pointer (some ⟨c.d, 0, none⟩), .string s] w fun e w' => e = .returned (.pointer (some ⟨c.blk.getD f 0, 0, none⟩)) ∧ w' = w := by
  have hr := look_run h.rest.isM hs
  rw [hf] at hr
  simp only [ptrOf] at hr
  obtain ⟨c0, c1, c2, c3, c4, c5, c6, c7, c8, c9, cf⟩ := dfacts h.cells
  go_enter Try.func71, Try.ntmps71
  go_wp2_with fail
  refine (refuse_no _ _).mono ?_
  rintro e w1 ⟨rfl, rfl⟩
  go_wp2_with fail
  go_ret
  exact ⟨rfl, rfl⟩

set_option maxHeartbeats 400000 in
theorem find_none (h : DiskAt w c O m) (hs : s.size ≤ maxLen) (hf : DD.look m.dir s.data.toList = none) :
    Calls Try.prog 71 #[.pointer (some ⟨c.d, 0, none⟩), .string s] w fun e w' => e = gaveUp 6 ∧ w' = w := by
  have hr := look_run h.rest.isM hs
  rw [hf] at hr
  simp only [ptrOf] at hr
  obtain ⟨c0, c1, c2, c3, c4, c5, c6, c7, c8, c9, cf⟩ := dfacts h.cells
  go_enter Try.func71, Try.ntmps71
  go_wp2_with fail
  refine (refuse_yes _ _).mono ?_
  rintro e w1 ⟨rfl, rfl⟩
  exact ⟨rfl, rfl, rfl⟩

theorem steps_any (h : DiskAt w c O m) : Calls Try.prog 33 #[.pointer (some ⟨c.d, 0, none⟩)] w fun e w' => e = .returned (.int .i64 (m.steps : Int)) ∧ w' = w := by
  obtain ⟨c0, c1, c2, c3, c4, c5, c6, c7, c8, c9, cf⟩ := dfacts h.cells
  go_enter Try.func33, Try.ntmps33
  go_wp2
  go_ret
  exact ⟨rfl, rfl⟩

theorem on_any (h : DiskAt w c O m) : Calls Try.prog 51 #[.pointer (some ⟨c.d, 0, none⟩)] w fun e w' => e = .returned (.bool (!m.off)) ∧ w' = w := by
  obtain ⟨c0, c1, c2, c3, c4, c5, c6, c7, c8, c9, cf⟩ := dfacts h.cells
  go_enter Try.func51, Try.ntmps51
  go_wp2
  go_ret
  exact ⟨rfl, rfl⟩

theorem lay_isSome (n : Int) : decide (0 ≤ n) = (DModel.lay n).isSome := by
  unfold DModel.lay
  by_cases h : n < 0
  · rw [if_pos h]
    simp
    omega
  · rw [if_neg h]
    simp
    omega
theorem lay_eq {n : Int} {k : Nat} (h : DModel.lay n = some k) : n = k := by
  unfold DModel.lay at h
  split at h
  · cases h
  · cases h
    omega

set_option maxHeartbeats 400000 in
theorem fuse_any (h : DiskAt w c O m) (n : Int) (hn : n ≤ 9223372036854775807) :
    Calls Try.prog 15 #[.pointer (some ⟨c.d, 0, none⟩), .int .i64 n] w fun e w' => e = .returned (.tuple #[]) ∧ Only O w w' ∧ DiskAt w' { c with fw := n } O { m with fuse := DModel.lay n } := by
  obtain ⟨c0, c1, c2, c3, c4, c5, c6, c7, c8, c9, cf⟩ := dfacts h.cells
  go_enter Try.func15, Try.ntmps15
  go_wp2_with fail
  refine (lay_any _ _).mono ?_
  rintro e w1 ⟨rfl, hs⟩
  clear c0 c1 c2 c3 c4 c5 c6 c7 c8 c9 cf
  have h1 := h.stay hs
  obtain ⟨c0, c1, c2, c3, c4, c5, c6, c7, c8, c9, cf⟩ := dfacts h1.cells
  go_wp2_with fail
  go_end0
  have hk : Only (fun k => k = c.d) w1 ((w1.setCell ⟨c.d, 3, none⟩ (.bool (decide (0 ≤ n)))).setCell ⟨c.d, 4, none⟩ (.int .i64 n)) := ((Only.refl (fun k => k = c.d) w1).setCell (fun _ => rfl) _).setCell (fun _ => rfl) _
  have hc := (h1.cells.set 3 (.bool (decide (0 ≤ n)))).set 4 (.int .i64 n)
  rw [lay_isSome] at hk hc ⊢
  refine ⟨rfl, (hs.mono (fun _ _ f => f.elim)).trans (hk.mono (fun k _ e => e ▸ h.oD)) (fun _ _ e => e), h1.scal (fw := n) (aw := c.aw) hk hc rfl rfl rfl rfl rfl (fun k e => ⟨lay_eq e, lay_eq e ▸ hn⟩) h1.fault⟩

set_option maxHeartbeats 400000 in
theorem fault_any (h : DiskAt w c O m) (n : Int) (hn : n ≤ 9223372036854775807) :
    Calls Try.prog 17 #[.pointer (some ⟨c.d, 0, none⟩), .int .i64 n] w fun e w' => e = .returned (.tuple #[]) ∧ Only O w w' ∧ DiskAt w' { c with aw := n } O { m with fault := DModel.lay n } := by
  obtain ⟨c0, c1, c2, c3, c4, c5, c6, c7, c8, c9, cf⟩ := dfacts h.cells
  go_enter Try.func17, Try.ntmps17
  go_wp2_with fail
  refine (lay_any _ _).mono ?_
  rintro e w1 ⟨rfl, hs⟩
  clear c0 c1 c2 c3 c4 c5 c6 c7 c8 c9 cf
  have h1 := h.stay hs
  obtain ⟨c0, c1, c2, c3, c4, c5, c6, c7, c8, c9, cf⟩ := dfacts h1.cells
  go_wp2_with fail
  go_end0
  have hk : Only (fun k => k = c.d) w1 ((w1.setCell ⟨c.d, 5, none⟩ (.bool (decide (0 ≤ n)))).setCell ⟨c.d, 6, none⟩ (.int .i64 n)) := ((Only.refl (fun k => k = c.d) w1).setCell (fun _ => rfl) _).setCell (fun _ => rfl) _
  have hc := (h1.cells.set 5 (.bool (decide (0 ≤ n)))).set 6 (.int .i64 n)
  rw [lay_isSome] at hk hc ⊢
  refine ⟨rfl, (hs.mono (fun _ _ f => f.elim)).trans (hk.mono (fun k _ e => e ▸ h.oD)) (fun _ _ e => e), h1.scal (fw := c.fw) (aw := n) hk hc rfl rfl rfl rfl rfl h1.fuse (fun k e => ⟨lay_eq e, lay_eq e ▸ hn⟩)⟩
end
end Go.Proofs.Ytpjedcfdchebgaa
