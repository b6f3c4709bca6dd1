/-
  Bclone.
-/
import Derived.Test.YtllfanlhgnkcfaaGreatDoorProg
import Derived.Test.YtllfanlhgnkcfaaGreatDoorQ02
import Derived.WalkSpells
namespace Go.Proofs.YtllfanlhgnkcfaaGreatDoor
open Go.RowKit Go.Proofs.Lys
set_option linter.unusedVariables false
theorem Tryz.infoB : (Tryz.prog.info? 5).map (fun i => (i.zero, i.size, i.bytes)) = some (some (.int .u8 0), 1, 1) := by kernel_rfl
theorem clone_nil (w : World) : Calls Tryz.prog 129 #[.slice none 0 0] w fun e w' => e = .returned (.slice none 0 0) ∧ w' = w := by
 have he : ∀ (x : Option Addr) (n k : Nat) (w : World), (Go.binOp .eql 28 (.slice x n k) (.slice none 0 0)).run Tryz.prog w = .ok (.bool x.isNone) w := fun x n k w => Lib.run_eql_slice_nil w _ _ x n k 0 0 Tryz.underlying28
 go_enter Tryz.func129, Tryz.ntmps129
 go_wp2
 go_ret
 exact ⟨rfl, rfl⟩
set_option maxHeartbeats 400000 in
theorem clone_some (w : World) (a : Addr) (c : Nat) (bs : List UInt8) (hc : SrcOf w (.slice (some a) bs.length c) (bs.map bV)) (hl : bs.length ≤ 100000000) :
  Calls Tryz.prog 129 #[.slice (some a) bs.length c] w fun e w' => ∃ v, e = .returned v ∧ w'.ownsRow w.heap.size 5 1 v bs.length (bs.map bV) ∧ Kept w w' := by
 have hb : ∀ w : World, (Instr.buildSlice 28 0 #[]).run Tryz.prog w = .ok (.slice (some ⟨w.heap.size, 0, none⟩) 0 0) (w.alloc (.cells #[] 5)) := fun w => by kernel_rfl
 have h0 : (w.alloc (.cells #[] 5)).ownsRow w.heap.size 5 1 (.slice (some ⟨w.heap.size, 0, none⟩) 0 0) 0 [] := World.ownsRow_lit w #[] 0 (Nat.le_refl _) (by decide) rfl
 obtain ⟨v', w1, hrun, hown, hgrow, _⟩ := append_src (P := Tryz.prog) Tryz.underlying28 Tryz.infoB rfl (by decide) h0 (hc.stay ((Only.refl _ w).alloc _)) (bytes_one bs) (by simp; omega) (by simp)
 have Hr := hid hrun
 have hk : Hid (Kept w w1) := hid (((Only.refl _ w).alloc _).grown hgrow (fun k hk hlt => by simp [Value.ownBlock] at hk; omega))
 have ho : Hid (w1.ownsRow w.heap.size 5 1 v' bs.length (bs.map bV)) := hid (by simpa using hown)
 clear hrun hown hgrow h0 hc
 have he : ∀ (x : Option Addr) (n k : Nat) (w : World), (Go.binOp .eql 28 (.slice x n k) (.slice none 0 0)).run Tryz.prog w = .ok (.bool x.isNone) w := fun x n k w => Lib.run_eql_slice_nil w _ _ x n k 0 0 Tryz.underlying28
 go_enter Tryz.func129, Tryz.ntmps129
 go_wp2_with (at_builtin; refine wpList_append_run rfl _ _ _ rfl rfl rfl Hr ?_)
 go_ret
 exact ⟨_, rfl, ho.out, hk.out⟩
theorem clone_any (w : World) (v : Value) (bs : List UInt8) (hc : SrcOf w v (bs.map bV)) (hl : bs.length ≤ 100000000) :
  Calls Tryz.prog 129 #[v] w fun e w' => ∃ v, e = .returned v ∧ w'.ownsRow w.heap.size 5 1 v bs.length (bs.map bV) ∧ Kept w w' := by
 rcases hc with ⟨rfl, h0⟩ | ⟨a, c, rfl, hc⟩
 ·have : bs = [] := by simpa using h0
  subst this
  refine (clone_nil w).mono ?_
  rintro e w' ⟨rfl, rfl⟩
  exact ⟨_, rfl, World.ownsRow_nil _ _ _ _, Only.refl _ _⟩
 ·have e : (bs.map bV).length = bs.length := by simp
  rw [e]
  exact clone_some w a c bs (.inr ⟨a, c, by simp, hc⟩) hl
end Go.Proofs.YtllfanlhgnkcfaaGreatDoor
