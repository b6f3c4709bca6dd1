/-
  Katt.
-/
import Derived.Test.YtllfanlhgnkcfaaGreatDoorQ29
import Derived.Defers
import Derived.Recover
namespace Go.Proofs.YtllfanlhgnkcfaaGreatDoor.K
open Go.RowKit Go.Proofs.Lys Go.Stop
set_option linter.unusedVariables false
abbrev gaveF (n : Int) : Ending := .panicked [{ v := failV n, recovered := false }]
def ErrT (w : World) : Prop := w.cell? ⟨0, 0, none⟩ = some (rty 99)
theorem ErrT.stay {w w' : World} (h : ErrT w) (k : Kept w w') : ErrT w' := by
 unfold ErrT
 rw [World.cell?_of_block (k.block _ (World.block_lt_of_cell? w _ h) (fun f => f))]
 exact h
theorem refuse_no (n : Int) (w : World) : Calls Tryz.prog 42 #[.bool false, .int .i64 n] w fun e w' => e = .returned (.tuple #[]) ∧ w' = w := by
 go_enter Tryz.func42, Tryz.ntmps42
 go_wp2
 go_end0
 exact ⟨rfl, rfl⟩
theorem refuse_yes (n : Int) (w : World) : Calls Tryz.prog 42 #[.bool true, .int .i64 n] w fun e w' => e = gaveF n ∧ w' = w := by
 go_enter Tryz.func42, Tryz.ntmps42
 go_wp2
 exact ⟨rfl, rfl, rfl⟩
set_option maxRecDepth 20000 in
theorem catchF (w : World) (be : Nat) (n x : Int) (he : Blk w be [.int .i64 x] 26) (hG : ErrT w) :
  CallsD Tryz.prog 40 #[.pointer (some ⟨be, 0, none⟩)] (.panicking [{ v := failV n, recovered := false }]) w fun e u' w' =>
   e = .returned (.tuple #[]) ∧ u' = .panicking [{ v := failV n, recovered := true }] ∧ Only (fun k => k = be) w w' ∧ Blk w' be [.int .i64 n] 26 := by
 refine callsD_of_wpS Tryz.func40 rfl fun c₀ cs hu => ?_
 apply wpS_seq
 apply wpS_region
 simp [wpOpsS, go_sem, recoverD, hu, Tryz.ntmps40, Exit.thenS]
 apply wpS_seq
 apply wpS_region
 simp [wpOpsS, go_sem, Exit.thenS]
 refine wpS_cond (t := true) (by simp [Act.eval, Array.replicate]) ?_
 simp only [if_true]
 refine wpS_of_wp ?_
 have HG := hid hG
 have HE := hid he
 clear he hG
 go_wp2_with fail
 refine (told_any _ n HG.out).mono ?_
 rintro e w' ⟨rfl, hk⟩
 have he2 := hk.blk HE.out (fun f => f)
 have hec := he2.cell 0 rfl
 have hef := he2.frozen 0
 have HE2 := hid he2
 have HK := hid hk
 clear he2 hk HE
 go_wp2_with fail
 simp [bodyPostS, results, Tryz.results40]
 refine ⟨(HK.out.mono (O' := fun k => k = be) (fun _ _ f => f.elim)).setCell (p := ⟨be, 0, none⟩) (fun _ => rfl) _, HE2.out.set 0 _⟩
theorem catchN (be : Addr) (w : World) :
  CallsD Tryz.prog 40 #[.pointer (some be)] .returning w fun e u' w' => e = .returned (.tuple #[]) ∧ u' = .returning ∧ w' = w := by
 refine callsD_of_wpS Tryz.func40 rfl fun c₀ cs hu => ?_
 apply wpS_seq
 apply wpS_region
 simp [wpOpsS, go_sem, recoverD, hu, Tryz.ntmps40, Exit.thenS]
 apply wpS_seq
 apply wpS_region
 simp [wpOpsS, go_sem, Exit.thenS]
 refine wpS_cond (t := false) (by simp [Act.eval, Array.replicate]) ?_
 simp only [Bool.false_eq_true, if_false]
 refine wpS_of_wp (wp_skip ?_)
 cases c₀
 simp_all [bodyPostS, results, Tryz.results40]
set_option maxHeartbeats 1000000 in
theorem attempt_any (w : World) (g : FuncId) (caps : Array Value) (hent : ∀ args v, (callFunc g args).run Tryz.prog v = .ok (.enter g args) v) (A : World → Prop) (C : Int → World → Prop)
  (hwork : Calls Tryz.prog g caps (w.alloc (.cells #[.int .i64 0] 26)) fun e w2 => Blk w2 w.heap.size [.int .i64 0] 26 ∧ ((e = .returned (.tuple #[]) ∧ A w2) ∨ ∃ x, e = gaveF x ∧ ErrT w2 ∧ C x w2)) :
  Calls Tryz.prog 20 #[.func (.func g) #[] caps] w fun e w' =>
   (e = .returned (.int .i64 0) ∧ ∃ w2, A w2 ∧ Only (fun k => k = w.heap.size) w2 w') ∨ ∃ x w2, e = .returned (.int .i64 x) ∧ C x w2 ∧ Only (fun k => k = w.heap.size) w2 w' := by
 have hmf : ∀ (fn : Fn) (first cap : Array Value) (w : World), (Instr.makeFunc fn first cap).run Tryz.prog w = .ok (.func fn first cap) w := fun _ _ _ _ => rfl
 have HW := hid hwork
 clear hwork
 go_enter_defers Tryz.func20, Tryz.ntmps20
 go_wp2_with fail
 refine HW.out.mono ?_
 rintro e w2 ⟨hE, ⟨rfl, hA⟩ | ⟨x, rfl, hG, hC⟩⟩
 ·have hEc := hE.cell 0 rfl
  have hEf := hE.frozen 0
  have hE2 := (hE.set 0 (.int .i64 0)).cell 0 rfl
  clear hE HW
  go_wp2_with fail
  refine leaves_cons (f := 40) (args := #[.pointer (some ⟨w.heap.size, 0, none⟩)]) (by simp) (by simp [go_sem]) ?_
  refine (catchN _ _).mono ?_
  rintro e u' w'' ⟨rfl, rfl, rfl⟩
  simp [Leaves, settle, results, Tryz.results20, go_sem, hE2]
  exact .inl ⟨w2, hA, (Only.refl (fun k => k = w.heap.size) w2).setCell (p := ⟨w.heap.size, 0, none⟩) (fun _ => rfl) _⟩
 ·clear HW
  go_wp2_with fail
  refine leaves_cons (f := 40) (args := #[.pointer (some ⟨w.heap.size, 0, none⟩)]) (by simp) (by simp [go_sem]) ?_
  refine (catchF w2 w.heap.size x 0 hE hG).mono ?_
  rintro e u' w'' ⟨rfl, rfl, hk, he⟩
  have hec := he.cell 0 rfl
  simp [Leaves, settle, results, Tryz.results20, go_sem, hec]
  exact .inr ⟨w2, hC, hk⟩
end Go.Proofs.YtllfanlhgnkcfaaGreatDoor.K
