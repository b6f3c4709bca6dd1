/-
  The law's own small functions.
-/
import Derived.Test.YtpajpnjkgojafaaWunpack
import Derived.Test.YtpajpnjkgojafaaWrvals
namespace Go.Proofs.Ytpajpnjkgojafaa.V
open Go.RowKit Go.Proofs.Lys
set_option linter.unusedVariables false

theorem num7_any (n : Int) (w : World) : Calls Try.prog 9 #[.int .i64 n] w fun e w' => e = .returned (.int .i64 n) ∧ w' = w := by
  go_enter Try.func9, Try.ntmps9
  go_wp2
  go_ret
  exact ⟨rfl, rfl⟩

theorem alive7_bytes : packL (allB [1, 1]) = [0, 0, 0, 0, 0, 0, 0, 1, 0] := by decide +kernel
theorem alive7_packs : Packs [1, 1] [0, 0, 0, 0, 0, 0, 0, 1, 0] 0 := .inr ⟨by decide, alive7_bytes.symm, rfl⟩

set_option maxRecDepth 100000 in
set_option maxHeartbeats 800000 in
theorem alive7_any (w : World) : Calls Try.prog 6 #[] w fun e w' => e = .returned (.bool true) ∧ Kept w w' := by
  have hA : SrcOf (w.alloc (.cells #[.int .i64 1, .int .i64 1] 3)) (.slice (some ⟨w.heap.size, 0, none⟩) 2 2) ([1, 1].map (Value.int .i64)) := own_src (World.ownsRow_lit (base := 0) (size := 1) w #[.int .i64 1, .int .i64 1] 2 (Nat.zero_le _) (by decide) rfl)
  have hp := pack_any _ _ _ hA (by decide)
  clear hA
  go_enter Try.func6, Try.ntmps6
  go_wp2_with fail
  refine hp.mono ?_
  rintro e w1 ⟨k1, u, bs, x, rfl, hP, ho⟩
  obtain ⟨rfl, rfl⟩ := hP.inj alive7_packs
  clear hp hP
  have hc : (convert 24 9 u).run Try.prog w1 = .ok (.string ⟨#[0, 0, 0, 0, 0, 0, 0, 1, 0]⟩) w1 := bytes_str (own_src ho)
  have hk : Kept w w1 := ((Only.refl _ w).alloc _).trans k1 (fun _ _ f => f)
  have ho' : w1.ownsRow _ 5 1 u 9 _ := ho
  obtain ⟨a, c, rfl⟩ := own_slice ho'
  clear ho ho' k1
  go_wp2_with (go_at_call 9; refine (num7_any _ _).mono ?_; rintro e w' ⟨rfl, hw⟩; replace hw := hw.symm; subst hw)
  go_ret
  exact ⟨rfl, hk⟩

theorem in64 {zs : List Int} (h : ∀ n ∈ zs, (Lit.int .i64 n).wf = true) : In64 zs := by
  intro n hn
  have := h n hn
  simp [Lit.wf, IntKind.min, IntKind.max, IntKind.bits, IntKind.signed] at this
  omega
end Go.Proofs.Ytpajpnjkgojafaa.V
