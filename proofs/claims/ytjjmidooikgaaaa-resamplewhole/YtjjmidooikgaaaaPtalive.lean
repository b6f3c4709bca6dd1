/-
  Package resample's laws: the document's example.
-/
import Derived.Test.YtjjmidooikgaaaaPtlaw
namespace Go.Proofs.Ytjjmidooikgaaaa.Rs
open Go Go.RowKit Go.Proofs.Lys
open Ru (In64 one okT T0)
set_option linter.unusedVariables false
set_option linter.unusedSimpArgs false

theorem ex_ans : Ans [(0, 5), (25, 7)] 0 10 4 [5, 5, 7, 7] 2 0 := by
  refine ⟨.inr ⟨by decide, by decide, by decide, by decide, by decide, by decide, .inr ⟨⟨by decide, by decide, by decide, by decide, trivial⟩, rfl⟩⟩, .inr ⟨rfl, by decide, 0, .inr ⟨by decide, by decide, fun j hj => absurd hj (Nat.not_lt_zero j)⟩, .inr ⟨by decide, by decide⟩⟩⟩
theorem lit_src (w : World) (l : List Int) (n : Nat) (hn : l.length = n) (hm : n ≤ 1000) : SrcOf (w.alloc (.cells (l.map (Value.int .i64)).toArray 3)) (.slice (some ⟨w.heap.size, 0, none⟩) n n) (l.map (Value.int .i64)) := by
  subst hn
  exact own_src (World.ownsRow_lit w (l.map (Value.int .i64)).toArray l.length (Nat.le_refl _) (by unfold maxLen; omega) (by simp))

set_option maxRecDepth 100000 in
set_option maxHeartbeats 1600000 in
theorem alive_any (w : World) : Calls Try.prog 6 #[] w fun e w' => e = .returned (.bool true) ∧ Kept w w' := by
  obtain ⟨w2, hw2⟩ : ∃ W, w.alloc (.cells #[.int .i64 0, .int .i64 5, .int .i64 25, .int .i64 7] 36) = W := ⟨_, rfl⟩
  have k2 : Kept w w2 := by rw [← hw2]; exact (Only.refl _ w).alloc _
  have hbA : Blk w2 w.heap.size [.int .i64 0, .int .i64 5, .int .i64 25, .int .i64 7] 36 := by rw [← hw2]; exact Blk.new w _ 36
  have h1 : SSrc w2 (.slice (some ⟨w.heap.size, 0, none⟩) 2 2) [(0, 5), (25, 7)] := by
    refine ⟨.inr ⟨by decide, w.heap.size, 0, 2, rfl, fun i hi => ?_⟩, _, _, rfl, Nat.le_refl _⟩
    match i, hi with
    | 0, _ => exact ⟨hbA.cell 0 rfl, hbA.cell 1 rfl⟩
    | 1, _ => exact ⟨hbA.cell 2 rfl, hbA.cell 3 rfl⟩
  have hin : ∀ p ∈ ([(0, 5), (25, 7)] : Smps), In64 p.1 ∧ In64 p.2 := by
    intro p hp
    simp at hp
    rcases hp with rfl | rfl <;> exact ⟨⟨by decide, by decide⟩, ⟨by decide, by decide⟩⟩
  have HP := hid (points_any w2 _ 2 2 [(0, 5), (25, 7)] 0 10 4 h1 rfl (by decide) hin ⟨by decide, by decide⟩)
  have HG := hid (fun W (k : Kept w2 W) => gaps_any W _ 2 2 [(0, 5), (25, 7)] 0 10 4 (h1.stay k) rfl (by decide) hin ⟨by decide, by decide⟩)
  have HNU := hid (fun W => num_any 0 W ⟨by decide, by decide⟩)
  have HW2 := hid hw2
  have K2 := hid k2
  clear h1 hbA hw2 k2 hin
  go_enter Try.func6, Try.ntmps6
  go_wp2_with fail
  rw [HW2.out]
  refine HP.out.mono ?_
  rintro e w3 hp
  obtain ⟨v, r, g, x, ha, rfl, hv, k3⟩ := pts_ans hp
  obtain ⟨rfl, rfl, rfl⟩ := ex_ans.inj ha
  obtain ⟨va, vc, hve⟩ := hv.len
  have hve2 : v = .slice va 4 vc := hve
  subst hve2
  have HV := hid hv
  have K3 := hid (K2.out.trans k3 (fun _ _ f => f))
  have HG3 := hid (HG.out w3 k3)
  clear hp ha hv hve k3 HP HG
  go_wp2_with fail
  refine HG3.out.mono ?_
  rintro e w4 hg
  obtain ⟨r2, g2, x2, ha2, rfl, k4⟩ := gap_ans hg
  obtain ⟨-, rfl, rfl⟩ := ex_ans.inj ha2
  have K4 := hid (K3.out.trans k4 (fun _ _ f => f))
  have HV4 := hid (HV.out.stay k4)
  clear hg ha2 k4 HG3 HV
  go_wp2_with fail
  refine (HNU.out _).mono ?_
  rintro e w5 ⟨rfl, hw5⟩
  replace hw5 := hw5.symm
  subst hw5
  go_wp2_with fail
  refine (HNU.out _).mono ?_
  rintro e w5 ⟨rfl, hw5⟩
  replace hw5 := hw5.symm
  subst hw5
  have HSA := hid (same_any (w4.alloc (.cells #[.int .i64 5, .int .i64 5, .int .i64 7, .int .i64 7] 3)) (.slice va 4 vc) (.slice (some ⟨w4.heap.size, 0, none⟩) 4 4) [5, 5, 7, 7] (HV4.out.stay ((Only.refl _ w4).alloc _)) (lit_src w4 [5, 5, 7, 7] 4 rfl (by decide)) (by decide))
  have K5 : Hid (Kept w (w4.alloc (.cells #[.int .i64 5, .int .i64 5, .int .i64 7, .int .i64 7] 3))) := hid (K4.out.trans ((Only.refl _ w4).alloc _) (fun _ _ f => f))
  clear HV4
  go_wp2_with fail
  refine HSA.out.mono ?_
  rintro e w6 ⟨rfl, k6⟩
  have K6 := hid (K5.out.trans k6 (fun _ _ f => f))
  clear k6 HSA
  go_wp2
  go_ret
  exact ⟨rfl, K6.out⟩
end Go.Proofs.Ytjjmidooikgaaaa.Rs
