/-
  The example of the document.
-/
import Derived.Test.YtjifcgphlidimaaDoorJof
namespace Go.Proofs.YtjifcgphlidimaaDoor.J
open Go.RowKit Go.Proofs.Lys
set_option linter.unusedVariables false
set_option linter.unusedSimpArgs false

abbrev exR : List Rf := [(1, 0, 0, 1), (2, 0, 1, 2), (3, 1, 2, 3), (4, 0, 3, 4), (5, 0, 4, 5)]
theorem ex_of : ofL [0, 0, 1, 0, 0] 5 = exR := by decide
theorem ex_pick : pickO ⟨exR, 6, 1, 0⟩ = [1, 2, 4, 5] := by decide
set_option maxRecDepth 100000 in
set_option maxHeartbeats 1600000 in
theorem alive17_any (w : World) : Calls Tryd.prog 5 #[] w fun e w' => e = .returned (.bool true) ∧ Kept w w' := by
  obtain ⟨w1, hw1⟩ : ∃ w1, w.alloc (.cells #[.int .i64 0, .int .i64 0, .int .i64 1, .int .i64 0, .int .i64 0] 3) = w1 := ⟨_, rfl⟩
  have hs : ISrc w1 (.slice (some ⟨w.heap.size, 0, none⟩) 5 5) [0, 0, 1, 0, 0] := by rw [← hw1]; exact lit_isrc w [0, 0, 1, 0, 0] 5 rfl (by decide)
  have K1 : Hid (Kept w w1) := by rw [← hw1]; exact (Only.refl _ w).alloc _
  have HO : Hid (Calls Tryd.prog 16 #[.slice (some ⟨w.heap.size, 0, none⟩) 5 5] w1 (fun e w' => ∃ a c, e = .returned (.agg #[.slice a 5 c, .int .i64 6, .int .i64 1, .int .i64 0]) ∧ RfAt w' w1.heap.size (.slice a 5 c) exR ∧ Kept w1 w')) :=
    (of_any w1 _ [0, 0, 1, 0, 0] hs (by decide)).mono (fun e w' ⟨a, c, h1, h2, h3⟩ => ⟨a, c, h1, by rw [← ex_of]; exact h2, h3⟩)
  clear hs
  go_enter Tryd.func5, Tryd.ntmps5
  go_wp2_with fail
  refine HO.out.mono ?_
  rintro e w2 ⟨a, c, rfl, h2, k2⟩
  have HP : Hid (Calls Tryd.prog 15 #[.agg #[.slice a 5 c, .int .i64 6, .int .i64 1, .int .i64 0]] w2 (PickP w2 [1, 2, 4, 5])) := by
    have := pick_any w2 a c ⟨exR, 6, 1, 0⟩ h2.src
    rw [ex_pick] at this
    exact this
  have K2 := hid (K1.out.trans k2 (fun _ _ f => f))
  clear HO h2 k2 hw1
  go_wp2_with fail
  refine HP.out.mono ?_
  rintro e w3 ⟨v3, rfl, h3, k3⟩
  have K3 := hid (K2.out.trans k3 (fun _ _ f => f))
  have HS := hid (same_any (w3.alloc (.cells #[.int .i64 1, .int .i64 2, .int .i64 4, .int .i64 5] 3)) v3 (.slice (some ⟨w3.heap.size, 0, none⟩) 4 4) [1, 2, 4, 5] ((own_src h3).stay ((Only.refl _ w3).alloc _)) (lit_isrc w3 [1, 2, 4, 5] 4 rfl (by decide)).1 (by decide))
  obtain ⟨a3, c3, rfl⟩ := own_slice h3
  clear HP h3 k3
  go_wp2_with fail
  refine HS.out.mono ?_
  rintro e w4 ⟨rfl, k4⟩
  have K4 := hid (K3.out.trans (((Only.refl _ w3).alloc _).trans k4 (fun _ _ f => f)) (fun _ _ f => f))
  clear HS k4
  go_wp2
  go_ret
  exact ⟨rfl, K4.out⟩
end Go.Proofs.YtjifcgphlidimaaDoor.J
