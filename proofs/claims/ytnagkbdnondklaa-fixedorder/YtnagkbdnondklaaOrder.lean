/-
  Sums, products, quotients and floors go the way of their parts.
-/
import Derived.Test.YtnagkbdnondklaaRef
namespace Go.Proofs.Ytnagkbdnondklaa
open Go.RowKit
theorem add_mono {a b c : Int} (h : a ≤ b) : addZ a c ≤ addZ b c := cut_mono (by omega)
theorem sub_mono {a b c : Int} (h : a ≤ b) : subZ c b ≤ subZ c a := cut_mono (by omega)
theorem mul_mono {a b u : Int} (h : a ≤ b) (hu : 0 ≤ u) : mulZ a u ≤ mulZ b u := by
  apply cut_mono
  have := Int.mul_le_mul_of_nonneg_right h hu
  omega
theorem div_mono {a b u : Int} (h : a ≤ b) (hu : 0 < u) : divZ a u ≤ divZ b u := by
  have hn : ¬ u = 0 := by omega
  unfold divZ fq
  simp only [if_neg hn, if_pos hu]
  apply cut_mono
  exact Int.ediv_le_ediv hu (by omega)
theorem floor_mono {a b : Int} (h : a ≤ b) : floorZ a ≤ floorZ b := by unfold floorZ; omega
theorem neg_pos {c : Int} (h : c < 0) : 0 < negZ c := by
  unfold negZ cutZ
  split
  · omega
  · split <;> omega
end Go.Proofs.Ytnagkbdnondklaa
