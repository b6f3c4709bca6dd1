/-
  Range, the program's and the document's own.
-/
import Derived.Test.YtcacoanhiphbiaaZrput
namespace Go.Proofs.Ytcacoanhiphbiaa.Mg
open Go Go.RowKit Go.Proofs.Lys
set_option linter.unusedVariables false
set_option linter.unusedSimpArgs false

def inR (lo hi : Int) (y : Smp) : Bool := decide (lo ≤ y.1) && decide (y.1 < hi)
def rngL (lo hi : Int) (l : Smps) : Smps := l.filter (inR lo hi)
theorem rng_more {lo hi : Int} {l : Smps} {k : Nat} (hk : k < l.length) : rngL lo hi (l.take (k + 1)) = rngL lo hi (l.take k) ++ (if inR lo hi l[k] then [l[k]] else []) := by
  unfold rngL
  rw [List.take_succ_eq_append_getElem hk, List.filter_append]
  by_cases h : inR lo hi l[k] = true
  · rw [if_pos h, List.filter_cons_of_pos h]; rfl
  · rw [if_neg h, List.filter_cons_of_neg h]; rfl
theorem rng_len (lo hi : Int) (l : Smps) : (rngL lo hi l).length ≤ l.length := List.length_filter_le _ _
def RngP (w : World) (r : Smps) (e : Ending) (w' : World) : Prop := ∃ u, e = .returned u ∧ SmpAt w' w.heap.size u r ∧ Kept w w'
end Go.Proofs.Ytcacoanhiphbiaa.Mg
