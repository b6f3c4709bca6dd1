/-
  Make: the labels by rising name, if they can be a series' name.
-/
import Derived.Test.YtcacoanhiphbiaaNsort
namespace Go.Proofs.Ytcacoanhiphbiaa.N
open Go.RowKit Go.Proofs.Lys
set_option linter.unusedVariables false
set_option linter.unusedSimpArgs false

/-- Labels of texts that are not too long. -/
def Small (l : Labs) : Prop := ∀ x ∈ l, x.1.size ≤ 100000 ∧ x.2.size ≤ 100000
/-- What Make answers. -/
def MakeA (w : World) (B : Nat) (u : Value) (n : Int) : Option Labs → Prop
  | some m => n = 0 ∧ LabAt w B u m
  | none => n = 20 ∧ u = .slice none 0 0
theorem makeL_bad {l : Labs} {k : Nat} (hk : k < l.length) (h : labOk l[k] = false) : makeL l = none := by
  unfold makeL
  split
  · rfl
  · rw [if_neg]
    intro hall
    have := List.all_eq_true.1 hall _ (List.getElem_mem hk)
    rw [h] at this
    cases this
theorem makeL_good {l : Labs} (h0 : 0 < l.length) (h16 : l.length ≤ 16) (h : ∀ k (hk : k < l.length), labOk l[k] = true) : makeL l = insAll [] l := by
  unfold makeL
  rw [if_neg (by omega), if_pos]
  refine List.all_eq_true.2 (fun x hx => ?_)
  obtain ⟨k, hk, rfl⟩ := List.getElem_of_mem hx
  exact h k hk

end Go.Proofs.Ytcacoanhiphbiaa.N
