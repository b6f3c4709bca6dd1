/-
  Package manifest, in plain words: a manifest's bytes.
-/
import Derived.Test.YtjifcgphlidimaaDoorJchk
import Derived.Test.YtjifcgphlidimaaDoorVzig
import Derived.Test.YtjifcgphlidimaaDoorGplain
namespace Go.Proofs.YtjifcgphlidimaaDoor.J
open Go.RowKit Go.Proofs.Lys
open Go.Proofs.YtjifcgphlidimaaDoor.U (zigN zigN_lt uN uN_lt)
set_option linter.unusedVariables false

def refB (x : Rf) : List UInt8 := putN (uN x.1) ++ putN (uN x.2.1) ++ putN (zigN x.2.2.1) ++ putN (zigN x.2.2.2)
def refsB (l : List Rf) : List UInt8 := (l.map refB).flatten
/-- What stands ahead of the blocks. -/
def headM (m : Man) : List UInt8 := [76, 89, 83, 77] ++ putN (uN m.next) ++ putN (uN m.log) ++ putN (zigN m.low) ++ putN (uN (m.bl.length : Int))
def bodyM (m : Man) : List UInt8 := headM m ++ refsB m.bl
def packM (m : Man) : List UInt8 := bodyM m ++ G.four (G.sumL (bodyM m))
def RfIn (x : Rf) : Prop := U.In64 x.2.2.1 ∧ U.In64 x.2.2.2
theorem refB_len {x : Rf} (h : RfIn x) : (refB x).length ≤ 40 := by
  have h1 := putN_ten (uN_lt x.1)
  have h2 := putN_ten (uN_lt x.2.1)
  have h3 := putN_ten (zigN_lt h.1)
  have h4 := putN_ten (zigN_lt h.2)
  unfold refB
  simp only [List.length_append]
  omega
theorem refsB_len : ∀ {l : List Rf}, (∀ x ∈ l, RfIn x) → (refsB l).length ≤ 40 * l.length := by
  intro l
  induction l with
  | nil => intro _; exact Nat.le_refl _
  | cons x r ih =>
    intro h
    have h1 := refB_len (h x List.mem_cons_self)
    have h2 := ih (fun y hy => h y (List.mem_cons_of_mem _ hy))
    unfold refsB at h2 ⊢
    rw [List.map_cons, List.flatten_cons, List.length_append, List.length_cons]
    omega
theorem refsB_snoc (l : List Rf) (x : Rf) : refsB (l ++ [x]) = refsB l ++ refB x := by
  unfold refsB
  rw [List.map_append, List.flatten_append]
  simp
theorem headM_len {m : Man} (h : U.In64 m.low) : (headM m).length ≤ 44 := by
  have h1 := putN_ten (uN_lt m.next)
  have h2 := putN_ten (uN_lt m.log)
  have h3 := putN_ten (zigN_lt h)
  have h4 := putN_ten (uN_lt (m.bl.length : Int))
  unfold headM
  simp only [List.length_append, List.length_cons, List.length_nil]
  omega
end Go.Proofs.YtjifcgphlidimaaDoor.J
