/-
  Frames one behind the other, cut anywhere. No program is named here.
-/
import Derived.Test.YtjohnomlhcncnaaDoorGrec
namespace Go.Proofs.YtjohnomlhcncnaaDoor.G
open Go.RowKit Go.Proofs.Lys
set_option linter.unusedVariables false

/-- The frames of records, one behind the other. -/
def flatL : Recs → List UInt8
  | [] => []
  | q :: r => frameL q.1 q.2 ++ flatL r
theorem flatL_app (a b : Recs) : flatL (a ++ b) = flatL a ++ flatL b := by
  induction a with
  | nil => rfl
  | cons q r ih => rw [List.cons_append, flatL, flatL, ih, List.append_assoc]
theorem endF_at (l : Recs) (at_ : Nat) : endF at_ l = at_ + (flatL l).length := by
  induction l generalizing at_ with
  | nil => rfl
  | cons q r ih => rw [endF, ih, flatL, List.length_append, frameL_len]; omega
theorem flatL_snoc (l : Recs) (q : Nat × List UInt8) : flatL (l ++ [q]) = flatL l ++ frameL q.1 q.2 := by
  rw [flatL_app]
  simp [flatL]
def Good (l : Recs) : Prop := ∀ q ∈ l, q.1 < 256 ∧ q.2.length ≤ 1048576
theorem rows_chain : ∀ (l : Recs) (n : Nat) (pre : List UInt8) (cut : Nat), Good l → endF pre.length (l.take n) ≤ cut → Chain ((pre ++ flatL l).take cut) pre.length (l.take n)
  | [], n, pre, cut, _, _ => by rw [List.take_nil]; trivial
  | q :: r, 0, pre, cut, _, _ => trivial
  | q :: r, n + 1, pre, cut, hg, hc => by
    have hq := hg q (List.mem_cons_self)
    have hl := frameL_len q.1 q.2
    have hc2 : endF (pre ++ frameL q.1 q.2).length (r.take n) ≤ cut := by
      rw [List.length_append, hl]
      exact hc
    have hle : pre.length + (9 + q.2.length) ≤ cut := by
      rw [endF_at, List.length_append, hl] at hc2
      omega
    have ih := rows_chain r n (pre ++ frameL q.1 q.2) cut (fun x hx => hg x (List.mem_cons_of_mem _ hx)) hc2
    rw [List.take_succ_cons]
    refine ⟨?_, ?_⟩
    · rw [List.drop_take, List.drop_left, flatL, List.take_append, List.take_of_length_le (by omega)]
      exact read_put hq.1 hq.2 _
    · have e : pre.length + (9 + q.2.length) = (pre ++ frameL q.1 q.2).length := by rw [List.length_append, hl]
      rw [e, flatL, ← List.append_assoc]
      exact ih
theorem read_short {bs : List UInt8} (h : bs.length < 9) : readF bs = none := by
  unfold readF
  rw [if_pos (.inl h)]
/-- Up to the cut all frames are read, and none behind them. -/
theorem rows_alls {l : Recs} {n cut : Nat} (hg : Good l) (hn : n ≤ l.length) (h1 : endF 0 (l.take n) ≤ cut) (h2 : n < l.length → cut < endF 0 (l.take (n + 1))) : Alls ((flatL l).take cut) (l.take n) (endF 0 (l.take n)) := by
  refine ⟨rows_chain l n [] cut hg h1, rfl, ?_⟩
  have he := endF_at (l.take n) 0
  rw [Nat.zero_add] at he
  have hs : flatL l = flatL (l.take n) ++ flatL (l.drop n) := by rw [← flatL_app, List.take_append_drop]
  rw [List.drop_take, hs, he, List.drop_left]
  cases hd : l.drop n with
  | nil => exact read_short (by simp [flatL])
  | cons q r =>
    have hlt : n < l.length := by
      rcases Nat.lt_or_ge n l.length with h | h
      · exact h
      · rw [List.drop_of_length_le h] at hd; cases hd
    have hq : q ∈ l := List.mem_of_mem_drop (by rw [hd]; exact List.mem_cons_self)
    have h3 := h2 hlt
    have eq : l[n] = q := by
      have := List.drop_eq_getElem_cons hlt
      rw [hd] at this
      exact (List.cons.inj this).1.symm
    rw [List.take_succ_eq_append_getElem hlt, eq, endF_snoc, he] at h3
    have hl := frameL_len q.1 q.2
    rw [flatL, List.take_append_of_le_length (by omega)]
    exact read_part (hg q hq).2 (by omega)
theorem rows_mono (l : Recs) {i j : Nat} (h : i ≤ j) : endF 0 (l.take i) ≤ endF 0 (l.take j) := by
  rw [endF_at, endF_at]
  have e : l.take j = l.take i ++ (l.take j).drop i := by
    have := (List.take_append_drop i (l.take j)).symm
    rw [List.take_take, Nat.min_eq_left h] at this
    exact this
  rw [e, flatL_app, List.length_append]
  omega
end Go.Proofs.YtjohnomlhcncnaaDoor.G
