/-
  The program's Pick.
-/
import Derived.Test.YtjifcgphlidimaaDoorJpick
import Derived.Test.YtjifcgphlidimaaDoorDlast
namespace Go.Proofs.YtjifcgphlidimaaDoor.J
open Go.RowKit Go.Proofs.Lys
set_option linter.unusedVariables false

abbrev nilS : Value := .slice none 0 0
/-- The rows of levels, in one array. -/
def PkA (A : Nat) (l : List Rf) (j : Nat) (w' : World) : Prop :=
  ∃ vs : List Value, vs.length = 21 ∧ Blk w' A vs 68 ∧ (∀ n, n < 21 → IntAt w' (A + 1) (vs.getD n nilS) (lvl (n : Int) (l.take j))) ∧
    (∀ n m, n < 21 → m < 21 → n ≠ m → ∀ k, (vs.getD n nilS).ownBlock = some k → (vs.getD m nilS).ownBlock ≠ some k)
theorem oper_appendH {P : Program} {w : World} {o : Oper} {a : Act} {K : Act → World → Prop} {Q : Exit → Act → World → Prop} (s x : Operand) (t : TypeId)
    (ho : o.op = .call { callee := .builtin .append, args := #[s, x], argTypes := #[t, t] }) {sv xv : Value} (hs : a.eval s = sv) (hx : a.eval x = xv) {v : Value} {w' : World}
    (hrun : Hid ((Builtin.append_ #[t, t] 0 #[sv, xv]).run P w = .ok v w')) (h : K (a.put o.dst v) w') : Oper.wp P o a w K Q := by
  have hr : (Builtin.append_ #[t, t] o.type #[sv, xv]).run P w = .ok v w' := hrun.out
  unfold Oper.wp
  simp [execOp, ho, resolve, invoke, builtin, hs, hx, hr, Result.andThen]
  exact h
theorem pka_start (w : World) (l : List Rf) : PkA w.heap.size l 0 (w.alloc (.cells #[nilS, nilS, nilS, nilS, nilS, nilS, nilS, nilS, nilS, nilS, nilS, nilS, nilS, nilS, nilS, nilS, nilS, nilS, nilS, nilS, nilS] 68)) := by
  have hall : ∀ n, (List.replicate 21 nilS).getD n nilS = nilS := by
    intro n
    rw [List.getD_eq_getElem?_getD, List.getElem?_replicate]
    split <;> rfl
  refine ⟨List.replicate 21 nilS, rfl, Blk.new w (List.replicate 21 nilS) 68, fun n _ => ?_, fun n m _ _ _ k h => ?_⟩
  · rw [hall]
    exact World.ownsRow_nil _ _ _ _
  · rw [hall] at h
    cases h
/-- One number more in the row of its level. -/
theorem pka_step {A : Nat} {l : List Rf} {j : Nat} {w : World} (h : PkA A l j w) (hj : j < l.length) {n : Nat} (hn : n < 21) (hlv : l[j].2.1 = (n : Int)) (hl : (lvl (n : Int) (l.take j)).length ≤ 100000) (hA : A + 1 ≤ w.heap.size) :
    ∃ a c q, w.cell? ⟨A, n, none⟩ = some (.slice a q c) ∧ ∃ g cap w1, Hid ((Builtin.append_ #[42, 42] 0 #[.slice a q c, .slice (some ⟨w.heap.size, 0, none⟩) 1 1]).run Tryd.prog (w.alloc (.cells #[.int .i64 l[j].1] 3)) = .ok (.slice (some ⟨g, 0, none⟩) (q + 1) cap) w1) ∧
      w1.cell? ⟨A, n, none⟩ = some (.slice a q c) ∧ w1.frozen? ⟨A, n, none⟩ = false ∧ Only (fun k => (A + 1 ≤ k ∧ k < w.heap.size) ∧ Typed w k 3) w w1 ∧ PkA A l (j + 1) (w1.setCell ⟨A, n, none⟩ (.slice (some ⟨g, 0, none⟩) (q + 1) cap)) := by
  obtain ⟨vs, hlen, hB, hrow, hap⟩ := h
  obtain ⟨v, hv⟩ : ∃ v, vs.getD n nilS = v := ⟨_, rfl⟩
  have hgv : vs[n]? = some v := by
    rw [← hv, List.getD_eq_getElem?_getD, List.getElem?_eq_getElem (by omega)]
    rfl
  have ho := hrow n hn
  rw [hv] at ho
  unfold IntAt at ho
  obtain ⟨a, c, rfl⟩ := own_slice ho
  obtain ⟨g, cap, w1, Hr, ho1, hon, hpl⟩ := own_num ho hA (by omega) l[j].1
  have hAn : ¬ (Value.slice a (lvl (n : Int) (l.take j)).length c).ownBlock = some A := fun e => by have := (ho.lt A e).1; omega
  have hB1 := Only.blk hon hB hAn
  refine ⟨a, c, _, hB.cell n hgv, g, cap, w1, Hr, hB1.cell n hgv, hB1.frozen n, hon.mono (fun k hk e => ⟨ho.lt k e, own_typed ho e⟩), ?_⟩
  have hset : ∀ m, (vs.set n (.slice (some ⟨g, 0, none⟩) ((lvl (n : Int) (l.take j)).length + 1) cap)).getD m nilS = if m = n then .slice (some ⟨g, 0, none⟩) ((lvl (n : Int) (l.take j)).length + 1) cap else vs.getD m nilS := by
    intro m
    rw [List.getD_eq_getElem?_getD, List.getElem?_set]
    by_cases e : n = m
    · subst e
      rw [if_pos rfl, if_pos (by omega), if_pos rfl]
      rfl
    · rw [if_neg e, if_neg (fun h => e h.symm), List.getD_eq_getElem?_getD]
  have hgA : g ≠ A := fun e => by have := (ho1.lt g rfl).1; omega
  refine ⟨vs.set n (.slice (some ⟨g, 0, none⟩) ((lvl (n : Int) (l.take j)).length + 1) cap), by rw [List.length_set]; exact hlen, hB1.set n _, fun m hm => ?_, fun m m' hm hm' hne k h1 h2 => ?_⟩
  · rw [hset]
    by_cases e : m = n
    · subst e
      rw [if_pos rfl, lvl_yes hj hlv]
      unfold IntAt
      have := own_block (w' := w1.setCell ⟨A, m, none⟩ (.slice (some ⟨g, 0, none⟩) ((lvl (m : Int) (l.take j)).length + 1) cap)) ho1 (fun k hk => Below.heap_setCell w1 _ _ k (fun e => by have := (ho1.lt k hk).1; simp at e; omega))
      simpa using this
    · rw [if_neg e, lvl_no hj (by rw [hlv]; omega)]
      have hm1 := hrow m hm
      unfold IntAt at hm1 ⊢
      have h1 := own_only hm1 hon (fun b hb e2 => hap m n hm hn e b hb (by rw [hv]; exact e2))
      exact own_block h1 (fun k hk => Below.heap_setCell w1 _ _ k (fun e => by have := (h1.lt k hk).1; simp at e; omega))
  · rw [hset] at h1 h2
    have key : ∀ x, x < 21 → x ≠ n → ∀ k, (vs.getD x nilS).ownBlock = some k → (Value.slice (some ⟨g, 0, none⟩) ((lvl (n : Int) (l.take j)).length + 1) cap).ownBlock ≠ some k := by
      intro x hx hxn k hk e
      rcases hpl k e with h | h
      · exact hap x n hx hn hxn k hk (by rw [hv]; exact h)
      · have h3 := hrow x hx
        unfold IntAt at h3
        have := (h3.lt k hk).2
        omega
    by_cases e1 : m = n
    · rw [if_pos e1] at h1
      rw [if_neg (by omega)] at h2
      exact key m' hm' (by omega) k h2 h1
    · rw [if_neg e1] at h1
      by_cases e2 : m' = n
      · rw [if_pos e2] at h2
        exact key m hm e1 k h1 h2
      · rw [if_neg e2] at h2
        exact hap m m' hm hm' hne k h1 h2
end Go.Proofs.YtjifcgphlidimaaDoor.J
