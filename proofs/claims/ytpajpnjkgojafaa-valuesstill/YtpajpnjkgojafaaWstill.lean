/-
  Numbers that do not change, and two that are told in turns.
-/
import Derived.Test.YtpajpnjkgojafaaWlaw
namespace Go.Proofs.Ytpajpnjkgojafaa.V
open Go.RowKit Go.Proofs.Lys
set_option linter.unusedVariables false

theorem xr_self (a : Int) : xr a a = 0 := Nat.xor_self _
theorem xr_comm (a b : Int) : xr a b = xr b a := Nat.xor_comm _ _
theorem encX_zero (W : Win) : (encX W 0).length = 1 := by unfold encX; rw [if_pos rfl]; rfl
theorem next_zero (W : Win) : W.next 0 = W := by unfold Win.next; rw [if_pos rfl]
theorem encT_still (a : Int) (W : Win) (n : Nat) : (encT a W (List.replicate n a)).length = n := by
  induction n with
  | zero => rfl
  | succ n ih =>
    rw [List.replicate_succ]
    simp only [encT, List.length_append, xr_self, encX_zero, next_zero, ih]
    omega
theorem still_len (a : Int) (n : Nat) : (allB (List.replicate (n + 1) a)).length = 64 + n := by
  rw [List.replicate_succ]
  simp only [allB, List.length_append, bitsL_length, encT_still]

/-- Two numbers in turns. -/
def turnL (a b : Int) (n : Nat) : List Int := (List.range n).map (fun i => if i % 2 = 1 then b else a)
theorem turnL_length (a b : Int) (n : Nat) : (turnL a b n).length = n := by simp [turnL]
theorem turnL_succ (a b : Int) (n : Nat) : turnL a b (n + 1) = turnL a b n ++ [if n % 2 = 1 then b else a] := by simp [turnL, List.range_succ]
theorem turnL_cons (a b : Int) (n : Nat) : turnL a b (n + 1) = a :: turnL b a n := by
  unfold turnL
  rw [List.range_succ_eq_map, List.map_cons, List.map_map]
  congr 1
  refine List.map_congr_left (fun i _ => ?_)
  show (if (i + 1) % 2 = 1 then b else a) = if i % 2 = 1 then a else b
  by_cases h : i % 2 = 1
  · rw [if_pos h, if_neg (by omega)]
  · rw [if_neg h, if_pos (by omega)]
theorem encT_same (W : Win) (n : Nat) : ∀ a b, xr a b = 0 → (encT a W (turnL b a n)).length = n := by
  induction n with
  | zero => intro a b _; rfl
  | succ n ih =>
    intro a b h
    rw [turnL_cons]
    simp only [encT, List.length_append, h, encX_zero, next_zero]
    rw [ih b a (by rw [xr_comm]; exact h)]
    omega
theorem encT_turn (W : Win) (X : Nat) (hX : X ≠ 0) (hf : W.fit X) (n : Nat) : ∀ a b, xr a b = X → (encT a W (turnL b a n)).length = n * (2 + (64 - W.z - W.t)) := by
  induction n with
  | zero => intro a b _; simp [turnL, encT]
  | succ n ih =>
    intro a b h
    rw [turnL_cons]
    have e1 : (encX W X).length = 2 + (64 - W.z - W.t) := by
      unfold encX bodyB
      rw [if_neg hX, if_pos hf, List.length_append, bitsL_length, bitsL_length]
    have e2 : W.next X = W := by unfold Win.next; rw [if_neg hX, if_pos hf]
    simp only [encT, List.length_append, h, e1, e2]
    rw [ih b a (by rw [xr_comm]; exact h), Nat.add_mul]
    omega
theorem turn_len (a b : Int) (m : Nat) : 65 ≤ (allB (turnL a b 2)).length ∧ (allB (turnL a b 2)).length + m ≤ (allB (turnL a b (m + 2))).length ∧ (allB (turnL a b (m + 2))).length ≤ (allB (turnL a b 2)).length + 66 * m := by
  have e2 : (allB (turnL a b 2)).length = 64 + (encX W0 (xr a b)).length := by
    rw [turnL_cons, turnL_cons]
    simp [allB, encT, turnL, bitsL_length]
  have em : (allB (turnL a b (m + 2))).length = 64 + (encX W0 (xr a b)).length + (encT b (W0.next (xr a b)) (turnL a b m)).length := by
    rw [turnL_cons, turnL_cons]
    simp only [allB, encT, List.length_append, bitsL_length]
    omega
  have h1 := encX_some W0 (xr a b)
  rw [e2, em]
  by_cases h0 : xr a b = 0
  · rw [h0, next_zero, encT_same W0 m b a (by rw [xr_comm]; exact h0), encX_zero]
    omega
  · have hn : W0.next (xr a b) = ⟨true, lead (xr a b), trail (xr a b)⟩ := by
      unfold Win.next
      rw [if_neg h0, if_neg (fun h => by cases h.1)]
    have hb := both_lt (xr_lt a b) h0
    rw [hn, encT_turn _ (xr a b) h0 ⟨rfl, Nat.le_refl _, Nat.le_refl _⟩ m b a (xr_comm b a)]
    simp only
    have l1 : m * 1 ≤ m * (2 + (64 - lead (xr a b) - trail (xr a b))) := Nat.mul_le_mul_left m (by omega)
    have l2 : m * (2 + (64 - lead (xr a b) - trail (xr a b))) ≤ m * 66 := Nat.mul_le_mul_left m (by omega)
    omega
theorem turn_take (a b : Int) (m : Nat) : (turnL a b (m + 2)).take 2 = turnL a b 2 := by
  rw [turnL_cons, turnL_cons, turnL_cons, turnL_cons]
  rfl

/-- One number more of a row, and where it lies then. -/
theorem own_num2 {w : World} {base : Nat} {vr : Value} {lr : List Int} (hown : w.ownsRow base 3 1 vr lr.length (lr.map (Value.int .i64))) (hb : base ≤ w.heap.size) (hl : lr.length ≤ 1000000) (X : Int) :
    ∃ g cap w1, Hid ((Builtin.append_ #[22, 22] 0 #[vr, .slice (some ⟨w.heap.size, 0, none⟩) 1 1]).run Try.prog (w.alloc (.cells #[.int .i64 X] 3)) = .ok (.slice (some ⟨g, 0, none⟩) (lr.length + 1) cap) w1) ∧ w1.ownsRow base 3 1 (.slice (some ⟨g, 0, none⟩) (lr.length + 1) cap) (lr ++ [X]).length ((lr ++ [X]).map (Value.int .i64)) ∧ Only (fun k => vr.ownBlock = some k) w w1 ∧ (vr.ownBlock = some g ∨ w.heap.size ≤ g) := by
  obtain ⟨v', w1, hrun, hown1, hgrow, hat⟩ := append_src (P := Try.prog) (xv := .slice (some ⟨w.heap.size, 0, none⟩) 1 1) (ys := [.int .i64 X]) Try.underlying22 infoI6 rfl (by decide) (hown.alloc (.cells #[.int .i64 X] 3)) (own_src (World.ownsRow_lit w #[.int .i64 X] 1 (Nat.zero_le _) (by decide) rfl)) (by intro u hu; simp at hu; subst hu; rfl) (by simp; omega) (by simp; omega)
  obtain ⟨g, cap, rfl⟩ := own_some hown1 (by simp)
  refine ⟨g, cap, w1, hrun, ?_, ((Only.refl _ w).alloc _).grown hgrow (fun j hj _ => hj), ?_⟩
  · have e1 : (lr ++ [X]).length = lr.length + [Value.int .i64 X].length := by simp
    have e2 : (lr ++ [X]).map (Value.int .i64) = lr.map (Value.int .i64) ++ [Value.int .i64 X] := by rw [List.map_append]; rfl
    rw [e1, e2]
    exact hown1
  · rcases hat with e | e
    · exact .inl e.symm
    · have : g = w.heap.size + 1 := by simpa [Value.ownBlock] using e
      exact .inr (by omega)
theorem cut_pre {w : World} {base g cap m : Nat} {l : List Int} (h : w.ownsRow base 3 1 (.slice (some ⟨g, 0, none⟩) l.length cap) l.length (l.map (Value.int .i64))) (hm : m ≤ l.length) (h0 : 0 < m) :
    SrcOf w (.slice (some ⟨g, 0, none⟩) m cap) ((l.take m).map (Value.int .i64)) ∧ ∀ W, (Instr.sliceAt 22 (.slice (some ⟨g, 0, none⟩) l.length cap) none (some (.int .i64 (m : Int))) none).run Try.prog W = .ok (.slice (some ⟨g, 0, none⟩) m cap) W := by
  have hc := src_cells (own_src h)
  have hlen : (l.take m).length = m := by rw [List.length_take]; omega
  refine ⟨.inr ⟨⟨g, 0, none⟩, cap, by rw [List.length_map, hlen], fun j u hu => ?_⟩, ?_⟩
  · have hj : j < m := by
      have := (List.getElem?_eq_some_iff.1 hu).1
      rwa [List.length_map, hlen] at this
    rw [add_none]
    refine hc j u ?_
    rw [List.map_take, List.getElem?_take_of_lt hj] at hu
    exact hu
  · rcases h.2 with ⟨e, _⟩ | ⟨g', cap', cur, hv, _, _, hcap, _⟩
    · cases e
    · cases hv
      exact fun W => cut_to g l.length cap m (by omega) (by omega) W
end Go.Proofs.Ytpajpnjkgojafaa.V
