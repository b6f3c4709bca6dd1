/-
  taking: the numbers that tell what stays, one by one.
-/
import Derived.Test.YtpjedcfdchebgaaDcopy
namespace Go.Proofs.Ytpjedcfdchebgaa
open Go.RowKit Go.Proofs.Lys Go.Maps Go.Shelf
set_option linter.unusedVariables false

/-- A slice of numbers that is read, outside what O holds. -/
def IntsAt (w : World) (O : Nat → Prop) (v : Value) (l : List Int) : Prop :=
  ∃ a cap, v = .slice a l.length cap ∧ l.length ≤ cap ∧ (l ≠ [] → ∃ b o, a = some ⟨b, o, none⟩ ∧ ¬ O b ∧ ∀ i x, l[i]? = some x → w.cell? ⟨b, o + i, none⟩ = some (.int .i64 x))

/-- The variable that holds the numbers that are left. -/
def NumsAt (w : World) (O : Nat → Prop) (nb : Nat) (l : List Int) : Prop := ∃ v, Blk w nb [v] 32 ∧ IntsAt w O v l

section
variable {w w' : World} {O O' : Nat → Prop} {nb : Nat} {l : List Int}

theorem NumsAt.only (h : NumsAt w O nb l) (k : Only O' w w') (hn : ¬ O' nb) (hO : ∀ j, j < w.heap.size → O' j → O j) : NumsAt w' O nb l := by
  obtain ⟨v, hb, a, cap, rfl, hc, hx⟩ := h
  refine ⟨_, k.blk hb hn, a, cap, rfl, hc, fun hne => ?_⟩
  obtain ⟨b, o, e, hno, hcell⟩ := hx hne
  refine ⟨b, o, e, hno, fun i x hi => ?_⟩
  have h1 := hcell i x hi
  have hlt := World.block_lt_of_cell? w ⟨b, o + i, none⟩ h1
  rw [World.cell?_of_block (w := w) (a := ⟨b, o + i, none⟩) (k.block b hlt (fun h => hno (hO b hlt h)))]
  exact h1

theorem NumsAt.old (h : NumsAt w O nb l) : NumsAt w (fun k => O k ∨ w.heap.size ≤ k) nb l := by
  obtain ⟨v, hb, a, cap, rfl, hc, hx⟩ := h
  refine ⟨_, hb, a, cap, rfl, hc, fun hne => ?_⟩
  obtain ⟨b, o, e, hno, hcell⟩ := hx hne
  refine ⟨b, o, e, ?_, hcell⟩
  rintro (h1 | h1)
  · exact hno h1
  · cases l with
    | nil => exact hne rfl
    | cons x r =>
      have := World.block_lt_of_cell? w ⟨b, o + 0, none⟩ (hcell 0 x rfl)
      simp at this
      omega
theorem NumsAt.less (h : NumsAt w O nb l) (hO : ∀ k, O' k → O k) : NumsAt w O' nb l := by
  obtain ⟨v, hb, a, cap, rfl, hc, hx⟩ := h
  refine ⟨_, hb, a, cap, rfl, hc, fun hne => ?_⟩
  obtain ⟨b, o, e, hno, hcell⟩ := hx hne
  exact ⟨b, o, e, fun h => hno (hO b h), hcell⟩

theorem taking_any (a : Option Addr) (n cap : Nat) (w : World) : Calls Try.prog 46 #[.slice a n cap] w fun e w' => e = .returned (.func (.func 83) #[] #[.pointer (some ⟨w.heap.size, 0, none⟩)]) ∧ w' = w.alloc (.cells #[.slice a n cap] 32) := by
  have hmf : ∀ (fn : Fn) (first cap : Array Value) (w : World), (Instr.makeFunc fn first cap).run Try.prog w = .ok (.func fn first cap) w := fun _ _ _ _ => rfl
  go_enter Try.func46, Try.ntmps46
  go_wp2
  go_ret
  exact ⟨rfl, rfl⟩

set_option maxHeartbeats 800000 in
theorem next_any (h : NumsAt w O nb l) : Calls Try.prog 83 #[.pointer (some ⟨nb, 0, none⟩)] w fun e w' => e = .returned (.int .i64 (l.headD 0)) ∧ Only (fun x => x = nb) w w' ∧ NumsAt w' O nb l.tail := by
  have hall := h
  obtain ⟨v, hb, a, cap, rfl, hc, hx⟩ := h
  have c0 := hb.cell 0 rfl
  have cf := hb.frozen 0
  cases l with
  | nil =>
    have e0 : ([] : List Int).length = 0 := rfl
    rw [e0] at c0
    go_enter Try.func83, Try.ntmps83
    go_wp2
    go_ret
    exact ⟨rfl, Only.refl _ _, hall⟩
  | cons x r =>
    obtain ⟨b, o, rfl, hno, hcell⟩ := hx (by simp)
    have h0 : w.cell? ⟨b, o, none⟩ = some (.int .i64 x) := hcell 0 x rfl
    have hn : (x :: r).length = r.length + 1 := rfl
    rw [hn] at c0 hc hb
    have hbn : b ≠ nb := by
      intro e
      subst e
      have h1 := h0
      unfold Blk at hb
      simp only [World.cell?, hb] at h1
      cases o with
      | zero => simp at h1
      | succ o => simp at h1
    have hfin : ∀ a2 : Option Addr, (r ≠ [] → a2 = some ⟨b, o + 1, none⟩) → Only (fun x => x = nb) w (w.setCell ⟨nb, 0, none⟩ (.slice a2 (r.length + 1 - 1) (cap - 1))) ∧ NumsAt (w.setCell ⟨nb, 0, none⟩ (.slice a2 (r.length + 1 - 1) (cap - 1))) O nb r := by
      intro a2 ha2
      refine ⟨(Only.refl (fun x => x = nb) w).setCell (fun _ => rfl) _, _, hb.set 0 _, _, _, rfl, by omega, fun hne => ?_⟩
      refine ⟨b, o + 1, ha2 hne, hno, fun i y hi => ?_⟩
      have h1 := hcell (i + 1) y hi
      rw [World.cell?_of_block (w := w) (a := ⟨b, o + 1 + i, none⟩) (Below.heap_setCell w ⟨nb, 0, none⟩ _ b hbn)]
      have e : o + 1 + i = o + (i + 1) := by omega
      rw [e]
      exact h1
    have hr : cap = 1 → r = [] := fun e => List.eq_nil_of_length_eq_zero (by omega)
    clear hall hx hcell hn
    have hN1 : 1 ≤ r.length + 1 := by omega
    generalize r.length + 1 = N at *
    have hz : ((N : Int) == 0) = false := by simp; omega
    have hz2 : (0 : Int) < (N : Int) := by omega
    by_cases hcap : cap = 1
    · have HF := Hid.mk (hfin (some ⟨b, o, none⟩) (fun hne => absurd (hr hcap) hne))
      clear hc hb hno hbn hN1 hfin hr
      subst hcap
      go_enter Try.func83, Try.ntmps83
      go_wp2
      go_ret
      exact ⟨rfl, HF.out⟩
    · have HF := Hid.mk (hfin (some ⟨b, o + 1, none⟩) (fun hne => rfl))
      clear hc hb hno hbn hN1 hfin hr
      go_enter Try.func83, Try.ntmps83
      go_wp2
      go_ret
      exact ⟨rfl, HF.out⟩
end
end Go.Proofs.Ytpjedcfdchebgaa
