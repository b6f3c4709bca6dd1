/-
  Package season: sums, differences, and which seasons points can have.
-/
import Derived.Test.YtkhbkjnjhojnbaaSeplain
import Derived.Test.YtkhbkjnjhojnbaaProg
import Derived.PlainAid
namespace Go.Proofs.Ytkhbkjnjhojnbaa.Se
open Go Go.RowKit Go.Proofs.Lys
set_option linter.unusedVariables false
set_option linter.unusedSimpArgs false

theorem ret_int {k : IntKind} {a b : Int} (h : a = b) : Ending.returned (.int k a) = .returned (.int k b) := by rw [h]
theorem add_any (a b : Int) (w : World) (ha : In64 a) (hb : In64 b) :
    Calls Try.prog 15 #[.int .i64 a, .int .i64 b] w fun e w' => e = .returned (.int .i64 (addC a b)) ∧ w' = w := by
  obtain ⟨ha, ha'⟩ := ha
  obtain ⟨hb, hb'⟩ := hb
  go_enter Try.func15, Try.ntmps15
  go_wp2
  all_goals
    go_ret
    exact ⟨ret_int (by unfold addC; (repeat' split) <;> omega), rfl⟩
theorem sub_any (a b : Int) (w : World) (ha : In64 a) (hb : In64 b) :
    Calls Try.prog 14 #[.int .i64 a, .int .i64 b] w fun e w' => e = .returned (.int .i64 (subC a b)) ∧ w' = w := by
  obtain ⟨ha, ha'⟩ := ha
  obtain ⟨hb, hb'⟩ := hb
  go_enter Try.func14, Try.ntmps14
  go_wp2
  all_goals
    go_ret
    exact ⟨ret_int (by unfold subC; (repeat' split) <;> omega), rfl⟩
theorem radd_any (a b : Int) (w : World) (ha : In64 a) (hb : In64 b) :
    Calls Try.prog 16 #[.int .i64 a, .int .i64 b] w fun e w' => e = .returned (.int .i64 (addC a b)) ∧ w' = w := by
  obtain ⟨ha, ha'⟩ := ha
  obtain ⟨hb, hb'⟩ := hb
  go_enter Try.func16, Try.ntmps16
  go_wp2
  all_goals
    go_ret
    exact ⟨ret_int (by unfold addC; (repeat' split) <;> omega), rfl⟩
theorem rsub_any (a b : Int) (w : World) (ha : In64 a) (hb : In64 b) :
    Calls Try.prog 18 #[.int .i64 a, .int .i64 b] w fun e w' => e = .returned (.int .i64 (subC a b)) ∧ w' = w := by
  obtain ⟨ha, ha'⟩ := ha
  obtain ⟨hb, hb'⟩ := hb
  by_cases h : b = -9223372036854775808
  · subst h
    by_cases h0 : 0 ≤ a
    all_goals
      go_enter Try.func18, Try.ntmps18
      go_wp2
      go_ret
      exact ⟨ret_int (by unfold subC; (repeat' split) <;> omega), rfl⟩
  · have h1 : -9223372036854775808 < b := by omega
    have e : subC a b = addC a (-b) := by unfold subC addC; congr 1
    rw [e]
    clear e
    go_enter Try.func18, Try.ntmps18
    go_wp2_with (go_at_call 16; refine (radd_any _ _ _ ⟨by omega, by omega⟩ ⟨by omega, by omega⟩).mono ?_; rintro e w' ⟨rfl, rfl⟩)
    go_ret
    exact ⟨rfl, rfl⟩
theorem rdist_any (a b : Int) (w : World) (ha : In64 a) (hb : In64 b) :
    Calls Try.prog 17 #[.int .i64 a, .int .i64 b] w fun e w' => e = .returned (.int .i64 (distC a b)) ∧ w' = w := by
  by_cases h : a < b
  · have H := hid (fun W => rsub_any b a W hb ha)
    rw [dist_lt h]
    go_enter Try.func17, Try.ntmps17
    go_wp2_with fail
    refine (H.out _).mono ?_
    rintro e w' ⟨rfl, rfl⟩
    go_wp2
    go_ret
    exact ⟨rfl, rfl⟩
  · have H := hid (fun W => rsub_any a b W ha hb)
    rw [dist_ge h]
    go_enter Try.func17, Try.ntmps17
    go_wp2_with fail
    refine (H.out _).mono ?_
    rintro e w' ⟨rfl, rfl⟩
    go_wp2
    go_ret
    exact ⟨rfl, rfl⟩
theorem num_any (e : Int) (w : World) (h : In64 e) : Calls Try.prog 10 #[.int .i64 e] w fun r w' => r = .returned (.int .i64 e) ∧ w' = w := by
  obtain ⟨h1, h2⟩ := h
  go_enter Try.func10, Try.ntmps10
  go_wp2
  go_ret
  exact ⟨rfl, rfl⟩
theorem may_any (w : World) (a : Option Addr) (L c : Nat) (s : Int) : Calls Try.prog 11 #[.slice a L c, .int .i64 s] w fun e w' => e = .returned (.bool (decide (MayB L s))) ∧ w' = w := by
  unfold MayB
  by_cases h1 : 1 ≤ s
  · by_cases h2 : s ≤ 10000
    · by_cases h3 : s ≤ (L : Int)
      · have d : decide (1 ≤ s ∧ s ≤ 10000 ∧ s ≤ (L : Int)) = true := by simp; omega
        rw [d]
        go_enter Try.func11, Try.ntmps11
        go_wp2
        go_ret
        exact ⟨rfl, rfl⟩
      · have d : decide (1 ≤ s ∧ s ≤ 10000 ∧ s ≤ (L : Int)) = false := by simp; omega
        rw [d]
        go_enter Try.func11, Try.ntmps11
        go_wp2
        go_ret
        exact ⟨rfl, rfl⟩
    · have d : decide (1 ≤ s ∧ s ≤ 10000 ∧ s ≤ (L : Int)) = false := by simp; omega
      rw [d]
      go_enter Try.func11, Try.ntmps11
      go_wp2
      go_ret
      exact ⟨rfl, rfl⟩
  · have d : decide (1 ≤ s ∧ s ≤ 10000 ∧ s ≤ (L : Int)) = false := by simp; omega
    rw [d]
    go_enter Try.func11, Try.ntmps11
    go_wp2
    go_ret
    exact ⟨rfl, rfl⟩
/-- Points: numbers that lie somewhere. -/
def PtSrc (w : World) (v : Value) (l : List Int) : Prop := SrcOf w v (l.map (Value.int .i64))
theorem pt_cell {w : World} {a : Option Addr} {L c : Nat} {l : List Int} (h : PtSrc w (.slice a L c) l) (hL : l.length = L) (i : Nat) (hi : i < L) : ∃ b o, a = some ⟨b, o, none⟩ ∧ w.cell? ⟨b, o + i, none⟩ = some (.int .i64 (l.getD i 0)) := by
  rcases h.shape with ⟨hnil, _⟩ | ⟨hpos, b, o, c', he, hc⟩
  · rw [List.map_eq_nil_iff.1 hnil] at hL
    simp at hL
    omega
  · simp only [Value.slice.injEq] at he
    obtain ⟨rfl, _, rfl⟩ := he
    refine ⟨b, o, rfl, hc i _ ?_⟩
    rw [List.getElem?_map, List.getElem?_eq_getElem (by omega), List.getD_eq_getElem?_getD, List.getElem?_eq_getElem (by omega)]
    rfl
set_option maxRecDepth 100000 in
theorem ago_any (w : World) (a : Option Addr) (L c : Nat) (l : List Int) (s d : Int) (h : PtSrc w (.slice a L c) l) (hL : l.length = L) (hl : L ≤ 9223372036854775807) (hm : MayB L s) (hd : 1 ≤ d) (hd2 : d ≤ 10000) :
    Calls Try.prog 12 #[.slice a L c, .int .i64 s, .int .i64 d] w fun e w' => e = .returned (.int .i64 (l.getD (agoN L s d) 0)) ∧ w' = w := by
  obtain ⟨b, o, rfl, c0⟩ := pt_cell h hL (agoN L s d) (ago_lt hm)
  obtain ⟨n, hn⟩ : ∃ n, agoN L s d = n := ⟨_, rfl⟩
  have e1 := ago_eq (a := d) hm
  have e2 : (d - 1).tmod s = (d - 1) % s := Int.tmod_eq_emod_of_nonneg (by omega)
  have e3 := Int.emod_lt_of_pos (d - 1) (show 0 < s by have := hm.1; omega)
  have e4 := Int.emod_nonneg (d - 1) (show s ≠ 0 by have := hm.1; omega)
  have e5 : n < L := by rw [← hn]; exact ago_lt hm
  rw [hn] at c0 e1 ⊢
  obtain ⟨R, hR⟩ : ∃ R, (d - 1) % s = R := ⟨_, rfl⟩
  rw [hR] at e1 e2 e3 e4
  obtain ⟨V, hV⟩ : ∃ V, l.getD n 0 = V := ⟨_, rfl⟩
  rw [hV] at c0 ⊢
  obtain ⟨m1, m2, m3⟩ := hm
  have hs0 : s ≠ 0 := by omega
  have hb : b < w.heap.size := World.block_lt_of_cell? w _ c0
  have hw1 : wrap64 ((L : Int) - s) = (L : Int) - s := by unfold wrap64; omega
  have hw2 : wrap64 (d - 1) = d - 1 := by unfold wrap64; omega
  have ht : ((L : Int) - s + R).toNat = n := by omega
  have hw4 : wrap64 R = R := by unfold wrap64; omega
  clear h hn hR hV
  go_enter Try.func12, Try.ntmps12
  go_wp2
  go_ret
  exact ⟨rfl, rfl⟩
end Go.Proofs.Ytkhbkjnjhojnbaa.Se
