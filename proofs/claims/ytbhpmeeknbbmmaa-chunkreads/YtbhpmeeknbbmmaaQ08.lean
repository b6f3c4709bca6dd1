/-
  Srise.
-/
import Derived.Test.YtbhpmeeknbbmmaaQ06
import Derived.Test.YtbhpmeeknbbmmaaQ04
import Derived.BigQuiet
import Derived.Deep.WholeRow

/-
  Whether times rise, by the code and by the document; the table of widths.
-/
namespace Go.Proofs.Ytbhpmeeknbbmmaa.S
open Go.RowKit Go.Proofs.Lys
set_option linter.unusedVariables false

set_option maxRecDepth 100000 in
set_option maxHeartbeats 1600000 in
theorem rising_any (w : World) (v : Value) (l : List Int) (hs : SrcOf w v (l.map (Value.int .i64))) (hl : l.length ≤ 1000) :
    Calls Try.prog 36 #[v] w fun e w' => w' = w ∧ ((e = .returned (.bool true) ∧ Rising l) ∨ (e = .returned (.bool false) ∧ ¬ Rising l)) := by
  rcases hs.shape with ⟨hnil, a, c, rfl⟩ | ⟨hpos, b, o, c, rfl, hc⟩
  · have e0 : l = [] := List.map_eq_nil_iff.1 hnil
    subst e0
    go_enter Try.func36, Try.ntmps36
    go_wp2
    refine wp_loop_rounds 1 ?_
    rw [rounds_succ]
    go_wp2
    go_ret
    exact ⟨rfl, .inl ⟨rfl, fun i hi => absurd hi (Nat.not_lt_zero i)⟩⟩
  · rw [List.length_map] at hpos ⊢
    obtain ⟨L, hL⟩ : ∃ L, l.length = L := ⟨_, rfl⟩
    rw [hL] at hpos hl ⊢
    have HC : Hid (∀ j (hj : j < l.length), w.cell? ⟨b, o + j, none⟩ = some (.int .i64 l[j])) := fun j hj => hc j _ (by rw [List.getElem?_map, List.getElem?_eq_getElem hj]; rfl)
    have HL := hid hL
    clear hL hc hs
    go_enter Try.func36, Try.ntmps36
    go_wp2
    go_loop [7] (fun s => ∃ (k : Nat), k ≤ L ∧ s = .int .i64 (k : Int) ∧ (∀ i (h : i < l.length), i < k → -9007199254740992 ≤ l[i] ∧ l[i] ≤ 9007199254740992 ∧ (0 < i → l[i - 1] < l[i]))) (fun s => L - (intOf s).toNat)
    case atStart => exact ⟨0, by omega, rfl, fun i _ h => absurd h (Nat.not_lt_zero i)⟩
    case round =>
      obtain ⟨k, hk, rfl, hr⟩ := hrel
      have HR := hid hr
      clear hr
      by_cases hlt : k < L
      · have hkl : k < l.length := by have := HL.out; omega
        have hcell := HC.out k hkl
        obtain ⟨x, hx⟩ : ∃ x, l[k] = x := ⟨_, rfl⟩
        rw [hx] at hcell
        have HX := hid hx
        clear hx
        by_cases h1 : x < -9007199254740992
        · go_wp2
          go_ret
          exact ⟨rfl, .inr ⟨rfl, fun hR => by have := (hR k hkl).1; rw [HX.out] at this; omega⟩⟩
        · by_cases h2 : 9007199254740992 < x
          · go_wp2
            go_ret
            exact ⟨rfl, .inr ⟨rfl, fun hR => by have := (hR k hkl).2.1; rw [HX.out] at this; omega⟩⟩
          · by_cases h0 : k = 0
            · subst h0
              simp only [Nat.add_zero] at hcell
              go_wp2
              refine ⟨⟨1, by omega, rfl, fun i hi h => ?_⟩, ?_⟩
              · have e : i = 0 := by omega
                subst e
                rw [HX.out]
                exact ⟨by omega, by omega, fun h => absurd h (Nat.lt_irrefl 0)⟩
              · simp [intOf]; omega
            · obtain ⟨k', rfl⟩ : ∃ k', k = k' + 1 := ⟨k - 1, by omega⟩
              have hkl' : k' < l.length := by omega
              have hcell' := HC.out k' hkl'
              obtain ⟨y, hy⟩ : ∃ y, l[k'] = y := ⟨_, rfl⟩
              rw [hy] at hcell'
              have HY := hid hy
              clear hy
              by_cases h3 : x ≤ y
              · go_wp2
                go_ret
                exact ⟨rfl, .inr ⟨rfl, fun hR => by
                  have := (hR (k' + 1) hkl).2.2 (by omega)
                  rw [HX.out] at this
                  simp only [Nat.add_sub_cancel, HY.out] at this
                  omega⟩⟩
              · go_wp2
                refine ⟨⟨k' + 2, by omega, by simp; omega, fun i hi h => ?_⟩, ?_⟩
                · by_cases e : i = k' + 1
                  · subst e
                    rw [HX.out]
                    exact ⟨by omega, by omega, fun _ => by simp only [Nat.add_sub_cancel, HY.out]; omega⟩
                  · exact HR.out i hi (by omega)
                · simp [intOf]; omega
      · have e : k = L := by omega
        subst e
        go_wp2
        go_ret
        exact ⟨rfl, .inl ⟨rfl, fun i hi => HR.out i hi (by have := HL.out; omega)⟩⟩

/-- The table of widths, as a value. -/
def tabA : Array Value := #[.int .i64 0, .int .i64 0, .int .i64 0, .int .i64 1, .int .i64 0, .int .i64 0, .int .i64 (-63), .int .i64 64, .int .i64 2, .int .i64 2, .int .i64 63, .int .i64 7, .int .i64 (-255), .int .i64 256, .int .i64 6, .int .i64 3, .int .i64 255, .int .i64 9, .int .i64 (-2047), .int .i64 2048, .int .i64 14, .int .i64 4, .int .i64 2047, .int .i64 12, .int .i64 (-9223372036854775808), .int .i64 9223372036854775807, .int .i64 15, .int .i64 4, .int .i64 0, .int .i64 64]
def tabV : Value := .agg tabA

theorem tab_size : (Try.prog.info? 99).map (fun i => i.size) = some tabA.size := by kernel_rfl
theorem tab_one : tabA.all (fun x => x.oneCell') = true := by decide +kernel

set_option maxRecDepth 100000 in
theorem widths_any (w : World) : Calls Try.prog 53 #[] w fun e w' => e = .returned tabV ∧ Kept w w' := by
  go_enter Try.func53, Try.ntmps53
  go_wp2_with (refine wpList_store_row rfl 99 _ _ rfl w.heap.size tabA rfl rfl 99 _ (heap_alloc_last w _) tab_size rfl tab_one ?_)
  rw [World.setRow_alloc_new]
  exact bodyPost_ret (v := tabV) (results_cell_row rfl _ _ w.heap.size 99 tabA (0, 0) _ rfl (heap_alloc_last w _) Try.underlying99 rfl tab_size) rfl ⟨rfl, (Only.refl _ w).alloc _⟩
theorem width_0 (w : World) : (Instr.index 99 tabV (.int .i64 0)).run Try.prog w = .ok (.agg #[.int .i64 0, .int .i64 0, .int .i64 0, .int .i64 1, .int .i64 0, .int .i64 0]) w := by kernel_rfl
theorem width_1 (w : World) : (Instr.index 99 tabV (.int .i64 1)).run Try.prog w = .ok (.agg #[.int .i64 (-63), .int .i64 64, .int .i64 2, .int .i64 2, .int .i64 63, .int .i64 7]) w := by kernel_rfl
theorem width_2 (w : World) : (Instr.index 99 tabV (.int .i64 2)).run Try.prog w = .ok (.agg #[.int .i64 (-255), .int .i64 256, .int .i64 6, .int .i64 3, .int .i64 255, .int .i64 9]) w := by kernel_rfl
theorem width_3 (w : World) : (Instr.index 99 tabV (.int .i64 3)).run Try.prog w = .ok (.agg #[.int .i64 (-2047), .int .i64 2048, .int .i64 14, .int .i64 4, .int .i64 2047, .int .i64 12]) w := by kernel_rfl
theorem width_4 (w : World) : (Instr.index 99 tabV (.int .i64 4)).run Try.prog w = .ok (.agg #[.int .i64 (-9223372036854775808), .int .i64 9223372036854775807, .int .i64 15, .int .i64 4, .int .i64 0, .int .i64 64]) w := by kernel_rfl
end Go.Proofs.Ytbhpmeeknbbmmaa.S
