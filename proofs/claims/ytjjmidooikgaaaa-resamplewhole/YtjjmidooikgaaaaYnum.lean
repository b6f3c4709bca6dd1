/-
  Package rollup: numbers, and the document's own of them.
-/
import Derived.Test.YtjjmidooikgaaaaYplain
import Derived.Test.YtjjmidooikgaaaaProg
import Derived.Test.YtjjmidooikgaaaaBase
import Derived.PlainAid
namespace Go.Proofs.Ytjjmidooikgaaaa.Ru
open Go Go.RowKit Go.Proofs.Lys
set_option linter.unusedVariables false
set_option linter.unusedSimpArgs false

theorem ret_int {k : IntKind} {a b : Int} (h : a = b) : Ending.returned (.int k a) = .returned (.int k b) := by rw [h]
theorem add_any (a b : Int) (w : World) (ha : In64 a) (hb : In64 b) :
    Calls Try.prog 18 #[.int .i64 a, .int .i64 b] w fun e w' => e = .returned (.int .i64 (addC a b)) ∧ w' = w := by
  obtain ⟨ha, ha'⟩ := ha
  obtain ⟨hb, hb'⟩ := hb
  go_enter Try.func18, Try.ntmps18
  go_wp2
  all_goals
    go_ret
    exact ⟨ret_int (by unfold addC; (repeat' split) <;> omega), rfl⟩
/-- A number less one that is not below nought. -/
theorem sub_any (a b : Int) (w : World) (ha : In64 a) (hb : 0 ≤ b) (hb' : b ≤ 9223372036854775807) :
    Calls Try.prog 30 #[.int .i64 a, .int .i64 b] w fun e w' => e = .returned (.int .i64 (if a - b < -9223372036854775808 then -9223372036854775808 else a - b)) ∧ w' = w := by
  obtain ⟨ha, ha'⟩ := ha
  go_enter Try.func30, Try.ntmps30
  go_wp2
  all_goals
    go_ret
    exact ⟨ret_int (by (repeat' split) <;> omega), rfl⟩
/-- The rest that has the sign of what is divided, mended. -/
theorem rest_eq (t w : Int) (hw : 1 ≤ w) : (if t.tmod w < 0 then t.tmod w + w else t.tmod w) = t % w := by
  have h1 := Int.tmod_eq_emod (a := t) (b := w)
  have h2 : 0 ≤ t % w := Int.emod_nonneg _ (by omega)
  have h3 : t % w < w := Int.emod_lt_of_pos _ (by omega)
  have h4 : (w.natAbs : Int) = w := by omega
  rw [h1]
  by_cases h : 0 ≤ t ∨ w ∣ t
  · rw [if_pos h]
    split <;> omega
  · rw [if_neg h, h4]
    rw [if_pos (by omega)]
    omega
theorem floor_any (t x : Int) (w : World) (ht : In64 t) (hx : In64 x) :
    Calls Try.prog 28 #[.int .i64 t, .int .i64 x] w fun e w' => e = .returned (.int .i64 (floorB t x)) ∧ w' = w := by
  by_cases h1 : x < 1
  · go_enter Try.func28, Try.ntmps28
    go_wp2
    go_ret
    exact ⟨ret_int (by unfold floorB; rw [if_pos h1]), rfl⟩
  · have hr := rest_eq t x (by omega)
    have h2 : 0 ≤ t % x := Int.emod_nonneg _ (by omega)
    have h3 : t % x < x := Int.emod_lt_of_pos _ (by omega)
    have h4 := Int.lt_tmod_of_pos t (b := x) (by omega)
    have h5 := Int.tmod_lt_of_pos t (b := x) (by omega)
    have hx0 : x ≠ 0 := by omega
    have HX := hx
    unfold In64 at HX
    obtain ⟨R, hR⟩ : ∃ R, t.tmod x = R := ⟨_, rfl⟩
    obtain ⟨E, hE⟩ : ∃ E, t % x = E := ⟨_, rfl⟩
    rw [hR] at hr h4 h5
    rw [hE] at hr h2 h3
    obtain ⟨SB, hSB⟩ : ∃ SB, (if t - E < -9223372036854775808 then -9223372036854775808 else t - E) = SB := ⟨_, rfl⟩
    have HS : Hid (∀ w, Calls Try.prog 30 #[.int .i64 t, .int .i64 E] w fun e w' => e = .returned (.int .i64 SB) ∧ w' = w) := hid (fun w => by rw [← hSB]; exact sub_any t E w ht h2 (by omega))
    have HF : Hid (floorB t x = SB) := by
      show _ = _
      unfold floorB
      rw [if_neg h1, hE, hSB]
    clear hE hSB
    by_cases h6 : R < 0
    · rw [if_pos h6] at hr
      go_enter Try.func28, Try.ntmps28
      go_wp2_with fail
      refine (HS.out _).mono ?_
      rintro e w' ⟨rfl, rfl⟩
      go_wp2
      go_ret
      exact ⟨ret_int HF.out.symm, rfl⟩
    · rw [if_neg h6] at hr
      subst hr
      go_enter Try.func28, Try.ntmps28
      go_wp2_with fail
      refine (HS.out _).mono ?_
      rintro e w' ⟨rfl, rfl⟩
      go_wp2
      go_ret
      exact ⟨ret_int HF.out.symm, rfl⟩
end Go.Proofs.Ytjjmidooikgaaaa.Ru
