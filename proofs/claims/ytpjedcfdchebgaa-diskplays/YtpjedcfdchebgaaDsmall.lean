/-
  What the small functions of package disk do: refuse, named, lay, due, odd, draw, strain, count.
-/
import Derived.Test.YtpjedcfdchebgaaProg
import Derived.Test.YtpjedcfdchebgaaDheap
import Derived.Test.YtpjedcfdchebgaaDmodel
namespace Go.Proofs.Ytpjedcfdchebgaa
open Go.RowKit Go.Proofs.Lys
set_option linter.unusedVariables false

theorem ret_int {k : IntKind} {a b : Int} (h : a = b) : Ending.returned (.int k a) = .returned (.int k b) := by rw [h]
theorem ret_bool {a b : Bool} (h : a = b) : Ending.returned (.bool a) = .returned (.bool b) := by rw [h]

/-- The panic by which a step gives up. -/
abbrev gaveUp (n : Int) : Ending := .panicked [{ v := .iface 35 (.int .i64 n), recovered := false }]

/-- Nothing that was there has turned. -/
abbrev Stay (w w' : World) : Prop := Only (fun _ => False) w w'

theorem refuse_no (n : Int) (w : World) : Calls Try.prog 67 #[.bool false, .int .i64 n] w fun e w' => e = .returned (.tuple #[]) ∧ w' = w := by
  go_enter Try.func67, Try.ntmps67
  go_wp2
  go_end0
  exact ⟨rfl, rfl⟩

theorem refuse_yes (n : Int) (w : World) : Calls Try.prog 67 #[.bool true, .int .i64 n] w fun e w' => e = gaveUp n ∧ w' = w := by
  go_enter Try.func67, Try.ntmps67
  go_wp2
  exact ⟨rfl, rfl, rfl⟩

theorem named_any (s : ByteArray) (w : World) (hs : s.size ≤ maxLen) : Calls Try.prog 68 #[.string s] w fun e w' => e = .returned (.bool (namedB s.data.toList)) ∧ w' = w := by
  unfold maxLen at hs
  have hl : s.data.toList.length = s.size := by simp
  by_cases h1 : 1 ≤ s.size
  · by_cases h2 : s.size ≤ 60
    · go_enter Try.func68, Try.ntmps68
      go_wp2
      go_ret
      exact ⟨ret_bool (by unfold namedB; rw [hl]; rw [Bool.eq_iff_iff]; simp; omega), rfl⟩
    · go_enter Try.func68, Try.ntmps68
      go_wp2
      go_ret
      exact ⟨ret_bool (by unfold namedB; rw [hl]; rw [Bool.eq_iff_iff]; simp; omega), rfl⟩
  · have hd : decide ((1 : Int) ≤ (s.size : Int)) = false := by simp; omega
    go_enter Try.func68, Try.ntmps68
    go_wp2
    go_ret
    exact ⟨ret_bool (by unfold namedB; rw [hl]; rw [Bool.eq_iff_iff]; simp; omega), rfl⟩

theorem odd_any (n : Int) (w : World) (h0 : -9223372036854775808 ≤ n) (h1 : n ≤ 9223372036854775807) : Calls Try.prog 85 #[.int .i64 n] w fun e w' => e = .returned (.bool (DModel.oddB n)) ∧ w' = w := by
  go_enter Try.func85, Try.ntmps85
  go_wp2
  go_ret
  exact ⟨ret_bool (by
    unfold DModel.oddB
    rw [Bool.eq_iff_iff]
    have e : n.tmod 2 = 0 ↔ n % 2 = 0 := by rw [← Int.dvd_iff_tmod_eq_zero, ← Int.dvd_iff_emod_eq_zero]
    simp [e]), rfl⟩

theorem due_any (l : Bool) (n : Int) (w : World) : Calls Try.prog 97 #[.agg #[.bool l, .int .i64 n]] w fun e w' => e = .returned (.bool (l && decide (n ≤ 0))) ∧ Stay w w' := by
  cases l
  · go_enter Try.func97, Try.ntmps97
    go_wp2
    go_ret
    exact ⟨rfl, (Only.refl _ _).alloc _⟩
  · go_enter Try.func97, Try.ntmps97
    go_wp2
    go_ret
    exact ⟨ret_bool (by simp), (Only.refl _ _).alloc _⟩

theorem lay_any (n : Int) (w : World) : Calls Try.prog 45 #[.int .i64 n] w fun e w' => e = .returned (.agg #[.bool (decide (0 ≤ n)), .int .i64 n]) ∧ Stay w w' := by
  go_enter Try.func45, Try.ntmps45
  go_wp2
  exact bodyPost_ret (v := .agg #[.bool (decide (0 ≤ n)), .int .i64 n]) (by simp [results, Try.results45, go_sem]) rfl ⟨rfl, (Only.refl _ _).alloc _⟩

/-- The cells of a disk. -/
def dCells (q st : Int) (on fl : Bool) (fw : Int) (al : Bool) (aw : Int) (mi ms : Nat) (pv : Value) : List Value :=
  [.int .i64 q, .int .i64 st, .bool on, .bool fl, .int .i64 fw, .bool al, .int .i64 aw, .map (some mi), .map (some ms), pv]

theorem dfacts {w : World} {d : Nat} {q st : Int} {on fl : Bool} {fw : Int} {al : Bool} {aw : Int} {mi ms : Nat} {pv : Value} (h : Blk w d (dCells q st on fl fw al aw mi ms pv) 65) :
    w.cell? ⟨d, 0, none⟩ = some (.int .i64 q) ∧ w.cell? ⟨d, 1, none⟩ = some (.int .i64 st) ∧ w.cell? ⟨d, 2, none⟩ = some (.bool on) ∧ w.cell? ⟨d, 3, none⟩ = some (.bool fl) ∧ w.cell? ⟨d, 4, none⟩ = some (.int .i64 fw) ∧
    w.cell? ⟨d, 5, none⟩ = some (.bool al) ∧ w.cell? ⟨d, 6, none⟩ = some (.int .i64 aw) ∧ w.cell? ⟨d, 7, none⟩ = some (.map (some mi)) ∧ w.cell? ⟨d, 8, none⟩ = some (.map (some ms)) ∧ w.cell? ⟨d, 9, none⟩ = some pv ∧
    (∀ i, w.frozen? ⟨d, i, none⟩ = false) :=
  ⟨h.cell 0 rfl, h.cell 1 rfl, h.cell 2 rfl, h.cell 3 rfl, h.cell 4 rfl, h.cell 5 rfl, h.cell 6 rfl, h.cell 7 rfl, h.cell 8 rfl, h.cell 9 rfl, h.frozen⟩

section
variable {w : World} {d : Nat} {q st : Int} {on fl : Bool} {fw : Int} {al : Bool} {aw : Int} {mi ms : Nat} {pv : Value}

set_option maxHeartbeats 400000 in
theorem draw_on (h : Blk w d (dCells q st true fl fw al aw mi ms pv) 65) (hf : (fl && decide (fw ≤ 0)) = false) :
    Calls Try.prog 78 #[.pointer (some ⟨d, 0, none⟩)] w fun e w' => e = .returned (.tuple #[]) ∧ Stay w w' := by
  obtain ⟨c0, c1, c2, c3, c4, c5, c6, c7, c8, c9, cf⟩ := dfacts h
  go_enter Try.func78, Try.ntmps78
  go_wp2_with fail
  refine (due_any _ _ _).mono ?_
  rintro e w1 ⟨rfl, hs⟩
  rw [hf]
  clear c0 c1 c2 c3 c4 c5 c6 c7 c8 c9 cf
  obtain ⟨c0, c1, c2, c3, c4, c5, c6, c7, c8, c9, cf⟩ := dfacts (hs.blk h (fun f => f))
  go_wp2_with fail
  refine (refuse_no _ _).mono ?_
  rintro e w2 ⟨rfl, rfl⟩
  go_wp2_with fail
  go_end0
  exact ⟨rfl, hs⟩

set_option maxHeartbeats 400000 in
/-- Without power, or where the fuse blows. -/
theorem draw_off (h : Blk w d (dCells q st on fl fw al aw mi ms pv) 65) (hf : on = false ∨ (fl && decide (fw ≤ 0)) = true) :
    Calls Try.prog 78 #[.pointer (some ⟨d, 0, none⟩)] w fun e w' => e = gaveUp 12 ∧ Only (· = d) w w' ∧ Blk w' d (dCells q st false fl fw al aw mi ms pv) 65 := by
  obtain ⟨c0, c1, c2, c3, c4, c5, c6, c7, c8, c9, cf⟩ := dfacts h
  go_enter Try.func78, Try.ntmps78
  go_wp2_with fail
  refine (due_any _ _ _).mono ?_
  rintro e w1 ⟨rfl, hs⟩
  clear c0 c1 c2 c3 c4 c5 c6 c7 c8 c9 cf
  have h1 := hs.blk h (fun f => f)
  have hs' : Only (· = d) w w1 := hs.mono (fun _ _ f => f.elim)
  obtain ⟨c0, c1, c2, c3, c4, c5, c6, c7, c8, c9, cf⟩ := dfacts h1
  cases hd : (fl && decide (fw ≤ 0))
  · rw [hd] at hf
    obtain rfl : on = false := by simpa using hf
    go_wp2_with fail
    refine (refuse_yes _ _).mono ?_
    rintro e w2 ⟨rfl, rfl⟩
    exact ⟨rfl, rfl, hs', h1⟩
  · go_wp2_with fail
    refine (refuse_yes _ _).mono ?_
    rintro e w2 ⟨rfl, rfl⟩
    exact ⟨rfl, rfl, hs'.setCell (fun _ => rfl) _, h1.set 2 _⟩

set_option maxHeartbeats 400000 in
theorem strain_no (h : Blk w d (dCells q st on fl fw al aw mi ms pv) 65) (hf : (al && decide (aw ≤ 0)) = false) :
    Calls Try.prog 79 #[.pointer (some ⟨d, 0, none⟩)] w fun e w' => e = .returned (.tuple #[]) ∧ Stay w w' := by
  obtain ⟨c0, c1, c2, c3, c4, c5, c6, c7, c8, c9, cf⟩ := dfacts h
  go_enter Try.func79, Try.ntmps79
  go_wp2_with fail
  refine (due_any _ _ _).mono ?_
  rintro e w1 ⟨rfl, hs⟩
  rw [hf]
  go_wp2_with fail
  go_end0
  exact ⟨rfl, hs⟩

set_option maxHeartbeats 400000 in
theorem strain_yes (h : Blk w d (dCells q st on fl fw al aw mi ms pv) 65) (hf : (al && decide (aw ≤ 0)) = true) :
    Calls Try.prog 79 #[.pointer (some ⟨d, 0, none⟩)] w fun e w' => e = gaveUp 10 ∧ Only (· = d) w w' ∧ Blk w' d (dCells q st on fl fw false 0 mi ms pv) 65 := by
  obtain ⟨c0, c1, c2, c3, c4, c5, c6, c7, c8, c9, cf⟩ := dfacts h
  go_enter Try.func79, Try.ntmps79
  go_wp2_with fail
  refine (due_any _ _ _).mono ?_
  rintro e w1 ⟨rfl, hs⟩
  rw [hf]
  clear c0 c1 c2 c3 c4 c5 c6 c7 c8 c9 cf
  have h1 := hs.blk h (fun f => f)
  have hs' : Only (· = d) w w1 := hs.mono (fun _ _ f => f.elim)
  obtain ⟨c0, c1, c2, c3, c4, c5, c6, c7, c8, c9, cf⟩ := dfacts h1
  go_wp2_with fail
  exact ⟨rfl, rfl, (hs'.setCell (fun _ => rfl) _).setCell (fun _ => rfl) _, (h1.set 5 _).set 6 _⟩

set_option maxHeartbeats 400000 in
theorem count_any (h : Blk w d (dCells q st on fl fw al aw mi ms pv) 65) (hst0 : 0 ≤ st) (hst : st ≤ 1000000000000) :
    Calls Try.prog 80 #[.pointer (some ⟨d, 0, none⟩)] w fun e w' => e = .returned (.tuple #[]) ∧ Only (· = d) w w' ∧ Blk w' d (dCells q (st + 1) on fl (wrap64 (fw - 1)) al (wrap64 (aw - 1)) mi ms pv) 65 := by
  obtain ⟨c0, c1, c2, c3, c4, c5, c6, c7, c8, c9, cf⟩ := dfacts h
  go_enter Try.func80, Try.ntmps80
  go_wp2_with fail
  go_end0
  exact ⟨rfl, (((Only.refl (fun k => k = d) w).setCell (fun _ => rfl) _).setCell (fun _ => rfl) _).setCell (fun _ => rfl) _, ((h.set 1 _).set 4 _).set 6 _⟩
end
end Go.Proofs.Ytpjedcfdchebgaa
