/-
  The document's own disk: New, Fuse, Fault, On, the names that may not be.
-/
import Derived.Test.YtpjedcfdchebgaaEref
namespace Go.Proofs.Ytpjedcfdchebgaa
open Go.RowKit Go.Proofs.Lys Go.Maps Go.Shelf
set_option linter.unusedVariables false

theorem rnew_core (w : World) (Q : Nat) (hQ : Q ≤ 67108864) (q : Int) (hq : (min (max q 0) 67108864).toNat = Q) :
    Kept w (w.alloc (.cells #[.slice none 0 0, .slice none 0 0, .slice none 0 0, .slice none 0 0, .int .i64 (Q : Int), .bool false, .int .i64 (-1), .int .i64 (-1), .int .i64 0] 70)) ∧ ∃ c : RConc, c.d = w.heap.size ∧ RAt (w.alloc (.cells #[.slice none 0 0, .slice none 0 0, .slice none 0 0, .slice none 0 0, .int .i64 (Q : Int), .bool false, .int .i64 (-1), .int .i64 (-1), .int .i64 0] 70)) c (Since w (w.alloc (.cells #[.slice none 0 0, .slice none 0 0, .slice none 0 0, .slice none 0 0, .int .i64 (Q : Int), .bool false, .int .i64 (-1), .int .i64 (-1), .int .i64 0] 70))) (DModel.start q) := by
  have hb := Blk.new w [.slice none 0 0, .slice none 0 0, .slice none 0 0, .slice none 0 0, .int .i64 (Q : Int), .bool false, .int .i64 (-1), .int .i64 (-1), .int .i64 0] 70
  refine ⟨(Only.refl _ w).alloc _, ⟨w.heap.size, .slice none 0 0, .slice none 0 0, .slice none 0 0, .slice none 0 0, [], []⟩, rfl, ?_⟩
  subst hq
  refine { cells := hb, files := ⟨rfl, .inl ⟨rfl, rfl⟩⟩, fsm := rfl, bytes := (fun p hp => by cases hp), lens := (fun p hp => by cases hp), dir := ⟨rfl, .inl ⟨rfl, rfl⟩⟩, sure := ⟨rfl, .inl ⟨rfl, rfl⟩⟩, acts := ⟨rfl, .inl ⟨rfl, rfl⟩⟩, acm := rfl, quota := hQ, dirF := (fun p hp => by cases hp), oD := ⟨Nat.le_refl _, hb.lt⟩, oF := (fun k e => by cases e), oB := (fun p hp => by cases hp), oDir := (fun k e => by cases e), oSure := (fun k e => by cases e), oAct := (fun k e => by cases e), top := fun k hk => hk.2 }

set_option maxRecDepth 100000 in
theorem rnew_any (q : Int) (w : World) : Calls Try.prog 10 #[.int .i64 q] w fun e w' => e = .returned (.pointer (some ⟨w.heap.size, 0, none⟩)) ∧ Kept w w' ∧ ∃ c : RConc, c.d = w.heap.size ∧ RAt w' c (Since w w') (DModel.start q) := by
  by_cases h1 : q < 0
  · have H := Hid.mk (rnew_core w 0 (by decide) q (by omega))
    go_enter Try.func10, Try.ntmps10
    go_wp2
    go_ret
    exact ⟨rfl, H.out.1, H.out.2⟩
  · by_cases h2 : 67108864 < q
    · have H := Hid.mk (rnew_core w 67108864 (by decide) q (by omega))
      go_enter Try.func10, Try.ntmps10
      go_wp2
      go_ret
      exact ⟨rfl, H.out.1, H.out.2⟩
    · obtain ⟨Q, rfl⟩ : ∃ Q : Nat, q = (Q : Int) := ⟨q.toNat, by omega⟩
      have H := Hid.mk (rnew_core w Q (by omega) (Q : Int) (by omega))
      go_enter Try.func10, Try.ntmps10
      go_wp2
      go_ret
      exact ⟨rfl, H.out.1, H.out.2⟩

section
variable {w : World} {c : RConc} {O : Nat → Prop} {m : DModel}
theorem ron_any (h : RAt w c O m) : Calls Try.prog 52 #[.pointer (some ⟨c.d, 0, none⟩)] w fun e w' => e = .returned (.bool (!m.off)) ∧ w' = w := by
  have x5 : w.cell? ⟨c.d, 5, none⟩ = some (.bool m.off) := h.cells.cell 5 rfl
  go_enter Try.func52, Try.ntmps52
  go_wp2
  go_ret
  exact ⟨rfl, rfl⟩
theorem laid_lay (n : Int) : laidI (DModel.lay n) = if n < 0 then -1 else n := by
  unfold DModel.lay
  by_cases h : n < 0
  · rw [if_pos h, if_pos h]; rfl
  · rw [if_neg h, if_neg h]; show ((n.toNat : Nat) : Int) = n; omega
theorem rfuse_any (h : RAt w c O m) (n : Int) : Calls Try.prog 16 #[.pointer (some ⟨c.d, 0, none⟩), .int .i64 n] w fun e w' => e = .returned (.tuple #[]) ∧ Only O w w' ∧ RAt w' c O { m with fuse := DModel.lay n } := by
  have hb := h.cells
  have hl := laid_lay n
  have x6 : w.cell? ⟨c.d, 6, none⟩ = some (.int .i64 (laidI m.fuse)) := hb.cell 6 rfl
  have f6 : w.frozen? ⟨c.d, 6, none⟩ = false := hb.frozen 6
  by_cases hn : n < 0
  · rw [if_pos hn] at hl
    have H : Hid (Only O w ((w.setCell ⟨c.d, 6, none⟩ (.int .i64 n)).setCell ⟨c.d, 6, none⟩ (.int .i64 (-1))) ∧ RAt ((w.setCell ⟨c.d, 6, none⟩ (.int .i64 n)).setCell ⟨c.d, 6, none⟩ (.int .i64 (-1))) c O { m with fuse := DModel.lay n }) := by
      have k : Only (· = c.d) w ((w.setCell ⟨c.d, 6, none⟩ (.int .i64 n)).setCell ⟨c.d, 6, none⟩ (.int .i64 (-1))) := ((Only.refl (fun x => x = c.d) w).setCell (fun _ => rfl) _).setCell (fun _ => rfl) _
      refine ⟨k.mono (fun j _ e => e ▸ h.oD), h.scal k ?_ rfl rfl rfl rfl h.quota⟩
      have := (hb.set 6 (.int .i64 n)).set 6 (.int .i64 (-1))
      unfold RCells
      simp only [hl]
      exact this
    clear h hb hl
    go_enter Try.func16, Try.ntmps16
    go_wp2
    go_end0
    exact ⟨rfl, H.out⟩
  · rw [if_neg hn] at hl
    have H : Hid (Only O w (w.setCell ⟨c.d, 6, none⟩ (.int .i64 n)) ∧ RAt (w.setCell ⟨c.d, 6, none⟩ (.int .i64 n)) c O { m with fuse := DModel.lay n }) := by
      have k : Only (· = c.d) w (w.setCell ⟨c.d, 6, none⟩ (.int .i64 n)) := (Only.refl (fun x => x = c.d) w).setCell (fun _ => rfl) _
      refine ⟨k.mono (fun j _ e => e ▸ h.oD), h.scal k ?_ rfl rfl rfl rfl h.quota⟩
      have := hb.set 6 (.int .i64 n)
      unfold RCells
      simp only [hl]
      exact this
    clear h hb hl
    go_enter Try.func16, Try.ntmps16
    go_wp2
    go_end0
    exact ⟨rfl, H.out⟩
theorem rfault_any (h : RAt w c O m) (n : Int) : Calls Try.prog 18 #[.pointer (some ⟨c.d, 0, none⟩), .int .i64 n] w fun e w' => e = .returned (.tuple #[]) ∧ Only O w w' ∧ RAt w' c O { m with fault := DModel.lay n } := by
  have hb := h.cells
  have hl := laid_lay n
  have x6 : w.cell? ⟨c.d, 7, none⟩ = some (.int .i64 (laidI m.fault)) := hb.cell 7 rfl
  have f6 : w.frozen? ⟨c.d, 7, none⟩ = false := hb.frozen 7
  by_cases hn : n < 0
  · rw [if_pos hn] at hl
    have H : Hid (Only O w ((w.setCell ⟨c.d, 7, none⟩ (.int .i64 n)).setCell ⟨c.d, 7, none⟩ (.int .i64 (-1))) ∧ RAt ((w.setCell ⟨c.d, 7, none⟩ (.int .i64 n)).setCell ⟨c.d, 7, none⟩ (.int .i64 (-1))) c O { m with fault := DModel.lay n }) := by
      have k : Only (· = c.d) w ((w.setCell ⟨c.d, 7, none⟩ (.int .i64 n)).setCell ⟨c.d, 7, none⟩ (.int .i64 (-1))) := ((Only.refl (fun x => x = c.d) w).setCell (fun _ => rfl) _).setCell (fun _ => rfl) _
      refine ⟨k.mono (fun j _ e => e ▸ h.oD), h.scal k ?_ rfl rfl rfl rfl h.quota⟩
      have := (hb.set 7 (.int .i64 n)).set 7 (.int .i64 (-1))
      unfold RCells
      simp only [hl]
      exact this
    clear h hb hl
    go_enter Try.func18, Try.ntmps18
    go_wp2
    go_end0
    exact ⟨rfl, H.out⟩
  · rw [if_neg hn] at hl
    have H : Hid (Only O w (w.setCell ⟨c.d, 7, none⟩ (.int .i64 n)) ∧ RAt (w.setCell ⟨c.d, 7, none⟩ (.int .i64 n)) c O { m with fault := DModel.lay n }) := by
      have k : Only (· = c.d) w (w.setCell ⟨c.d, 7, none⟩ (.int .i64 n)) := (Only.refl (fun x => x = c.d) w).setCell (fun _ => rfl) _
      refine ⟨k.mono (fun j _ e => e ▸ h.oD), h.scal k ?_ rfl rfl rfl rfl h.quota⟩
      have := hb.set 7 (.int .i64 n)
      unfold RCells
      simp only [hl]
      exact this
    clear h hb hl
    go_enter Try.func18, Try.ntmps18
    go_wp2
    go_end0
    exact ⟨rfl, H.out⟩
end

theorem rbad_any (n : List UInt8) (w : World) : Calls Try.prog 81 #[.string ⟨n.toArray⟩] w fun e w' => e = .returned (.bool (!(namedB n))) ∧ w' = w := by
  have hsz : (⟨n.toArray⟩ : ByteArray).size = n.length := by simp [ByteArray.size]
  cases n with
  | nil =>
    go_enter Try.func81, Try.ntmps81
    go_wp2
    go_ret
    exact ⟨rfl, rfl⟩
  | cons x r =>
    have hne : (x :: r == ([] : List UInt8)) = false := rfl
    obtain ⟨L, hL⟩ : ∃ L, (x :: r).length = L := ⟨_, rfl⟩
    have hL1 : 1 ≤ L := by rw [← hL]; simp
    have hB : Hid (namedB (x :: r) = decide (L ≤ 60)) := by
      show namedB (x :: r) = _
      unfold namedB
      rw [hL]
      simp [hL1]
    rw [hL] at hsz
    rw [hB.out]
    by_cases h60 : 60 < L
    · have d1 : decide ((60 : Int) < (L : Int)) = true := by simp; omega
      rw [show decide (L ≤ 60) = false from decide_eq_false (by omega)]
      clear hL
      go_enter Try.func81, Try.ntmps81
      go_wp2
      go_ret
      exact ⟨by first | rfl | (simp; omega), rfl⟩
    · have d1 : decide ((60 : Int) < (L : Int)) = false := by simp; omega
      rw [show decide (L ≤ 60) = true from decide_eq_true (by omega)]
      clear hL
      go_enter Try.func81, Try.ntmps81
      go_wp2
      go_ret
      exact ⟨by first | rfl | (simp; omega), rfl⟩
end Go.Proofs.Ytpjedcfdchebgaa
