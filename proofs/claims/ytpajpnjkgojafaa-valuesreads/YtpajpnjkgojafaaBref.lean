/-
  The document's own bits: put, and their bytes.
-/
import Derived.Test.YtpajpnjkgojafaaBread
namespace Go.Proofs.Ytpajpnjkgojafaa
open Go.RowKit Go.Proofs.Lys
set_option linter.unusedVariables false

theorem Try.infoT : (Try.prog.info? 4).map (fun i => (i.zero, i.size, i.bytes)) = some (some (.bool false), 1, 1) := by kernel_rfl

/-- The document's own writer, and what has turned since. -/
structure RwIn (w0 : World) (b : Nat) (v0 : Value) (w : World) (v : Value) (lr : List Bool) : Prop where
  blk : Blk w b [v] 52
  own : w.ownsRow 0 4 1 v lr.length (lr.map tV)
  only : Only (fun k => k = b ∨ v0.ownBlock = some k) w0 w
  new : ∀ k, v.ownBlock = some k → v0.ownBlock = some k ∨ w0.heap.size ≤ k

theorem and_one (U k : Nat) (hU : U < 18446744073709551616) : (bits .and .u64 ((U : Int) / 2 ^ k) 1 == 1) = U.testBit k := by
  have e : (U : Int) / 2 ^ k = ((U / 2 ^ k : Nat) : Int) := by simp
  have hlt : U / 2 ^ k < 18446744073709551616 := Nat.lt_of_le_of_lt (Nat.div_le_self _ _) hU
  have h2 := u64_and_nat (U / 2 ^ k) 1 hlt (by decide)
  rw [e, show ((1 : Int)) = ((1 : Nat) : Int) from rfl, h2, Nat.and_one_is_mod, ← Nat.shiftRight_eq_div_pow]
  have h3 : U.testBit k = (U >>> k % 2 != 0) := by
    unfold Nat.testBit
    rw [Nat.and_comm, Nat.and_one_is_mod]
  rw [h3]
  rcases Nat.mod_two_eq_zero_or_one (U >>> k) with h4 | h4 <;> rw [h4] <;> rfl
theorem uN_lt (x : Int) : uN x < 18446744073709551616 := by
  unfold uN
  have := Int.emod_nonneg x (b := 18446744073709551616) (by decide)
  have := Int.emod_lt_of_pos x (b := 18446744073709551616) (by decide)
  omega

/-- One bit more. -/
theorem rw_step {w wr : World} {b : Nat} {v vr : Value} {lr : List Bool} (h : RwIn w b v wr vr lr) (hl : lr.length ≤ 1000064) (B : Bool) :
    ∃ g cap w1, Hid ((Builtin.append_ #[50, 50] 0 #[vr, .slice (some ⟨wr.heap.size, 0, none⟩) 1 1]).run Try.prog (wr.alloc (.cells #[.bool B] 4)) = .ok (.slice (some ⟨g, 0, none⟩) (lr.length + 1) cap) w1) ∧ Hid (RwIn w b v (w1.setCell ⟨b, 0, none⟩ (.slice (some ⟨g, 0, none⟩) (lr.length + 1) cap)) (.slice (some ⟨g, 0, none⟩) (lr.length + 1) cap) (lr ++ [B])) ∧ (∃ u, w1.cell? ⟨b, 0, none⟩ = some u) ∧ w1.frozen? ⟨b, 0, none⟩ = false := by
  obtain ⟨hblk, hown, hon, hnew⟩ := h
  have hne : vr.ownBlock ≠ some b := fun e => (own_typed hown e).ne hblk.typed (by decide) rfl
  obtain ⟨v', w1, hrun, hown1, hgrow, hat⟩ := append_src (P := Try.prog) (xv := .slice (some ⟨wr.heap.size, 0, none⟩) 1 1) (ys := [.bool B]) Try.underlying50 Try.infoT rfl (by decide) (hown.alloc (.cells #[.bool B] 4)) (own_src (World.ownsRow_lit wr #[.bool B] 1 (Nat.zero_le _) (by decide) rfl)) (by intro u hu; simp at hu; subst hu; rfl) (by simp; omega) (Nat.zero_le _)
  have hb1 : Blk w1 b [vr] 52 := (hblk.alloc _).of_block (hgrow.block b (hblk.alloc _).lt (fun e => hne e.symm))
  have hlb := hblk.lt
  obtain ⟨g, cap, rfl⟩ := own_some hown1 (by simp)
  refine ⟨g, cap, w1, hrun, ⟨hb1.set 0 _, ?_, ?_, ?_⟩, ⟨vr, hb1.cell 0 rfl⟩, hb1.frozen 0⟩
  · have e1 : (lr ++ [B]).length = lr.length + [Value.bool B].length := by simp
    have e2 : (lr ++ [B]).map tV = lr.map tV ++ [Value.bool B] := by simp [tV]
    rw [e1, e2]
    exact own_block hown1 (fun j hj => Below.heap_setCell _ _ _ _ (by
      show j ≠ b
      rintro rfl
      exact (own_typed hown1 hj).ne hb1.typed (by decide) rfl))
  · exact ((hon.alloc _).grown hgrow (fun j hj hlt => (hnew j hj).elim (fun e => .inr e) (fun e => absurd hlt (by omega)))).setCell (fun _ => .inl rfl) _
  · intro k hk
    have hk' : g = k := by simpa [Value.ownBlock] using hk
    subst hk'
    rcases hat with e | e
    · exact hnew g e.symm
    · have : g = wr.heap.size + 1 := by simpa [Value.ownBlock] using e
      have := hon.size
      exact .inr (by omega)

set_option maxRecDepth 100000 in
set_option maxHeartbeats 1600000 in
theorem rput_any (w : World) (b : Nat) (v : Value) (l : List Bool) (x N : Int) (n : Nat) (hN : (N < 0 ∧ n = 0) ∨ (64 < N ∧ n = 64) ∨ (N = n ∧ n ≤ 64)) (h : RwIn w b v w v l) (hl : l.length ≤ 1000000) :
    Calls Try.prog 16 #[.pointer (some ⟨b, 0, none⟩), .int .i64 x, .int .i64 N] w fun e w' => e = .returned (.tuple #[]) ∧ ∃ v', RwIn w b v w' v' (l ++ bitsL (uN x) n) := by
  have hU := uN_wrap x
  have hUl := uN_lt x
  generalize uN x = U at hU hUl ⊢
  have HI := hid h
  clear h
  have hn : n ≤ 64 := by omega
  rcases hN with ⟨h1, h2⟩ | ⟨h1, h2⟩ | ⟨h1, h2⟩
  · subst h2
    have hE : Hid (∃ v', RwIn w b v w v' (l ++ bitsL U 0)) := ⟨v, by rw [bitsL_zero, List.append_nil]; exact HI.out⟩
    clear HI
    go_enter Try.func16, Try.ntmps16
    go_wp2
    refine wp_loop_rounds 1 ?_
    rw [rounds_succ]
    go_wp2
    go_end0
    exact ⟨rfl, hE.out⟩
  · subst h2
    have d0 : decide (N < 0) = false := by simp; omega
    have d1 : decide (64 < N) = true := by simp; omega
    go_enter Try.func16, Try.ntmps16
    go_wp2
    go_loopw [6] (fun t wr => ∃ (m : Nat) (z : Int) (vr : Value) (lr : List Bool), m ≤ 64 ∧ z = (m : Int) - 1 ∧ t = .int .i64 z ∧ lr.length + m = l.length + 64 ∧ RwIn w b v wr vr lr ∧ lr ++ bitsL U m = l ++ bitsL U 64) (fun t _ => (intOf t + 1).toNat)
    case atStart => exact ⟨64, _, v, l, hn, rfl, by go_num, rfl, HI.out, rfl⟩
    case round =>
      obtain ⟨m, z, vr, lr, hm, hz, rfl, hLm, hI, hbits⟩ := hrel
      have HB := hid hbits
      clear hbits
      by_cases h0 : m = 0
      · subst h0
        have hE : Hid (∃ v', RwIn w b v wr v' (l ++ bitsL U 64)) := by
          have := HB.out
          rw [bitsL_zero, List.append_nil] at this
          exact ⟨vr, by rw [← this]; exact hI⟩
        clear hI
        have hz0 : z < 0 := by omega
        clear hz
        go_wp2
        go_end0
        exact ⟨rfl, hE.out⟩
      obtain ⟨k, rfl⟩ : ∃ k, m = k + 1 := ⟨m - 1, by omega⟩
      obtain rfl : z = (k : Int) := by omega
      have hbit := and_one U k hUl
      obtain ⟨B, hB⟩ : ∃ B, U.testBit k = B := ⟨_, rfl⟩
      have HBt := hid hB
      rw [hB] at hbit
      clear hB
      obtain ⟨g, cap, w1, Hr, HR, ⟨u, c1⟩, f1⟩ := rw_step hI (by omega) B
      have c0 := hI.blk.cell 0 rfl
      have hlb := hI.blk.lt
      have HL := hid hLm
      clear hz hI hLm
      go_wp2_with (at_builtin; refine wpList_append_run rfl _ _ _ rfl rfl rfl Hr ?_)
      go_roundw
      case rel => exact ⟨k, _, _, lr ++ [B], by omega, rfl, by go_num, by have := HL.out; rw [List.length_append]; simp; omega, HR.out, by rw [List.append_assoc, ← HB.out, bitsL_succ, HBt.out]; rfl⟩
      case measure => simp [intOf]
  · subst h1
    have d0 : decide ((n : Int) < 0) = false := by simp
    have d1 : decide (64 < (n : Int)) = false := by simp; omega
    go_enter Try.func16, Try.ntmps16
    go_wp2
    go_loopw [6] (fun t wr => ∃ (m : Nat) (z : Int) (vr : Value) (lr : List Bool), m ≤ 64 ∧ z = (m : Int) - 1 ∧ t = .int .i64 z ∧ lr.length + m = l.length + n ∧ RwIn w b v wr vr lr ∧ lr ++ bitsL U m = l ++ bitsL U n) (fun t _ => (intOf t + 1).toNat)
    case atStart => exact ⟨n, _, v, l, hn, rfl, by go_num, rfl, HI.out, rfl⟩
    case round =>
      obtain ⟨m, z, vr, lr, hm, hz, rfl, hLm, hI, hbits⟩ := hrel
      have HB := hid hbits
      clear hbits
      by_cases h0 : m = 0
      · subst h0
        have hE : Hid (∃ v', RwIn w b v wr v' (l ++ bitsL U n)) := by
          have := HB.out
          rw [bitsL_zero, List.append_nil] at this
          exact ⟨vr, by rw [← this]; exact hI⟩
        clear hI
        have hz0 : z < 0 := by omega
        clear hz
        go_wp2
        go_end0
        exact ⟨rfl, hE.out⟩
      obtain ⟨k, rfl⟩ : ∃ k, m = k + 1 := ⟨m - 1, by omega⟩
      obtain rfl : z = (k : Int) := by omega
      have hbit := and_one U k hUl
      obtain ⟨B, hB⟩ : ∃ B, U.testBit k = B := ⟨_, rfl⟩
      have HBt := hid hB
      rw [hB] at hbit
      clear hB
      obtain ⟨g, cap, w1, Hr, HR, ⟨u, c1⟩, f1⟩ := rw_step hI (by omega) B
      have c0 := hI.blk.cell 0 rfl
      have hlb := hI.blk.lt
      have HL := hid hLm
      clear hz hI hLm
      go_wp2_with (at_builtin; refine wpList_append_run rfl _ _ _ rfl rfl rfl Hr ?_)
      go_roundw
      case rel => exact ⟨k, _, _, lr ++ [B], by omega, rfl, by go_num, by have := HL.out; rw [List.length_append]; simp; omega, HR.out, by rw [List.append_assoc, ← HB.out, bitsL_succ, HBt.out]; rfl⟩
      case measure => simp [intOf]
end Go.Proofs.Ytpajpnjkgojafaa
