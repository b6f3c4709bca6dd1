/-
  A change of distance, put by its width.
-/
import Derived.Test.YtghofnopdcklnaaSrise
namespace Go.Proofs.Ytghofnopdcklnaa
open Go.RowKit Go.Proofs.Lys
set_option linter.unusedVariables false

theorem foot_two {w w1 w2 w3 : World} {b : Nat} {v v1 : Value} (h0 : Kept w w1) (h1 : Only (Foot b v) w1 w2) (hn : ∀ k, v1.ownBlock = some k → v.ownBlock = some k ∨ w1.heap.size ≤ k) (h2 : Only (Foot b v1) w2 w3) : Only (Foot b v) w w3 := by
  refine ((h0.mono (fun _ _ f => f.elim)).trans h1 (fun _ _ e => e)).trans h2 (fun j hj e => ?_)
  rcases e with e | e
  · exact .inl e
  · rcases hn j e with e' | e'
    · exact .inr e'
    · have := h0.size
      omega
theorem encE_at {e : Int} {k : Nat} (h : wk e = k) : encE e = mkB k ++ bitsL (uN (e + ws k)) (wb k) := by rw [encE, h]

/-- How a width's mark and bits are laid. -/
theorem two_puts {l : List Bool} {e : Int} {k m : Nat} {X : Int} (h : wk e = k) (hm : mkB k = bitsL (uN X) m) : l ++ encE e = (l ++ bitsL (uN X) m) ++ bitsL (uN (e + ws k)) (wb k) := by
  rw [encE_at h, hm, List.append_assoc]
theorem mk_0 : mkB 0 = bitsL (uN 0) 1 := by decide +kernel
theorem mk_1 : mkB 1 = bitsL (uN 2) 2 := by decide +kernel
theorem mk_2 : mkB 2 = bitsL (uN 6) 3 := by decide +kernel
theorem mk_3 : mkB 3 = bitsL (uN 14) 4 := by decide +kernel
theorem mk_4 : mkB 4 = bitsL (uN 15) 4 := by decide +kernel
theorem wk_spec (e : Int) : (wk e = 0 ∧ e = 0) ∨ (wk e = 1 ∧ e ≠ 0 ∧ -63 ≤ e ∧ e ≤ 64) ∨ (wk e = 2 ∧ e ≠ 0 ∧ ¬ (-63 ≤ e ∧ e ≤ 64) ∧ -255 ≤ e ∧ e ≤ 256) ∨ (wk e = 3 ∧ e ≠ 0 ∧ ¬ (-63 ≤ e ∧ e ≤ 64) ∧ ¬ (-255 ≤ e ∧ e ≤ 256) ∧ -2047 ≤ e ∧ e ≤ 2048) ∨
    (wk e = 4 ∧ e ≠ 0 ∧ ¬ (-63 ≤ e ∧ e ≤ 64) ∧ ¬ (-255 ≤ e ∧ e ≤ 256) ∧ ¬ (-2047 ≤ e ∧ e ≤ 2048)) := by
  unfold wk
  by_cases h0 : e = 0
  · simp [h0]
  · by_cases h1 : -63 ≤ e ∧ e ≤ 64
    · simp [h0, h1]
    · by_cases h2 : -255 ≤ e ∧ e ≤ 256
      · simp [h0, h1, h2]
      · by_cases h3 : -2047 ≤ e ∧ e ≤ 2048
        · simp [h0, h1, h2, h3]
        · simp [h0, h1, h2, h3]

set_option maxRecDepth 100000 in
set_option maxHeartbeats 1600000 in
theorem sput_any {w : World} {b : Nat} {v : Value} {l : List Bool} (h : WrAt w b v l) (e : Int) (h0 : -1000000000000000000 ≤ e) (h1 : e ≤ 1000000000000000000) (hl : l.length ≤ 900000) :
    Calls Try.prog 58 #[.pointer (some ⟨b, 0, none⟩), .int .i64 e] w fun e' w' => e' = .returned (.tuple #[]) ∧ ∃ v', WrAt w' b v' (l ++ encE e) ∧ Only (Foot b v) w w' ∧ ∀ k, v'.ownBlock = some k → v.ownBlock = some k ∨ w.heap.size ≤ k := by
  have hw := wk_spec e
  have HH := hid h
  clear h
  have i0 := width_0
  have i1 := width_1
  have i2 := width_2
  have i3 := width_3
  have i4 := width_4
  go_enter Try.func58, Try.ntmps58
  go_wp2_with fail
  refine (widths_any w).mono ?_
  rintro e' w1 ⟨rfl, k1⟩
  generalize tabV = T at i0 i1 i2 i3 i4 ⊢
  go_wp2_with fail
  go_loopw [7] (fun i wr => ∃ k : Nat, k ≤ wk e ∧ i = .int .i64 (k : Int) ∧ Kept w wr) (fun i _ => 5 - (intOf i).toNat)
  case atStart => exact ⟨0, Nat.zero_le _, rfl, k1⟩
  case round =>
    obtain ⟨k, hk, rfl, kr⟩ := hrel
    have hk4 : k = 0 ∨ k = 1 ∨ k = 2 ∨ k = 3 ∨ k = 4 := by omega
    have hlt : b < w.heap.size := HH.out.blk.lt
    have hvl : ∀ j, v.ownBlock = some j → j < w.heap.size := fun j hj => (HH.out.own.lt j hj).2
    have hsz := kr.size
    rcases hk4 with rfl | rfl | rfl | rfl | rfl
    · by_cases hf : wk e = 0
      · have f1 : 0 ≤ e := by omega
        have f2 : e ≤ 0 := by omega
        have f3 : e = 0 := by omega
        subst f3
        have HV := hid hvl
        have HF := hid hf
        clear hw hk hvl hf
        go_wp2_with fail
        refine (put_wr (HH.out.only (kr.alloc _) (fun f => f) (fun _ _ f => f)) 0 1 1 (.inr (.inr ⟨rfl, by decide⟩)) (by omega)).mono ?_
        rintro e' w2 ⟨rfl, v2, h2, k2, n2⟩
        have hone := k2.blk (Blk.new wr [.int .i64 0, .int .i64 0, .int .i64 0, .int .i64 1, .int .i64 0, .int .i64 0] 127) (fun f => by
          rcases f with f | f
          · omega
          · have := HV.out _ f
            omega)
        have c4 := hone.cell 4 rfl
        have c5 := hone.cell 5 rfl
        go_wp2_with fail
        refine (put_wr h2 0 0 0 (.inr (.inr ⟨rfl, by decide⟩)) (by simp [bitsL_length]; omega)).mono ?_
        rintro e' w3 ⟨rfl, v3, h3, k3, n3⟩
        go_wp2_with fail
        (try simp only [Exit.inBlock, Exit.then])
        refine bodyPost_ret (results_none rfl _ _ _) rfl ?_
        refine ⟨rfl, v3, ?_, foot_two (kr.alloc _) k2 n2 k3, ?_⟩
        · rw [two_puts HF.out mk_0]
          exact h3
        · intro j hj
          have h2s := k2.size
          rcases n3 j hj with h | h
          · rcases n2 j h with h' | h'
            · exact .inl h'
            · right
              simp at h'
              omega
          · right
            simp at h2s
            omega
      · have f1 : ¬ (0 ≤ e ∧ e ≤ 0) := by omega
        have hk' : 1 ≤ wk e := by omega
        have HK := hid hk'
        clear hw hk hk' hf
        by_cases f2 : 0 ≤ e
        · have f3 : ¬ e ≤ 0 := by omega
          go_wp2_with fail
          exact ⟨⟨1, HK.out, rfl, kr.alloc _⟩, by decide⟩
        · go_wp2_with fail
          exact ⟨⟨1, HK.out, rfl, kr.alloc _⟩, by decide⟩
    · by_cases hf : wk e = 1
      · have f1 : (-63) ≤ e := by omega
        have f2 : e ≤ 64 := by omega
        have HV := hid hvl
        have HF := hid hf
        clear hw hk hvl hf
        go_wp2_with fail
        refine (put_wr (HH.out.only (kr.alloc _) (fun f => f) (fun _ _ f => f)) 2 2 2 (.inr (.inr ⟨rfl, by decide⟩)) (by omega)).mono ?_
        rintro e' w2 ⟨rfl, v2, h2, k2, n2⟩
        have hone := k2.blk (Blk.new wr [.int .i64 (-63), .int .i64 64, .int .i64 2, .int .i64 2, .int .i64 63, .int .i64 7] 127) (fun f => by
          rcases f with f | f
          · omega
          · have := HV.out _ f
            omega)
        have c4 := hone.cell 4 rfl
        have c5 := hone.cell 5 rfl
        go_wp2_with fail
        refine (put_wr h2 (e + 63) 7 7 (.inr (.inr ⟨rfl, by decide⟩)) (by simp [bitsL_length]; omega)).mono ?_
        rintro e' w3 ⟨rfl, v3, h3, k3, n3⟩
        go_wp2_with fail
        (try simp only [Exit.inBlock, Exit.then])
        refine bodyPost_ret (results_none rfl _ _ _) rfl ?_
        refine ⟨rfl, v3, ?_, foot_two (kr.alloc _) k2 n2 k3, ?_⟩
        · rw [two_puts HF.out mk_1]
          exact h3
        · intro j hj
          have h2s := k2.size
          rcases n3 j hj with h | h
          · rcases n2 j h with h' | h'
            · exact .inl h'
            · right
              simp at h'
              omega
          · right
            simp at h2s
            omega
      · have f1 : ¬ ((-63) ≤ e ∧ e ≤ 64) := by omega
        have hk' : 2 ≤ wk e := by omega
        have HK := hid hk'
        clear hw hk hk' hf
        by_cases f2 : (-63) ≤ e
        · have f3 : ¬ e ≤ 64 := by omega
          go_wp2_with fail
          exact ⟨⟨2, HK.out, rfl, kr.alloc _⟩, by decide⟩
        · go_wp2_with fail
          exact ⟨⟨2, HK.out, rfl, kr.alloc _⟩, by decide⟩
    · by_cases hf : wk e = 2
      · have f1 : (-255) ≤ e := by omega
        have f2 : e ≤ 256 := by omega
        have HV := hid hvl
        have HF := hid hf
        clear hw hk hvl hf
        go_wp2_with fail
        refine (put_wr (HH.out.only (kr.alloc _) (fun f => f) (fun _ _ f => f)) 6 3 3 (.inr (.inr ⟨rfl, by decide⟩)) (by omega)).mono ?_
        rintro e' w2 ⟨rfl, v2, h2, k2, n2⟩
        have hone := k2.blk (Blk.new wr [.int .i64 (-255), .int .i64 256, .int .i64 6, .int .i64 3, .int .i64 255, .int .i64 9] 127) (fun f => by
          rcases f with f | f
          · omega
          · have := HV.out _ f
            omega)
        have c4 := hone.cell 4 rfl
        have c5 := hone.cell 5 rfl
        go_wp2_with fail
        refine (put_wr h2 (e + 255) 9 9 (.inr (.inr ⟨rfl, by decide⟩)) (by simp [bitsL_length]; omega)).mono ?_
        rintro e' w3 ⟨rfl, v3, h3, k3, n3⟩
        go_wp2_with fail
        (try simp only [Exit.inBlock, Exit.then])
        refine bodyPost_ret (results_none rfl _ _ _) rfl ?_
        refine ⟨rfl, v3, ?_, foot_two (kr.alloc _) k2 n2 k3, ?_⟩
        · rw [two_puts HF.out mk_2]
          exact h3
        · intro j hj
          have h2s := k2.size
          rcases n3 j hj with h | h
          · rcases n2 j h with h' | h'
            · exact .inl h'
            · right
              simp at h'
              omega
          · right
            simp at h2s
            omega
      · have f1 : ¬ ((-255) ≤ e ∧ e ≤ 256) := by omega
        have hk' : 3 ≤ wk e := by omega
        have HK := hid hk'
        clear hw hk hk' hf
        by_cases f2 : (-255) ≤ e
        · have f3 : ¬ e ≤ 256 := by omega
          go_wp2_with fail
          exact ⟨⟨3, HK.out, rfl, kr.alloc _⟩, by decide⟩
        · go_wp2_with fail
          exact ⟨⟨3, HK.out, rfl, kr.alloc _⟩, by decide⟩
    · by_cases hf : wk e = 3
      · have f1 : (-2047) ≤ e := by omega
        have f2 : e ≤ 2048 := by omega
        have HV := hid hvl
        have HF := hid hf
        clear hw hk hvl hf
        go_wp2_with fail
        refine (put_wr (HH.out.only (kr.alloc _) (fun f => f) (fun _ _ f => f)) 14 4 4 (.inr (.inr ⟨rfl, by decide⟩)) (by omega)).mono ?_
        rintro e' w2 ⟨rfl, v2, h2, k2, n2⟩
        have hone := k2.blk (Blk.new wr [.int .i64 (-2047), .int .i64 2048, .int .i64 14, .int .i64 4, .int .i64 2047, .int .i64 12] 127) (fun f => by
          rcases f with f | f
          · omega
          · have := HV.out _ f
            omega)
        have c4 := hone.cell 4 rfl
        have c5 := hone.cell 5 rfl
        go_wp2_with fail
        refine (put_wr h2 (e + 2047) 12 12 (.inr (.inr ⟨rfl, by decide⟩)) (by simp [bitsL_length]; omega)).mono ?_
        rintro e' w3 ⟨rfl, v3, h3, k3, n3⟩
        go_wp2_with fail
        (try simp only [Exit.inBlock, Exit.then])
        refine bodyPost_ret (results_none rfl _ _ _) rfl ?_
        refine ⟨rfl, v3, ?_, foot_two (kr.alloc _) k2 n2 k3, ?_⟩
        · rw [two_puts HF.out mk_3]
          exact h3
        · intro j hj
          have h2s := k2.size
          rcases n3 j hj with h | h
          · rcases n2 j h with h' | h'
            · exact .inl h'
            · right
              simp at h'
              omega
          · right
            simp at h2s
            omega
      · have f1 : ¬ ((-2047) ≤ e ∧ e ≤ 2048) := by omega
        have hk' : 4 ≤ wk e := by omega
        have HK := hid hk'
        clear hw hk hk' hf
        by_cases f2 : (-2047) ≤ e
        · have f3 : ¬ e ≤ 2048 := by omega
          go_wp2_with fail
          exact ⟨⟨4, HK.out, rfl, kr.alloc _⟩, by decide⟩
        · go_wp2_with fail
          exact ⟨⟨4, HK.out, rfl, kr.alloc _⟩, by decide⟩
    · by_cases hf : wk e = 4
      · have f1 : (-9223372036854775808) ≤ e := by omega
        have f2 : e ≤ 9223372036854775807 := by omega
        have HV := hid hvl
        have HF := hid hf
        clear hw hk hvl hf
        go_wp2_with fail
        refine (put_wr (HH.out.only (kr.alloc _) (fun f => f) (fun _ _ f => f)) 15 4 4 (.inr (.inr ⟨rfl, by decide⟩)) (by omega)).mono ?_
        rintro e' w2 ⟨rfl, v2, h2, k2, n2⟩
        have hone := k2.blk (Blk.new wr [.int .i64 (-9223372036854775808), .int .i64 9223372036854775807, .int .i64 15, .int .i64 4, .int .i64 0, .int .i64 64] 127) (fun f => by
          rcases f with f | f
          · omega
          · have := HV.out _ f
            omega)
        have c4 := hone.cell 4 rfl
        have c5 := hone.cell 5 rfl
        go_wp2_with fail
        refine (put_wr h2 e 64 64 (.inr (.inr ⟨rfl, by decide⟩)) (by simp [bitsL_length]; omega)).mono ?_
        rintro e' w3 ⟨rfl, v3, h3, k3, n3⟩
        go_wp2_with fail
        (try simp only [Exit.inBlock, Exit.then])
        refine bodyPost_ret (results_none rfl _ _ _) rfl ?_
        refine ⟨rfl, v3, ?_, foot_two (kr.alloc _) k2 n2 k3, ?_⟩
        · rw [two_puts HF.out mk_4, show e + ws 4 = e from Int.add_zero e]
          exact h3
        · intro j hj
          have h2s := k2.size
          rcases n3 j hj with h | h
          · rcases n2 j h with h' | h'
            · exact .inl h'
            · right
              simp at h'
              omega
          · right
            simp at h2s
            omega
      · omega
end Go.Proofs.Ytghofnopdcklnaa
