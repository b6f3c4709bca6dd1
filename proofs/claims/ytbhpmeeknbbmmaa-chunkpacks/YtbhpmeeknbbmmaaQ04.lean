/-
  Bref3, Blaw.
-/
import Derived.Test.YtbhpmeeknbbmmaaQ03
import Derived.Deep.RegionHeld3

/-
  The document's own reader of bits.
-/
namespace Go.Proofs.Ytbhpmeeknbbmmaa
open Go.RowKit Go.Proofs.Lys
set_option linter.unusedVariables false

structure RrAt (w : World) (b : Nat) (v : Value) (l : List Bool) (t : Nat) : Prop where
  blk : Blk w b [v, .int .i64 (t : Int)] 95
  own : w.ownsRow 0 4 1 v l.length (l.map tV)
  len : l.length ≤ 100000000
  top : t ≤ l.length
theorem RrAt.only {w w' : World} {O : Nat → Prop} {b : Nat} {v : Value} {l : List Bool} {t : Nat} (h : RrAt w b v l t) (k : Only O w w') (hb : ¬ O b) (hv : ∀ j, v.ownBlock = some j → ¬ O j) : RrAt w' b v l t :=
  ⟨k.blk h.blk hb, own_only h.own k hv, h.len, h.top⟩
theorem RrAt.apart {w : World} {b : Nat} {v : Value} {l : List Bool} {t : Nat} (h : RrAt w b v l t) {j : Nat} (hj : v.ownBlock = some j) : j ≠ b := (own_typed h.own hj).ne h.blk.typed (by decide)

section
variable {w : World} {b : Nat} {v : Value} {l : List Bool} {t : Nat}

theorem rget_arg (h : RrAt w b v l t) (N : Int) (hN : N < 0 ∨ 64 < N) :
    Calls Try.prog 51 #[.pointer (some ⟨b, 0, none⟩), .int .i64 N] w fun e w' => e = .returned (.tuple #[.int .i64 0, .int .i64 1]) ∧ Kept w w' := by
  rcases hN with hN | hN
  · go_enter Try.func51, Try.ntmps51
    go_wp2
    go_ret2
    exact ⟨rfl, Only.refl _ _⟩
  · have hN' : ¬ N < 0 := by omega
    go_enter Try.func51, Try.ntmps51
    go_wp2
    go_ret2
    exact ⟨rfl, Only.refl _ _⟩

theorem rget_few (h : RrAt w b v l t) (N : Nat) (hN : l.length - t < N) (hN2 : N ≤ 64) :
    Calls Try.prog 51 #[.pointer (some ⟨b, 0, none⟩), .int .i64 (N : Int)] w fun e w' => e = .returned (.tuple #[.int .i64 0, .int .i64 5]) ∧ Kept w w' := by
  obtain ⟨a, c, rfl⟩ := own_slice h.own
  have c0 := h.blk.cell 0 rfl
  have c1 := h.blk.cell 1 rfl
  have hl := h.len
  have ht := h.top
  generalize l.length = L at c0 hl ht hN
  clear h
  go_enter Try.func51, Try.ntmps51
  go_wp2
  go_region
  go_wp2
  go_ret2
  exact ⟨rfl, (Only.refl _ _).drew⟩

theorem val_bit (V : Nat) (h : V < 9223372036854775808) : ∃ D : Nat, D = 2 * V ∧ IntKind.u64.wrap ((V : Int) * 2) = (D : Int) ∧ bits .or .u64 (D : Int) 1 = (D : Int) + 1 := by
  refine ⟨2 * V, rfl, ?_, ?_⟩
  · rw [show (V : Int) * 2 = ((2 * V : Nat) : Int) by omega]
    exact wrap_nat _ (by omega)
  · rw [show ((1 : Int)) = ((1 : Nat) : Int) from rfl, u64_or_nat _ _ (by omega) (by decide)]
    have := Nat.two_pow_add_eq_or_of_lt (i := 1) (b := 1) (by decide) V
    rw [Nat.pow_one] at this
    omega

set_option maxHeartbeats 800000 in
theorem rget_any (h : RrAt w b v l t) (N : Nat) (hN : t + N ≤ l.length) (hN2 : N ≤ 64) :
    Calls Try.prog 51 #[.pointer (some ⟨b, 0, none⟩), .int .i64 (N : Int)] w fun e w' => e = .returned (.tuple #[.int .i64 (wrap64 ((valL ((l.drop t).take N) : Nat) : Int)), .int .i64 0]) ∧ Only (· = b) w w' ∧ RrAt w' b v l (t + N) := by
  obtain ⟨a, c, rfl⟩ := own_slice h.own
  have c0 := h.blk.cell 0 rfl
  have c1 := h.blk.cell 1 rfl
  have f1 := h.blk.frozen 1
  have hl := h.len
  have H := hid h
  obtain ⟨L, hL⟩ : ∃ L, l.length = L := ⟨_, rfl⟩
  rw [hL] at c0 hl hN
  have HL := hid hL
  have d0 : decide (64 < (N : Int)) = false := by simp; omega
  have d1 : decide ((L : Int) - (t : Int) < (N : Int)) = false := by simp; omega
  clear h hL
  go_enter Try.func51, Try.ntmps51
  go_wp2
  go_region
  go_wp2
  go_loopw [6, 7] (fun p i wr => ∃ (k V : Nat), k ≤ N ∧ i = .int .i64 (k : Int) ∧ p = .int .u64 (V : Int) ∧ V = valL ((l.drop t).take k) ∧ Kept w wr) (fun _ i _ => N - (intOf i).toNat)
  case atStart => exact ⟨0, 0, by omega, rfl, rfl, rfl, (Only.refl _ _).drew⟩
  case round =>
    obtain ⟨k, V, hk, rfl, rfl, hV, hkept⟩ := hrel
    have hR := H.out.only hkept (fun f => f) (fun _ _ f => f)
    rw [HL.out] at hR
    have r0 := hR.blk.cell 0 rfl
    have r1 := hR.blk.cell 1 rfl
    have g1 := hR.blk.frozen 1
    have HR := hid hR
    have HK := hid hkept
    have HV := hid hV
    clear c0 c1 f1
    by_cases hlt : k < N
    · obtain ⟨g, cap, hg⟩ := own_some hR.own (by have := HL.out; omega)
      cases hg
      have hkl : t + k < l.length := by have := HL.out; omega
      have hc : wr.cell? ⟨g, t + k, none⟩ = some (.bool l[t + k]) := by
        rw [hR.own.cellAt (t + k) (by omega), List.getElem?_map, List.getElem?_eq_getElem hkl]
        rfl
      have hVl : V < 9223372036854775808 := by
        have h1 := valL_lt ((l.drop t).take k)
        rw [← hV] at h1
        refine Nat.lt_of_lt_of_le h1 ?_
        rw [show (9223372036854775808 : Nat) = 2 ^ 63 by decide]
        exact Nat.pow_le_pow_right (by decide) (by rw [List.length_take]; omega)
      have HS : Hid (valL ((l.drop t).take (k + 1)) = 2 * V + l[t + k].toNat) := by
        show _ = _
        rw [List.take_succ_eq_append_getElem (by rw [List.length_drop]; omega), valL_snoc, ← hV, List.getElem_drop]
      obtain ⟨B, hB⟩ : ∃ B, l[t + k] = B := ⟨_, rfl⟩
      rw [hB] at hc HS
      clear hB hR hkept hV
      obtain ⟨D, hD, v1, v2⟩ := val_bit V hVl
      have HD := hid hD
      clear hD
      cases B
      · go_wp2
        go_region
        go_wp2
        go_roundw
        case rel => exact ⟨k + 1, D, by omega, by go_num, rfl, by rw [HS.out, HD.out]; rfl, HK.out.drew⟩
        case measure => simp [intOf]; omega
      · go_wp2
        go_region
        go_wp2
        go_roundw
        case rel => exact ⟨k + 1, D + 1, by omega, by go_num, by go_num, by rw [HS.out, HD.out]; rfl, HK.out.drew⟩
        case measure => simp [intOf]; omega
    · have hkN : k = N := by omega
      have HE : Hid (V = valL ((l.drop t).take N)) := by rw [← hkN]; exact hV
      clear hR hkept hV hkN
      go_wp2
      go_ret2
      refine ⟨?_, ?_, ?_⟩
      · rw [← HE.out]
        rfl
      · exact Only.setCell (O := (· = b)) (p := ⟨b, 1, none⟩) (HK.out.mono (fun _ _ f => f.elim)) (fun _ => rfl) _
      · have hk2 : Only (· = b) w (wr.setCell ⟨b, 1, none⟩ (.int .i64 ((t : Int) + (N : Int)))) := Only.setCell (O := (· = b)) (p := ⟨b, 1, none⟩) (HK.out.mono (fun _ _ f => f.elim)) (fun _ => rfl) _
        have h2 := HR.out.blk.set 1 (.int .i64 ((t : Int) + (N : Int)))
        refine ⟨?_, own_only H.out.own hk2 (fun j hj e => H.out.apart hj e), H.out.len, by have := HL.out; omega⟩
        rw [show ((t + N : Nat) : Int) = (t : Int) + (N : Int) by omega, HL.out]
        exact h2
end
end Go.Proofs.Ytbhpmeeknbbmmaa

/-
  A writer and a reader, call by call; the document's example.
-/
namespace Go.Proofs.Ytbhpmeeknbbmmaa
open Go.RowKit Go.Proofs.Lys
set_option linter.unusedVariables false

/-- A writer that has these bits. -/
structure WrAt (w : World) (b : Nat) (v : Value) (l : List Bool) : Prop where
  blk : Blk w b [v, .int .i64 (l.length : Int)] 70
  own : w.ownsRow 0 5 1 v ((l.length + 7) / 8) ((packL l).map bV)

theorem WrAt.only {w w' : World} {O : Nat → Prop} {b : Nat} {v : Value} {l : List Bool} (h : WrAt w b v l) (k : Only O w w') (hb : ¬ O b) (hv : ∀ j, v.ownBlock = some j → ¬ O j) : WrAt w' b v l := ⟨k.blk h.blk hb, own_only h.own k hv⟩
theorem WrAt.new (w : World) : WrAt (w.alloc (.cells #[.slice none 0 0, .int .i64 0] 70)) w.heap.size (.slice none 0 0) [] := ⟨Blk.new w [.slice none 0 0, .int .i64 0] _, World.ownsRow_nil _ _ _ _⟩
theorem WrAt.src {w : World} {b : Nat} {v : Value} {l : List Bool} (h : WrAt w b v l) : SrcOf w v ((packL l).map bV) := own_src h.own

/-- What a call that puts may turn: the writer, its row. -/
abbrev Foot (b : Nat) (v : Value) (k : Nat) : Prop := k = b ∨ v.ownBlock = some k

theorem put_wr {w : World} {b : Nat} {v : Value} {l : List Bool} (h : WrAt w b v l) (x N : Int) (n : Nat) (hN : (N < 0 ∧ n = 0) ∨ (64 < N ∧ n = 64) ∨ (N = n ∧ n ≤ 64)) (hl : l.length ≤ 1000000) :
    Calls Try.prog 37 #[.pointer (some ⟨b, 0, none⟩), .int .i64 x, .int .i64 N] w fun e w' => e = .returned (.tuple #[]) ∧ ∃ v', WrAt w' b v' (l ++ bitsL (uN x) n) ∧ Only (Foot b v) w w' ∧ ∀ k, v'.ownBlock = some k → v.ownBlock = some k ∨ w.heap.size ≤ k := by
  refine (put_any w b v l x N n hN ⟨rfl, h.blk, h.own, Only.refl _ _, fun k hk => .inl hk⟩ hl).mono ?_
  rintro e w' ⟨rfl, v', hi⟩
  have e2 : (l ++ bitsL (uN x) n).length = l.length + n := by rw [List.length_append, bitsL_length]
  refine ⟨rfl, v', ⟨?_, ?_⟩, hi.only, hi.new⟩
  · rw [e2]; exact hi.blk
  · rw [e2]; exact hi.own

/-- The document's own writer. -/
structure RwAt (w : World) (b : Nat) (v : Value) (l : List Bool) : Prop where
  blk : Blk w b [v] 85
  own : w.ownsRow 0 4 1 v l.length (l.map tV)
theorem RwAt.only {w w' : World} {O : Nat → Prop} {b : Nat} {v : Value} {l : List Bool} (h : RwAt w b v l) (k : Only O w w') (hb : ¬ O b) (hv : ∀ j, v.ownBlock = some j → ¬ O j) : RwAt w' b v l := ⟨k.blk h.blk hb, own_only h.own k hv⟩
theorem RwAt.new (w : World) : RwAt (w.alloc (.cells #[.slice none 0 0] 85)) w.heap.size (.slice none 0 0) [] := ⟨Blk.new w [.slice none 0 0] _, World.ownsRow_nil _ _ _ _⟩
theorem put_rw {w : World} {b : Nat} {v : Value} {l : List Bool} (h : RwAt w b v l) (x N : Int) (n : Nat) (hN : (N < 0 ∧ n = 0) ∨ (64 < N ∧ n = 64) ∨ (N = n ∧ n ≤ 64)) (hl : l.length ≤ 1000000) :
    Calls Try.prog 42 #[.pointer (some ⟨b, 0, none⟩), .int .i64 x, .int .i64 N] w fun e w' => e = .returned (.tuple #[]) ∧ ∃ v', RwAt w' b v' (l ++ bitsL (uN x) n) ∧ Only (Foot b v) w w' ∧ ∀ k, v'.ownBlock = some k → v.ownBlock = some k ∨ w.heap.size ≤ k := by
  refine (rput_any w b v l x N n hN ⟨h.blk, h.own, Only.refl _ _, fun k hk => .inl hk⟩ hl).mono ?_
  rintro e w' ⟨rfl, v', hi⟩
  exact ⟨rfl, v', ⟨hi.blk, hi.own⟩, hi.only, hi.new⟩

end Go.Proofs.Ytbhpmeeknbbmmaa
