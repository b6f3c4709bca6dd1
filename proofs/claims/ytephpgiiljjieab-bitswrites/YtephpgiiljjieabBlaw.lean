/-
  A writer and a reader, call by call; the document's example.
-/
import Derived.Test.YtephpgiiljjieabBget
import Derived.Test.YtephpgiiljjieabBref3
import Derived.Deep.RegionHeld3
namespace Go.Proofs.Ytephpgiiljjieab
open Go.RowKit Go.Proofs.Lys
set_option linter.unusedVariables false

/-- A writer that has these bits. -/
structure WrAt (w : World) (b : Nat) (v : Value) (l : List Bool) : Prop where
  blk : Blk w b [v, .int .i64 (l.length : Int)] 42
  own : w.ownsRow 0 5 1 v ((l.length + 7) / 8) ((packL l).map bV)

theorem WrAt.only {w w' : World} {O : Nat → Prop} {b : Nat} {v : Value} {l : List Bool} (h : WrAt w b v l) (k : Only O w w') (hb : ¬ O b) (hv : ∀ j, v.ownBlock = some j → ¬ O j) : WrAt w' b v l := ⟨k.blk h.blk hb, own_only h.own k hv⟩
theorem WrAt.new (w : World) : WrAt (w.alloc (.cells #[.slice none 0 0, .int .i64 0] 42)) w.heap.size (.slice none 0 0) [] := ⟨Blk.new w [.slice none 0 0, .int .i64 0] _, World.ownsRow_nil _ _ _ _⟩
theorem WrAt.src {w : World} {b : Nat} {v : Value} {l : List Bool} (h : WrAt w b v l) : SrcOf w v ((packL l).map bV) := own_src h.own

/-- What a call that puts may turn: the writer, its row. -/
abbrev Foot (b : Nat) (v : Value) (k : Nat) : Prop := k = b ∨ v.ownBlock = some k

theorem put_wr {w : World} {b : Nat} {v : Value} {l : List Bool} (h : WrAt w b v l) (x N : Int) (n : Nat) (hN : (N < 0 ∧ n = 0) ∨ (64 < N ∧ n = 64) ∨ (N = n ∧ n ≤ 64)) (hl : l.length ≤ 1000000) :
    Calls Try.prog 20 #[.pointer (some ⟨b, 0, none⟩), .int .i64 x, .int .i64 N] w fun e w' => e = .returned (.tuple #[]) ∧ ∃ v', WrAt w' b v' (l ++ bitsL (uN x) n) ∧ Only (Foot b v) w w' ∧ ∀ k, v'.ownBlock = some k → v.ownBlock = some k ∨ w.heap.size ≤ k := by
  refine (put_any w b v l x N n hN ⟨rfl, h.blk, h.own, Only.refl _ _, fun k hk => .inl hk⟩ hl).mono ?_
  rintro e w' ⟨rfl, v', hi⟩
  have e2 : (l ++ bitsL (uN x) n).length = l.length + n := by rw [List.length_append, bitsL_length]
  refine ⟨rfl, v', ⟨?_, ?_⟩, hi.only, hi.new⟩
  · rw [e2]; exact hi.blk
  · rw [e2]; exact hi.own

/-- The document's own writer. -/
structure RwAt (w : World) (b : Nat) (v : Value) (l : List Bool) : Prop where
  blk : Blk w b [v] 46
  own : w.ownsRow 0 4 1 v l.length (l.map tV)
theorem RwAt.only {w w' : World} {O : Nat → Prop} {b : Nat} {v : Value} {l : List Bool} (h : RwAt w b v l) (k : Only O w w') (hb : ¬ O b) (hv : ∀ j, v.ownBlock = some j → ¬ O j) : RwAt w' b v l := ⟨k.blk h.blk hb, own_only h.own k hv⟩
theorem RwAt.new (w : World) : RwAt (w.alloc (.cells #[.slice none 0 0] 46)) w.heap.size (.slice none 0 0) [] := ⟨Blk.new w [.slice none 0 0] _, World.ownsRow_nil _ _ _ _⟩
theorem put_rw {w : World} {b : Nat} {v : Value} {l : List Bool} (h : RwAt w b v l) (x N : Int) (n : Nat) (hN : (N < 0 ∧ n = 0) ∨ (64 < N ∧ n = 64) ∨ (N = n ∧ n ≤ 64)) (hl : l.length ≤ 1000000) :
    Calls Try.prog 21 #[.pointer (some ⟨b, 0, none⟩), .int .i64 x, .int .i64 N] w fun e w' => e = .returned (.tuple #[]) ∧ ∃ v', RwAt w' b v' (l ++ bitsL (uN x) n) ∧ Only (Foot b v) w w' ∧ ∀ k, v'.ownBlock = some k → v.ownBlock = some k ∨ w.heap.size ≤ k := by
  refine (rput_any w b v l x N n hN ⟨h.blk, h.own, Only.refl _ _, fun k hk => .inl hk⟩ hl).mono ?_
  rintro e w' ⟨rfl, v', hi⟩
  exact ⟨rfl, v', ⟨hi.blk, hi.own⟩, hi.only, hi.new⟩

theorem num_any (n : Int) (w : World) : Calls Try.prog 29 #[.int .i64 n] w fun e w' => e = .returned (.int .i64 n) ∧ w' = w := by
  go_enter Try.func29, Try.ntmps29
  go_wp2
  go_ret
  exact ⟨rfl, rfl⟩

theorem alive_bytes : packL (([] ++ bitsL (uN 5) 3) ++ bitsL (uN 1) 1) = [176] := by decide +kernel
theorem alive_val : wrap64 ((valL (((unpackL [176]).drop 0).take 3) : Nat) : Int) = 5 := by decide +kernel

set_option maxHeartbeats 800000 in
theorem alive_any (w : World) : Calls Try.prog 19 #[] w fun e w' => e = .returned (.bool true) ∧ Kept w w' := by
  have hA := WrAt.new w
  have hk0 : Kept w (w.alloc (.cells #[.slice none 0 0, .int .i64 0] 42)) := (Only.refl _ w).alloc _
  go_enter Try.func19, Try.ntmps19
  go_wp2_with fail
  refine (put_wr hA 5 3 3 (.inr (.inr ⟨rfl, by decide⟩)) (by decide)).mono ?_
  rintro e w1 ⟨rfl, v1, h1, k1, n1⟩
  go_wp2_with fail
  refine (put_wr h1 1 1 1 (.inr (.inr ⟨rfl, by decide⟩)) (by simp [bitsL_length])).mono ?_
  rintro e w2 ⟨rfl, v2, h2, k2, n2⟩
  have hk2 : Kept w w2 := by
    have hs := hk0.size
    have a1 : Kept w w1 := hk0.trans k1 (fun j hj e => by
      rcases e with e | e
      · omega
      · cases e)
    refine a1.trans k2 (fun j hj e => ?_)
    rcases e with e | e
    · omega
    · rcases n1 j e with e' | e'
      · simp [Value.ownBlock] at e'
      · simp at e'; omega
  have hsrc := h2.src
  rw [alive_bytes] at hsrc
  go_wp2_with fail
  refine (wbytes_any w2 _ v2 _ [176] h2.blk hsrc (by decide)).mono ?_
  rintro e w3 ⟨v3, rfl, h3, k3⟩
  obtain ⟨g3, c3, rfl⟩ := own_some h3 (by decide)
  go_wp2_with fail
  refine (newReader_any w3 _ [176] (own_src h3) (by decide)).mono ?_
  rintro e w4 ⟨b4, v4, rfl, hb4, h4, o4, k4⟩
  have h34 := own_only h3 k4 (fun _ _ f => f)
  have cc : w4.cell? ⟨g3, 0, none⟩ = some (.int .u8 176) := by
    rw [h34.cellAt 0 (by decide)]
    rfl
  clear h1 h2 k1 k2 n1 n2 hA
  go_wp2_with fail
  have hR : RdAt w4 b4 v4 [176] 0 := ⟨h4, own_base o4 (Nat.zero_le _), by decide, by decide⟩
  refine (get_any hR 3 (by decide) (by decide)).mono ?_
  rintro e w5 ⟨rfl, k5, h5⟩
  rw [alive_val]
  go_wp2_with (go_at_call 29; refine (num_any _ _).mono ?_; rintro e w' ⟨rfl, hw⟩; replace hw := hw.symm; subst hw)
  obtain ⟨a5, c5, rfl⟩ := own_slice h5.own
  refine (left_any w5 b4 a5 1 c5 3 h5.blk (by decide) (by decide)).mono ?_
  rintro e w6 ⟨rfl, k6⟩
  go_wp2_with fail
  go_ret
  refine ⟨rfl, ?_⟩
  have hs := hk2.size
  have hs3 := k3.size
  exact (((hk2.trans k3 (fun _ _ f => f)).trans k4 (fun _ _ f => f)).trans k5 (fun j hj e => by omega)).trans k6 (fun _ _ f => f)
end Go.Proofs.Ytephpgiiljjieab
