/-
  A writer and a reader, call by call; the document's example.
-/
import Derived.Test.YtpajpnjkgojafaaBget
import Derived.Test.YtpajpnjkgojafaaBref3
import Derived.Deep.RegionHeld3
namespace Go.Proofs.Ytpajpnjkgojafaa
open Go.RowKit Go.Proofs.Lys
set_option linter.unusedVariables false

/-- A writer that has these bits. -/
structure WrAt (w : World) (b : Nat) (v : Value) (l : List Bool) : Prop where
  blk : Blk w b [v, .int .i64 (l.length : Int)] 42
  own : w.ownsRow 0 5 1 v ((l.length + 7) / 8) ((packL l).map bV)

theorem WrAt.only {w w' : World} {O : Nat → Prop} {b : Nat} {v : Value} {l : List Bool} (h : WrAt w b v l) (k : Only O w w') (hb : ¬ O b) (hv : ∀ j, v.ownBlock = some j → ¬ O j) : WrAt w' b v l := ⟨k.blk h.blk hb, own_only h.own k hv⟩
theorem WrAt.new (w : World) : WrAt (w.alloc (.cells #[.slice none 0 0, .int .i64 0] 42)) w.heap.size (.slice none 0 0) [] := ⟨Blk.new w [.slice none 0 0, .int .i64 0] _, World.ownsRow_nil _ _ _ _⟩
theorem WrAt.src {w : World} {b : Nat} {v : Value} {l : List Bool} (h : WrAt w b v l) : SrcOf w v ((packL l).map bV) := own_src h.own

/-- What a call that puts may turn: the writer, its row. -/
abbrev Foot (b : Nat) (v : Value) (k : Nat) : Prop := k = b ∨ v.ownBlock = some k

theorem put_wr {w : World} {b : Nat} {v : Value} {l : List Bool} (h : WrAt w b v l) (x N : Int) (n : Nat) (hN : (N < 0 ∧ n = 0) ∨ (64 < N ∧ n = 64) ∨ (N = n ∧ n ≤ 64)) (hl : l.length ≤ 1000000) :
    Calls Try.prog 13 #[.pointer (some ⟨b, 0, none⟩), .int .i64 x, .int .i64 N] w fun e w' => e = .returned (.tuple #[]) ∧ ∃ v', WrAt w' b v' (l ++ bitsL (uN x) n) ∧ Only (Foot b v) w w' ∧ ∀ k, v'.ownBlock = some k → v.ownBlock = some k ∨ w.heap.size ≤ k := by
  refine (put_any w b v l x N n hN ⟨rfl, h.blk, h.own, Only.refl _ _, fun k hk => .inl hk⟩ hl).mono ?_
  rintro e w' ⟨rfl, v', hi⟩
  have e2 : (l ++ bitsL (uN x) n).length = l.length + n := by rw [List.length_append, bitsL_length]
  refine ⟨rfl, v', ⟨?_, ?_⟩, hi.only, hi.new⟩
  · rw [e2]; exact hi.blk
  · rw [e2]; exact hi.own

/-- The document's own writer. -/
structure RwAt (w : World) (b : Nat) (v : Value) (l : List Bool) : Prop where
  blk : Blk w b [v] 52
  own : w.ownsRow 0 4 1 v l.length (l.map tV)
theorem RwAt.only {w w' : World} {O : Nat → Prop} {b : Nat} {v : Value} {l : List Bool} (h : RwAt w b v l) (k : Only O w w') (hb : ¬ O b) (hv : ∀ j, v.ownBlock = some j → ¬ O j) : RwAt w' b v l := ⟨k.blk h.blk hb, own_only h.own k hv⟩
theorem RwAt.new (w : World) : RwAt (w.alloc (.cells #[.slice none 0 0] 52)) w.heap.size (.slice none 0 0) [] := ⟨Blk.new w [.slice none 0 0] _, World.ownsRow_nil _ _ _ _⟩
theorem put_rw {w : World} {b : Nat} {v : Value} {l : List Bool} (h : RwAt w b v l) (x N : Int) (n : Nat) (hN : (N < 0 ∧ n = 0) ∨ (64 < N ∧ n = 64) ∨ (N = n ∧ n ≤ 64)) (hl : l.length ≤ 1000000) :
    Calls Try.prog 16 #[.pointer (some ⟨b, 0, none⟩), .int .i64 x, .int .i64 N] w fun e w' => e = .returned (.tuple #[]) ∧ ∃ v', RwAt w' b v' (l ++ bitsL (uN x) n) ∧ Only (Foot b v) w w' ∧ ∀ k, v'.ownBlock = some k → v.ownBlock = some k ∨ w.heap.size ≤ k := by
  refine (rput_any w b v l x N n hN ⟨h.blk, h.own, Only.refl _ _, fun k hk => .inl hk⟩ hl).mono ?_
  rintro e w' ⟨rfl, v', hi⟩
  exact ⟨rfl, v', ⟨hi.blk, hi.own⟩, hi.only, hi.new⟩

end Go.Proofs.Ytpajpnjkgojafaa
