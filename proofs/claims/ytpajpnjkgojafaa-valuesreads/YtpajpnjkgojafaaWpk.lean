/-
  A packer of numbers: its writer, its window.
-/
import Derived.Test.YtpajpnjkgojafaaWlib
namespace Go.Proofs.Ytpajpnjkgojafaa.V
open Go.RowKit Go.Proofs.Lys
set_option linter.unusedVariables false

/-- A packer that has these bits, and this window. -/
structure PkAt (w : World) (b : Nat) (W : Win) (v : Value) (l : List Bool) : Prop where
  blk : Blk w b [.int .i64 (W.z : Int), .int .i64 (W.t : Int), v, .int .i64 (l.length : Int), .bool W.o] 44
  own : w.ownsRow 0 5 1 v ((l.length + 7) / 8) ((packL l).map bV)
theorem PkAt.only {w w' : World} {O : Nat → Prop} {b : Nat} {W : Win} {v : Value} {l : List Bool} (h : PkAt w b W v l) (k : Only O w w') (hb : ¬ O b) (hv : ∀ j, v.ownBlock = some j → ¬ O j) : PkAt w' b W v l := ⟨k.blk h.blk hb, own_only h.own k hv⟩
theorem PkAt.new (w : World) : PkAt (w.alloc (.cells #[.int .i64 0, .int .i64 0, .slice none 0 0, .int .i64 0, .bool false] 44)) w.heap.size W0 (.slice none 0 0) [] := ⟨Blk.new w [.int .i64 0, .int .i64 0, .slice none 0 0, .int .i64 0, .bool false] _, World.ownsRow_nil _ _ _ _⟩
theorem PkAt.src {w : World} {b : Nat} {W : Win} {v : Value} {l : List Bool} (h : PkAt w b W v l) : SrcOf w v ((packL l).map bV) := own_src h.own
theorem PkAt.apart {w : World} {b : Nat} {W : Win} {v : Value} {l : List Bool} (h : PkAt w b W v l) {j : Nat} (hj : v.ownBlock = some j) : j ≠ b := (own_typed h.own hj).ne h.blk.typed (by decide)

theorem pk_put {w : World} {b : Nat} {W : Win} {v : Value} {l : List Bool} (h : PkAt w b W v l) (x N : Int) (n : Nat) (hN : (N < 0 ∧ n = 0) ∨ (64 < N ∧ n = 64) ∨ (N = n ∧ n ≤ 64)) (hl : l.length ≤ 1000000) :
    Calls Try.prog 13 #[.pointer (some ⟨b, 2, none⟩), .int .i64 x, .int .i64 N] w fun e w' => e = .returned (.tuple #[]) ∧ ∃ v', PkAt w' b W v' (l ++ bitsL (uN x) n) ∧ Only (Foot b v) w w' ∧ ∀ k, v'.ownBlock = some k → v.ownBlock = some k ∨ w.heap.size ≤ k := by
  refine (pput_any w b v l x N n hN ⟨rfl, h.blk, h.own, Only.refl _ _, fun k hk => .inl hk⟩ hl).mono ?_
  rintro e w' ⟨rfl, v', hi⟩
  have e2 : (l ++ bitsL (uN x) n).length = l.length + n := by rw [List.length_append, bitsL_length]
  refine ⟨rfl, v', ⟨?_, ?_⟩, hi.only, hi.new⟩
  · rw [e2]; exact hi.blk
  · rw [e2]; exact hi.own

theorem pbytes_any (w : World) (b : Nat) (za zb v X op : Value) (bs : List UInt8) (h : Blk w b [za, zb, v, X, op] 44) (hs : SrcOf w v (bs.map bV)) (hl : bs.length ≤ 100000000) :
    Calls Try.prog 15 #[.pointer (some ⟨b, 2, none⟩)] w fun e w' => ∃ v, e = .returned v ∧ w'.ownsRow w.heap.size 5 1 v bs.length (bs.map bV) ∧ Kept w w' := by
  have c1 := h.cell 2 rfl
  go_enter Try.func15, Try.ntmps15
  go_wp2_with fail
  refine (clone_any w v bs hs hl).mono ?_
  rintro e w' ⟨v', rfl, ho, hk⟩
  go_wp2_with fail
  go_ret
  exact ⟨_, rfl, ho, hk⟩

theorem foot_two {w w1 w2 w3 : World} {b : Nat} {v v1 : Value} (h0 : Kept w w1) (h1 : Only (Foot b v) w1 w2) (hn : ∀ k, v1.ownBlock = some k → v.ownBlock = some k ∨ w1.heap.size ≤ k) (h2 : Only (Foot b v1) w2 w3) : Only (Foot b v) w w3 := by
  refine ((h0.mono (fun _ _ f => f.elim)).trans h1 (fun _ _ e => e)).trans h2 (fun j hj e => ?_)
  rcases e with e | e
  · exact .inl e
  · rcases hn j e with e' | e'
    · exact .inr e'
    · have := h0.size
      omega
/-- A packer that has been put to: what has turned since. -/
structure PkS (w : World) (b : Nat) (v0 : Value) (wr : World) (W : Win) (v : Value) (l : List Bool) : Prop where
  at_ : PkAt wr b W v l
  only : Only (Foot b v0) w wr
  new : ∀ k, v.ownBlock = some k → v0.ownBlock = some k ∨ w.heap.size ≤ k
theorem PkS.put {w wr w' : World} {b : Nat} {v0 v v' : Value} {W W' : Win} {l l' : List Bool} (h : PkS w b v0 wr W v l) (hw : PkAt w' b W' v' l') (ho : Only (Foot b v) wr w') (hn : ∀ k, v'.ownBlock = some k → v.ownBlock = some k ∨ wr.heap.size ≤ k) : PkS w b v0 w' W' v' l' := by
  have hs := h.only.size
  refine ⟨hw, h.only.trans ho (fun j hj e => ?_), fun j hj => ?_⟩
  · rcases e with e | e
    · exact .inl e
    · rcases h.new j e with e' | e'
      · exact .inr e'
      · omega
  · rcases hn j hj with e | e
    · exact h.new j e
    · exact .inr (by omega)
theorem PkS.stay {w wr w' : World} {b : Nat} {v0 v : Value} {W : Win} {l : List Bool} (h : PkS w b v0 wr W v l) (hk : Kept wr w') : PkS w b v0 w' W v l :=
  h.put (h.at_.only hk (fun f => f) (fun _ _ f => f)) (hk.mono (fun _ _ f => f.elim)) (fun k hk => .inl hk)
theorem PkAt.start {w : World} {b : Nat} {v : Value} {W : Win} {l : List Bool} (h : PkAt w b W v l) : PkS w b v w W v l := ⟨h, Only.refl _ _, fun k hk => .inl hk⟩

/-- The packer within Pack. -/
structure PkIn (w : World) (B : Nat) (wr : World) (W : Win) (vw : Value) (lw : List Bool) : Prop where
  at_ : PkAt wr B W vw lw
  kept : Kept w wr
  new : w.heap.size ≤ B
  row : ∀ j, vw.ownBlock = some j → w.heap.size ≤ j
theorem PkIn.put {w wr w' : World} {B : Nat} {W W' : Win} {vw v' : Value} {lw lw' : List Bool} (h : PkIn w B wr W vw lw) (hw : PkAt w' B W' v' lw') (ho : Only (Foot B vw) wr w') (hn : ∀ k, v'.ownBlock = some k → vw.ownBlock = some k ∨ wr.heap.size ≤ k) : PkIn w B w' W' v' lw' := by
  have hs := h.kept.size
  refine ⟨hw, h.kept.trans ho (fun j hj e => ?_), h.new, fun j hj => ?_⟩
  · have := h.new
    rcases e with e | e
    · omega
    · have := h.row j e
      omega
  · rcases hn j hj with e | e
    · exact h.row j e
    · omega
theorem PkIn.drew {w wr : World} {B : Nat} {W : Win} {vw : Value} {lw : List Bool} (h : PkIn w B wr W vw lw) : PkIn w B wr.drew W vw lw :=
  ⟨h.at_.only (Only.drew (Only.refl (fun _ => False) wr)) (fun f => f) (fun _ _ f => f), h.kept.drew, h.new, h.row⟩
end Go.Proofs.Ytpajpnjkgojafaa.V
