/-
  Wpk, Waround, Dlast, Wlast.
-/
import Derived.Test.YtbhpmeeknbbmmaaQ06
import Derived.WalkMore
import Derived.Deep.RegionHeld3

/-
  A packer of numbers: its writer, its window.
-/
namespace Go.Proofs.Ytbhpmeeknbbmmaa.V
open Go.RowKit Go.Proofs.Lys
set_option linter.unusedVariables false

/-- A packer that has these bits, and this window. -/
structure PkAt (w : World) (b : Nat) (W : Win) (v : Value) (l : List Bool) : Prop where
  blk : Blk w b [.int .i64 (W.z : Int), .int .i64 (W.t : Int), v, .int .i64 (l.length : Int), .bool W.o] 78
  own : w.ownsRow 0 5 1 v ((l.length + 7) / 8) ((packL l).map bV)
theorem PkAt.only {w w' : World} {O : Nat → Prop} {b : Nat} {W : Win} {v : Value} {l : List Bool} (h : PkAt w b W v l) (k : Only O w w') (hb : ¬ O b) (hv : ∀ j, v.ownBlock = some j → ¬ O j) : PkAt w' b W v l := ⟨k.blk h.blk hb, own_only h.own k hv⟩
theorem PkAt.new (w : World) : PkAt (w.alloc (.cells #[.int .i64 0, .int .i64 0, .slice none 0 0, .int .i64 0, .bool false] 78)) w.heap.size W0 (.slice none 0 0) [] := ⟨Blk.new w [.int .i64 0, .int .i64 0, .slice none 0 0, .int .i64 0, .bool false] _, World.ownsRow_nil _ _ _ _⟩
theorem PkAt.src {w : World} {b : Nat} {W : Win} {v : Value} {l : List Bool} (h : PkAt w b W v l) : SrcOf w v ((packL l).map bV) := own_src h.own
theorem PkAt.apart {w : World} {b : Nat} {W : Win} {v : Value} {l : List Bool} (h : PkAt w b W v l) {j : Nat} (hj : v.ownBlock = some j) : j ≠ b := (own_typed h.own hj).ne h.blk.typed (by decide)

theorem pk_put {w : World} {b : Nat} {W : Win} {v : Value} {l : List Bool} (h : PkAt w b W v l) (x N : Int) (n : Nat) (hN : (N < 0 ∧ n = 0) ∨ (64 < N ∧ n = 64) ∨ (N = n ∧ n ≤ 64)) (hl : l.length ≤ 1000000) :
    Calls Try.prog 37 #[.pointer (some ⟨b, 2, none⟩), .int .i64 x, .int .i64 N] w fun e w' => e = .returned (.tuple #[]) ∧ ∃ v', PkAt w' b W v' (l ++ bitsL (uN x) n) ∧ Only (Foot b v) w w' ∧ ∀ k, v'.ownBlock = some k → v.ownBlock = some k ∨ w.heap.size ≤ k := by
  refine (pput_any w b v l x N n hN ⟨rfl, h.blk, h.own, Only.refl _ _, fun k hk => .inl hk⟩ hl).mono ?_
  rintro e w' ⟨rfl, v', hi⟩
  have e2 : (l ++ bitsL (uN x) n).length = l.length + n := by rw [List.length_append, bitsL_length]
  refine ⟨rfl, v', ⟨?_, ?_⟩, hi.only, hi.new⟩
  · rw [e2]; exact hi.blk
  · rw [e2]; exact hi.own

theorem pbytes_any (w : World) (b : Nat) (za zb v X op : Value) (bs : List UInt8) (h : Blk w b [za, zb, v, X, op] 78) (hs : SrcOf w v (bs.map bV)) (hl : bs.length ≤ 100000000) :
    Calls Try.prog 39 #[.pointer (some ⟨b, 2, none⟩)] w fun e w' => ∃ v, e = .returned v ∧ w'.ownsRow w.heap.size 5 1 v bs.length (bs.map bV) ∧ Kept w w' := by
  have c1 := h.cell 2 rfl
  go_enter Try.func39, Try.ntmps39
  go_wp2_with fail
  refine (clone_any w v bs hs hl).mono ?_
  rintro e w' ⟨v', rfl, ho, hk⟩
  go_wp2_with fail
  go_ret
  exact ⟨_, rfl, ho, hk⟩

theorem foot_two {w w1 w2 w3 : World} {b : Nat} {v v1 : Value} (h0 : Kept w w1) (h1 : Only (Foot b v) w1 w2) (hn : ∀ k, v1.ownBlock = some k → v.ownBlock = some k ∨ w1.heap.size ≤ k) (h2 : Only (Foot b v1) w2 w3) : Only (Foot b v) w w3 := by
  refine ((h0.mono (fun _ _ f => f.elim)).trans h1 (fun _ _ e => e)).trans h2 (fun j hj e => ?_)
  rcases e with e | e
  · exact .inl e
  · rcases hn j e with e' | e'
    · exact .inr e'
    · have := h0.size
      omega
/-- A packer that has been put to: what has turned since. -/
structure PkS (w : World) (b : Nat) (v0 : Value) (wr : World) (W : Win) (v : Value) (l : List Bool) : Prop where
  at_ : PkAt wr b W v l
  only : Only (Foot b v0) w wr
  new : ∀ k, v.ownBlock = some k → v0.ownBlock = some k ∨ w.heap.size ≤ k
theorem PkS.put {w wr w' : World} {b : Nat} {v0 v v' : Value} {W W' : Win} {l l' : List Bool} (h : PkS w b v0 wr W v l) (hw : PkAt w' b W' v' l') (ho : Only (Foot b v) wr w') (hn : ∀ k, v'.ownBlock = some k → v.ownBlock = some k ∨ wr.heap.size ≤ k) : PkS w b v0 w' W' v' l' := by
  have hs := h.only.size
  refine ⟨hw, h.only.trans ho (fun j hj e => ?_), fun j hj => ?_⟩
  · rcases e with e | e
    · exact .inl e
    · rcases h.new j e with e' | e'
      · exact .inr e'
      · omega
  · rcases hn j hj with e | e
    · exact h.new j e
    · exact .inr (by omega)
theorem PkS.stay {w wr w' : World} {b : Nat} {v0 v : Value} {W : Win} {l : List Bool} (h : PkS w b v0 wr W v l) (hk : Kept wr w') : PkS w b v0 w' W v l :=
  h.put (h.at_.only hk (fun f => f) (fun _ _ f => f)) (hk.mono (fun _ _ f => f.elim)) (fun k hk => .inl hk)
theorem PkAt.start {w : World} {b : Nat} {v : Value} {W : Win} {l : List Bool} (h : PkAt w b W v l) : PkS w b v w W v l := ⟨h, Only.refl _ _, fun k hk => .inl hk⟩

/-- The packer within Pack. -/
structure PkIn (w : World) (B : Nat) (wr : World) (W : Win) (vw : Value) (lw : List Bool) : Prop where
  at_ : PkAt wr B W vw lw
  kept : Kept w wr
  new : w.heap.size ≤ B
  row : ∀ j, vw.ownBlock = some j → w.heap.size ≤ j
theorem PkIn.put {w wr w' : World} {B : Nat} {W W' : Win} {vw v' : Value} {lw lw' : List Bool} (h : PkIn w B wr W vw lw) (hw : PkAt w' B W' v' lw') (ho : Only (Foot B vw) wr w') (hn : ∀ k, v'.ownBlock = some k → vw.ownBlock = some k ∨ wr.heap.size ≤ k) : PkIn w B w' W' v' lw' := by
  have hs := h.kept.size
  refine ⟨hw, h.kept.trans ho (fun j hj e => ?_), h.new, fun j hj => ?_⟩
  · have := h.new
    rcases e with e | e
    · omega
    · have := h.row j e
      omega
  · rcases hn j hj with e | e
    · exact h.row j e
    · omega
theorem PkIn.drew {w wr : World} {B : Nat} {W : Win} {vw : Value} {lw : List Bool} (h : PkIn w B wr W vw lw) : PkIn w B wr.drew W vw lw :=
  ⟨h.at_.only (Only.drew (Only.refl (fun _ => False) wr)) (fun f => f) (fun _ _ f => f), h.kept.drew, h.new, h.row⟩
end Go.Proofs.Ytbhpmeeknbbmmaa.V

/-
  A window: how many bits it has, whether it holds another, the least one around a change.
-/
namespace Go.Proofs.Ytbhpmeeknbbmmaa.V
open Go.RowKit Go.Proofs.Lys
set_option linter.unusedVariables false

theorem count_any (w : World) (z t : Nat) (h : z + t ≤ 64) : Calls Try.prog 57 #[.agg #[.int .i64 (z : Int), .int .i64 (t : Int)]] w fun e w' => e = .returned (.int .i64 ((64 - z - t : Nat) : Int)) ∧ Kept w w' := by
  go_enter Try.func57, Try.ntmps57
  go_wp2
  go_ret
  exact ⟨ret_int (by omega), (Only.refl _ w).alloc _⟩

theorem holds_any (w : World) (z t z' t' : Nat) (h : z ≤ 64) (h1 : t ≤ 64) (h2 : z' ≤ 64) (h3 : t' ≤ 64) : Calls Try.prog 56 #[.agg #[.int .i64 (z : Int), .int .i64 (t : Int)], .agg #[.int .i64 (z' : Int), .int .i64 (t' : Int)]] w fun e w' => e = .returned (.bool (decide (z ≤ z' ∧ t ≤ t'))) ∧ Kept w w' := by
  by_cases a1 : z ≤ z'
  · by_cases a2 : t ≤ t'
    · go_enter Try.func56, Try.ntmps56
      go_wp2
      go_ret
      exact ⟨by simp [a1, a2], ((Only.refl _ w).alloc _).alloc _⟩
    · go_enter Try.func56, Try.ntmps56
      go_wp2
      go_ret
      exact ⟨by simp [a2], ((Only.refl _ w).alloc _).alloc _⟩
  · go_enter Try.func56, Try.ntmps56
    go_wp2
    go_ret
    exact ⟨by simp [a1], ((Only.refl _ w).alloc _).alloc _⟩

def cellN (w : World) (a : Addr) : Nat := match w.cell? a with | some v => (intOf v).toNat | none => 0
theorem cellN_of {w : World} {a : Addr} {k : Nat} (h : w.cell? a = some (.int .i64 (k : Int))) : cellN w a = k := by
  unfold cellN
  rw [h]
  simp [intOf]

theorem high_bit (U a : Nat) (hU : U < 18446744073709551616) (ha : a ≤ 63) : (IntKind.u64.wrap ((U : Int) * 2 ^ a) / 9223372036854775808 == 0) = !(U.testBit (63 - a)) := by
  have e1 : (U : Int) * 2 ^ a = ((U * 2 ^ a : Nat) : Int) := by simp
  have e2 : IntKind.u64.wrap ((U * 2 ^ a : Nat) : Int) = ((U * 2 ^ a % 18446744073709551616 : Nat) : Int) := by
    simp [IntKind.wrap, IntKind.bits, IntKind.signed]
  have e3 : ((U * 2 ^ a % 18446744073709551616 : Nat) : Int) / 9223372036854775808 = ((U * 2 ^ a % 18446744073709551616 / 9223372036854775808 : Nat) : Int) := by simp
  have e4 : (U * 2 ^ a % 18446744073709551616).testBit 63 = U.testBit (63 - a) := by
    rw [show (18446744073709551616 : Nat) = 2 ^ 64 by decide, Nat.testBit_mod_two_pow, ← Nat.shiftLeft_eq, Nat.testBit_shiftLeft]
    simp [ha]
  have hlt : U * 2 ^ a % 18446744073709551616 < 18446744073709551616 := Nat.mod_lt _ (by decide)
  rw [e1, e2, e3, ← e4]
  generalize U * 2 ^ a % 18446744073709551616 = V at hlt ⊢
  rw [Nat.testBit_eq_decide_div_mod_eq, show (2 : Nat) ^ 63 = 9223372036854775808 by decide]
  by_cases h : V < 9223372036854775808
  · rw [Nat.div_eq_of_lt h]
    rfl
  · have : V / 9223372036854775808 = 1 := by omega
    rw [this]
    rfl
theorem low_bit (U k : Nat) (hU : U < 18446744073709551616) : (bits .and .u64 ((U : Int) / 2 ^ k) 1 == 0) = !(U.testBit k) := by
  have e : (U : Int) / 2 ^ k = ((U / 2 ^ k : Nat) : Int) := by simp
  have hlt : U / 2 ^ k < 18446744073709551616 := Nat.lt_of_le_of_lt (Nat.div_le_self _ _) hU
  have h2 := u64_and_nat (U / 2 ^ k) 1 hlt (by decide)
  rw [e, show ((1 : Int)) = ((1 : Nat) : Int) from rfl, h2, Nat.and_one_is_mod, Nat.testBit_eq_decide_div_mod_eq]
  rcases Nat.mod_two_eq_zero_or_one (U / 2 ^ k) with h4 | h4 <;> rw [h4] <;> rfl

theorem leadA_step {x f : Nat} (h : x.testBit (33 + f) = false) : leadA x (f + 1) = leadA x f := by
  show (if x.testBit (33 + f) = true then 30 - f else leadA x f) = _
  rw [if_neg (by rw [h]; decide)]
theorem leadA_stop {x f : Nat} (h : x.testBit (33 + f) = true) : leadA x (f + 1) = 30 - f := by
  show (if x.testBit (33 + f) = true then 30 - f else leadA x f) = _
  rw [if_pos h]
theorem trailA_step {x f : Nat} (h : x.testBit (63 - f) = false) : trailA x (f + 1) = trailA x f := by
  show (if x.testBit (63 - f) = true then 63 - f else trailA x f) = _
  rw [if_neg (by rw [h]; decide)]
theorem trailA_stop {x f : Nat} (h : x.testBit (63 - f) = true) : trailA x (f + 1) = 63 - f := by
  show (if x.testBit (63 - f) = true then 63 - f else trailA x f) = _
  rw [if_pos h]

/-- The window while it is counted. -/
structure ArIn (w wr : World) (R B x a b : Nat) : Prop where
  res : Blk wr R [.int .i64 0, .int .i64 0] 76
  own : Blk wr B [.int .i64 (a : Int), .int .i64 (b : Int)] 76
  kept : Kept w wr
  a31 : a ≤ 31
  b64 : b ≤ 63
  la : leadA x (31 - a) = lead x
  lb : trailA x (64 - b) = trail x
  go : 0 < b → a = lead x

theorem leadA_ge (x f : Nat) : 31 - f ≤ leadA x f := by
  induction f with
  | zero => exact Nat.le_refl _
  | succ f ih =>
    unfold leadA
    split
    · omega
    · omega
theorem ArIn.up {w wr : World} {R B x a b : Nat} (h : ArIn w wr R B x a b) (hR : R ≠ B) (hB : w.heap.size ≤ B) (ha : a < 31) (hb : x.testBit (63 - a) = false) :
    ArIn w (wr.setCell ⟨B, 0, none⟩ (.int .i64 ((a : Int) + 1))) R B x (a + 1) b := by
  have e : 31 - a = (30 - a) + 1 := by omega
  have hl := h.la
  rw [e, leadA_step (by rw [show 33 + (30 - a) = 63 - a by omega]; exact hb)] at hl
  refine ⟨h.res.other hR _, ?_, h.kept.setCell (fun hlt => absurd hlt (by show ¬ B < w.heap.size; omega)) _, by omega, h.b64, by rw [show 31 - (a + 1) = 30 - a by omega]; exact hl, h.lb, fun h0 => ?_⟩
  · have := h.own.set 0 (.int .i64 ((a : Int) + 1))
    rw [show ((a + 1 : Nat) : Int) = (a : Int) + 1 by omega]
    exact this
  · have h1 := h.go h0
    have h2 := leadA_ge x (30 - a)
    omega
theorem ArIn.isLead {w wr : World} {R B x a b : Nat} (h : ArIn w wr R B x a b) (ha : ¬ a < 31 ∨ x.testBit (63 - a) = true) : a = lead x := by
  by_cases h31 : a < 31
  · have e : 31 - a = (30 - a) + 1 := by omega
    have hl := h.la
    rcases ha with h0 | h0
    · exact absurd h31 h0
    · rw [e, leadA_stop (by rw [show 33 + (30 - a) = 63 - a by omega]; exact h0)] at hl
      omega
  · have h1 := h.a31
    have hl := h.la
    rw [show 31 - a = 0 by omega] at hl
    have : a = 31 := by omega
    rw [this, ← hl]
    rfl
theorem ArIn.dn {w wr : World} {R B x a b : Nat} (h : ArIn w wr R B x a b) (hR : R ≠ B) (hB : w.heap.size ≤ B) (hx : x < 18446744073709551616) (h0 : x ≠ 0) (ha : a = lead x) (hb : x.testBit b = false) :
    ArIn w (wr.setCell ⟨B, 1, none⟩ (.int .i64 ((b : Int) + 1))) R B x a (b + 1) := by
  have h63 := h.b64
  have e : 64 - b = (63 - b) + 1 := by omega
  have hl := h.lb
  rw [e, trailA_step (by rw [show 63 - (63 - b) = b by omega]; exact hb)] at hl
  have ht := trail_lt hx h0
  have hb62 : b ≤ 62 := by
    refine Nat.le_of_not_lt (fun hlt => ?_)
    rw [show 63 - b = 0 by omega] at hl
    have : trailA x 0 = 64 := rfl
    omega
  refine ⟨h.res.other hR _, ?_, h.kept.setCell (fun hlt => absurd hlt (by show ¬ B < w.heap.size; omega)) _, h.a31, by omega, h.la, by rw [show 64 - (b + 1) = 63 - b by omega]; exact hl, fun _ => ha⟩
  have := h.own.set 1 (.int .i64 ((b : Int) + 1))
  rw [show ((b + 1 : Nat) : Int) = (b : Int) + 1 by omega]
  exact this
theorem ArIn.isTrail {w wr : World} {R B x a b : Nat} (h : ArIn w wr R B x a b) (hb : x.testBit b = true) : b = trail x := by
  have h63 := h.b64
  have e : 64 - b = (63 - b) + 1 := by omega
  have hl := h.lb
  rw [e, trailA_stop (by rw [show 63 - (63 - b) = b by omega]; exact hb)] at hl
  omega
theorem ArIn.less {w w2 wr wr2 : World} {R B x a b a' b' : Nat} (h : ArIn w wr R B x a b) (h' : ArIn w2 wr2 R B x a' b') (hlt : a + b < a' + b') : 96 - cellN wr2 ⟨B, 0, none⟩ - cellN wr2 ⟨B, 1, none⟩ < 96 - cellN wr ⟨B, 0, none⟩ - cellN wr ⟨B, 1, none⟩ := by
  rw [cellN_of (h.own.cell 0 rfl), cellN_of (h.own.cell 1 rfl), cellN_of (h'.own.cell 0 rfl), cellN_of (h'.own.cell 1 rfl)]
  have := h.a31
  have := h.b64
  omega

set_option maxRecDepth 100000 in
set_option maxHeartbeats 800000 in
theorem around_any (w : World) (x : Nat) (hx : x < 18446744073709551616) (h0 : x ≠ 0) : Calls Try.prog 55 #[.int .u64 (x : Int)] w fun e w' => e = .returned (.agg #[.int .i64 (lead x : Int), .int .i64 (trail x : Int)]) ∧ Kept w w' := by
  have hS : Hid (ArIn w ((w.alloc (.cells #[.int .i64 0, .int .i64 0] 76)).alloc (.cells #[.int .i64 0, .int .i64 0] 76)) w.heap.size (w.heap.size + 1) x 0 0) := by
    refine ⟨(Blk.new w [.int .i64 0, .int .i64 0] _).alloc _, ?_, ((Only.refl _ w).alloc _).alloc _, by omega, by omega, rfl, rfl, fun h => absurd h (by omega)⟩
    have := Blk.new (w.alloc (.cells #[.int .i64 0, .int .i64 0] 76)) [.int .i64 0, .int .i64 0] 76
    simpa using this
  go_enter Try.func55, Try.ntmps55
  go_wp2
  go_step3
  go_wp2
  go_step3
  go_wp2
  generalize (w.alloc (.cells #[.int .i64 0, .int .i64 0] 76)).alloc (.cells #[.int .i64 0, .int .i64 0] 76) = w1 at hS ⊢
  generalize hB : w.heap.size + 1 = B at hS ⊢
  generalize hR : w.heap.size = R at hS ⊢
  go_loopw [5] (fun _ wr => ∃ a b : Nat, ArIn w wr R B x a b) (fun _ wr => 96 - cellN wr ⟨B, 0, none⟩ - cellN wr ⟨B, 1, none⟩)
  case atStart => exact ⟨0, 0, hS.out⟩
  case round =>
    obtain ⟨a, b, hI⟩ := hrel
    have c0 := hI.own.cell 0 rfl
    have c1 := hI.own.cell 1 rfl
    have f0 := hI.own.frozen 0
    have f1 := hI.own.frozen 1
    have ha := hI.a31
    have hb := hI.b64
    have HI := hid hI
    clear hI
    have hh := high_bit x a hx (by omega)
    have hl := low_bit x b hx
    have hRB : R ≠ B := by omega
    by_cases ha31 : a < 31
    · cases hbit : x.testBit (63 - a) with
      | false =>
        rw [hbit] at hh
        have HU := hid (HI.out.up hRB (by omega) ha31 hbit)
        go_wp2
        exact ⟨⟨_, _, HU.out⟩, HI.out.less HU.out (by omega)⟩
      | true =>
        rw [hbit] at hh
        have ha2 := hid (HI.out.isLead (.inr hbit))
        cases hbb : x.testBit b with
        | false =>
          rw [hbb] at hl
          have HU := hid (HI.out.dn hRB (by omega) hx h0 ha2.out hbb)
          go_wp2
          exact ⟨⟨_, _, HU.out⟩, HI.out.less HU.out (by omega)⟩
        | true =>
          rw [hbb] at hl
          have hb2 := hid (HI.out.isTrail hbb)
          have r0 := HI.out.res.cell 0 rfl
          have r1 := HI.out.res.cell 1 rfl
          have g0 := HI.out.res.frozen 0
          have g1 := HI.out.res.frozen 1
          go_wp2
          rw [Exit.noGoto_ret]
          have hres := (HI.out.res.set 0 (.int .i64 (a : Int))).set 1 (.int .i64 (b : Int))
          refine bodyPost_ret (v := .agg #[.int .i64 (a : Int), .int .i64 (b : Int)]) (results_cell_row rfl _ _ R 76 #[.int .i64 (a : Int), .int .i64 (b : Int)] (0, 0) _ rfl hres Try.underlying76 rfl (by kernel_rfl)) rfl ?_
          exact ⟨by rw [ha2.out, hb2.out], (HI.out.kept.setCell (fun hlt => absurd hlt (by show ¬ R < w.heap.size; omega)) _).setCell (fun hlt => absurd hlt (by show ¬ R < w.heap.size; omega)) _⟩
    · have ha2 := hid (HI.out.isLead (.inl ha31))
      have ha31' : decide ((a : Int) < 31) = false := by simp; omega
      cases hbb : x.testBit b with
      | false =>
        rw [hbb] at hl
        have HU := hid (HI.out.dn hRB (by omega) hx h0 ha2.out hbb)
        go_wp2
        exact ⟨⟨_, _, HU.out⟩, HI.out.less HU.out (by omega)⟩
      | true =>
        rw [hbb] at hl
        have hb2 := hid (HI.out.isTrail hbb)
        have r0 := HI.out.res.cell 0 rfl
        have r1 := HI.out.res.cell 1 rfl
        have g0 := HI.out.res.frozen 0
        have g1 := HI.out.res.frozen 1
        go_wp2
        rw [Exit.noGoto_ret]
        have hres := (HI.out.res.set 0 (.int .i64 (a : Int))).set 1 (.int .i64 (b : Int))
        refine bodyPost_ret (v := .agg #[.int .i64 (a : Int), .int .i64 (b : Int)]) (results_cell_row rfl _ _ R 76 #[.int .i64 (a : Int), .int .i64 (b : Int)] (0, 0) _ rfl hres Try.underlying76 rfl (by kernel_rfl)) rfl ?_
        exact ⟨by rw [ha2.out, hb2.out], (HI.out.kept.setCell (fun hlt => absurd hlt (by show ¬ R < w.heap.size; omega)) _).setCell (fun hlt => absurd hlt (by show ¬ R < w.heap.size; omega)) _⟩
end Go.Proofs.Ytbhpmeeknbbmmaa.V

/-
  A region that draws its order, and whose last operation (it waits for the others) may change what the loads have read: the loads are taken first all the same.
-/
namespace Go.Proofs.Lys
open Go

section
variable {P : Program} {ops : Array Oper} {Q : Exit → Act → World → Prop} {md : Region.Mode} {S : World → Prop} {L : Nat}

/-- Whatever order is picked: S holds behind every operation but number L. -/
def wpAnyL (P : Program) (md : Region.Mode) (ops : Array Oper) (Q : Exit → Act → World → Prop) (S : World → Prop) (L : Nat) : Nat → Array Bool → Act → World → Prop
  | 0, listed, a, w => Region.ready md ops listed = [] ∧ Q .normal a w
  | fuel + 1, listed, a, w =>
    (Region.ready md ops listed = [] → Q .normal a w) ∧
    ∀ i ∈ Region.ready md ops listed, wpOp P ops Q i (fun a' w' => (i ≠ L → S w') ∧ wpAnyL P md ops Q S L fuel (listed.setIfInBounds i true) a' w') a w

theorem wpAny_of_last : ∀ (fuel : Nat) (listed : Array Bool) (a : Act) (w : World), wpAnyL P md ops Q S L fuel listed a w → wpAny P md ops Q fuel listed a w
  | 0, _, _, _, h => h
  | fuel + 1, _, _, _, h => ⟨h.1, fun i hi => wpOp_mono (fun a' w' h' => wpAny_of_last fuel _ a' w' h'.2) (h.2 i hi)⟩

/-- Number L waits for number i. -/
def waits (md : Region.Mode) (ops : Array Oper) (L i : Nat) : Bool :=
  match ops[L]? with
  | some o => o.after.any fun e => Region.binds md e && e.on == i
  | none => false

/-- What has come up had its own before it. -/
def Closed (md : Region.Mode) (ops : Array Oper) (listed : Array Bool) : Prop := ∀ m o, ops[m]? = some o → listed.getD m false = true → ∀ e ∈ o.after, Region.binds md e = true → listed.getD e.on false = true

def closedB (md : Region.Mode) (ops : Array Oper) (listed : Array Bool) : Bool :=
  (List.range ops.size).all fun m => !(listed.getD m false) || (match ops[m]? with | some o => o.after.all (fun e => !(Region.binds md e) || listed.getD e.on false) | none => true)

theorem closed_spec {listed : Array Bool} (h : closedB md ops listed = true) : Closed md ops listed := by
  intro m o ho hm e he hb
  unfold closedB at h
  have hlt : m < ops.size := (Array.getElem?_eq_some_iff.1 ho).1
  have h1 := List.all_eq_true.1 h m (by simpa using hlt)
  rw [hm, ho] at h1
  simp only [Bool.not_true, Bool.false_or] at h1
  have h2 := Array.all_eq_true'.1 h1 e he
  rw [hb] at h2
  simpa using h2

theorem closed_set {listed : Array Bool} {j : Nat} (h : Closed md ops listed) (hj : j ∈ Region.ready md ops listed) : Closed md ops (listed.setIfInBounds j true) := by
  intro m o ho hm e he hb
  obtain ⟨hjun, oj, hoj, hall⟩ := mem_ready.1 hj
  by_cases hmj : j = m
  · subst hmj
    rw [hoj] at ho
    cases ho
    exact getD_set_true (hall e he hb)
  · rw [getD_set_ne false hmj] at hm
    exact getD_set_true (h m o ho hm e he hb)

/-- Number L waits for number i, or for one that does. -/
def waits2 (md : Region.Mode) (ops : Array Oper) (L i : Nat) : Bool := waits md ops L i || (List.range ops.size).any fun m => waits md ops L m && waits md ops m i

theorem waits_listed {listed : Array Bool} {a b : Nat} (h : waits md ops a b = true) (ha : ∀ o, ops[a]? = some o → ∀ e ∈ o.after, Region.binds md e = true → listed.getD e.on false = true) : listed.getD b false = true := by
  unfold waits at h
  split at h
  · rename_i o ho
    obtain ⟨e, he, hb⟩ := Array.any_eq_true'.1 h
    simp at hb
    have := ha o ho e he hb.1
    rw [hb.2] at this
    exact this
  · cases h

theorem waits_spec {i : Nat} {listed : Array Bool} (h : waits2 md ops L i = true) (hc : Closed md ops listed) (hi : i ∈ Region.ready md ops listed) : L ∉ Region.ready md ops listed := by
  intro hL
  obtain ⟨hun, oi, hoi, _⟩ := mem_ready.1 hi
  obtain ⟨_, oL, hoL, hall⟩ := mem_ready.1 hL
  have haL : ∀ o, ops[L]? = some o → ∀ e ∈ o.after, Region.binds md e = true → listed.getD e.on false = true := fun o ho => by rw [hoL] at ho; cases ho; exact hall
  have hil : listed.getD i false = true := by
    unfold waits2 at h
    rcases Bool.or_eq_true_iff.1 h with h | h
    · exact waits_listed h haL
    · obtain ⟨m, _, hm⟩ := List.any_eq_true.1 h
      simp at hm
      have hml := waits_listed hm.1 haL
      exact waits_listed hm.2 (fun o ho => hc m o ho hml)
  rcases Nat.lt_or_ge i listed.size with h' | h'
  · simp [h'] at hun hil
    rw [hun] at hil
    cases hil
  · simp [Array.getElem?_eq_none h'] at hil

theorem wpAnyL_first {i : Nat} {oi : Oper} {v : Value} (hi : ops[i]? = some oi) (hsel : ∀ (j : Nat) (o : Oper) cs b, ops[j]? = some o → o.op ≠ .select cs b)
    (hQ : ∀ c a w, Q (.panic c) (a.put oi.dst v) w → Q (.panic c) a w) (hwt : waits2 md ops L i = true) :
    ∀ (fuel : Nat) (listed : Array Bool) (a : Act) (w : World), Closed md ops listed →
      (∀ j oj, ops[j]? = some oj → j ≠ i → listed.getD j true = false → (∀ e ∈ oj.after, Region.binds md e = true → e.on ≠ i) → oi.apart ops oj = true) →
      i ∈ Region.ready md ops listed → YieldsIf P ops S oi v a → S w →
      wpAnyL P md ops Q S L fuel (listed.setIfInBounds i true) (a.put oi.dst v) w → wpAnyL P md ops Q S L (fuel + 1) listed a w := by
  intro fuel
  induction fuel with
  | zero =>
    intro listed a w hcl _ hr hy hS H
    refine ⟨fun h => (by rw [h] at hr; cases hr), fun j hj => ?_⟩
    by_cases hji : j = i
    · subst hji; exact hy.wpOp hi hS ⟨fun _ => hS, H⟩
    · have := ready_mono hj hji
      rw [H.1] at this
      cases this
  | succ fuel ih =>
    intro listed a w hcl hfree hr hy hS H
    refine ⟨fun h => (by rw [h] at hr; cases hr), fun j hj => ?_⟩
    by_cases hji : j = i
    · subst hji; exact hy.wpOp hi hS ⟨fun _ => hS, H⟩
    · have hjL : j ≠ L := fun e => waits_spec hwt hcl hr (e ▸ hj)
      have h1 := H.2 j (ready_mono hj hji)
      obtain ⟨hjun, oj, hoj, hall⟩ := mem_ready.1 hj
      have hnot : ∀ e ∈ oj.after, Region.binds md e = true → e.on ≠ i := fun e he hb heq => by
        have h1 := hall e he hb
        have h0 := (mem_ready.1 hr).1
        rw [heq] at h1
        rcases Nat.lt_or_ge i listed.size with h' | h'
        · simp [h'] at h0 h1; rw [h0] at h1; cases h1
        · simp [Array.getElem?_eq_none h'] at h1
      have h2 := wpOp_putIf hoj (hfree j oj hoj hji hjun hnot) (fun cs b => hsel i oi cs b hi) (fun cs b => hsel j oj cs b hoj) hQ hy h1
      have hfree' : ∀ k ok, ops[k]? = some ok → k ≠ i → (listed.setIfInBounds j true).getD k true = false →
          (∀ e ∈ ok.after, Region.binds md e = true → e.on ≠ i) → oi.apart ops ok = true := fun k ok hk hki hun hno => by
        refine hfree k ok hk hki ?_ hno
        by_cases hjk : j = k
        · subst hjk; exact hjun
        · rw [getD_set_ne true hjk] at hun; exact hun
      refine wpOp_mono (fun a' w' h3 => ⟨fun _ => h3.2.1 hjL, ih (listed.setIfInBounds j true) a' w' (closed_set hcl hj) hfree' (ready_mono hr (Ne.symm hji)) h3.1 (h3.2.1 hjL) ?_⟩) h2
      rw [Array.setIfInBounds_comm _ _ hji]
      exact h3.2.2

/-- Take number i first. -/
theorem wpAnyL_take {i : Nat} {oi : Oper} {v : Value} {fuel : Nat} {listed : Array Bool} {a : Act} {w : World} (hi : ops[i]? = some oi)
    (hs : Region.noSelect ops = true) (hf : Region.free md ops listed i = true) (hr : (Region.ready md ops listed).contains i = true) (hwt : waits2 md ops L i = true) (hcl : closedB md ops listed = true)
    (hQ : ∀ c a w, Q (.panic c) (a.put oi.dst v) w → Q (.panic c) a w) (hy : YieldsIf P ops S oi v a) (hS : S w)
    (h : wpAnyL P md ops Q S L fuel (listed.setIfInBounds i true) (a.put oi.dst v) w) : wpAnyL P md ops Q S L (fuel + 1) listed a w :=
  wpAnyL_first hi (Region.noSelect_spec hs) hQ hwt fuel listed a w (closed_spec hcl) (Region.free_spec hi hf) (by simpa using hr) hy hS h

/-- One alone may come up, and it is not the last. -/
theorem wpAnyL_one {i : Nat} {o : Oper} {fuel : Nat} {listed : Array Bool} {a : Act} {w : World} (hr : Region.ready md ops listed = [i]) (ho : ops[i]? = some o) (hw : Region.wanted o (yielded ops a.tmps) = true)
    (h : Oper.wp P o a w (fun a' w' => S w' ∧ wpAnyL P md ops Q S L fuel (listed.setIfInBounds i true) a' w') Q) : wpAnyL P md ops Q S L (fuel + 1) listed a w := by
  refine ⟨fun h0 => (by rw [hr] at h0; cases h0), fun j hj => ?_⟩
  rw [hr] at hj
  have e : j = i := by simpa using hj
  subst e
  refine wpOp_step ho (fun K hK => ?_)
  rw [if_pos hw]
  exact Oper.wp_mono (fun a' w' h' => hK a' w' ⟨fun _ => h'.1, h'.2⟩) h

/-- The last. -/
theorem wpAnyL_last {o : Oper} {fuel : Nat} {listed : Array Bool} {a : Act} {w : World} (hr : Region.ready md ops listed = [L]) (hd : Region.ready md ops (listed.setIfInBounds L true) = []) (ho : ops[L]? = some o) (hw : Region.wanted o (yielded ops a.tmps) = true)
    (h : Oper.wp P o a w (fun a' w' => Q .normal a' w') Q) : wpAnyL P md ops Q S L (fuel + 1) listed a w := by
  refine ⟨fun h0 => (by rw [hr] at h0; cases h0), fun j hj => ?_⟩
  rw [hr] at hj
  have e : j = L := by simpa using hj
  subst e
  refine wpOp_step ho (fun K hK => ?_)
  rw [if_pos hw]
  refine Oper.wp_mono (fun a' w' h' => hK a' w' ⟨fun hne => absurd rfl hne, ?_⟩) h
  cases fuel with
  | zero => exact ⟨hd, h'⟩
  | succ n => exact ⟨fun _ => h', by rw [hd]; simp⟩

theorem wp_region_last {id : Nat} {a : Act} {w : World} (hm : P.follows .mixedOrders = true) (h : wpAnyL P .any ops Q S L ops.size (Array.replicate ops.size false) a w.drew) : (Code.region id ops true).wp P Q a w :=
  wp_region_any hm (wpAny_of_last _ _ _ _ h)
end
end Go.Proofs.Lys

/-
  A region that draws its order, and whose operations all leave what the loads read.
-/
namespace Go.Proofs.Lys
open Go

section
variable {P : Program} {ops : Array Oper} {Q : Exit → Act → World → Prop} {md : Region.Mode} {S : World → Prop} {L : Nat}

theorem wpAnyN_first {i : Nat} {oi : Oper} {v : Value} (hi : ops[i]? = some oi) (hsel : ∀ (j : Nat) (o : Oper) cs b, ops[j]? = some o → o.op ≠ .select cs b)
    (hQ : ∀ c a w, Q (.panic c) (a.put oi.dst v) w → Q (.panic c) a w) (hL : ops.size ≤ L) :
    ∀ (fuel : Nat) (listed : Array Bool) (a : Act) (w : World), Closed md ops listed →
      (∀ j oj, ops[j]? = some oj → j ≠ i → listed.getD j true = false → (∀ e ∈ oj.after, Region.binds md e = true → e.on ≠ i) → oi.apart ops oj = true) →
      i ∈ Region.ready md ops listed → YieldsIf P ops S oi v a → S w →
      wpAnyL P md ops Q S L fuel (listed.setIfInBounds i true) (a.put oi.dst v) w → wpAnyL P md ops Q S L (fuel + 1) listed a w := by
  intro fuel
  induction fuel with
  | zero =>
    intro listed a w hcl _ hr hy hS H
    refine ⟨fun h => (by rw [h] at hr; cases hr), fun j hj => ?_⟩
    by_cases hji : j = i
    · subst hji; exact hy.wpOp hi hS ⟨fun _ => hS, H⟩
    · have := ready_mono hj hji
      rw [H.1] at this
      cases this
  | succ fuel ih =>
    intro listed a w hcl hfree hr hy hS H
    refine ⟨fun h => (by rw [h] at hr; cases hr), fun j hj => ?_⟩
    by_cases hji : j = i
    · subst hji; exact hy.wpOp hi hS ⟨fun _ => hS, H⟩
    · have hjL : j ≠ L := fun e => by
        obtain ⟨_, oj, hoj, _⟩ := mem_ready.1 hj
        have := (Array.getElem?_eq_some_iff.1 hoj).1
        omega
      have h1 := H.2 j (ready_mono hj hji)
      obtain ⟨hjun, oj, hoj, hall⟩ := mem_ready.1 hj
      have hnot : ∀ e ∈ oj.after, Region.binds md e = true → e.on ≠ i := fun e he hb heq => by
        have h1 := hall e he hb
        have h0 := (mem_ready.1 hr).1
        rw [heq] at h1
        rcases Nat.lt_or_ge i listed.size with h' | h'
        · simp [h'] at h0 h1; rw [h0] at h1; cases h1
        · simp [Array.getElem?_eq_none h'] at h1
      have h2 := wpOp_putIf hoj (hfree j oj hoj hji hjun hnot) (fun cs b => hsel i oi cs b hi) (fun cs b => hsel j oj cs b hoj) hQ hy h1
      have hfree' : ∀ k ok, ops[k]? = some ok → k ≠ i → (listed.setIfInBounds j true).getD k true = false →
          (∀ e ∈ ok.after, Region.binds md e = true → e.on ≠ i) → oi.apart ops ok = true := fun k ok hk hki hun hno => by
        refine hfree k ok hk hki ?_ hno
        by_cases hjk : j = k
        · subst hjk; exact hjun
        · rw [getD_set_ne true hjk] at hun; exact hun
      refine wpOp_mono (fun a' w' h3 => ⟨fun _ => h3.2.1 hjL, ih (listed.setIfInBounds j true) a' w' (closed_set hcl hj) hfree' (ready_mono hr (Ne.symm hji)) h3.1 (h3.2.1 hjL) ?_⟩) h2
      rw [Array.setIfInBounds_comm _ _ hji]
      exact h3.2.2

/-- Take number i first. -/
theorem wpAnyN_take {i : Nat} {oi : Oper} {v : Value} {fuel : Nat} {listed : Array Bool} {a : Act} {w : World} (hi : ops[i]? = some oi)
    (hs : Region.noSelect ops = true) (hf : Region.free md ops listed i = true) (hr : (Region.ready md ops listed).contains i = true) (hL : ops.size ≤ L) (hcl : closedB md ops listed = true)
    (hQ : ∀ c a w, Q (.panic c) (a.put oi.dst v) w → Q (.panic c) a w) (hy : YieldsIf P ops S oi v a) (hS : S w)
    (h : wpAnyL P md ops Q S L fuel (listed.setIfInBounds i true) (a.put oi.dst v) w) : wpAnyL P md ops Q S L (fuel + 1) listed a w :=
  wpAnyN_first hi (Region.noSelect_spec hs) hQ hL fuel listed a w (closed_spec hcl) (Region.free_spec hi hf) (by simpa using hr) hy hS h

/-- All have come up. -/
theorem wpAnyN_done {fuel : Nat} {listed : Array Bool} {a : Act} {w : World} (hd : Region.ready md ops listed = []) (h : Q .normal a w) : wpAnyL P md ops Q S L fuel listed a w := by
  cases fuel with
  | zero => exact ⟨hd, h⟩
  | succ n => exact ⟨fun _ => h, by rw [hd]; simp⟩
end
end Go.Proofs.Lys
