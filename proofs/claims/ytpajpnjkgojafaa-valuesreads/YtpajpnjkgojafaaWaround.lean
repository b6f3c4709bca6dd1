/-
  A window: how many bits it has, whether it holds another, the least one around a change.
-/
import Derived.Test.YtpajpnjkgojafaaWpk
import Derived.WalkMore
namespace Go.Proofs.Ytpajpnjkgojafaa.V
open Go.RowKit Go.Proofs.Lys
set_option linter.unusedVariables false

theorem count_any (w : World) (z t : Nat) (h : z + t ≤ 64) : Calls Try.prog 25 #[.agg #[.int .i64 (z : Int), .int .i64 (t : Int)]] w fun e w' => e = .returned (.int .i64 ((64 - z - t : Nat) : Int)) ∧ Kept w w' := by
  go_enter Try.func25, Try.ntmps25
  go_wp2
  go_ret
  exact ⟨ret_int (by omega), (Only.refl _ w).alloc _⟩

theorem holds_any (w : World) (z t z' t' : Nat) (h : z ≤ 64) (h1 : t ≤ 64) (h2 : z' ≤ 64) (h3 : t' ≤ 64) : Calls Try.prog 24 #[.agg #[.int .i64 (z : Int), .int .i64 (t : Int)], .agg #[.int .i64 (z' : Int), .int .i64 (t' : Int)]] w fun e w' => e = .returned (.bool (decide (z ≤ z' ∧ t ≤ t'))) ∧ Kept w w' := by
  by_cases a1 : z ≤ z'
  · by_cases a2 : t ≤ t'
    · go_enter Try.func24, Try.ntmps24
      go_wp2
      go_ret
      exact ⟨by simp [a1, a2], ((Only.refl _ w).alloc _).alloc _⟩
    · go_enter Try.func24, Try.ntmps24
      go_wp2
      go_ret
      exact ⟨by simp [a2], ((Only.refl _ w).alloc _).alloc _⟩
  · go_enter Try.func24, Try.ntmps24
    go_wp2
    go_ret
    exact ⟨by simp [a1], ((Only.refl _ w).alloc _).alloc _⟩

def cellN (w : World) (a : Addr) : Nat := match w.cell? a with | some v => (intOf v).toNat | none => 0
theorem cellN_of {w : World} {a : Addr} {k : Nat} (h : w.cell? a = some (.int .i64 (k : Int))) : cellN w a = k := by
  unfold cellN
  rw [h]
  simp [intOf]

theorem high_bit (U a : Nat) (hU : U < 18446744073709551616) (ha : a ≤ 63) : (IntKind.u64.wrap ((U : Int) * 2 ^ a) / 9223372036854775808 == 0) = !(U.testBit (63 - a)) := by
  have e1 : (U : Int) * 2 ^ a = ((U * 2 ^ a : Nat) : Int) := by simp
  have e2 : IntKind.u64.wrap ((U * 2 ^ a : Nat) : Int) = ((U * 2 ^ a % 18446744073709551616 : Nat) : Int) := by
    simp [IntKind.wrap, IntKind.bits, IntKind.signed]
  have e3 : ((U * 2 ^ a % 18446744073709551616 : Nat) : Int) / 9223372036854775808 = ((U * 2 ^ a % 18446744073709551616 / 9223372036854775808 : Nat) : Int) := by simp
  have e4 : (U * 2 ^ a % 18446744073709551616).testBit 63 = U.testBit (63 - a) := by
    rw [show (18446744073709551616 : Nat) = 2 ^ 64 by decide, Nat.testBit_mod_two_pow, ← Nat.shiftLeft_eq, Nat.testBit_shiftLeft]
    simp [ha]
  have hlt : U * 2 ^ a % 18446744073709551616 < 18446744073709551616 := Nat.mod_lt _ (by decide)
  rw [e1, e2, e3, ← e4]
  generalize U * 2 ^ a % 18446744073709551616 = V at hlt ⊢
  rw [Nat.testBit_eq_decide_div_mod_eq, show (2 : Nat) ^ 63 = 9223372036854775808 by decide]
  by_cases h : V < 9223372036854775808
  · rw [Nat.div_eq_of_lt h]
    rfl
  · have : V / 9223372036854775808 = 1 := by omega
    rw [this]
    rfl
theorem low_bit (U k : Nat) (hU : U < 18446744073709551616) : (bits .and .u64 ((U : Int) / 2 ^ k) 1 == 0) = !(U.testBit k) := by
  have e : (U : Int) / 2 ^ k = ((U / 2 ^ k : Nat) : Int) := by simp
  have hlt : U / 2 ^ k < 18446744073709551616 := Nat.lt_of_le_of_lt (Nat.div_le_self _ _) hU
  have h2 := u64_and_nat (U / 2 ^ k) 1 hlt (by decide)
  rw [e, show ((1 : Int)) = ((1 : Nat) : Int) from rfl, h2, Nat.and_one_is_mod, Nat.testBit_eq_decide_div_mod_eq]
  rcases Nat.mod_two_eq_zero_or_one (U / 2 ^ k) with h4 | h4 <;> rw [h4] <;> rfl

theorem leadA_step {x f : Nat} (h : x.testBit (33 + f) = false) : leadA x (f + 1) = leadA x f := by
  show (if x.testBit (33 + f) = true then 30 - f else leadA x f) = _
  rw [if_neg (by rw [h]; decide)]
theorem leadA_stop {x f : Nat} (h : x.testBit (33 + f) = true) : leadA x (f + 1) = 30 - f := by
  show (if x.testBit (33 + f) = true then 30 - f else leadA x f) = _
  rw [if_pos h]
theorem trailA_step {x f : Nat} (h : x.testBit (63 - f) = false) : trailA x (f + 1) = trailA x f := by
  show (if x.testBit (63 - f) = true then 63 - f else trailA x f) = _
  rw [if_neg (by rw [h]; decide)]
theorem trailA_stop {x f : Nat} (h : x.testBit (63 - f) = true) : trailA x (f + 1) = 63 - f := by
  show (if x.testBit (63 - f) = true then 63 - f else trailA x f) = _
  rw [if_pos h]

/-- The window while it is counted. -/
structure ArIn (w wr : World) (R B x a b : Nat) : Prop where
  res : Blk wr R [.int .i64 0, .int .i64 0] 40
  own : Blk wr B [.int .i64 (a : Int), .int .i64 (b : Int)] 40
  kept : Kept w wr
  a31 : a ≤ 31
  b64 : b ≤ 63
  la : leadA x (31 - a) = lead x
  lb : trailA x (64 - b) = trail x
  go : 0 < b → a = lead x

theorem leadA_ge (x f : Nat) : 31 - f ≤ leadA x f := by
  induction f with
  | zero => exact Nat.le_refl _
  | succ f ih =>
    unfold leadA
    split
    · omega
    · omega
theorem ArIn.up {w wr : World} {R B x a b : Nat} (h : ArIn w wr R B x a b) (hR : R ≠ B) (hB : w.heap.size ≤ B) (ha : a < 31) (hb : x.testBit (63 - a) = false) :
    ArIn w (wr.setCell ⟨B, 0, none⟩ (.int .i64 ((a : Int) + 1))) R B x (a + 1) b := by
  have e : 31 - a = (30 - a) + 1 := by omega
  have hl := h.la
  rw [e, leadA_step (by rw [show 33 + (30 - a) = 63 - a by omega]; exact hb)] at hl
  refine ⟨h.res.other hR _, ?_, h.kept.setCell (fun hlt => absurd hlt (by show ¬ B < w.heap.size; omega)) _, by omega, h.b64, by rw [show 31 - (a + 1) = 30 - a by omega]; exact hl, h.lb, fun h0 => ?_⟩
  · have := h.own.set 0 (.int .i64 ((a : Int) + 1))
    rw [show ((a + 1 : Nat) : Int) = (a : Int) + 1 by omega]
    exact this
  · have h1 := h.go h0
    have h2 := leadA_ge x (30 - a)
    omega
theorem ArIn.isLead {w wr : World} {R B x a b : Nat} (h : ArIn w wr R B x a b) (ha : ¬ a < 31 ∨ x.testBit (63 - a) = true) : a = lead x := by
  by_cases h31 : a < 31
  · have e : 31 - a = (30 - a) + 1 := by omega
    have hl := h.la
    rcases ha with h0 | h0
    · exact absurd h31 h0
    · rw [e, leadA_stop (by rw [show 33 + (30 - a) = 63 - a by omega]; exact h0)] at hl
      omega
  · have h1 := h.a31
    have hl := h.la
    rw [show 31 - a = 0 by omega] at hl
    have : a = 31 := by omega
    rw [this, ← hl]
    rfl
theorem ArIn.dn {w wr : World} {R B x a b : Nat} (h : ArIn w wr R B x a b) (hR : R ≠ B) (hB : w.heap.size ≤ B) (hx : x < 18446744073709551616) (h0 : x ≠ 0) (ha : a = lead x) (hb : x.testBit b = false) :
    ArIn w (wr.setCell ⟨B, 1, none⟩ (.int .i64 ((b : Int) + 1))) R B x a (b + 1) := by
  have h63 := h.b64
  have e : 64 - b = (63 - b) + 1 := by omega
  have hl := h.lb
  rw [e, trailA_step (by rw [show 63 - (63 - b) = b by omega]; exact hb)] at hl
  have ht := trail_lt hx h0
  have hb62 : b ≤ 62 := by
    refine Nat.le_of_not_lt (fun hlt => ?_)
    rw [show 63 - b = 0 by omega] at hl
    have : trailA x 0 = 64 := rfl
    omega
  refine ⟨h.res.other hR _, ?_, h.kept.setCell (fun hlt => absurd hlt (by show ¬ B < w.heap.size; omega)) _, h.a31, by omega, h.la, by rw [show 64 - (b + 1) = 63 - b by omega]; exact hl, fun _ => ha⟩
  have := h.own.set 1 (.int .i64 ((b : Int) + 1))
  rw [show ((b + 1 : Nat) : Int) = (b : Int) + 1 by omega]
  exact this
theorem ArIn.isTrail {w wr : World} {R B x a b : Nat} (h : ArIn w wr R B x a b) (hb : x.testBit b = true) : b = trail x := by
  have h63 := h.b64
  have e : 64 - b = (63 - b) + 1 := by omega
  have hl := h.lb
  rw [e, trailA_stop (by rw [show 63 - (63 - b) = b by omega]; exact hb)] at hl
  omega
theorem ArIn.less {w w2 wr wr2 : World} {R B x a b a' b' : Nat} (h : ArIn w wr R B x a b) (h' : ArIn w2 wr2 R B x a' b') (hlt : a + b < a' + b') : 96 - cellN wr2 ⟨B, 0, none⟩ - cellN wr2 ⟨B, 1, none⟩ < 96 - cellN wr ⟨B, 0, none⟩ - cellN wr ⟨B, 1, none⟩ := by
  rw [cellN_of (h.own.cell 0 rfl), cellN_of (h.own.cell 1 rfl), cellN_of (h'.own.cell 0 rfl), cellN_of (h'.own.cell 1 rfl)]
  have := h.a31
  have := h.b64
  omega

set_option maxRecDepth 100000 in
set_option maxHeartbeats 800000 in
theorem around_any (w : World) (x : Nat) (hx : x < 18446744073709551616) (h0 : x ≠ 0) : Calls Try.prog 23 #[.int .u64 (x : Int)] w fun e w' => e = .returned (.agg #[.int .i64 (lead x : Int), .int .i64 (trail x : Int)]) ∧ Kept w w' := by
  have hS : Hid (ArIn w ((w.alloc (.cells #[.int .i64 0, .int .i64 0] 40)).alloc (.cells #[.int .i64 0, .int .i64 0] 40)) w.heap.size (w.heap.size + 1) x 0 0) := by
    refine ⟨(Blk.new w [.int .i64 0, .int .i64 0] _).alloc _, ?_, ((Only.refl _ w).alloc _).alloc _, by omega, by omega, rfl, rfl, fun h => absurd h (by omega)⟩
    have := Blk.new (w.alloc (.cells #[.int .i64 0, .int .i64 0] 40)) [.int .i64 0, .int .i64 0] 40
    simpa using this
  go_enter Try.func23, Try.ntmps23
  go_wp2
  go_step3
  go_wp2
  go_step3
  go_wp2
  generalize (w.alloc (.cells #[.int .i64 0, .int .i64 0] 40)).alloc (.cells #[.int .i64 0, .int .i64 0] 40) = w1 at hS ⊢
  generalize hB : w.heap.size + 1 = B at hS ⊢
  generalize hR : w.heap.size = R at hS ⊢
  go_loopw [5] (fun _ wr => ∃ a b : Nat, ArIn w wr R B x a b) (fun _ wr => 96 - cellN wr ⟨B, 0, none⟩ - cellN wr ⟨B, 1, none⟩)
  case atStart => exact ⟨0, 0, hS.out⟩
  case round =>
    obtain ⟨a, b, hI⟩ := hrel
    have c0 := hI.own.cell 0 rfl
    have c1 := hI.own.cell 1 rfl
    have f0 := hI.own.frozen 0
    have f1 := hI.own.frozen 1
    have ha := hI.a31
    have hb := hI.b64
    have HI := hid hI
    clear hI
    have hh := high_bit x a hx (by omega)
    have hl := low_bit x b hx
    have hRB : R ≠ B := by omega
    by_cases ha31 : a < 31
    · cases hbit : x.testBit (63 - a) with
      | false =>
        rw [hbit] at hh
        have HU := hid (HI.out.up hRB (by omega) ha31 hbit)
        go_wp2
        exact ⟨⟨_, _, HU.out⟩, HI.out.less HU.out (by omega)⟩
      | true =>
        rw [hbit] at hh
        have ha2 := hid (HI.out.isLead (.inr hbit))
        cases hbb : x.testBit b with
        | false =>
          rw [hbb] at hl
          have HU := hid (HI.out.dn hRB (by omega) hx h0 ha2.out hbb)
          go_wp2
          exact ⟨⟨_, _, HU.out⟩, HI.out.less HU.out (by omega)⟩
        | true =>
          rw [hbb] at hl
          have hb2 := hid (HI.out.isTrail hbb)
          have r0 := HI.out.res.cell 0 rfl
          have r1 := HI.out.res.cell 1 rfl
          have g0 := HI.out.res.frozen 0
          have g1 := HI.out.res.frozen 1
          go_wp2
          rw [Exit.noGoto_ret]
          have hres := (HI.out.res.set 0 (.int .i64 (a : Int))).set 1 (.int .i64 (b : Int))
          refine bodyPost_ret (v := .agg #[.int .i64 (a : Int), .int .i64 (b : Int)]) (results_cell_row rfl _ _ R 40 #[.int .i64 (a : Int), .int .i64 (b : Int)] (0, 0) _ rfl hres Try.underlying40 rfl (by kernel_rfl)) rfl ?_
          exact ⟨by rw [ha2.out, hb2.out], (HI.out.kept.setCell (fun hlt => absurd hlt (by show ¬ R < w.heap.size; omega)) _).setCell (fun hlt => absurd hlt (by show ¬ R < w.heap.size; omega)) _⟩
    · have ha2 := hid (HI.out.isLead (.inl ha31))
      have ha31' : decide ((a : Int) < 31) = false := by simp; omega
      cases hbb : x.testBit b with
      | false =>
        rw [hbb] at hl
        have HU := hid (HI.out.dn hRB (by omega) hx h0 ha2.out hbb)
        go_wp2
        exact ⟨⟨_, _, HU.out⟩, HI.out.less HU.out (by omega)⟩
      | true =>
        rw [hbb] at hl
        have hb2 := hid (HI.out.isTrail hbb)
        have r0 := HI.out.res.cell 0 rfl
        have r1 := HI.out.res.cell 1 rfl
        have g0 := HI.out.res.frozen 0
        have g1 := HI.out.res.frozen 1
        go_wp2
        rw [Exit.noGoto_ret]
        have hres := (HI.out.res.set 0 (.int .i64 (a : Int))).set 1 (.int .i64 (b : Int))
        refine bodyPost_ret (v := .agg #[.int .i64 (a : Int), .int .i64 (b : Int)]) (results_cell_row rfl _ _ R 40 #[.int .i64 (a : Int), .int .i64 (b : Int)] (0, 0) _ rfl hres Try.underlying40 rfl (by kernel_rfl)) rfl ?_
        exact ⟨by rw [ha2.out, hb2.out], (HI.out.kept.setCell (fun hlt => absurd hlt (by show ¬ R < w.heap.size; omega)) _).setCell (fun hlt => absurd hlt (by show ¬ R < w.heap.size; omega)) _⟩
end Go.Proofs.Ytpajpnjkgojafaa.V
