/-
  Waround, Wchange, Wchange2, Wpack, Wrzero.
-/
import Derived.Test.YtllfanlhgnkcfaaGreatDoorQ08
import Derived.WalkMore
import Derived.Test.YtllfanlhgnkcfaaGreatDoorQ12
namespace Go.Proofs.YtllfanlhgnkcfaaGreatDoor.V
open Go.RowKit Go.Proofs.Lys
set_option linter.unusedVariables false
theorem count_any (w : World) (z t : Nat) (h : z + t ≤ 64) : Calls Tryz.prog 132 #[.agg #[.int .i64 (z : Int), .int .i64 (t : Int)]] w fun e w' => e = .returned (.int .i64 ((64 - z - t : Nat) : Int)) ∧ Kept w w' := by
 go_enter Tryz.func132, Tryz.ntmps132
 go_wp2
 go_ret
 exact ⟨ret_int (by omega), (Only.refl _ w).alloc _⟩
theorem holds_any (w : World) (z t z' t' : Nat) (h : z ≤ 64) (h1 : t ≤ 64) (h2 : z' ≤ 64) (h3 : t' ≤ 64) : Calls Tryz.prog 131 #[.agg #[.int .i64 (z : Int), .int .i64 (t : Int)], .agg #[.int .i64 (z' : Int), .int .i64 (t' : Int)]] w fun e w' => e = .returned (.bool (decide (z ≤ z' ∧ t ≤ t'))) ∧ Kept w w' := by
 by_cases a1 : z ≤ z'
 ·by_cases a2 : t ≤ t'
  ·go_enter Tryz.func131, Tryz.ntmps131
   go_wp2
   go_ret
   exact ⟨by simp [a1, a2], ((Only.refl _ w).alloc _).alloc _⟩
  ·go_enter Tryz.func131, Tryz.ntmps131
   go_wp2
   go_ret
   exact ⟨by simp [a2], ((Only.refl _ w).alloc _).alloc _⟩
 ·go_enter Tryz.func131, Tryz.ntmps131
  go_wp2
  go_ret
  exact ⟨by simp [a1], ((Only.refl _ w).alloc _).alloc _⟩
def cellN (w : World) (a : Addr) : Nat := match w.cell? a with | some v => (intOf v).toNat | none => 0
theorem cellN_of {w : World} {a : Addr} {k : Nat} (h : w.cell? a = some (.int .i64 (k : Int))) : cellN w a = k := by
 unfold cellN
 rw [h]
 simp [intOf]
theorem high_bit (U a : Nat) (hU : U < 18446744073709551616) (ha : a ≤ 63) : (IntKind.u64.wrap ((U : Int) * 2 ^ a) / 9223372036854775808 == 0) = !(U.testBit (63 - a)) := by
 have e1 : (U : Int) * 2 ^ a = ((U * 2 ^ a : Nat) : Int) := by simp
 have e2 : IntKind.u64.wrap ((U * 2 ^ a : Nat) : Int) = ((U * 2 ^ a % 18446744073709551616 : Nat) : Int) := by
  simp [IntKind.wrap, IntKind.bits, IntKind.signed]
 have e3 : ((U * 2 ^ a % 18446744073709551616 : Nat) : Int) / 9223372036854775808 = ((U * 2 ^ a % 18446744073709551616 / 9223372036854775808 : Nat) : Int) := by simp
 have e4 : (U * 2 ^ a % 18446744073709551616).testBit 63 = U.testBit (63 - a) := by
  rw [show (18446744073709551616 : Nat) = 2 ^ 64 by decide, Nat.testBit_mod_two_pow, ← Nat.shiftLeft_eq, Nat.testBit_shiftLeft]
  simp [ha]
 have hlt : U * 2 ^ a % 18446744073709551616 < 18446744073709551616 := Nat.mod_lt _ (by decide)
 rw [e1, e2, e3, ← e4]
 generalize U * 2 ^ a % 18446744073709551616 = V at hlt ⊢
 rw [Nat.testBit_eq_decide_div_mod_eq, show (2 : Nat) ^ 63 = 9223372036854775808 by decide]
 by_cases h : V < 9223372036854775808
 ·rw [Nat.div_eq_of_lt h]
  rfl
 ·have : V / 9223372036854775808 = 1 := by omega
  rw [this]
  rfl
theorem low_bit (U k : Nat) (hU : U < 18446744073709551616) : (bits .and .u64 ((U : Int) / 2 ^ k) 1 == 0) = !(U.testBit k) := by
 have e : (U : Int) / 2 ^ k = ((U / 2 ^ k : Nat) : Int) := by simp
 have hlt : U / 2 ^ k < 18446744073709551616 := Nat.lt_of_le_of_lt (Nat.div_le_self _ _) hU
 have h2 := u64_and_nat (U / 2 ^ k) 1 hlt (by decide)
 rw [e, show ((1 : Int)) = ((1 : Nat) : Int) from rfl, h2, Nat.and_one_is_mod, Nat.testBit_eq_decide_div_mod_eq]
 rcases Nat.mod_two_eq_zero_or_one (U / 2 ^ k) with h4 | h4 <;> rw [h4] <;> rfl
theorem leadA_step {x f : Nat} (h : x.testBit (33 + f) = false) : leadA x (f + 1) = leadA x f := by
 show (if x.testBit (33 + f) = true then 30 - f else leadA x f) = _
 rw [if_neg (by rw [h]; decide)]
theorem leadA_stop {x f : Nat} (h : x.testBit (33 + f) = true) : leadA x (f + 1) = 30 - f := by
 show (if x.testBit (33 + f) = true then 30 - f else leadA x f) = _
 rw [if_pos h]
theorem trailA_step {x f : Nat} (h : x.testBit (63 - f) = false) : trailA x (f + 1) = trailA x f := by
 show (if x.testBit (63 - f) = true then 63 - f else trailA x f) = _
 rw [if_neg (by rw [h]; decide)]
theorem trailA_stop {x f : Nat} (h : x.testBit (63 - f) = true) : trailA x (f + 1) = 63 - f := by
 show (if x.testBit (63 - f) = true then 63 - f else trailA x f) = _
 rw [if_pos h]
structure ArIn (w wr : World) (R B x a b : Nat) : Prop where
 res : Blk wr R [.int .i64 0, .int .i64 0] 178
 own : Blk wr B [.int .i64 (a : Int), .int .i64 (b : Int)] 178
 kept : Kept w wr
 a31 : a ≤ 31
 b64 : b ≤ 63
 la : leadA x (31 - a) = lead x
 lb : trailA x (64 - b) = trail x
 go : 0 < b → a = lead x
theorem leadA_ge (x f : Nat) : 31 - f ≤ leadA x f := by
 induction f with
 | zero => exact Nat.le_refl _
 | succ f ih =>
  unfold leadA
  split
  ·omega
  ·omega
theorem ArIn.up {w wr : World} {R B x a b : Nat} (h : ArIn w wr R B x a b) (hR : R ≠ B) (hB : w.heap.size ≤ B) (ha : a < 31) (hb : x.testBit (63 - a) = false) :
  ArIn w (wr.setCell ⟨B, 0, none⟩ (.int .i64 ((a : Int) + 1))) R B x (a + 1) b := by
 have e : 31 - a = (30 - a) + 1 := by omega
 have hl := h.la
 rw [e, leadA_step (by rw [show 33 + (30 - a) = 63 - a by omega]; exact hb)] at hl
 refine ⟨h.res.other hR _, ?_, h.kept.setCell (fun hlt => absurd hlt (by show ¬ B < w.heap.size; omega)) _, by omega, h.b64, by rw [show 31 - (a + 1) = 30 - a by omega]; exact hl, h.lb, fun h0 => ?_⟩
 ·have := h.own.set 0 (.int .i64 ((a : Int) + 1))
  rw [show ((a + 1 : Nat) : Int) = (a : Int) + 1 by omega]
  exact this
 ·have h1 := h.go h0
  have h2 := leadA_ge x (30 - a)
  omega
theorem ArIn.isLead {w wr : World} {R B x a b : Nat} (h : ArIn w wr R B x a b) (ha : ¬ a < 31 ∨ x.testBit (63 - a) = true) : a = lead x := by
 by_cases h31 : a < 31
 ·have e : 31 - a = (30 - a) + 1 := by omega
  have hl := h.la
  rcases ha with h0 | h0
  ·exact absurd h31 h0
  ·rw [e, leadA_stop (by rw [show 33 + (30 - a) = 63 - a by omega]; exact h0)] at hl
   omega
 ·have h1 := h.a31
  have hl := h.la
  rw [show 31 - a = 0 by omega] at hl
  have : a = 31 := by omega
  rw [this, ← hl]
  rfl
theorem ArIn.dn {w wr : World} {R B x a b : Nat} (h : ArIn w wr R B x a b) (hR : R ≠ B) (hB : w.heap.size ≤ B) (hx : x < 18446744073709551616) (h0 : x ≠ 0) (ha : a = lead x) (hb : x.testBit b = false) :
  ArIn w (wr.setCell ⟨B, 1, none⟩ (.int .i64 ((b : Int) + 1))) R B x a (b + 1) := by
 have h63 := h.b64
 have e : 64 - b = (63 - b) + 1 := by omega
 have hl := h.lb
 rw [e, trailA_step (by rw [show 63 - (63 - b) = b by omega]; exact hb)] at hl
 have ht := trail_lt hx h0
 have hb62 : b ≤ 62 := by
  refine Nat.le_of_not_lt (fun hlt => ?_)
  rw [show 63 - b = 0 by omega] at hl
  have : trailA x 0 = 64 := rfl
  omega
 refine ⟨h.res.other hR _, ?_, h.kept.setCell (fun hlt => absurd hlt (by show ¬ B < w.heap.size; omega)) _, h.a31, by omega, h.la, by rw [show 64 - (b + 1) = 63 - b by omega]; exact hl, fun _ => ha⟩
 have := h.own.set 1 (.int .i64 ((b : Int) + 1))
 rw [show ((b + 1 : Nat) : Int) = (b : Int) + 1 by omega]
 exact this
theorem ArIn.isTrail {w wr : World} {R B x a b : Nat} (h : ArIn w wr R B x a b) (hb : x.testBit b = true) : b = trail x := by
 have h63 := h.b64
 have e : 64 - b = (63 - b) + 1 := by omega
 have hl := h.lb
 rw [e, trailA_stop (by rw [show 63 - (63 - b) = b by omega]; exact hb)] at hl
 omega
theorem ArIn.less {w w2 wr wr2 : World} {R B x a b a' b' : Nat} (h : ArIn w wr R B x a b) (h' : ArIn w2 wr2 R B x a' b') (hlt : a + b < a' + b') : 96 - cellN wr2 ⟨B, 0, none⟩ - cellN wr2 ⟨B, 1, none⟩ < 96 - cellN wr ⟨B, 0, none⟩ - cellN wr ⟨B, 1, none⟩ := by
 rw [cellN_of (h.own.cell 0 rfl), cellN_of (h.own.cell 1 rfl), cellN_of (h'.own.cell 0 rfl), cellN_of (h'.own.cell 1 rfl)]
 have := h.a31
 have := h.b64
 omega
set_option maxRecDepth 100000 in
set_option maxHeartbeats 800000 in
theorem around_any (w : World) (x : Nat) (hx : x < 18446744073709551616) (h0 : x ≠ 0) : Calls Tryz.prog 130 #[.int .u64 (x : Int)] w fun e w' => e = .returned (.agg #[.int .i64 (lead x : Int), .int .i64 (trail x : Int)]) ∧ Kept w w' := by
 have hS : Hid (ArIn w ((w.alloc (.cells #[.int .i64 0, .int .i64 0] 178)).alloc (.cells #[.int .i64 0, .int .i64 0] 178)) w.heap.size (w.heap.size + 1) x 0 0) := by
  refine ⟨(Blk.new w [.int .i64 0, .int .i64 0] _).alloc _, ?_, ((Only.refl _ w).alloc _).alloc _, by omega, by omega, rfl, rfl, fun h => absurd h (by omega)⟩
  have := Blk.new (w.alloc (.cells #[.int .i64 0, .int .i64 0] 178)) [.int .i64 0, .int .i64 0] 178
  simpa using this
 go_enter Tryz.func130, Tryz.ntmps130
 go_wp2
 go_step3
 go_wp2
 go_step3
 go_wp2
 generalize (w.alloc (.cells #[.int .i64 0, .int .i64 0] 178)).alloc (.cells #[.int .i64 0, .int .i64 0] 178) = w1 at hS ⊢
 generalize hB : w.heap.size + 1 = B at hS ⊢
 generalize hR : w.heap.size = R at hS ⊢
 go_loopw [5] (fun _ wr => ∃ a b : Nat, ArIn w wr R B x a b) (fun _ wr => 96 - cellN wr ⟨B, 0, none⟩ - cellN wr ⟨B, 1, none⟩)
 case atStart => exact ⟨0, 0, hS.out⟩
 case round =>
  obtain ⟨a, b, hI⟩ := hrel
  have c0 := hI.own.cell 0 rfl
  have c1 := hI.own.cell 1 rfl
  have f0 := hI.own.frozen 0
  have f1 := hI.own.frozen 1
  have ha := hI.a31
  have hb := hI.b64
  have HI := hid hI
  clear hI
  have hh := high_bit x a hx (by omega)
  have hl := low_bit x b hx
  have hRB : R ≠ B := by omega
  by_cases ha31 : a < 31
  ·cases hbit : x.testBit (63 - a) with
   | false =>
    rw [hbit] at hh
    have HU := hid (HI.out.up hRB (by omega) ha31 hbit)
    go_wp2
    exact ⟨⟨_, _, HU.out⟩, HI.out.less HU.out (by omega)⟩
   | true =>
    rw [hbit] at hh
    have ha2 := hid (HI.out.isLead (.inr hbit))
    cases hbb : x.testBit b with
    | false =>
     rw [hbb] at hl
     have HU := hid (HI.out.dn hRB (by omega) hx h0 ha2.out hbb)
     go_wp2
     exact ⟨⟨_, _, HU.out⟩, HI.out.less HU.out (by omega)⟩
    | true =>
     rw [hbb] at hl
     have hb2 := hid (HI.out.isTrail hbb)
     have r0 := HI.out.res.cell 0 rfl
     have r1 := HI.out.res.cell 1 rfl
     have g0 := HI.out.res.frozen 0
     have g1 := HI.out.res.frozen 1
     go_wp2
     rw [Exit.noGoto_ret]
     have hres := (HI.out.res.set 0 (.int .i64 (a : Int))).set 1 (.int .i64 (b : Int))
     refine bodyPost_ret (v := .agg #[.int .i64 (a : Int), .int .i64 (b : Int)]) (results_cell_row rfl _ _ R 178 #[.int .i64 (a : Int), .int .i64 (b : Int)] (0, 0) _ rfl hres Tryz.underlying178 rfl (by kernel_rfl)) rfl ?_
     exact ⟨by rw [ha2.out, hb2.out], (HI.out.kept.setCell (fun hlt => absurd hlt (by show ¬ R < w.heap.size; omega)) _).setCell (fun hlt => absurd hlt (by show ¬ R < w.heap.size; omega)) _⟩
  ·have ha2 := hid (HI.out.isLead (.inl ha31))
   have ha31' : decide ((a : Int) < 31) = false := by simp; omega
   cases hbb : x.testBit b with
   | false =>
    rw [hbb] at hl
    have HU := hid (HI.out.dn hRB (by omega) hx h0 ha2.out hbb)
    go_wp2
    exact ⟨⟨_, _, HU.out⟩, HI.out.less HU.out (by omega)⟩
   | true =>
    rw [hbb] at hl
    have hb2 := hid (HI.out.isTrail hbb)
    have r0 := HI.out.res.cell 0 rfl
    have r1 := HI.out.res.cell 1 rfl
    have g0 := HI.out.res.frozen 0
    have g1 := HI.out.res.frozen 1
    go_wp2
    rw [Exit.noGoto_ret]
    have hres := (HI.out.res.set 0 (.int .i64 (a : Int))).set 1 (.int .i64 (b : Int))
    refine bodyPost_ret (v := .agg #[.int .i64 (a : Int), .int .i64 (b : Int)]) (results_cell_row rfl _ _ R 178 #[.int .i64 (a : Int), .int .i64 (b : Int)] (0, 0) _ rfl hres Tryz.underlying178 rfl (by kernel_rfl)) rfl ?_
    exact ⟨by rw [ha2.out, hb2.out], (HI.out.kept.setCell (fun hlt => absurd hlt (by show ¬ R < w.heap.size; omega)) _).setCell (fun hlt => absurd hlt (by show ¬ R < w.heap.size; omega)) _⟩
end Go.Proofs.YtllfanlhgnkcfaaGreatDoor.V
namespace Go.Proofs.YtllfanlhgnkcfaaGreatDoor.V
open Go.RowKit Go.Proofs.Lys
set_option linter.unusedVariables false
theorem uN0 : uN 0 = 0 := by decide +kernel
theorem uN2 : uN 2 = 2 := by decide +kernel
theorem uN3 : uN 3 = 3 := by decide +kernel
theorem shr_int (x t : Nat) : (x : Int) / 2 ^ t = ((x >>> t : Nat) : Int) := by rw [Nat.shiftRight_eq_div_pow]; simp
theorem shr_lt {x : Nat} (t : Nat) (hx : x < 18446744073709551616) : x >>> t < 18446744073709551616 := by
 rw [Nat.shiftRight_eq_div_pow]
 exact Nat.lt_of_le_of_lt (Nat.div_le_self _ _) hx
set_option maxRecDepth 100000 in
set_option maxHeartbeats 1600000 in
theorem change_zero {w : World} {b : Nat} {W : Win} {v : Value} {l : List Bool} (h : PkAt w b W v l) (hl : l.length ≤ 900000) :
  Calls Tryz.prog 120 #[.pointer (some ⟨b, 0, none⟩), .int .u64 0] w fun e w' => e = .returned (.tuple #[]) ∧ ∃ v', PkS w b v w' W v' (l ++ bitsL 0 1) := by
 go_enter Tryz.func120, Tryz.ntmps120
 go_wp2_with fail
 refine (pk_put h 0 1 1 (.inr (.inr ⟨rfl, by decide⟩)) (by omega)).mono ?_
 rintro e w1 ⟨rfl, v1, h1, k1, n1⟩
 go_wp2_with fail
 (try simp only [Exit.inBlock, Exit.then])
 refine bodyPost_ret (results_none rfl _ _ _) rfl ?_
 rw [uN0] at h1
 exact ⟨rfl, v1, h.start.put h1 k1 n1⟩
set_option maxRecDepth 100000 in
set_option maxHeartbeats 3200000 in
theorem change_fit {w : World} {b z t : Nat} {v : Value} {l : List Bool} (h : PkAt w b ⟨true, z, t⟩ v l) (hl : l.length ≤ 900000) {x : Nat} (hx : x < 18446744073709551616) (h0 : x ≠ 0) (hz : z ≤ lead x) (ht : t ≤ trail x) :
  Calls Tryz.prog 120 #[.pointer (some ⟨b, 0, none⟩), .int .u64 (x : Int)] w fun e w' => e = .returned (.tuple #[]) ∧ ∃ v', PkS w b v w' ⟨true, z, t⟩ v' (l ++ (bitsL 2 2 ++ bodyB z t x)) := by
 have hx0 : ((x : Int) == 0) = false := by simp; omega
 have ha := around_any w x hx h0
 have hb := both_lt hx h0
 have hz31 := lead_le x
 have HX := hid hx
 obtain ⟨Z, hZ⟩ : ∃ Z, lead x = Z := ⟨_, rfl⟩
 obtain ⟨T, hT⟩ : ∃ T, trail x = T := ⟨_, rfl⟩
 rw [hZ, hT] at ha hb
 rw [hZ] at hz31 hz
 rw [hT] at ht
 have HZ := hid hZ
 have HT := hid hT
 have H := hid h
 clear hZ hT h h0 hx
 go_enter Tryz.func120, Tryz.ntmps120
 go_wp2_with fail
 refine ha.mono ?_
 rintro e w1 ⟨rfl, k1⟩
 clear ha
 have HS : Hid (PkS w b v (w1.alloc (.cells #[.int .i64 (Z : Int), .int .i64 (T : Int)] 178)) ⟨true, z, t⟩ v l) := H.out.start.stay (k1.alloc _)
 have HO : Hid (Blk (w1.alloc (.cells #[.int .i64 (Z : Int), .int .i64 (T : Int)] 178)) w1.heap.size [.int .i64 (Z : Int), .int .i64 (T : Int)] 178) := Blk.new w1 _ _
 go_wp2_with fail
 generalize w1.alloc (.cells #[.int .i64 (Z : Int), .int .i64 (T : Int)] 178) = w2 at HS HO ⊢
 generalize w1.heap.size = B at HO ⊢
 have c0 := HS.out.at_.blk.cell 0 rfl
 have c1 := HS.out.at_.blk.cell 1 rfl
 have c4 := HS.out.at_.blk.cell 4 rfl
 have d0 := HO.out.cell 0 rfl
 have d1 := HO.out.cell 1 rfl
 have hzt : z + t < 64 := by omega
 have hY := shr_int x t
 obtain ⟨Y, hYe⟩ : ∃ Y, x >>> t = Y := ⟨_, rfl⟩
 rw [hYe] at hY
 have HY : Hid (uN (wrap64 (Y : Int)) = x >>> t) := by show _ = _; rw [← hYe]; exact uN_wrap64 (shr_lt t HX.out)
 clear hYe
 have hlen6 : Hid ((l ++ bitsL (uN 2) 2).length ≤ 1000000) := by show _ ≤ _; rw [List.length_append, bitsL_length]; omega
 go_region_with (go_at_call 131; refine (holds_any _ z t Z T (by omega) (by omega) (by omega) (by omega)).mono ?_; rintro e w3 ⟨rfl, k3⟩)
 all_goals
  have HS3 := hid (HS.out.stay ((Only.refl (fun _ => False) w2).drew.trans k3 (fun _ _ f => f)))
  clear k3 c0 c1 c4 d0 d1
  go_wp2_with fail
  refine (pk_put HS3.out.at_ 2 2 2 (.inr (.inr ⟨rfl, by decide⟩)) (by omega)).mono ?_
  rintro e w4 ⟨rfl, v4, h4, k4, n4⟩
  have HS4 := hid (HS3.out.put h4 k4 n4)
  clear h4 k4 n4
  have c0 := HS4.out.at_.blk.cell 0 rfl
  have c1 := HS4.out.at_.blk.cell 1 rfl
  go_wp2_with fail
  refine wp_region_noPanic ?_
  refine wp_region_last (L := 1000) (S := fun w' => w'.cell? ⟨b, 0, none⟩ = some (.int .i64 (z : Int)) ∧ w'.cell? ⟨b, 1, none⟩ = some (.int .i64 (t : Int))) (by kernel_rfl) ?_
  have hS : (fun w' : World => w'.cell? ⟨b, 0, none⟩ = some (.int .i64 (z : Int)) ∧ w'.cell? ⟨b, 1, none⟩ = some (.int .i64 (t : Int))) w4.drew := ⟨c0, c1⟩
  refine wpAnyN_take (i := 0) (v := .pointer (some ⟨b, 0, none⟩)) rfl (by kernel_rfl) (by kernel_rfl) (by kernel_rfl) (by decide) (by kernel_rfl) (fun _ _ _ h => h) (Or.inl ⟨by rfl, ?_⟩) hS ?_
  ·(intro w' hSw; go_simp)
  go_frame
  refine wpAnyN_take (i := 1) (v := .pointer (some ⟨b, 0, none⟩)) rfl (by kernel_rfl) (by kernel_rfl) (by kernel_rfl) (by decide) (by kernel_rfl) (fun _ _ _ h => h) (Or.inl ⟨by rfl, ?_⟩) hS ?_
  ·(intro w' hSw; go_simp)
  go_frame
  refine wpAnyN_take (i := 2) (v := .pointer (some ⟨b, 2, none⟩)) rfl (by kernel_rfl) (by kernel_rfl) (by kernel_rfl) (by decide) (by kernel_rfl) (fun _ _ _ h => h) (Or.inl ⟨by rfl, ?_⟩) hS ?_
  ·(intro w' hSw; go_simp)
  go_frame
  refine wpAnyN_take (i := 3) (v := .int .u64 (x : Int)) rfl (by kernel_rfl) (by kernel_rfl) (by kernel_rfl) (by decide) (by kernel_rfl) (fun _ _ _ h => h) (Or.inl ⟨by rfl, ?_⟩) hS ?_
  ·(intro w' hSw; go_simp)
  go_frame
  refine wpAnyN_take (i := 4) (v := .pointer (some ⟨b, 0, none⟩)) rfl (by kernel_rfl) (by kernel_rfl) (by kernel_rfl) (by decide) (by kernel_rfl) (fun _ _ _ h => h) (Or.inl ⟨by rfl, ?_⟩) hS ?_
  ·(intro w' hSw; go_simp)
  go_frame
  refine wpAnyN_take (i := 5) (v := .pointer (some ⟨b, 0, none⟩)) rfl (by kernel_rfl) (by kernel_rfl) (by kernel_rfl) (by decide) (by kernel_rfl) (fun _ _ _ h => h) (Or.inl ⟨by rfl, ?_⟩) hS ?_
  ·(intro w' hSw; go_simp)
  go_frame
  refine wpAnyN_take (i := 6) (v := .pointer (some ⟨b, 0, none⟩)) rfl (by kernel_rfl) (by kernel_rfl) (by kernel_rfl) (by decide) (by kernel_rfl) (fun _ _ _ h => h) (Or.inl ⟨by rfl, ?_⟩) hS ?_
  ·(intro w' hSw; go_simp)
  go_frame
  refine wpAnyN_take (i := 7) (v := .pointer (some ⟨b, 1, none⟩)) rfl (by kernel_rfl) (by kernel_rfl) (by kernel_rfl) (by decide) (by kernel_rfl) (fun _ _ _ h => h) (Or.inl ⟨by rfl, ?_⟩) hS ?_
  ·(intro w' hSw; go_simp)
  go_frame
  refine wpAnyN_take (i := 8) (v := .int .i64 (t : Int)) rfl (by kernel_rfl) (by kernel_rfl) (by kernel_rfl) (by decide) (by kernel_rfl) (fun _ _ _ h => h) (Or.inl ⟨by rfl, ?_⟩) hS ?_
  ·(intro w' hSw; go_simp)
  go_frame
  refine wpAnyN_take (i := 9) (v := .int .u64 (Y : Int)) rfl (by kernel_rfl) (by kernel_rfl) (by kernel_rfl) (by decide) (by kernel_rfl) (fun _ _ _ h => h) (Or.inl ⟨by rfl, ?_⟩) hS ?_
  ·(intro w' hSw; go_simp)
  go_frame
  refine wpAnyN_take (i := 10) (v := .int .i64 (wrap64 (Y : Int))) rfl (by kernel_rfl) (by kernel_rfl) (by kernel_rfl) (by decide) (by kernel_rfl) (fun _ _ _ h => h) (Or.inl ⟨by rfl, ?_⟩) hS ?_
  ·(intro w' hSw; go_simp; exact wrap_is _)
  go_frame
  refine wpAnyN_take (i := 11) (v := .pointer (some ⟨b, 0, none⟩)) rfl (by kernel_rfl) (by kernel_rfl) (by kernel_rfl) (by decide) (by kernel_rfl) (fun _ _ _ h => h) (Or.inl ⟨by rfl, ?_⟩) hS ?_
  ·(intro w' hSw; go_simp)
  go_frame
  refine wpAnyN_take (i := 12) (v := .pointer (some ⟨b, 0, none⟩)) rfl (by kernel_rfl) (by kernel_rfl) (by kernel_rfl) (by decide) (by kernel_rfl) (fun _ _ _ h => h) (Or.inl ⟨by rfl, ?_⟩) hS ?_
  ·(intro w' hSw; go_simp)
  go_frame
  refine wpAnyN_take (i := 13) (v := .pointer (some ⟨b, 0, none⟩)) rfl (by kernel_rfl) (by kernel_rfl) (by kernel_rfl) (by decide) (by kernel_rfl) (fun _ _ _ h => h) (Or.inl ⟨by rfl, ?_⟩) hS ?_
  ·(intro w' hSw; go_simp)
  go_frame
  refine wpAnyN_take (i := 14) (v := .agg #[.int .i64 (z : Int), .int .i64 (t : Int)]) rfl (by kernel_rfl) (by kernel_rfl) (by kernel_rfl) (by decide) (by kernel_rfl) (fun _ _ _ h => h) (Or.inl ⟨by rfl, ?_⟩) hS ?_
  ·(intro w' hSw; go_simp)
  go_frame
  refine wpAnyL_one (i := 15) (by kernel_rfl) rfl rfl ?_
  go_simp
  refine (count_any _ z t (by omega)).mono ?_
  rintro e w6 ⟨rfl, k6⟩
  have HS6 := hid (HS4.out.stay ((Only.refl (fun _ => False) w4).drew.trans k6 (fun _ _ f => f)))
  refine ⟨⟨HS6.out.at_.blk.cell 0 rfl, HS6.out.at_.blk.cell 1 rfl⟩, ?_⟩
  refine wpAnyL_one (i := 16) (by kernel_rfl) rfl rfl ?_
  go_simp
  refine (pk_put HS6.out.at_ (wrap64 (Y : Int)) _ (64 - z - t) (.inr (.inr ⟨rfl, by omega⟩)) hlen6.out).mono ?_
  rintro e w61 ⟨rfl, v61, h61, k61, n61⟩
  have HE := hid (HS6.out.put h61 k61 n61)
  refine ⟨⟨HE.out.at_.blk.cell 0 rfl, HE.out.at_.blk.cell 1 rfl⟩, ?_⟩
  refine wpAnyN_done (by kernel_rfl) ?_
  refine NoPanic.normal ?_
  clear hS
  go_wp2_with fail
  (try simp only [Exit.inBlock, Exit.then])
  go_end0
  have h9 := HE.out
  rw [uN2, HY.out, List.append_assoc] at h9
  exact ⟨rfl, _, h9⟩
end Go.Proofs.YtllfanlhgnkcfaaGreatDoor.V
namespace Go.Proofs.YtllfanlhgnkcfaaGreatDoor.V
open Go.RowKit Go.Proofs.Lys
set_option linter.unusedVariables false
theorem foot_not {w : World} {b B : Nat} {W : Win} {v : Value} {l : List Bool} {cs : List Value} (h : PkAt w b W v l) (hB : Blk w B cs 178) : ¬ Foot b v B := by
 rintro (e | e)
 ·exact hB.ne h.blk (by decide) e
 ·exact (own_typed h.own e).ne hB.typed (by decide) rfl
theorem pk_turn {w wr : World} {b : Nat} {W : Win} {v0 v : Value} {l : List Bool} (h : PkS w b v0 wr W v l) (Z T : Nat) :
  PkS w b v0 (((wr.setCell ⟨b, 0, none⟩ (.int .i64 (Z : Int))).setCell ⟨b, 1, none⟩ (.int .i64 (T : Int))).setCell ⟨b, 4, none⟩ (.bool true)) ⟨true, Z, T⟩ v l := by
 have k : Only (· = b) wr (((wr.setCell ⟨b, 0, none⟩ (.int .i64 (Z : Int))).setCell ⟨b, 1, none⟩ (.int .i64 (T : Int))).setCell ⟨b, 4, none⟩ (.bool true)) := (((Only.refl (· = b) wr).setCell (fun _ => rfl) _).setCell (fun _ => rfl) _).setCell (fun _ => rfl) _
 exact h.put ⟨((h.at_.blk.set 0 (.int .i64 (Z : Int))).set 1 (.int .i64 (T : Int))).set 4 (.bool true), own_only h.at_.own k (fun j hj e => h.at_.apart hj e)⟩ (k.mono (fun j _ e => .inl e)) (fun j hj => .inl hj)
def encN (Z T x : Nat) : List Bool := ((bitsL 3 2 ++ bitsL Z 5) ++ bitsL (63 - Z - T) 6) ++ bodyB Z T x
set_option maxRecDepth 100000 in
set_option maxHeartbeats 6400000 in
theorem change_new {w : World} {b z t : Nat} {o : Bool} {v : Value} {l : List Bool} (h : PkAt w b ⟨o, z, t⟩ v l) (hl : l.length ≤ 900000) (hzt : z + t < 64) {x : Nat} (hx : x < 18446744073709551616) (h0 : x ≠ 0) (hno : o = true → ¬ (z ≤ lead x ∧ t ≤ trail x)) :
  Calls Tryz.prog 120 #[.pointer (some ⟨b, 0, none⟩), .int .u64 (x : Int)] w fun e w' => e = .returned (.tuple #[]) ∧ ∃ v', PkS w b v w' ⟨true, lead x, trail x⟩ v' (l ++ encN (lead x) (trail x) x) := by
 have hx0 : ((x : Int) == 0) = false := by simp; omega
 have ha := around_any w x hx h0
 have hb := both_lt hx h0
 have hz31 := lead_le x
 have HX := hid hx
 obtain ⟨Z, hZ⟩ : ∃ Z, lead x = Z := ⟨_, rfl⟩
 obtain ⟨T, hT⟩ : ∃ T, trail x = T := ⟨_, rfl⟩
 rw [hZ, hT] at ha hb
 rw [hZ] at hz31
 rw [hZ, hT] at hno
 have HZ := hid hZ
 have HT := hid hT
 have H := hid h
 clear hZ hT h h0 hx
 go_enter Tryz.func120, Tryz.ntmps120
 go_wp2_with fail
 refine ha.mono ?_
 rintro e w1 ⟨rfl, k1⟩
 clear ha
 have HS : Hid (PkS w b v (w1.alloc (.cells #[.int .i64 (Z : Int), .int .i64 (T : Int)] 178)) ⟨o, z, t⟩ v l) := H.out.start.stay (k1.alloc _)
 have HO : Hid (Blk (w1.alloc (.cells #[.int .i64 (Z : Int), .int .i64 (T : Int)] 178)) w1.heap.size [.int .i64 (Z : Int), .int .i64 (T : Int)] 178) := Blk.new w1 _ _
 go_wp2_with fail
 generalize w1.alloc (.cells #[.int .i64 (Z : Int), .int .i64 (T : Int)] 178) = w2 at HS HO ⊢
 generalize w1.heap.size = B at HO ⊢
 have hY := shr_int x T
 obtain ⟨Y, hYe⟩ : ∃ Y, x >>> T = Y := ⟨_, rfl⟩
 rw [hYe] at hY
 have HY : Hid (uN (wrap64 (Y : Int)) = x >>> T) := by show _ = _; rw [← hYe]; exact uN_wrap64 (shr_lt T HX.out)
 clear hYe
 obtain ⟨C, hC⟩ : ∃ C, 64 - Z - T = C := ⟨_, rfl⟩
 have hC1 : 1 ≤ C := by omega
 have hC2 : C ≤ 64 := by omega
 have hCN : Hid (uN ((C : Int) - 1) = 63 - Z - T) := by show _ = _; unfold uN; omega
 have hCW : Hid (IntKind.i64.wrap ((C : Int) - 1) = (C : Int) - 1) := by
  show _ = _
  rw [wrap_is]
  unfold wrap64
  omega
 have hcount : Hid (∀ w, Calls Tryz.prog 132 #[.agg #[.int .i64 (Z : Int), .int .i64 (T : Int)]] w fun e w' => e = .returned (.int .i64 (C : Int)) ∧ Kept w w') := fun w => by
  have := count_any w Z T (by omega)
  rw [hC] at this
  exact this
 clear hC
 have hlenA : Hid ((l ++ bitsL (uN 3) 2).length ≤ 1000000) := by show _ ≤ _; simp only [List.length_append, bitsL_length]; omega
 have hlenB : Hid (((l ++ bitsL (uN 3) 2) ++ bitsL (uN (Z : Int)) 5).length ≤ 1000000) := by show _ ≤ _; simp only [List.length_append, bitsL_length]; omega
 have hlen9 : Hid ((((l ++ bitsL (uN 3) 2) ++ bitsL (uN (Z : Int)) 5) ++ bitsL (uN ((C : Int) - 1)) 6).length ≤ 1000000) := by show _ ≤ _; simp only [List.length_append, bitsL_length]; omega
 have c0 := HS.out.at_.blk.cell 0 rfl
 have c1 := HS.out.at_.blk.cell 1 rfl
 have c4 := HS.out.at_.blk.cell 4 rfl
 have d0 := HO.out.cell 0 rfl
 have d1 := HO.out.cell 1 rfl
 cases o with
 | false =>
  clear hno
  go_region
  clear c0 c1 c4 d0 d1
  have hk3 : Kept w2 w2.drew := (Only.refl (fun _ => False) w2).drew
  generalize w2.drew = w3 at hk3 ⊢
  have HO3 : Hid (Blk w3 B [.int .i64 (Z : Int), .int .i64 (T : Int)] 178) := hk3.blk HO.out (fun f => f)
  have HS3 := hid (HS.out.stay hk3)
  have c0 := HS3.out.at_.blk.cell 0 rfl
  have c1 := HS3.out.at_.blk.cell 1 rfl
  have c4 := HS3.out.at_.blk.cell 4 rfl
  have f0 := HS3.out.at_.blk.frozen 0
  have f1 := HS3.out.at_.blk.frozen 1
  have f4 := HS3.out.at_.blk.frozen 4
  have d0 := HO3.out.cell 0 rfl
  have d1 := HO3.out.cell 1 rfl
  have hbB : b ≠ B := fun e => (HS3.out.at_.blk.ne HO3.out (by decide)) e
  have HS5 : Hid (PkS w b v (((w3.setCell ⟨b, 0, none⟩ (.int .i64 (Z : Int))).setCell ⟨b, 1, none⟩ (.int .i64 (T : Int))).setCell ⟨b, 4, none⟩ (.bool true)) ⟨true, Z, T⟩ v l) := pk_turn HS3.out Z T
  have HO5 : Hid (Blk (((w3.setCell ⟨b, 0, none⟩ (.int .i64 (Z : Int))).setCell ⟨b, 1, none⟩ (.int .i64 (T : Int))).setCell ⟨b, 4, none⟩ (.bool true)) B [.int .i64 (Z : Int), .int .i64 (T : Int)] 178) := ((HO3.out.other (Ne.symm hbB) _).other (Ne.symm hbB) _).other (Ne.symm hbB) _
  go_wp2_with fail
  clear c0 c1 c4 f0 f1 f4 d0 d1
  generalize ((w3.setCell ⟨b, 0, none⟩ (.int .i64 (Z : Int))).setCell ⟨b, 1, none⟩ (.int .i64 (T : Int))).setCell ⟨b, 4, none⟩ (.bool true) = w5 at HS5 HO5 ⊢
  refine (pk_put HS5.out.at_ 3 2 2 (.inr (.inr ⟨rfl, by decide⟩)) (by omega)).mono ?_
  rintro e w6 ⟨rfl, v6, h6, k6, n6⟩
  have HS6 := hid (HS5.out.put h6 k6 n6)
  have HO6 : Hid (Blk w6 B [.int .i64 (Z : Int), .int .i64 (T : Int)] 178) := k6.blk HO5.out (foot_not HS5.out.at_ HO5.out)
  clear h6 k6 n6
  have d0 := HO6.out.cell 0 rfl
  go_wp2_with fail
  refine wp_region_noPanic ?_
  refine wp_region_last (L := 1000) (S := fun w' => w'.cell? ⟨B, 0, none⟩ = some (.int .i64 (Z : Int))) (by kernel_rfl) ?_
  have hS : (fun w' : World => w'.cell? ⟨B, 0, none⟩ = some (.int .i64 (Z : Int))) w6.drew := d0
  refine wpAnyN_take (i := 0) (v := .pointer (some ⟨b, 0, none⟩)) rfl (by kernel_rfl) (by kernel_rfl) (by kernel_rfl) (by decide) (by kernel_rfl) (fun _ _ _ h => h) (Or.inl ⟨by rfl, ?_⟩) hS ?_
  ·(intro w' hSw; go_simp)
  go_frame
  refine wpAnyN_take (i := 1) (v := .pointer (some ⟨b, 0, none⟩)) rfl (by kernel_rfl) (by kernel_rfl) (by kernel_rfl) (by decide) (by kernel_rfl) (fun _ _ _ h => h) (Or.inl ⟨by rfl, ?_⟩) hS ?_
  ·(intro w' hSw; go_simp)
  go_frame
  refine wpAnyN_take (i := 2) (v := .pointer (some ⟨b, 2, none⟩)) rfl (by kernel_rfl) (by kernel_rfl) (by kernel_rfl) (by decide) (by kernel_rfl) (fun _ _ _ h => h) (Or.inl ⟨by rfl, ?_⟩) hS ?_
  ·(intro w' hSw; go_simp)
  go_frame
  refine wpAnyN_take (i := 3) (v := .pointer (some ⟨B, 0, none⟩)) rfl (by kernel_rfl) (by kernel_rfl) (by kernel_rfl) (by decide) (by kernel_rfl) (fun _ _ _ h => h) (Or.inl ⟨by rfl, ?_⟩) hS ?_
  ·(intro w' hSw; go_simp)
  go_frame
  refine wpAnyN_take (i := 4) (v := .int .i64 (Z : Int)) rfl (by kernel_rfl) (by kernel_rfl) (by kernel_rfl) (by decide) (by kernel_rfl) (fun _ _ _ h => h) (Or.inl ⟨by rfl, ?_⟩) hS ?_
  ·(intro w' hSw; go_simp)
  go_frame
  refine wpAnyL_one (i := 5) (by kernel_rfl) rfl rfl ?_
  go_simp
  refine (pk_put (HS6.out.stay (Only.refl (fun _ => False) w6).drew).at_ (Z : Int) 5 5 (.inr (.inr ⟨rfl, by decide⟩)) hlenA.out).mono ?_
  rintro e w7 ⟨rfl, v7, h7, k7, n7⟩
  have HS7 := hid ((HS6.out.stay (Only.refl (fun _ => False) w6).drew).put h7 k7 n7)
  have HO7 : Hid (Blk w7 B [.int .i64 (Z : Int), .int .i64 (T : Int)] 178) := k7.blk HO6.out (foot_not HS6.out.at_ HO6.out)
  refine ⟨HO7.out.cell 0 rfl, ?_⟩
  refine wpAnyN_done (by kernel_rfl) ?_
  refine NoPanic.normal ?_
  clear hS
  clear h7 k7 n7 d0
  have d0 := HO7.out.cell 0 rfl
  have d1 := HO7.out.cell 1 rfl
  go_wp2_with fail
  refine wp_region_noPanic ?_
  refine wp_region_last (L := 1000) (S := fun w' => w'.cell? ⟨B, 0, none⟩ = some (.int .i64 (Z : Int)) ∧ w'.cell? ⟨B, 1, none⟩ = some (.int .i64 (T : Int))) (by kernel_rfl) ?_
  have hS : (fun w' : World => w'.cell? ⟨B, 0, none⟩ = some (.int .i64 (Z : Int)) ∧ w'.cell? ⟨B, 1, none⟩ = some (.int .i64 (T : Int))) w7.drew := ⟨d0, d1⟩
  refine wpAnyN_take (i := 0) (v := .pointer (some ⟨b, 0, none⟩)) rfl (by kernel_rfl) (by kernel_rfl) (by kernel_rfl) (by decide) (by kernel_rfl) (fun _ _ _ h => h) (Or.inl ⟨by rfl, ?_⟩) hS ?_
  ·(intro w' hSw; go_simp)
  go_frame
  refine wpAnyN_take (i := 1) (v := .pointer (some ⟨b, 0, none⟩)) rfl (by kernel_rfl) (by kernel_rfl) (by kernel_rfl) (by decide) (by kernel_rfl) (fun _ _ _ h => h) (Or.inl ⟨by rfl, ?_⟩) hS ?_
  ·(intro w' hSw; go_simp)
  go_frame
  refine wpAnyN_take (i := 2) (v := .pointer (some ⟨b, 2, none⟩)) rfl (by kernel_rfl) (by kernel_rfl) (by kernel_rfl) (by decide) (by kernel_rfl) (fun _ _ _ h => h) (Or.inl ⟨by rfl, ?_⟩) hS ?_
  ·(intro w' hSw; go_simp)
  go_frame
  refine wpAnyN_take (i := 3) (v := .agg #[.int .i64 (Z : Int), .int .i64 (T : Int)]) rfl (by kernel_rfl) (by kernel_rfl) (by kernel_rfl) (by decide) (by kernel_rfl) (fun _ _ _ h => h) (Or.inl ⟨by rfl, ?_⟩) hS ?_
  ·(intro w' hSw; go_simp)
  go_frame
  refine wpAnyL_one (i := 4) (by kernel_rfl) rfl rfl ?_
  go_simp
  refine (hcount.out _).mono ?_
  rintro e w8 ⟨rfl, k8⟩
  have hk8 : Kept w7 w8 := (Only.refl (fun _ => False) w7).drew.trans k8 (fun _ _ f => f)
  have HS8 := hid (HS7.out.stay hk8)
  have HO8 : Hid (Blk w8 B [.int .i64 (Z : Int), .int .i64 (T : Int)] 178) := hk8.blk HO7.out (fun f => f)
  refine ⟨⟨HO8.out.cell 0 rfl, HO8.out.cell 1 rfl⟩, ?_⟩
  refine wpAnyL_one (i := 5) (by kernel_rfl) rfl rfl ?_
  go_simp
  refine ⟨⟨HO8.out.cell 0 rfl, HO8.out.cell 1 rfl⟩, ?_⟩
  refine wpAnyL_one (i := 6) (by kernel_rfl) rfl rfl ?_
  go_simp
  rw [hCW.out]
  refine (pk_put HS8.out.at_ ((C : Int) - 1) 6 6 (.inr (.inr ⟨rfl, by decide⟩)) hlenB.out).mono ?_
  rintro e w81 ⟨rfl, v81, h81, k81, n81⟩
  have HS81 := hid (HS8.out.put h81 k81 n81)
  have HO81 : Hid (Blk w81 B [.int .i64 (Z : Int), .int .i64 (T : Int)] 178) := k81.blk HO8.out (foot_not HS8.out.at_ HO8.out)
  refine ⟨⟨HO81.out.cell 0 rfl, HO81.out.cell 1 rfl⟩, ?_⟩
  refine wpAnyN_done (by kernel_rfl) ?_
  refine NoPanic.normal ?_
  clear hS
  clear h81 k81 n81 d0 d1 k8 hk8
  have c0 := HS81.out.at_.blk.cell 0 rfl
  have c1 := HS81.out.at_.blk.cell 1 rfl
  go_wp2_with fail
  refine wp_region_noPanic ?_
  refine wp_region_last (L := 1000) (S := fun w' => w'.cell? ⟨b, 0, none⟩ = some (.int .i64 (Z : Int)) ∧ w'.cell? ⟨b, 1, none⟩ = some (.int .i64 (T : Int))) (by kernel_rfl) ?_
  have hS : (fun w' : World => w'.cell? ⟨b, 0, none⟩ = some (.int .i64 (Z : Int)) ∧ w'.cell? ⟨b, 1, none⟩ = some (.int .i64 (T : Int))) w81.drew := ⟨c0, c1⟩
  refine wpAnyN_take (i := 0) (v := .pointer (some ⟨b, 0, none⟩)) rfl (by kernel_rfl) (by kernel_rfl) (by kernel_rfl) (by decide) (by kernel_rfl) (fun _ _ _ h => h) (Or.inl ⟨by rfl, ?_⟩) hS ?_
  ·(intro w' hSw; go_simp)
  go_frame
  refine wpAnyN_take (i := 1) (v := .pointer (some ⟨b, 0, none⟩)) rfl (by kernel_rfl) (by kernel_rfl) (by kernel_rfl) (by decide) (by kernel_rfl) (fun _ _ _ h => h) (Or.inl ⟨by rfl, ?_⟩) hS ?_
  ·(intro w' hSw; go_simp)
  go_frame
  refine wpAnyN_take (i := 2) (v := .pointer (some ⟨b, 2, none⟩)) rfl (by kernel_rfl) (by kernel_rfl) (by kernel_rfl) (by decide) (by kernel_rfl) (fun _ _ _ h => h) (Or.inl ⟨by rfl, ?_⟩) hS ?_
  ·(intro w' hSw; go_simp)
  go_frame
  refine wpAnyN_take (i := 3) (v := .int .u64 (x : Int)) rfl (by kernel_rfl) (by kernel_rfl) (by kernel_rfl) (by decide) (by kernel_rfl) (fun _ _ _ h => h) (Or.inl ⟨by rfl, ?_⟩) hS ?_
  ·(intro w' hSw; go_simp)
  go_frame
  refine wpAnyN_take (i := 4) (v := .pointer (some ⟨b, 0, none⟩)) rfl (by kernel_rfl) (by kernel_rfl) (by kernel_rfl) (by decide) (by kernel_rfl) (fun _ _ _ h => h) (Or.inl ⟨by rfl, ?_⟩) hS ?_
  ·(intro w' hSw; go_simp)
  go_frame
  refine wpAnyN_take (i := 5) (v := .pointer (some ⟨b, 0, none⟩)) rfl (by kernel_rfl) (by kernel_rfl) (by kernel_rfl) (by decide) (by kernel_rfl) (fun _ _ _ h => h) (Or.inl ⟨by rfl, ?_⟩) hS ?_
  ·(intro w' hSw; go_simp)
  go_frame
  refine wpAnyN_take (i := 6) (v := .pointer (some ⟨b, 0, none⟩)) rfl (by kernel_rfl) (by kernel_rfl) (by kernel_rfl) (by decide) (by kernel_rfl) (fun _ _ _ h => h) (Or.inl ⟨by rfl, ?_⟩) hS ?_
  ·(intro w' hSw; go_simp)
  go_frame
  refine wpAnyN_take (i := 7) (v := .pointer (some ⟨b, 1, none⟩)) rfl (by kernel_rfl) (by kernel_rfl) (by kernel_rfl) (by decide) (by kernel_rfl) (fun _ _ _ h => h) (Or.inl ⟨by rfl, ?_⟩) hS ?_
  ·(intro w' hSw; go_simp)
  go_frame
  refine wpAnyN_take (i := 8) (v := .int .i64 (T : Int)) rfl (by kernel_rfl) (by kernel_rfl) (by kernel_rfl) (by decide) (by kernel_rfl) (fun _ _ _ h => h) (Or.inl ⟨by rfl, ?_⟩) hS ?_
  ·(intro w' hSw; go_simp)
  go_frame
  refine wpAnyN_take (i := 9) (v := .int .u64 (Y : Int)) rfl (by kernel_rfl) (by kernel_rfl) (by kernel_rfl) (by decide) (by kernel_rfl) (fun _ _ _ h => h) (Or.inl ⟨by rfl, ?_⟩) hS ?_
  ·(intro w' hSw; go_simp)
  go_frame
  refine wpAnyN_take (i := 10) (v := .int .i64 (wrap64 (Y : Int))) rfl (by kernel_rfl) (by kernel_rfl) (by kernel_rfl) (by decide) (by kernel_rfl) (fun _ _ _ h => h) (Or.inl ⟨by rfl, ?_⟩) hS ?_
  ·(intro w' hSw; go_simp; exact wrap_is _)
  go_frame
  refine wpAnyN_take (i := 11) (v := .pointer (some ⟨b, 0, none⟩)) rfl (by kernel_rfl) (by kernel_rfl) (by kernel_rfl) (by decide) (by kernel_rfl) (fun _ _ _ h => h) (Or.inl ⟨by rfl, ?_⟩) hS ?_
  ·(intro w' hSw; go_simp)
  go_frame
  refine wpAnyN_take (i := 12) (v := .pointer (some ⟨b, 0, none⟩)) rfl (by kernel_rfl) (by kernel_rfl) (by kernel_rfl) (by decide) (by kernel_rfl) (fun _ _ _ h => h) (Or.inl ⟨by rfl, ?_⟩) hS ?_
  ·(intro w' hSw; go_simp)
  go_frame
  refine wpAnyN_take (i := 13) (v := .pointer (some ⟨b, 0, none⟩)) rfl (by kernel_rfl) (by kernel_rfl) (by kernel_rfl) (by decide) (by kernel_rfl) (fun _ _ _ h => h) (Or.inl ⟨by rfl, ?_⟩) hS ?_
  ·(intro w' hSw; go_simp)
  go_frame
  refine wpAnyN_take (i := 14) (v := .agg #[.int .i64 (Z : Int), .int .i64 (T : Int)]) rfl (by kernel_rfl) (by kernel_rfl) (by kernel_rfl) (by decide) (by kernel_rfl) (fun _ _ _ h => h) (Or.inl ⟨by rfl, ?_⟩) hS ?_
  ·(intro w' hSw; go_simp)
  go_frame
  refine wpAnyL_one (i := 15) (by kernel_rfl) rfl rfl ?_
  go_simp
  refine (count_any _ Z T (by omega)).mono ?_
  rintro e w9 ⟨rfl, k9⟩
  have HS9 := hid (HS81.out.stay ((Only.refl (fun _ => False) w81).drew.trans k9 (fun _ _ f => f)))
  refine ⟨⟨HS9.out.at_.blk.cell 0 rfl, HS9.out.at_.blk.cell 1 rfl⟩, ?_⟩
  refine wpAnyL_one (i := 16) (by kernel_rfl) rfl rfl ?_
  go_simp
  refine (pk_put HS9.out.at_ (wrap64 (Y : Int)) _ (64 - Z - T) (.inr (.inr ⟨rfl, by omega⟩)) hlen9.out).mono ?_
  rintro e w91 ⟨rfl, v91, h91, k91, n91⟩
  have HE := hid (HS9.out.put h91 k91 n91)
  refine ⟨⟨HE.out.at_.blk.cell 0 rfl, HE.out.at_.blk.cell 1 rfl⟩, ?_⟩
  refine wpAnyN_done (by kernel_rfl) ?_
  refine NoPanic.normal ?_
  clear hS
  go_wp2_with fail
  (try simp only [Exit.inBlock, Exit.then])
  go_end0
  have h10 := HE.out
  rw [HY.out, uN3, uN_nat (n := Z) (by omega), hCN.out] at h10
  have e10 : (((l ++ bitsL 3 2) ++ bitsL Z 5) ++ bitsL (63 - Z - T) 6) ++ bitsL (x >>> T) (64 - Z - T) = l ++ encN Z T x := by
   unfold encN bodyB
   simp only [List.append_assoc]
  rw [e10] at h10
  rw [HZ.out, HT.out]
  exact ⟨rfl, v91, h10⟩
 | true =>
  have hhold : Hid (∀ w, Calls Tryz.prog 131 #[.agg #[.int .i64 (z : Int), .int .i64 (t : Int)], .agg #[.int .i64 (Z : Int), .int .i64 (T : Int)]] w fun e w' => e = .returned (.bool false) ∧ Kept w w') := fun w => by
   have := holds_any w z t Z T (by omega) (by omega) (by omega) (by omega)
   rw [show decide (z ≤ Z ∧ t ≤ T) = false by simp only [hno rfl, decide_false]] at this
   exact this
  clear hno
  go_region_with (go_at_call 131; refine (hhold.out _).mono ?_; rintro e w3 ⟨rfl, k3⟩)
  all_goals
   clear c0 c1 c4 d0 d1
   have hk3 : Kept w2 w3 := (Only.refl (fun _ => False) w2).drew.trans k3 (fun _ _ f => f)
   have HO3 : Hid (Blk w3 B [.int .i64 (Z : Int), .int .i64 (T : Int)] 178) := hk3.blk HO.out (fun f => f)
   have HS3 := hid (HS.out.stay hk3)
   have c0 := HS3.out.at_.blk.cell 0 rfl
   have c1 := HS3.out.at_.blk.cell 1 rfl
   have c4 := HS3.out.at_.blk.cell 4 rfl
   have f0 := HS3.out.at_.blk.frozen 0
   have f1 := HS3.out.at_.blk.frozen 1
   have f4 := HS3.out.at_.blk.frozen 4
   have d0 := HO3.out.cell 0 rfl
   have d1 := HO3.out.cell 1 rfl
   have hbB : b ≠ B := fun e => (HS3.out.at_.blk.ne HO3.out (by decide)) e
   have HS5 : Hid (PkS w b v (((w3.setCell ⟨b, 0, none⟩ (.int .i64 (Z : Int))).setCell ⟨b, 1, none⟩ (.int .i64 (T : Int))).setCell ⟨b, 4, none⟩ (.bool true)) ⟨true, Z, T⟩ v l) := pk_turn HS3.out Z T
   have HO5 : Hid (Blk (((w3.setCell ⟨b, 0, none⟩ (.int .i64 (Z : Int))).setCell ⟨b, 1, none⟩ (.int .i64 (T : Int))).setCell ⟨b, 4, none⟩ (.bool true)) B [.int .i64 (Z : Int), .int .i64 (T : Int)] 178) := ((HO3.out.other (Ne.symm hbB) _).other (Ne.symm hbB) _).other (Ne.symm hbB) _
   go_wp2_with fail
   clear c0 c1 c4 f0 f1 f4 d0 d1
   generalize ((w3.setCell ⟨b, 0, none⟩ (.int .i64 (Z : Int))).setCell ⟨b, 1, none⟩ (.int .i64 (T : Int))).setCell ⟨b, 4, none⟩ (.bool true) = w5 at HS5 HO5 ⊢
   refine (pk_put HS5.out.at_ 3 2 2 (.inr (.inr ⟨rfl, by decide⟩)) (by omega)).mono ?_
   rintro e w6 ⟨rfl, v6, h6, k6, n6⟩
   have HS6 := hid (HS5.out.put h6 k6 n6)
   have HO6 : Hid (Blk w6 B [.int .i64 (Z : Int), .int .i64 (T : Int)] 178) := k6.blk HO5.out (foot_not HS5.out.at_ HO5.out)
   clear h6 k6 n6
   have d0 := HO6.out.cell 0 rfl
   go_wp2_with fail
   refine wp_region_noPanic ?_
   refine wp_region_last (L := 1000) (S := fun w' => w'.cell? ⟨B, 0, none⟩ = some (.int .i64 (Z : Int))) (by kernel_rfl) ?_
   have hS : (fun w' : World => w'.cell? ⟨B, 0, none⟩ = some (.int .i64 (Z : Int))) w6.drew := d0
   refine wpAnyN_take (i := 0) (v := .pointer (some ⟨b, 0, none⟩)) rfl (by kernel_rfl) (by kernel_rfl) (by kernel_rfl) (by decide) (by kernel_rfl) (fun _ _ _ h => h) (Or.inl ⟨by rfl, ?_⟩) hS ?_
   ·(intro w' hSw; go_simp)
   go_frame
   refine wpAnyN_take (i := 1) (v := .pointer (some ⟨b, 0, none⟩)) rfl (by kernel_rfl) (by kernel_rfl) (by kernel_rfl) (by decide) (by kernel_rfl) (fun _ _ _ h => h) (Or.inl ⟨by rfl, ?_⟩) hS ?_
   ·(intro w' hSw; go_simp)
   go_frame
   refine wpAnyN_take (i := 2) (v := .pointer (some ⟨b, 2, none⟩)) rfl (by kernel_rfl) (by kernel_rfl) (by kernel_rfl) (by decide) (by kernel_rfl) (fun _ _ _ h => h) (Or.inl ⟨by rfl, ?_⟩) hS ?_
   ·(intro w' hSw; go_simp)
   go_frame
   refine wpAnyN_take (i := 3) (v := .pointer (some ⟨B, 0, none⟩)) rfl (by kernel_rfl) (by kernel_rfl) (by kernel_rfl) (by decide) (by kernel_rfl) (fun _ _ _ h => h) (Or.inl ⟨by rfl, ?_⟩) hS ?_
   ·(intro w' hSw; go_simp)
   go_frame
   refine wpAnyN_take (i := 4) (v := .int .i64 (Z : Int)) rfl (by kernel_rfl) (by kernel_rfl) (by kernel_rfl) (by decide) (by kernel_rfl) (fun _ _ _ h => h) (Or.inl ⟨by rfl, ?_⟩) hS ?_
   ·(intro w' hSw; go_simp)
   go_frame
   refine wpAnyL_one (i := 5) (by kernel_rfl) rfl rfl ?_
   go_simp
   refine (pk_put (HS6.out.stay (Only.refl (fun _ => False) w6).drew).at_ (Z : Int) 5 5 (.inr (.inr ⟨rfl, by decide⟩)) hlenA.out).mono ?_
   rintro e w7 ⟨rfl, v7, h7, k7, n7⟩
   have HS7 := hid ((HS6.out.stay (Only.refl (fun _ => False) w6).drew).put h7 k7 n7)
   have HO7 : Hid (Blk w7 B [.int .i64 (Z : Int), .int .i64 (T : Int)] 178) := k7.blk HO6.out (foot_not HS6.out.at_ HO6.out)
   refine ⟨HO7.out.cell 0 rfl, ?_⟩
   refine wpAnyN_done (by kernel_rfl) ?_
   refine NoPanic.normal ?_
   clear hS
   clear h7 k7 n7 d0
   have d0 := HO7.out.cell 0 rfl
   have d1 := HO7.out.cell 1 rfl
   go_wp2_with fail
   refine wp_region_noPanic ?_
   refine wp_region_last (L := 1000) (S := fun w' => w'.cell? ⟨B, 0, none⟩ = some (.int .i64 (Z : Int)) ∧ w'.cell? ⟨B, 1, none⟩ = some (.int .i64 (T : Int))) (by kernel_rfl) ?_
   have hS : (fun w' : World => w'.cell? ⟨B, 0, none⟩ = some (.int .i64 (Z : Int)) ∧ w'.cell? ⟨B, 1, none⟩ = some (.int .i64 (T : Int))) w7.drew := ⟨d0, d1⟩
   refine wpAnyN_take (i := 0) (v := .pointer (some ⟨b, 0, none⟩)) rfl (by kernel_rfl) (by kernel_rfl) (by kernel_rfl) (by decide) (by kernel_rfl) (fun _ _ _ h => h) (Or.inl ⟨by rfl, ?_⟩) hS ?_
   ·(intro w' hSw; go_simp)
   go_frame
   refine wpAnyN_take (i := 1) (v := .pointer (some ⟨b, 0, none⟩)) rfl (by kernel_rfl) (by kernel_rfl) (by kernel_rfl) (by decide) (by kernel_rfl) (fun _ _ _ h => h) (Or.inl ⟨by rfl, ?_⟩) hS ?_
   ·(intro w' hSw; go_simp)
   go_frame
   refine wpAnyN_take (i := 2) (v := .pointer (some ⟨b, 2, none⟩)) rfl (by kernel_rfl) (by kernel_rfl) (by kernel_rfl) (by decide) (by kernel_rfl) (fun _ _ _ h => h) (Or.inl ⟨by rfl, ?_⟩) hS ?_
   ·(intro w' hSw; go_simp)
   go_frame
   refine wpAnyN_take (i := 3) (v := .agg #[.int .i64 (Z : Int), .int .i64 (T : Int)]) rfl (by kernel_rfl) (by kernel_rfl) (by kernel_rfl) (by decide) (by kernel_rfl) (fun _ _ _ h => h) (Or.inl ⟨by rfl, ?_⟩) hS ?_
   ·(intro w' hSw; go_simp)
   go_frame
   refine wpAnyL_one (i := 4) (by kernel_rfl) rfl rfl ?_
   go_simp
   refine (hcount.out _).mono ?_
   rintro e w8 ⟨rfl, k8⟩
   have hk8 : Kept w7 w8 := (Only.refl (fun _ => False) w7).drew.trans k8 (fun _ _ f => f)
   have HS8 := hid (HS7.out.stay hk8)
   have HO8 : Hid (Blk w8 B [.int .i64 (Z : Int), .int .i64 (T : Int)] 178) := hk8.blk HO7.out (fun f => f)
   refine ⟨⟨HO8.out.cell 0 rfl, HO8.out.cell 1 rfl⟩, ?_⟩
   refine wpAnyL_one (i := 5) (by kernel_rfl) rfl rfl ?_
   go_simp
   refine ⟨⟨HO8.out.cell 0 rfl, HO8.out.cell 1 rfl⟩, ?_⟩
   refine wpAnyL_one (i := 6) (by kernel_rfl) rfl rfl ?_
   go_simp
   rw [hCW.out]
   refine (pk_put HS8.out.at_ ((C : Int) - 1) 6 6 (.inr (.inr ⟨rfl, by decide⟩)) hlenB.out).mono ?_
   rintro e w81 ⟨rfl, v81, h81, k81, n81⟩
   have HS81 := hid (HS8.out.put h81 k81 n81)
   have HO81 : Hid (Blk w81 B [.int .i64 (Z : Int), .int .i64 (T : Int)] 178) := k81.blk HO8.out (foot_not HS8.out.at_ HO8.out)
   refine ⟨⟨HO81.out.cell 0 rfl, HO81.out.cell 1 rfl⟩, ?_⟩
   refine wpAnyN_done (by kernel_rfl) ?_
   refine NoPanic.normal ?_
   clear hS
   clear h81 k81 n81 d0 d1 k8 hk8
   have c0 := HS81.out.at_.blk.cell 0 rfl
   have c1 := HS81.out.at_.blk.cell 1 rfl
   go_wp2_with fail
   refine wp_region_noPanic ?_
   refine wp_region_last (L := 1000) (S := fun w' => w'.cell? ⟨b, 0, none⟩ = some (.int .i64 (Z : Int)) ∧ w'.cell? ⟨b, 1, none⟩ = some (.int .i64 (T : Int))) (by kernel_rfl) ?_
   have hS : (fun w' : World => w'.cell? ⟨b, 0, none⟩ = some (.int .i64 (Z : Int)) ∧ w'.cell? ⟨b, 1, none⟩ = some (.int .i64 (T : Int))) w81.drew := ⟨c0, c1⟩
   refine wpAnyN_take (i := 0) (v := .pointer (some ⟨b, 0, none⟩)) rfl (by kernel_rfl) (by kernel_rfl) (by kernel_rfl) (by decide) (by kernel_rfl) (fun _ _ _ h => h) (Or.inl ⟨by rfl, ?_⟩) hS ?_
   ·(intro w' hSw; go_simp)
   go_frame
   refine wpAnyN_take (i := 1) (v := .pointer (some ⟨b, 0, none⟩)) rfl (by kernel_rfl) (by kernel_rfl) (by kernel_rfl) (by decide) (by kernel_rfl) (fun _ _ _ h => h) (Or.inl ⟨by rfl, ?_⟩) hS ?_
   ·(intro w' hSw; go_simp)
   go_frame
   refine wpAnyN_take (i := 2) (v := .pointer (some ⟨b, 2, none⟩)) rfl (by kernel_rfl) (by kernel_rfl) (by kernel_rfl) (by decide) (by kernel_rfl) (fun _ _ _ h => h) (Or.inl ⟨by rfl, ?_⟩) hS ?_
   ·(intro w' hSw; go_simp)
   go_frame
   refine wpAnyN_take (i := 3) (v := .int .u64 (x : Int)) rfl (by kernel_rfl) (by kernel_rfl) (by kernel_rfl) (by decide) (by kernel_rfl) (fun _ _ _ h => h) (Or.inl ⟨by rfl, ?_⟩) hS ?_
   ·(intro w' hSw; go_simp)
   go_frame
   refine wpAnyN_take (i := 4) (v := .pointer (some ⟨b, 0, none⟩)) rfl (by kernel_rfl) (by kernel_rfl) (by kernel_rfl) (by decide) (by kernel_rfl) (fun _ _ _ h => h) (Or.inl ⟨by rfl, ?_⟩) hS ?_
   ·(intro w' hSw; go_simp)
   go_frame
   refine wpAnyN_take (i := 5) (v := .pointer (some ⟨b, 0, none⟩)) rfl (by kernel_rfl) (by kernel_rfl) (by kernel_rfl) (by decide) (by kernel_rfl) (fun _ _ _ h => h) (Or.inl ⟨by rfl, ?_⟩) hS ?_
   ·(intro w' hSw; go_simp)
   go_frame
   refine wpAnyN_take (i := 6) (v := .pointer (some ⟨b, 0, none⟩)) rfl (by kernel_rfl) (by kernel_rfl) (by kernel_rfl) (by decide) (by kernel_rfl) (fun _ _ _ h => h) (Or.inl ⟨by rfl, ?_⟩) hS ?_
   ·(intro w' hSw; go_simp)
   go_frame
   refine wpAnyN_take (i := 7) (v := .pointer (some ⟨b, 1, none⟩)) rfl (by kernel_rfl) (by kernel_rfl) (by kernel_rfl) (by decide) (by kernel_rfl) (fun _ _ _ h => h) (Or.inl ⟨by rfl, ?_⟩) hS ?_
   ·(intro w' hSw; go_simp)
   go_frame
   refine wpAnyN_take (i := 8) (v := .int .i64 (T : Int)) rfl (by kernel_rfl) (by kernel_rfl) (by kernel_rfl) (by decide) (by kernel_rfl) (fun _ _ _ h => h) (Or.inl ⟨by rfl, ?_⟩) hS ?_
   ·(intro w' hSw; go_simp)
   go_frame
   refine wpAnyN_take (i := 9) (v := .int .u64 (Y : Int)) rfl (by kernel_rfl) (by kernel_rfl) (by kernel_rfl) (by decide) (by kernel_rfl) (fun _ _ _ h => h) (Or.inl ⟨by rfl, ?_⟩) hS ?_
   ·(intro w' hSw; go_simp)
   go_frame
   refine wpAnyN_take (i := 10) (v := .int .i64 (wrap64 (Y : Int))) rfl (by kernel_rfl) (by kernel_rfl) (by kernel_rfl) (by decide) (by kernel_rfl) (fun _ _ _ h => h) (Or.inl ⟨by rfl, ?_⟩) hS ?_
   ·(intro w' hSw; go_simp; exact wrap_is _)
   go_frame
   refine wpAnyN_take (i := 11) (v := .pointer (some ⟨b, 0, none⟩)) rfl (by kernel_rfl) (by kernel_rfl) (by kernel_rfl) (by decide) (by kernel_rfl) (fun _ _ _ h => h) (Or.inl ⟨by rfl, ?_⟩) hS ?_
   ·(intro w' hSw; go_simp)
   go_frame
   refine wpAnyN_take (i := 12) (v := .pointer (some ⟨b, 0, none⟩)) rfl (by kernel_rfl) (by kernel_rfl) (by kernel_rfl) (by decide) (by kernel_rfl) (fun _ _ _ h => h) (Or.inl ⟨by rfl, ?_⟩) hS ?_
   ·(intro w' hSw; go_simp)
   go_frame
   refine wpAnyN_take (i := 13) (v := .pointer (some ⟨b, 0, none⟩)) rfl (by kernel_rfl) (by kernel_rfl) (by kernel_rfl) (by decide) (by kernel_rfl) (fun _ _ _ h => h) (Or.inl ⟨by rfl, ?_⟩) hS ?_
   ·(intro w' hSw; go_simp)
   go_frame
   refine wpAnyN_take (i := 14) (v := .agg #[.int .i64 (Z : Int), .int .i64 (T : Int)]) rfl (by kernel_rfl) (by kernel_rfl) (by kernel_rfl) (by decide) (by kernel_rfl) (fun _ _ _ h => h) (Or.inl ⟨by rfl, ?_⟩) hS ?_
   ·(intro w' hSw; go_simp)
   go_frame
   refine wpAnyL_one (i := 15) (by kernel_rfl) rfl rfl ?_
   go_simp
   refine (count_any _ Z T (by omega)).mono ?_
   rintro e w9 ⟨rfl, k9⟩
   have HS9 := hid (HS81.out.stay ((Only.refl (fun _ => False) w81).drew.trans k9 (fun _ _ f => f)))
   refine ⟨⟨HS9.out.at_.blk.cell 0 rfl, HS9.out.at_.blk.cell 1 rfl⟩, ?_⟩
   refine wpAnyL_one (i := 16) (by kernel_rfl) rfl rfl ?_
   go_simp
   refine (pk_put HS9.out.at_ (wrap64 (Y : Int)) _ (64 - Z - T) (.inr (.inr ⟨rfl, by omega⟩)) hlen9.out).mono ?_
   rintro e w91 ⟨rfl, v91, h91, k91, n91⟩
   have HE := hid (HS9.out.put h91 k91 n91)
   refine ⟨⟨HE.out.at_.blk.cell 0 rfl, HE.out.at_.blk.cell 1 rfl⟩, ?_⟩
   refine wpAnyN_done (by kernel_rfl) ?_
   refine NoPanic.normal ?_
   clear hS
   go_wp2_with fail
   (try simp only [Exit.inBlock, Exit.then])
   go_end0
   have h10 := HE.out
   rw [HY.out, uN3, uN_nat (n := Z) (by omega), hCN.out] at h10
   have e10 : (((l ++ bitsL 3 2) ++ bitsL Z 5) ++ bitsL (63 - Z - T) 6) ++ bitsL (x >>> T) (64 - Z - T) = l ++ encN Z T x := by
    unfold encN bodyB
    simp only [List.append_assoc]
   rw [e10] at h10
   rw [HZ.out, HT.out]
   exact ⟨rfl, v91, h10⟩
end Go.Proofs.YtllfanlhgnkcfaaGreatDoor.V
namespace Go.Proofs.YtllfanlhgnkcfaaGreatDoor.V
open Go.RowKit Go.Proofs.Lys
set_option linter.unusedVariables false
theorem change_any {w : World} {b : Nat} {W : Win} {v : Value} {l : List Bool} (h : PkAt w b W v l) (hW : W.wf) (hl : l.length ≤ 900000) {x : Nat} (hx : x < 18446744073709551616) :
  Calls Tryz.prog 120 #[.pointer (some ⟨b, 0, none⟩), .int .u64 (x : Int)] w fun e w' => e = .returned (.tuple #[]) ∧ ∃ v', PkS w b v w' (W.next x) v' (l ++ encX W x) := by
 obtain ⟨o, z, t⟩ := W
 by_cases h0 : x = 0
 ·subst h0
  have := change_zero h hl
  unfold encX Win.next
  rw [if_pos rfl, if_pos rfl]
  exact this
 ·by_cases hf : Win.fit ⟨o, z, t⟩ x
  ·have ho : o = true := hf.1
   subst ho
   have := change_fit h hl hx h0 hf.2.1 hf.2.2
   unfold encX Win.next
   rw [if_neg h0, if_neg h0, if_pos hf, if_pos hf]
   exact this
  ·have := change_new h hl hW.zt hx h0 (fun ho hh => hf ⟨ho, hh.1, hh.2⟩)
   unfold encX Win.next
   rw [if_neg h0, if_neg h0, if_neg hf, if_neg hf]
   exact this
def restB (l : List Int) (k : Nat) (W : Win) : List Bool := if k = 0 then allB l else encT (l.getD (k - 1) 0) W (l.drop k)
theorem restB_step {l : List Int} {k : Nat} (W : Win) (hk : k + 1 < l.length) : restB l (k + 1) W = encX W (xr l[k] l[k + 1]) ++ restB l (k + 2) (W.next (xr l[k] l[k + 1])) := by
 unfold restB
 rw [if_neg (by omega), if_neg (by omega), List.drop_eq_getElem_cons hk]
 simp only [encT, Nat.add_sub_cancel, List.getD_eq_getElem?_getD]
 rw [List.getElem?_eq_getElem (show k < l.length by omega), List.getElem?_eq_getElem (show k + 2 - 1 < l.length by omega)]
 rfl
theorem restB_zero {l : List Int} (h : 0 < l.length) (W : Win) : restB l 0 W = bitsL (uN l[0]) 64 ++ restB l 1 W0 := by
 cases l with
 | nil => simp at h
 | cons t r => simp [restB, allB]
theorem restB_end {l : List Int} {k : Nat} (W : Win) (h0 : 0 < k) (h : l.length ≤ k) : restB l k W = [] := by
 unfold restB
 rw [if_neg (by omega), List.drop_eq_nil_of_le h]
 rfl
theorem rest_few {l : List Int} {k : Nat} {W : Win} {lw : List Bool} (h : lw ++ restB l k W = allB l) (hl : l.length ≤ 120) : lw.length ≤ 10000 := by
 have h1 := allB_length l
 rw [← h, List.length_append] at h1
 omega
theorem xor_int (y x : Int) : bits .xor .u64 ((uN x : Nat) : Int) ((uN y : Nat) : Int) = ((xr y x : Nat) : Int) := u64_xor_nat _ _ (uN_lt x) (uN_lt y)
theorem int_cells_at {w : World} {b o n c j : Nat} {l : List Int} {x : Int} {hj : j < l.length} (h : SrcOf w (.slice (some ⟨b, o, none⟩) n c) (l.map (Value.int .i64))) (hx : l[j] = x) : w.cell? ⟨b, o + j, none⟩ = some (.int .i64 x) := by
 have := int_cells h j hj
 rw [hx] at this
 exact this
def PackPost (w : World) (l : List Int) (e : Ending) (w' : World) : Prop :=
 Kept w w' ∧ ∃ u bs x, e = .returned (.tuple #[u, .int .i64 x]) ∧ Packs l bs x ∧ w'.ownsRow w.heap.size 5 1 u bs.length (bs.map bV)
set_option maxRecDepth 100000 in
set_option maxHeartbeats 1600000 in
theorem pack_any (w : World) (v : Value) (l : List Int) (hs : SrcOf w v (l.map (Value.int .i64))) (hl : l.length ≤ 1000) :
  Calls Tryz.prog 102 #[v] w (PackPost w l) := by
 obtain ⟨a0, c0, e0⟩ := hs.len
 rw [List.length_map] at e0
 by_cases h120 : 120 < l.length
 ·obtain ⟨L, hL⟩ : ∃ L, l.length = L := ⟨_, rfl⟩
  rw [hL] at e0 h120
  subst e0
  go_enter Tryz.func102, Tryz.ntmps102
  go_wp2_with fail
  go_ret2
  exact ⟨Only.refl _ w, _, [], 2, rfl, .inl ⟨by omega, rfl, rfl⟩, World.ownsRow_nil _ _ _ _⟩
 ·rcases hs.shape with ⟨hnil, a, c, rfl⟩ | ⟨hpos, b, o, c, rfl, hc⟩
  ·have el : l = [] := List.map_eq_nil_iff.1 hnil
   subst el
   clear e0
   go_enter Tryz.func102, Tryz.ntmps102
   go_wp2_with fail
   go_ret2
   exact ⟨Only.refl _ w, _, [], 0, rfl, .inr ⟨by simp, rfl, rfl⟩, World.ownsRow_nil _ _ _ _⟩
  ·rw [List.length_map] at hpos hs ⊢
   clear e0
   obtain ⟨L, hL⟩ : ∃ L, l.length = L := ⟨_, rfl⟩
   have HS := hid hs
   obtain ⟨x0, hx0⟩ : ∃ x, l[0] = x := ⟨_, rfl⟩
   rw [hL] at hpos HS h120 ⊢
   have HL := hid hL
   have HX := hid hx0
   clear hL hx0 hs hc
   have hL0 : ((L : Int) == 0) = false := by simp; omega
   have hA := PkAt.new w
   have kA : Kept w (w.alloc (.cells #[.int .i64 0, .int .i64 0, .slice none 0 0, .int .i64 0, .bool false] 180)) := (Only.refl _ w).alloc _
   have hI : PkIn w w.heap.size (w.alloc (.cells #[.int .i64 0, .int .i64 0, .slice none 0 0, .int .i64 0, .bool false] 180)) W0 (.slice none 0 0) [] := ⟨hA, kA, Nat.le_refl _, fun j hj => by cases hj⟩
   have HI := hid hI
   have hc0 : (w.alloc (.cells #[.int .i64 0, .int .i64 0, .slice none 0 0, .int .i64 0, .bool false] 180)).cell? ⟨b, o, none⟩ = some (.int .i64 x0) := by
    have := int_cells (HS.out.stay kA) 0 (by have := HL.out; omega)
    rw [HX.out, Nat.add_zero] at this
    exact this
   have hB : Hid (([] ++ bitsL (uN x0) 64) ++ restB l 1 W0 = allB l) := by
    have hp : 0 < l.length := by have := HL.out; omega
    have := restB_zero hp W0
    rw [HX.out] at this
    show _ = _
    rw [List.nil_append, ← this]
    rfl
   clear hA kA hI
   go_enter Tryz.func102, Tryz.ntmps102
   go_wp2_with fail
   generalize hbk : w.heap.size = B at HI ⊢
   generalize w.alloc (.cells #[.int .i64 0, .int .i64 0, .slice none 0 0, .int .i64 0, .bool false] 180) = w0 at HI hc0 ⊢
   go_region_with (go_at_call 117; refine (pk_put HI.out.drew.at_ x0 64 64 (.inr (.inr ⟨rfl, by decide⟩)) (by simp)).mono ?_; rintro e w1 ⟨rfl, v1, h1, k1, n1⟩)
   have HP := hid (HI.out.drew.put h1 k1 n1)
   clear h1 k1 n1 hc0
   go_wp2_with fail
   go_loopw [5] (fun i wr => ∃ (k : Nat) (W : Win) (vw : Value) (lw : List Bool), k + 1 ≤ L ∧ i = .int .i64 ((k : Int) + 1) ∧ W.wf ∧ PkIn w B wr W vw lw ∧ lw ++ restB l (k + 1) W = allB l) (fun i _ => L - (intOf i).toNat)
   case atStart => exact ⟨0, W0, v1, _, by omega, rfl, W0_wf, HP.out, hB.out⟩
   case round =>
    obtain ⟨k, W, vw, lw, hk, rfl, hW, hI, hb⟩ := hrel
    have HW := hid hW
    have Hb := hid hb
    have HIk := hid hI
    clear hI hb hW HI HP
    by_cases hlt : k + 1 < L
    ·have hkl : k + 1 < l.length := by have := HL.out; omega
     have hcx := int_cells (HS.out.stay HIk.out.kept) (k + 1) hkl
     have hcy := int_cells (HS.out.stay HIk.out.kept) k (by omega)
     obtain ⟨x, hx⟩ : ∃ x, l[k + 1] = x := ⟨_, rfl⟩
     obtain ⟨y, hy⟩ : ∃ y, l[k] = y := ⟨_, rfl⟩
     have hst := restB_step W hkl
     rw [hx, hy] at hst
     rw [hx] at hcx
     rw [hy] at hcy
     have ux := uN_wrap x
     have uy := uN_wrap y
     have hxo := xor_int y x
     have hXl := hid (xr_lt y x)
     obtain ⟨X, hX⟩ : ∃ X, xr y x = X := ⟨_, rfl⟩
     rw [hX] at hxo hst hXl
     generalize uN x = UX at ux hxo
     generalize uN y = UY at uy hxo
     have Hst := hid hst
     have hlw : Hid (lw.length ≤ 900000) := by have := rest_few Hb.out (by have := HL.out; omega); show _ ≤ _; omega
     replace hx := hid hx
     replace hy := hid hy
     clear hst hX
     have hik : (k : Int) < (L : Int) := by omega
     have hik1 : (k : Int) + 1 < (L : Int) := by omega
     have hikn : (0 : Int) ≤ (k : Int) := by omega
     go_wp2_with fail
     refine wp_region_noPanic ?_
     refine wp_region_last (L := 1000) (S := fun w' => w'.cell? ⟨b, o + (k + 1), none⟩ = some (.int .i64 x) ∧ w'.cell? ⟨b, o + k, none⟩ = some (.int .i64 y)) (by kernel_rfl) ?_
     have hS : (fun w' : World => w'.cell? ⟨b, o + (k + 1), none⟩ = some (.int .i64 x) ∧ w'.cell? ⟨b, o + k, none⟩ = some (.int .i64 y)) wr.drew := ⟨hcx, hcy⟩
     refine wpAnyN_take (i := 0) (v := .pointer (some ⟨B, 0, none⟩)) rfl (by kernel_rfl) (by kernel_rfl) (by kernel_rfl) (by decide) (by kernel_rfl) (fun _ _ _ h => h) (Or.inl ⟨by rfl, ?_⟩) hS ?_
     ·(intro w' hSw; go_simp)
     go_frame
     refine wpAnyN_take (i := 1) (v := .slice (some ⟨b, o, none⟩) L c) rfl (by kernel_rfl) (by kernel_rfl) (by kernel_rfl) (by decide) (by kernel_rfl) (fun _ _ _ h => h) (Or.inl ⟨by rfl, ?_⟩) hS ?_
     ·(intro w' hSw; go_simp)
     go_frame
     refine wpAnyN_take (i := 2) (v := .int .i64 ((k : Int) + 1)) rfl (by kernel_rfl) (by kernel_rfl) (by kernel_rfl) (by decide) (by kernel_rfl) (fun _ _ _ h => h) (Or.inl ⟨by rfl, ?_⟩) hS ?_
     ·(intro w' hSw; go_simp)
     go_frame
     refine wpAnyN_take (i := 3) (v := .pointer (some ⟨b, o + (k + 1), none⟩)) rfl (by kernel_rfl) (by kernel_rfl) (by kernel_rfl) (by decide) (by kernel_rfl) (fun _ _ _ h => h) (Or.inl ⟨by rfl, ?_⟩) hS ?_
     ·(intro w' hSw; go_simp; (intro h; omega))
     go_frame
     refine wpAnyN_take (i := 4) (v := .int .i64 x) rfl (by kernel_rfl) (by kernel_rfl) (by kernel_rfl) (by decide) (by kernel_rfl) (fun _ _ _ h => h) (Or.inl ⟨by rfl, ?_⟩) hS ?_
     ·(intro w' hSw; go_simp)
     go_frame
     refine wpAnyN_take (i := 5) (v := .int .u64 (UX : Int)) rfl (by kernel_rfl) (by kernel_rfl) (by kernel_rfl) (by decide) (by kernel_rfl) (fun _ _ _ h => h) (Or.inl ⟨by rfl, ?_⟩) hS ?_
     ·(intro w' hSw; go_simp)
     go_frame
     refine wpAnyN_take (i := 6) (v := .slice (some ⟨b, o, none⟩) L c) rfl (by kernel_rfl) (by kernel_rfl) (by kernel_rfl) (by decide) (by kernel_rfl) (fun _ _ _ h => h) (Or.inl ⟨by rfl, ?_⟩) hS ?_
     ·(intro w' hSw; go_simp)
     go_frame
     refine wpAnyN_take (i := 7) (v := .int .i64 ((k : Int) + 1)) rfl (by kernel_rfl) (by kernel_rfl) (by kernel_rfl) (by decide) (by kernel_rfl) (fun _ _ _ h => h) (Or.inl ⟨by rfl, ?_⟩) hS ?_
     ·(intro w' hSw; go_simp)
     go_frame
     refine wpAnyN_take (i := 8) (v := .int .i64 (k : Int)) rfl (by kernel_rfl) (by kernel_rfl) (by kernel_rfl) (by decide) (by kernel_rfl) (fun _ _ _ h => h) (Or.inl ⟨by rfl, ?_⟩) hS ?_
     ·(intro w' hSw; go_simp; (rw [wrap_is]; unfold wrap64; omega))
     go_frame
     refine wpAnyN_take (i := 9) (v := .pointer (some ⟨b, o + k, none⟩)) rfl (by kernel_rfl) (by kernel_rfl) (by kernel_rfl) (by decide) (by kernel_rfl) (fun _ _ _ h => h) (Or.inl ⟨by rfl, ?_⟩) hS ?_
     ·(intro w' hSw; go_simp)
     go_frame
     refine wpAnyN_take (i := 10) (v := .int .i64 y) rfl (by kernel_rfl) (by kernel_rfl) (by kernel_rfl) (by decide) (by kernel_rfl) (fun _ _ _ h => h) (Or.inl ⟨by rfl, ?_⟩) hS ?_
     ·(intro w' hSw; go_simp)
     go_frame
     refine wpAnyN_take (i := 11) (v := .int .u64 (UY : Int)) rfl (by kernel_rfl) (by kernel_rfl) (by kernel_rfl) (by decide) (by kernel_rfl) (fun _ _ _ h => h) (Or.inl ⟨by rfl, ?_⟩) hS ?_
     ·(intro w' hSw; go_simp)
     go_frame
     refine wpAnyN_take (i := 12) (v := .int .u64 (X : Int)) rfl (by kernel_rfl) (by kernel_rfl) (by kernel_rfl) (by decide) (by kernel_rfl) (fun _ _ _ h => h) (Or.inl ⟨by rfl, ?_⟩) hS ?_
     ·(intro w' hSw; go_simp)
     go_frame
     refine wpAnyL_one (i := 13) (by kernel_rfl) rfl rfl ?_
     go_simp
     refine (change_any HIk.out.drew.at_ HW.out hlw.out hXl.out).mono ?_
     rintro e w2 ⟨rfl, v2, h2⟩
     have HP2 := hid (HIk.out.drew.put h2.at_ h2.only h2.new)
     refine ⟨⟨int_cells_at (HS.out.stay HP2.out.kept) hx.out, int_cells_at (HS.out.stay HP2.out.kept) hy.out⟩, ?_⟩
     refine wpAnyN_done (by kernel_rfl) ?_
     refine NoPanic.normal ?_
     clear hS
     clear h2
     go_wp2_with fail
     go_roundw
     case rel => exact ⟨k + 1, W.next X, v2, _, by omega, by go_num, HW.out.next hXl.out, HP2.out, by rw [List.append_assoc, ← Hst.out]; exact Hb.out⟩
     case measure => simp [intOf]; omega
    ·have e : k + 1 = L := by omega
     have hw := HIk.out.at_
     have hfull : lw = allB l := by
      have := Hb.out
      rw [restB_end W (by omega) (by have := HL.out; omega), List.append_nil] at this
      exact this
     have HFu := hid hfull
     clear hfull
     go_wp2_with fail
     refine (pbytes_any _ B _ _ vw _ _ (packL lw) hw.blk hw.src (by rw [packL_length]; have := rest_few Hb.out (by have := HL.out; omega); omega)).mono ?_
     rintro e w3 ⟨v3, rfl, h3, k3⟩
     go_wp2_with fail
     go_ret2
     have hs3 := HIk.out.kept.size
     exact ⟨HIk.out.kept.trans k3 (fun _ _ f => f), v3, packL lw, 0, rfl, .inr ⟨by have := HL.out; omega, by rw [HFu.out], rfl⟩, own_base h3 hs3⟩
end Go.Proofs.YtllfanlhgnkcfaaGreatDoor.V
namespace Go.Proofs.YtllfanlhgnkcfaaGreatDoor.V
open Go.RowKit Go.Proofs.Lys
set_option linter.unusedVariables false
def LdAt (x z : Nat) : Prop := (z ≤ 31 ∧ leadA x (31 - z) = lead x) ∨ (31 < z ∧ lead x = 31)
theorem LdAt.step {x z : Nat} (h : LdAt x z) (hb : x.testBit (63 - z) = false) : LdAt x (z + 1) := by
 rcases h with ⟨h1, h2⟩ | ⟨h1, h2⟩
 ·by_cases e : z = 31
  ·subst e
   exact .inr ⟨by omega, h2.symm⟩
  ·have e1 : 31 - z = (30 - z) + 1 := by omega
   rw [e1, leadA_step (by rw [show 33 + (30 - z) = 63 - z by omega]; exact hb)] at h2
   exact .inl ⟨by omega, by rw [show 31 - (z + 1) = 30 - z by omega]; exact h2⟩
 ·exact .inr ⟨by omega, h2⟩
theorem LdAt.stop {x z : Nat} (h : LdAt x z) (hb : z < 64 → x.testBit (63 - z) = true) : (31 < z ∧ lead x = 31) ∨ (z ≤ 31 ∧ lead x = z) := by
 rcases h with ⟨h1, h2⟩ | h
 ·refine .inr ⟨h1, ?_⟩
  by_cases e : z = 31
  ·subst e
   exact h2.symm
  ·have e1 : 31 - z = (30 - z) + 1 := by omega
   rw [e1, leadA_stop (by rw [show 33 + (30 - z) = 63 - z by omega]; exact hb (by omega))] at h2
   omega
 ·exact .inl h
theorem tr_step {x t : Nat} (hx : x < 18446744073709551616) (h0 : x ≠ 0) (ht : t ≤ 63) (h : trailA x (64 - t) = trail x) (hb : x.testBit t = false) : t + 1 ≤ 63 ∧ trailA x (64 - (t + 1)) = trail x := by
 have e : 64 - t = (63 - t) + 1 := by omega
 rw [e, trailA_step (by rw [show 63 - (63 - t) = t by omega]; exact hb)] at h
 have hl := trail_lt hx h0
 refine ⟨?_, by rw [show 64 - (t + 1) = 63 - t by omega]; exact h⟩
 refine Nat.le_of_not_lt (fun hlt => ?_)
 rw [show 63 - t = 0 by omega] at h
 have : trailA x 0 = 64 := rfl
 omega
theorem tr_stop {x t : Nat} (ht : t ≤ 63) (h : trailA x (64 - t) = trail x) (hb : x.testBit t = true) : trail x = t := by
 have e : 64 - t = (63 - t) + 1 := by omega
 rw [e, trailA_stop (by rw [show 63 - (63 - t) = t by omega]; exact hb)] at h
 omega
set_option maxRecDepth 100000 in
set_option maxHeartbeats 1600000 in
theorem zeros_any (w : World) (x : Nat) (hx : x < 18446744073709551616) (h0 : x ≠ 0) : Calls Tryz.prog 82 #[.int .u64 (x : Int)] w fun e w' => e = .returned (.tuple #[.int .i64 (lead x : Int), .int .i64 (trail x : Int)]) ∧ w' = w := by
 go_enter Tryz.func82, Tryz.ntmps82
 go_wp2
 go_loopw [4] (fun s wr => ∃ z : Nat, z ≤ 64 ∧ s = .int .i64 (z : Int) ∧ LdAt x z ∧ wr = w) (fun s _ => 64 - (intOf s).toNat)
 case atStart => exact ⟨0, by omega, rfl, .inl ⟨by omega, rfl⟩, rfl⟩
 case round =>
  obtain ⟨z, hz, rfl, hL, hw⟩ := hrel
  subst hw
  have HL := hid hL
  clear hL
  by_cases hlt : z < 64
  ·obtain ⟨q, hq⟩ : ∃ q : Nat, (63 : Int) - (z : Int) = (q : Int) := ⟨63 - z, by omega⟩
   have hqe : q = 63 - z := by omega
   have hq63 : q ≤ 63 := by omega
   have hl := low_bit x q hx
   cases hbit : x.testBit q with
   | false =>
    rw [hbit] at hl
    have HU := hid (HL.out.step (by rw [← hqe]; exact hbit))
    clear hqe
    go_wp2
    go_roundw
    case rel => exact ⟨z + 1, by omega, by go_num, HU.out, trivial⟩
    case measure => simp [intOf]; omega
   | true =>
    rw [hbit] at hl
    have HU := hid (HL.out.stop (fun _ => by rw [← hqe]; exact hbit))
    clear hqe
    go_wp2
    go_loopw [5] (fun s w1 => ∃ t : Nat, t ≤ 63 ∧ s = .int .i64 (t : Int) ∧ trailA x (64 - t) = trail x ∧ w1 = wr) (fun s _ => 64 - (intOf s).toNat)
    case atStart => exact ⟨0, by omega, rfl, rfl, rfl⟩
    case round =>
     obtain ⟨t, ht, rfl, hT, hw⟩ := hrel
     subst hw
     have HT := hid hT
     clear hT hl
     have hl := low_bit x t hx
     cases hbt : x.testBit t with
     | false =>
      rw [hbt] at hl
      have HV := hid (tr_step hx h0 ht HT.out hbt)
      go_wp2
      go_roundw
      case rel => exact ⟨t + 1, HV.out.1, by go_num, HV.out.2, trivial⟩
      case measure => simp [intOf]; omega
     | true =>
      rw [hbt] at hl
      have HV := hid (tr_stop ht HT.out hbt)
      by_cases hz31 : 31 < z
      ·have HE : Hid (lead x = 31) := by
        rcases HU.out with h | h
        ·exact h.2
        ·omega
       go_wp2
       go_ret2
       rw [HE.out, HV.out]
       exact ⟨rfl, rfl⟩
      ·have HE : Hid (lead x = z) := by
        rcases HU.out with h | h
        ·omega
        ·exact h.2
       go_wp2
       go_ret2
       rw [HE.out, HV.out]
       exact ⟨rfl, rfl⟩
  ·have HU := hid (HL.out.stop (fun h => absurd h hlt))
   have hl : True := trivial
   go_wp2
   go_loopw [5] (fun s w1 => ∃ t : Nat, t ≤ 63 ∧ s = .int .i64 (t : Int) ∧ trailA x (64 - t) = trail x ∧ w1 = wr) (fun s _ => 64 - (intOf s).toNat)
   case atStart => exact ⟨0, by omega, rfl, rfl, rfl⟩
   case round =>
    obtain ⟨t, ht, rfl, hT, hw⟩ := hrel
    subst hw
    have HT := hid hT
    clear hT hl
    have hl := low_bit x t hx
    cases hbt : x.testBit t with
    | false =>
     rw [hbt] at hl
     have HV := hid (tr_step hx h0 ht HT.out hbt)
     go_wp2
     go_roundw
     case rel => exact ⟨t + 1, HV.out.1, by go_num, HV.out.2, trivial⟩
     case measure => simp [intOf]; omega
    | true =>
     rw [hbt] at hl
     have HV := hid (tr_stop ht HT.out hbt)
     have hz31 : 31 < z := by omega
     have HE : Hid (lead x = 31) := by
      rcases HU.out with h | h
      ·exact h.2
      ·omega
     go_wp2
     go_ret2
     rw [HE.out, HV.out]
     exact ⟨rfl, rfl⟩
end Go.Proofs.YtllfanlhgnkcfaaGreatDoor.V
