/-
  The law of the window.
-/
import Derived.Test.YtoagncilbaaefaaHlaw1
namespace Go.Proofs.Ytoagncilbaaefaa.Hd
open Go.RowKit Go.Proofs.Lys Go.Maps Go.Proofs.Ytoagncilbaaefaa.N
set_option linter.unusedVariables false
set_option linter.unusedSimpArgs false

theorem wf64 {n : Int} (h : (Lit.int .i64 n).wf = true) : -9223372036854775808 ≤ n ∧ n ≤ 9223372036854775807 := by
  simp [Lit.wf, IntKind.min, IntKind.max, IntKind.bits, IntKind.signed] at h
  exact h
abbrev nmY : ByteArray := ⟨#[121]⟩
theorem makeX : makeL (labA nmX) = some (labA nmX) := by decide +kernel
theorem makeY : makeL (labA nmY) = some (labA nmY) := by decide +kernel
theorem neXY : ¬ labA nmX = labA nmY := by decide +kernel
theorem cmpXX : cmpL (labA nmX) (labA nmX) = 0 := cmpL_good.self _
theorem write_one (win : Int) (M : Mod) (r : Row) : writeM win M [r] = match rowM win M r with | .error e => .error e | .ok N => .ok N := by
  unfold writeM
  rw [if_neg (by simp), if_neg (by simp)]
  rfl
theorem setX (s s' : Smps) : setM (labA nmX) s' [(labA nmX, s)] = [(labA nmX, s')] := by
  unfold setM
  rw [cmpXX]
  rfl
theorem lookX (s : Smps) : lookM [(labA nmX, s)] (labA nmX) = some s := by
  unfold lookM
  simp
theorem lookXY (s : Smps) : lookM [(labA nmX, s)] (labA nmY) = none := by
  unfold lookM
  rw [List.find?_cons]
  have : decide (labA nmX = labA nmY) = false := decide_eq_false neXY
  simp only [this]
  rfl
theorem winA {win t v : Int} (h1 : -9007199254740992 ≤ t) (h2 : t ≤ 9007199254740992) : writeM win [] [(labA nmX, (t, v))] = .ok [(labA nmX, [(t, v)])] := by
  rw [write_one, row_new (l := labA nmX) makeX (by show ¬ (t < _ ∨ _ < t); omega) rfl (by simp)]
  rfl
theorem winB {win t v t2 v2 : Int} (h1 : -9007199254740992 ≤ t2) (h2 : t2 ≤ 9007199254740992) (ho : t2 < t - win) : writeM win [(labA nmX, [(t, v)])] [(labA nmX, (t2, v2))] = .error 22 := by
  rw [write_one, row_old (l := labA nmX) makeX (by show ¬ (t2 < _ ∨ _ < t2); omega) (lookX _) (by exact ho)]
theorem winC {win t v t2 v2 : Int} (h1 : -9007199254740992 ≤ t2) (h2 : t2 ≤ 9007199254740992) (ho : ¬ t2 < t - win) : writeM win [(labA nmX, [(t, v)])] [(labA nmX, (t2, v2))] = .ok [(labA nmX, putS (t2, v2) [(t, v)])] := by
  rw [write_one, row_set (l := labA nmX) makeX (by show ¬ (t2 < _ ∨ _ < t2); omega) (lookX _) (by exact ho), setX]
theorem winD {win t2 v2 : Int} (s : Smps) (h1 : -9007199254740992 ≤ t2) (h2 : t2 ≤ 9007199254740992) : errM (writeM win [(labA nmX, s)] [(labA nmY, (t2, v2))]) = 0 := by
  rw [write_one, row_new (l := labA nmY) makeY (by show ¬ (t2 < _ ∨ _ < t2); omega) (lookXY s) (by simp)]
  rfl

/-- A row that a law lays and writes. -/
theorem row_write {w0 W : World} {h : HeadC} {O : Nat → Prop} {M : Mod} (hMx : Mx w0) (hI : HeadIn w0 W h O M) (hc : countM M ≤ 90000) (nm : ByteArray) (hn : nm.size ≤ 1000) (t v : Int) (lb : Nat) (hlb : W.heap.size ≤ lb) {w2 : World} (k2 : Kept W w2) (hl : LabSrc w2 (.slice (some ⟨lb, 0, none⟩) 1 1) (labA nm)) :
    Calls Try.prog 8 #[.pointer (some ⟨h.hb, 0, none⟩), .slice (some ⟨w2.heap.size, 0, none⟩) 1 1] (w2.alloc (.cells #[.slice (some ⟨lb, 0, none⟩) 1 1, .int .i64 t, .int .i64 v] 32)) fun e w' => e = .returned (.int .i64 (errM (writeM h.win M [(labA nm, (t, v))]))) ∧ ∃ h' O', WrIn w0 W h O (modM M (writeM h.win M [(labA nm, (t, v))])) h' O' w' := by
  have k2a : Kept w2 (w2.alloc (.cells #[.slice (some ⟨lb, 0, none⟩) 1 1, .int .i64 t, .int .i64 v] 32)) := (Only.refl _ w2).alloc _
  have hlt := hI.at_.lt
  have hz := k2.size
  have hrow := lit_row (Z := fun j => ¬ O j) (t := t) (v := v) (l := labA nm) hl (fun e => by have := hlt _ e; omega) (fun e => by have := hlt _ e; omega)
  refine (write_in hMx ((hI.stay k2).stay k2a) hc _ _ hrow (rows_labA (by simp) (fun r hr => ⟨nm, by rw [List.mem_singleton.1 hr], hn⟩))).mono ?_
  rintro e w' ⟨he, h', O', hP⟩
  refine ⟨he, h', O', ⟨hP.in_, hP.hb, hP.win, ((k2.trans k2a (fun _ _ f => f)).mono (fun _ _ f => f.elim)).trans hP.only (fun j _ e => e), fun k hk => ?_⟩⟩
  rcases hP.old k hk with h1 | h1
  · exact .inl h1
  · have := k2a.size
    exact .inr (by omega)

set_option maxRecDepth 100000 in
set_option maxHeartbeats 4000000 in
theorem window_walk (w : World) (hMx : Mx w) (a b c : Int) (ha : -9223372036854775808 ≤ a ∧ a ≤ 9223372036854775807) (hb : -9223372036854775808 ≤ b ∧ b ≤ 9223372036854775807) (hc : -9223372036854775808 ≤ c ∧ c ≤ 9223372036854775807) :
    Calls Try.prog 4 #[.int .i64 a, .int .i64 b, .int .i64 c] w fun e w' => e = .returned (.bool true) ∧ Kept w w' := by
  have HAL := hid (alive_any w hMx)
  have HN := hid (fun W n => num_any W n)
  have HMX := hid hMx
  clear hMx
  by_cases g1 : a < 0
  · have d1 : decide (a < 0) = true := decide_eq_true g1
    go_enter Try.func4, Try.ntmps4
    go_wp2_with fail
    refine HAL.out.mono ?_
    rintro e w1 ⟨rfl, k1⟩
    have HK := hid k1
    clear k1 HAL
    go_wp2
    go_ret
    exact ⟨rfl, HK.out⟩
  by_cases g2 : 1099511627776 < a
  · have d1 : decide (a < 0) = false := decide_eq_false g1
    have d2 : decide (1099511627776 < a) = true := decide_eq_true g2
    go_enter Try.func4, Try.ntmps4
    go_wp2_with fail
    refine HAL.out.mono ?_
    rintro e w1 ⟨rfl, k1⟩
    have HK := hid k1
    clear k1 HAL
    go_wp2
    go_ret
    exact ⟨rfl, HK.out⟩
  by_cases g3 : b < 0
  · have d1 : decide (a < 0) = false := decide_eq_false g1
    have d2 : decide (1099511627776 < a) = false := decide_eq_false g2
    have d3 : decide (b < 0) = true := decide_eq_true g3
    go_enter Try.func4, Try.ntmps4
    go_wp2_with fail
    refine HAL.out.mono ?_
    rintro e w1 ⟨rfl, k1⟩
    have HK := hid k1
    clear k1 HAL
    go_wp2
    go_ret
    exact ⟨rfl, HK.out⟩
  by_cases g4 : 1125899906842624 < b
  · have d1 : decide (a < 0) = false := decide_eq_false g1
    have d2 : decide (1099511627776 < a) = false := decide_eq_false g2
    have d3 : decide (b < 0) = false := decide_eq_false g3
    have d4 : decide (1125899906842624 < b) = true := decide_eq_true g4
    go_enter Try.func4, Try.ntmps4
    go_wp2_with fail
    refine HAL.out.mono ?_
    rintro e w1 ⟨rfl, k1⟩
    have HK := hid k1
    clear k1 HAL
    go_wp2
    go_ret
    exact ⟨rfl, HK.out⟩
  by_cases g5 : c < 0
  · have d1 : decide (a < 0) = false := decide_eq_false g1
    have d2 : decide (1099511627776 < a) = false := decide_eq_false g2
    have d3 : decide (b < 0) = false := decide_eq_false g3
    have d4 : decide (1125899906842624 < b) = false := decide_eq_false g4
    have d5 : decide (c < 0) = true := decide_eq_true g5
    go_enter Try.func4, Try.ntmps4
    go_wp2_with fail
    refine HAL.out.mono ?_
    rintro e w1 ⟨rfl, k1⟩
    have HK := hid k1
    clear k1 HAL
    go_wp2
    go_ret
    exact ⟨rfl, HK.out⟩
  by_cases g6 : 2199023255552 < c
  · have d1 : decide (a < 0) = false := decide_eq_false g1
    have d2 : decide (1099511627776 < a) = false := decide_eq_false g2
    have d3 : decide (b < 0) = false := decide_eq_false g3
    have d4 : decide (1125899906842624 < b) = false := decide_eq_false g4
    have d5 : decide (c < 0) = false := decide_eq_false g5
    have d6 : decide (2199023255552 < c) = true := decide_eq_true g6
    go_enter Try.func4, Try.ntmps4
    go_wp2_with fail
    refine HAL.out.mono ?_
    rintro e w1 ⟨rfl, k1⟩
    have HK := hid k1
    clear k1 HAL
    go_wp2
    go_ret
    exact ⟨rfl, HK.out⟩
  have d1 : decide (a < 0) = false := decide_eq_false g1
  have d2 : decide (1099511627776 < a) = false := decide_eq_false g2
  have d3 : decide (b < 0) = false := decide_eq_false g3
  have d4 : decide (1125899906842624 < b) = false := decide_eq_false g4
  have d5 : decide (c < 0) = false := decide_eq_false g5
  have d6 : decide (2199023255552 < c) = false := decide_eq_false g6
  have hwr : IntKind.i64.wrap (b - c) = b - c := by rw [IntKind.wrap_i64]; omega
  have HR := hid (fun W nm t v => row_any W nm t v)
  go_enter Try.func4, Try.ntmps4
  go_wp2_with fail
  refine HAL.out.mono ?_
  rintro e w1 ⟨rfl, k1⟩
  have HNW := hid (new_in k1 a)
  clear k1 HAL
  go_wp2_with fail
  refine HNW.out.mono ?_
  rintro e w2 ⟨h, O, rfl, hI, hwin, k2, _⟩
  have hwin' : h.win = a := by rw [hwin]; omega
  have HI := hid hI
  have HW := hid hwin'
  clear hI hwin hwin' k2 HNW
  obtain ⟨hb0, hhb⟩ : ∃ hb0, h.hb = hb0 := ⟨_, rfl⟩
  rw [hhb]
  have HHB := hid hhb
  clear hhb
  go_wp2_with fail
  refine (HR.out w2 nmX b 1).mono ?_
  rintro e w3 ⟨rfl, hl3, k3⟩
  have HWr := hid (row_write HMX.out HI.out (by decide) nmX (by decide) b 1 _ (by omega) k3 hl3)
  rw [HW.out, winA (by omega) (by omega), HHB.out] at HWr
  simp only [modM, errM] at HWr
  clear hl3 k3
  go_wp2_with fail
  refine HWr.out.mono ?_
  rintro e w4 ⟨rfl, h4, O4, hP4⟩
  have HI4 := hid hP4.in_
  have HW4 := hid (hP4.win.trans HW.out)
  have HB4 := hid (hP4.hb.trans HHB.out)
  clear hP4 HWr HI
  go_wp2_with fail
  refine (HR.out w4 nmX (b - c) 2).mono ?_
  rintro e w5 ⟨rfl, hl5, k5⟩
  have HWr := hid (row_write HMX.out HI4.out (by simp [countM]) nmX (by decide) (b - c) 2 _ (by omega) k5 hl5)
  rw [HW4.out, HB4.out] at HWr
  clear hl5 k5
  by_cases hla : c ≤ a
  · rw [winC (by omega) (by omega) (by omega)] at HWr
    simp only [modM, errM] at HWr
    have hla' : decide (c ≤ a) = true := decide_eq_true hla
    go_wp2_with fail
    refine HWr.out.mono ?_
    rintro e w6 ⟨rfl, h6, O6, hP6⟩
    have HI6 := hid hP6.in_
    have HW6 := hid (hP6.win.trans HW4.out)
    have HB6 := hid (hP6.hb.trans HB4.out)
    clear hP6 HWr HI4
    go_wp2_with fail
    refine (HR.out w6 nmY (b - c) 2).mono ?_
    rintro e w7 ⟨rfl, hl7, k7⟩
    have HWr := hid (row_write HMX.out HI6.out (by show countM [(labA nmX, putS (b - c, 2) [(b, 1)])] ≤ 90000; have := (putS_len (b - c, 2) [(b, 1)]).2; simp [countM] at this ⊢; omega) nmY (by decide) (b - c) 2 _ (by omega) k7 hl7)
    have hE := winD (win := a) (t2 := b - c) (v2 := 2) (putS (b - c, 2) [(b, 1)]) (by omega) (by omega)
    rw [HW6.out, HB6.out] at HWr
    rw [hE] at HWr
    clear hl7 k7 hE
    go_wp2_with fail
    refine HWr.out.mono ?_
    rintro e w8 ⟨rfl, h8, O8, hP8⟩
    have HK8 := hid hP8.in_.kept
    clear hP8 HWr HI6
    go_wp2_with fail
    refine (HN.out _ _).mono ?_
    rintro e w9 ⟨rfl, hw⟩
    replace hw := hw.symm
    subst hw
    go_wp2_with fail
    refine (HN.out _ _).mono ?_
    rintro e w9 ⟨rfl, hw⟩
    replace hw := hw.symm
    subst hw
    go_wp2_with fail
    refine (HN.out _ _).mono ?_
    rintro e w9 ⟨rfl, hw⟩
    replace hw := hw.symm
    subst hw
    go_wp2
    go_ret
    exact ⟨rfl, HK8.out⟩
  · rw [winB (by omega) (by omega) (by omega)] at HWr
    simp only [modM, errM] at HWr
    have hla' : decide (c ≤ a) = false := decide_eq_false hla
    go_wp2_with fail
    refine HWr.out.mono ?_
    rintro e w6 ⟨rfl, h6, O6, hP6⟩
    have HI6 := hid hP6.in_
    have HW6 := hid (hP6.win.trans HW4.out)
    have HB6 := hid (hP6.hb.trans HB4.out)
    clear hP6 HWr HI4
    go_wp2_with fail
    refine (HR.out w6 nmY (b - c) 2).mono ?_
    rintro e w7 ⟨rfl, hl7, k7⟩
    have HWr := hid (row_write HMX.out HI6.out (by simp [countM]) nmY (by decide) (b - c) 2 _ (by omega) k7 hl7)
    have hE := winD (win := a) (t2 := b - c) (v2 := 2) [(b, 1)] (by omega) (by omega)
    rw [HW6.out, HB6.out] at HWr
    rw [hE] at HWr
    clear hl7 k7 hE
    go_wp2_with fail
    refine HWr.out.mono ?_
    rintro e w8 ⟨rfl, h8, O8, hP8⟩
    have HK8 := hid hP8.in_.kept
    clear hP8 HWr HI6
    go_wp2_with fail
    refine (HN.out _ _).mono ?_
    rintro e w9 ⟨rfl, hw⟩
    replace hw := hw.symm
    subst hw
    go_wp2_with fail
    refine (HN.out _ _).mono ?_
    rintro e w9 ⟨rfl, hw⟩
    replace hw := hw.symm
    subst hw
    go_wp2_with fail
    refine (HN.out _ _).mono ?_
    rintro e w9 ⟨rfl, hw⟩
    replace hw := hw.symm
    subst hw
    go_wp2_with fail
    refine (HN.out _ _).mono ?_
    rintro e w9 ⟨rfl, hw⟩
    replace hw := hw.symm
    subst hw
    go_wp2
    go_ret
    exact ⟨rfl, HK8.out⟩
end Go.Proofs.Ytoagncilbaaefaa.Hd
