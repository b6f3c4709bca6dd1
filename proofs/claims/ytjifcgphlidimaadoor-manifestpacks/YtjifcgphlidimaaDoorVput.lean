/-
  varint.Put and the document's own Put.
-/
import Derived.Test.YtjifcgphlidimaaDoorBclone
import Derived.Test.YtjifcgphlidimaaDoorVplain
import Derived.WalkLawsBesides
import Derived.Laws.BitsAllLaws
import Derived.Laws.ShiftsVarLaws
namespace Go.Proofs.YtjifcgphlidimaaDoor.U
open Go.RowKit Go.Proofs.Lys
set_option linter.unusedVariables false

def uN (x : Int) : Nat := (x % 18446744073709551616).toNat
theorem uN_wrap (x : Int) : IntKind.u64.wrap x = ((uN x : Nat) : Int) := by
  unfold uN
  rw [Int.toNat_of_nonneg (Int.emod_nonneg _ (by decide))]
  simp [IntKind.wrap, IntKind.bits, IntKind.signed]
theorem uN_lt (x : Int) : uN x < 18446744073709551616 := by
  unfold uN
  have := Int.emod_nonneg x (b := 18446744073709551616) (by decide)
  have := Int.emod_lt_of_pos x (b := 18446744073709551616) (by decide)
  omega

/-- One byte more of a row that is owned. -/
theorem own_byte {w : World} {base : Nat} {vr : Value} {lr : List UInt8} (hown : w.ownsRow base 5 1 vr lr.length (lr.map bV)) (hb : base ≤ w.heap.size) (hl : lr.length ≤ 100000000) (B : Nat) (hB : B < 256) :
    ∃ g cap w1, Hid ((Builtin.append_ #[28, 28] 0 #[vr, .slice (some ⟨w.heap.size, 0, none⟩) 1 1]).run Tryd.prog (w.alloc (.cells #[.int .u8 (B : Int)] 5)) = .ok (.slice (some ⟨g, 0, none⟩) (lr.length + 1) cap) w1) ∧ w1.ownsRow base 5 1 (.slice (some ⟨g, 0, none⟩) (lr.length + 1) cap) (lr ++ [UInt8.ofNat B]).length ((lr ++ [UInt8.ofNat B]).map bV) ∧ Only (fun k => vr.ownBlock = some k) w w1 := by
  obtain ⟨v', w1, hrun, hown1, hgrow, hat⟩ := append_src (P := Tryd.prog) (xv := .slice (some ⟨w.heap.size, 0, none⟩) 1 1) (ys := [.int .u8 (B : Int)]) Tryd.underlying28 Tryd.infoB rfl (by decide) (hown.alloc (.cells #[.int .u8 (B : Int)] 5)) (own_src (World.ownsRow_lit w #[.int .u8 (B : Int)] 1 (Nat.zero_le _) (by decide) rfl)) (by intro u hu; simp at hu; subst hu; rfl) (by simp; omega) (by simp; omega)
  obtain ⟨g, cap, rfl⟩ := own_some hown1 (by simp)
  refine ⟨g, cap, w1, hrun, ?_, ((Only.refl _ w).alloc _).grown hgrow (fun j hj _ => hj)⟩
  have e1 : (lr ++ [UInt8.ofNat B]).length = lr.length + [Value.int .u8 (B : Int)].length := by simp
  have e2 : (lr ++ [UInt8.ofNat B]).map bV = lr.map bV ++ [Value.int .u8 (B : Int)] := by
    rw [List.map_append]
    have : bV (UInt8.ofNat B) = .int .u8 (B : Int) := by
      unfold bV
      rw [UInt8.toNat_ofNat', Nat.mod_eq_of_lt hB]
    simp [this]
  rw [e1, e2]
  exact hown1

theorem or_more (u : Nat) : bits .or .u8 ((u : Int) % 256) 128 = ((u % 128 + 128 : Nat) : Int) := by
  have h := u8_or_nat (u % 256) 128 (by omega) (by decide)
  have e : ((u % 256 : Nat) : Int) = (u : Int) % 256 := by simp
  rw [e] at h
  rw [show (128 : Int) = ((128 : Nat) : Int) from rfl, h]
  congr 1
  have h2 : ∀ x, x < 256 → x ||| 128 = x % 128 + 128 := by decide +kernel
  rw [h2 _ (by omega)]
  omega
theorem and_127 (u : Nat) (h : u < 18446744073709551616) : bits .and .u64 (u : Int) 127 = ((u % 128 : Nat) : Int) := by
  have h2 := u64_and_nat u 127 h (by decide)
  rw [show (127 : Int) = ((127 : Nat) : Int) from rfl, h2]
  congr 1
  exact Nat.and_two_pow_sub_one_eq_mod u 7
theorem or_more7 (u : Nat) : bits .or .u8 ((u % 128 : Nat) : Int) 128 = ((u % 128 + 128 : Nat) : Int) := by
  have h := or_more (u % 128)
  rw [show (((u % 128 : Nat) : Int)) % 256 = ((u % 128 : Nat) : Int) by omega, show u % 128 % 128 = u % 128 by omega] at h
  exact h

set_option maxRecDepth 100000 in
set_option maxHeartbeats 1600000 in
theorem put_any (w : World) (x : Int) :
    Calls Tryd.prog 36 #[.int .i64 x] w fun e w' => ∃ v, e = .returned v ∧ w'.ownsRow w.heap.size 5 1 v (putN (uN x)).length ((putN (uN x)).map bV) ∧ Kept w w' := by
  have hU := uN_wrap x
  have hUl := uN_lt x
  generalize uN x = U at hU hUl ⊢
  have H10 := hid (putN_ten hUl)
  go_enter Tryd.func36, Tryd.ntmps36
  go_wp2
  go_loopw [3, 4] (fun t s wr => ∃ (u : Nat) (xs : List UInt8), u < 18446744073709551616 ∧ t = .int .u64 (u : Int) ∧ wr.ownsRow w.heap.size 5 1 s xs.length (xs.map bV) ∧ Kept w wr ∧ xs ++ putN u = putN U) (fun t _ _ => (intOf t).toNat)
  case atStart => exact ⟨U, [], hUl, rfl, World.ownsRow_nil _ _ _ _, Only.refl _ _, rfl⟩
  case round =>
    obtain ⟨u, xs, hu, rfl, hown, hkept, hL⟩ := hrel
    have hx10 : xs.length ≤ 10 := by
      have h1 := congrArg List.length hL
      rw [List.length_append] at h1
      have := H10.out
      omega
    have HL := hid hL
    clear hL
    by_cases h : u < 128
    · obtain ⟨g, cap, w1, Hr, hown1, hon1⟩ := own_byte hown hkept.size (by omega) u (by omega)
      have e1 : (u : Int) % 256 = (u : Int) := by omega
      have HE : Hid (w1.ownsRow w.heap.size 5 1 (.slice (some ⟨g, 0, none⟩) (xs.length + 1) cap) (putN U).length ((putN U).map bV)) := by
        rw [← HL.out, putN_small h]
        exact hown1
      have HK2 : Hid (Kept w w1) := hid (hkept.trans hon1 (fun q hq e => absurd hq (by have := (hown.lt q e).1; omega)))
      clear hown hown1 hkept hon1
      go_wp2_with (at_builtin; refine wpList_append_run rfl _ _ _ rfl rfl rfl Hr ?_)
      go_ret
      exact ⟨_, rfl, HE.out, HK2.out⟩
    · obtain ⟨g, cap, w1, Hr, hown1, hon1⟩ := own_byte hown hkept.size (by omega) (u % 128 + 128) (by omega)
      have e1 := or_more u
      obtain ⟨B, hB⟩ : ∃ B, u % 128 + 128 = B := ⟨_, rfl⟩
      obtain ⟨q, e2⟩ : ∃ q : Nat, (u : Int) / 128 = (q : Int) := ⟨u / 128, by omega⟩
      rw [hB] at e1 Hr hown1
      have HR := hid hown1
      have HK2 : Hid (Kept w w1) := hid (hkept.trans hon1 (fun q hq e => absurd hq (by have := (hown.lt q e).1; omega)))
      have HL2 : Hid ((xs ++ [UInt8.ofNat B]) ++ putN q = putN U) := by
        show _ = _
        rw [← HL.out, putN_big (n := u) (by omega), List.append_assoc, hB, show u / 128 = q by omega]
        rfl
      clear hown hown1 hkept hon1 hB
      go_wp2_with (at_builtin; refine wpList_append_run rfl _ _ _ rfl rfl rfl Hr ?_)
      go_roundw
      case rel => exact ⟨q, xs ++ [UInt8.ofNat B], by omega, by go_num, HR.out, HK2.out, HL2.out⟩
      case measure => simp [intOf]; omega

set_option maxRecDepth 100000 in
set_option maxHeartbeats 1600000 in
theorem rput_any (w : World) (x : Int) :
    Calls Tryd.prog 24 #[.int .i64 x] w fun e w' => ∃ v, e = .returned v ∧ w'.ownsRow w.heap.size 5 1 v (putN (uN x)).length ((putN (uN x)).map bV) ∧ Kept w w' := by
  have hU := uN_wrap x
  have hUl := uN_lt x
  generalize uN x = U at hU hUl ⊢
  have H10 := hid (putN_ten hUl)
  go_enter Tryd.func24, Tryd.ntmps24
  go_wp2
  go_loopw [3, 4] (fun t s wr => ∃ (u : Nat) (xs : List UInt8), u < 18446744073709551616 ∧ t = .int .u64 (u : Int) ∧ wr.ownsRow w.heap.size 5 1 s xs.length (xs.map bV) ∧ Kept w wr ∧ xs ++ putN u = putN U) (fun t _ _ => (intOf t).toNat)
  case atStart => exact ⟨U, [], hUl, rfl, World.ownsRow_nil _ _ _ _, Only.refl _ _, rfl⟩
  case round =>
    obtain ⟨u, xs, hu, rfl, hown, hkept, hL⟩ := hrel
    have hx10 : xs.length ≤ 10 := by
      have h1 := congrArg List.length hL
      rw [List.length_append] at h1
      have := H10.out
      omega
    have HL := hid hL
    clear hL
    by_cases h : u < 128
    · obtain ⟨g, cap, w1, Hr, hown1, hon1⟩ := own_byte hown hkept.size (by omega) u (by omega)
      have e1 : (u : Int) % 256 = (u : Int) := by omega
      have HE : Hid (w1.ownsRow w.heap.size 5 1 (.slice (some ⟨g, 0, none⟩) (xs.length + 1) cap) (putN U).length ((putN U).map bV)) := by
        rw [← HL.out, putN_small h]
        exact hown1
      have HK2 : Hid (Kept w w1) := hid (hkept.trans hon1 (fun q hq e => absurd hq (by have := (hown.lt q e).1; omega)))
      clear hown hown1 hkept hon1
      go_wp2_with (at_builtin; refine wpList_append_run rfl _ _ _ rfl rfl rfl Hr ?_)
      go_ret
      exact ⟨_, rfl, HE.out, HK2.out⟩
    · obtain ⟨g, cap, w1, Hr, hown1, hon1⟩ := own_byte hown hkept.size (by omega) (u % 128 + 128) (by omega)
      have e0 := and_127 u hu
      have e1 := or_more7 u
      obtain ⟨B, hB⟩ : ∃ B, u % 128 + 128 = B := ⟨_, rfl⟩
      obtain ⟨p, hp⟩ : ∃ p, u % 128 = p := ⟨_, rfl⟩
      obtain ⟨q, e2⟩ : ∃ q : Nat, (u : Int) / 128 = (q : Int) := ⟨u / 128, by omega⟩
      rw [hB] at e1 Hr hown1
      rw [hp] at e0 e1
      have ep : (p : Int) % 256 = (p : Int) := by omega
      have HR := hid hown1
      have HK2 : Hid (Kept w w1) := hid (hkept.trans hon1 (fun q hq e => absurd hq (by have := (hown.lt q e).1; omega)))
      have HL2 : Hid ((xs ++ [UInt8.ofNat B]) ++ putN q = putN U) := by
        show _ = _
        rw [← HL.out, putN_big (n := u) (by omega), List.append_assoc, hB, show u / 128 = q by omega]
        rfl
      clear hown hown1 hkept hon1 hB hp
      go_wp2_with (at_builtin; refine wpList_append_run rfl _ _ _ rfl rfl rfl Hr ?_)
      go_roundw
      case rel => exact ⟨q, xs ++ [UInt8.ofNat B], by omega, by go_num, HR.out, HK2.out, HL2.out⟩
      case measure => simp [intOf]; omega
end Go.Proofs.YtjifcgphlidimaaDoor.U
