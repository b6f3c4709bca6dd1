/-
  Vput, Vget, Vzig.
-/
import Derived.Test.YtllfanlhgnkcfaaGreatDoorQ03
import Derived.Test.YtllfanlhgnkcfaaGreatDoorQ04
import Derived.WalkLawsBesides
import Derived.Laws.BitsAllLaws
import Derived.Laws.ShiftsVarLaws
namespace Go.Proofs.YtllfanlhgnkcfaaGreatDoor.U
open Go.RowKit Go.Proofs.Lys
set_option linter.unusedVariables false
def uN (x : Int) : Nat := (x % 18446744073709551616).toNat
theorem uN_wrap (x : Int) : IntKind.u64.wrap x = ((uN x : Nat) : Int) := by
 unfold uN
 rw [Int.toNat_of_nonneg (Int.emod_nonneg _ (by decide))]
 simp [IntKind.wrap, IntKind.bits, IntKind.signed]
theorem uN_lt (x : Int) : uN x < 18446744073709551616 := by
 unfold uN
 have := Int.emod_nonneg x (b := 18446744073709551616) (by decide)
 have := Int.emod_lt_of_pos x (b := 18446744073709551616) (by decide)
 omega
theorem own_byte {w : World} {base : Nat} {vr : Value} {lr : List UInt8} (hown : w.ownsRow base 5 1 vr lr.length (lr.map bV)) (hb : base ≤ w.heap.size) (hl : lr.length ≤ 100000000) (B : Nat) (hB : B < 256) :
  ∃ g cap w1, Hid ((Builtin.append_ #[28, 28] 0 #[vr, .slice (some ⟨w.heap.size, 0, none⟩) 1 1]).run Tryz.prog (w.alloc (.cells #[.int .u8 (B : Int)] 5)) = .ok (.slice (some ⟨g, 0, none⟩) (lr.length + 1) cap) w1) ∧ w1.ownsRow base 5 1 (.slice (some ⟨g, 0, none⟩) (lr.length + 1) cap) (lr ++ [UInt8.ofNat B]).length ((lr ++ [UInt8.ofNat B]).map bV) ∧ Only (fun k => vr.ownBlock = some k) w w1 := by
 obtain ⟨v', w1, hrun, hown1, hgrow, hat⟩ := append_src (P := Tryz.prog) (xv := .slice (some ⟨w.heap.size, 0, none⟩) 1 1) (ys := [.int .u8 (B : Int)]) Tryz.underlying28 Tryz.infoB rfl (by decide) (hown.alloc (.cells #[.int .u8 (B : Int)] 5)) (own_src (World.ownsRow_lit w #[.int .u8 (B : Int)] 1 (Nat.zero_le _) (by decide) rfl)) (by intro u hu; simp at hu; subst hu; rfl) (by simp; omega) (by simp; omega)
 obtain ⟨g, cap, rfl⟩ := own_some hown1 (by simp)
 refine ⟨g, cap, w1, hrun, ?_, ((Only.refl _ w).alloc _).grown hgrow (fun j hj _ => hj)⟩
 have e1 : (lr ++ [UInt8.ofNat B]).length = lr.length + [Value.int .u8 (B : Int)].length := by simp
 have e2 : (lr ++ [UInt8.ofNat B]).map bV = lr.map bV ++ [Value.int .u8 (B : Int)] := by
  rw [List.map_append]
  have : bV (UInt8.ofNat B) = .int .u8 (B : Int) := by
   unfold bV
   rw [UInt8.toNat_ofNat', Nat.mod_eq_of_lt hB]
  simp [this]
 rw [e1, e2]
 exact hown1
theorem or_more (u : Nat) : bits .or .u8 ((u : Int) % 256) 128 = ((u % 128 + 128 : Nat) : Int) := by
 have h := u8_or_nat (u % 256) 128 (by omega) (by decide)
 have e : ((u % 256 : Nat) : Int) = (u : Int) % 256 := by simp
 rw [e] at h
 rw [show (128 : Int) = ((128 : Nat) : Int) from rfl, h]
 congr 1
 have h2 : ∀ x, x < 256 → x ||| 128 = x % 128 + 128 := by decide +kernel
 rw [h2 _ (by omega)]
 omega
theorem and_127 (u : Nat) (h : u < 18446744073709551616) : bits .and .u64 (u : Int) 127 = ((u % 128 : Nat) : Int) := by
 have h2 := u64_and_nat u 127 h (by decide)
 rw [show (127 : Int) = ((127 : Nat) : Int) from rfl, h2]
 congr 1
 exact Nat.and_two_pow_sub_one_eq_mod u 7
theorem or_more7 (u : Nat) : bits .or .u8 ((u % 128 : Nat) : Int) 128 = ((u % 128 + 128 : Nat) : Int) := by
 have h := or_more (u % 128)
 rw [show (((u % 128 : Nat) : Int)) % 256 = ((u % 128 : Nat) : Int) by omega, show u % 128 % 128 = u % 128 by omega] at h
 exact h
set_option maxRecDepth 100000 in
set_option maxHeartbeats 1600000 in
theorem put_any (w : World) (x : Int) :
  Calls Tryz.prog 50 #[.int .i64 x] w fun e w' => ∃ v, e = .returned v ∧ w'.ownsRow w.heap.size 5 1 v (putN (uN x)).length ((putN (uN x)).map bV) ∧ Kept w w' := by
 have hU := uN_wrap x
 have hUl := uN_lt x
 generalize uN x = U at hU hUl ⊢
 have H10 := hid (putN_ten hUl)
 go_enter Tryz.func50, Tryz.ntmps50
 go_wp2
 go_loopw [3, 4] (fun t s wr => ∃ (u : Nat) (xs : List UInt8), u < 18446744073709551616 ∧ t = .int .u64 (u : Int) ∧ wr.ownsRow w.heap.size 5 1 s xs.length (xs.map bV) ∧ Kept w wr ∧ xs ++ putN u = putN U) (fun t _ _ => (intOf t).toNat)
 case atStart => exact ⟨U, [], hUl, rfl, World.ownsRow_nil _ _ _ _, Only.refl _ _, rfl⟩
 case round =>
  obtain ⟨u, xs, hu, rfl, hown, hkept, hL⟩ := hrel
  have hx10 : xs.length ≤ 10 := by
   have h1 := congrArg List.length hL
   rw [List.length_append] at h1
   have := H10.out
   omega
  have HL := hid hL
  clear hL
  by_cases h : u < 128
  ·obtain ⟨g, cap, w1, Hr, hown1, hon1⟩ := own_byte hown hkept.size (by omega) u (by omega)
   have e1 : (u : Int) % 256 = (u : Int) := by omega
   have HE : Hid (w1.ownsRow w.heap.size 5 1 (.slice (some ⟨g, 0, none⟩) (xs.length + 1) cap) (putN U).length ((putN U).map bV)) := by
    rw [← HL.out, putN_small h]
    exact hown1
   have HK2 : Hid (Kept w w1) := hid (hkept.trans hon1 (fun q hq e => absurd hq (by have := (hown.lt q e).1; omega)))
   clear hown hown1 hkept hon1
   go_wp2_with (at_builtin; refine wpList_append_run rfl _ _ _ rfl rfl rfl Hr ?_)
   go_ret
   exact ⟨_, rfl, HE.out, HK2.out⟩
  ·obtain ⟨g, cap, w1, Hr, hown1, hon1⟩ := own_byte hown hkept.size (by omega) (u % 128 + 128) (by omega)
   have e1 := or_more u
   obtain ⟨B, hB⟩ : ∃ B, u % 128 + 128 = B := ⟨_, rfl⟩
   obtain ⟨q, e2⟩ : ∃ q : Nat, (u : Int) / 128 = (q : Int) := ⟨u / 128, by omega⟩
   rw [hB] at e1 Hr hown1
   have HR := hid hown1
   have HK2 : Hid (Kept w w1) := hid (hkept.trans hon1 (fun q hq e => absurd hq (by have := (hown.lt q e).1; omega)))
   have HL2 : Hid ((xs ++ [UInt8.ofNat B]) ++ putN q = putN U) := by
    show _ = _
    rw [← HL.out, putN_big (n := u) (by omega), List.append_assoc, hB, show u / 128 = q by omega]
    rfl
   clear hown hown1 hkept hon1 hB
   go_wp2_with (at_builtin; refine wpList_append_run rfl _ _ _ rfl rfl rfl Hr ?_)
   go_roundw
   case rel => exact ⟨q, xs ++ [UInt8.ofNat B], by omega, by go_num, HR.out, HK2.out, HL2.out⟩
   case measure => simp [intOf]; omega
set_option maxRecDepth 100000 in
set_option maxHeartbeats 1600000 in
theorem rput_any (w : World) (x : Int) :
  Calls Tryz.prog 27 #[.int .i64 x] w fun e w' => ∃ v, e = .returned v ∧ w'.ownsRow w.heap.size 5 1 v (putN (uN x)).length ((putN (uN x)).map bV) ∧ Kept w w' := by
 have hU := uN_wrap x
 have hUl := uN_lt x
 generalize uN x = U at hU hUl ⊢
 have H10 := hid (putN_ten hUl)
 go_enter Tryz.func27, Tryz.ntmps27
 go_wp2
 go_loopw [3, 4] (fun t s wr => ∃ (u : Nat) (xs : List UInt8), u < 18446744073709551616 ∧ t = .int .u64 (u : Int) ∧ wr.ownsRow w.heap.size 5 1 s xs.length (xs.map bV) ∧ Kept w wr ∧ xs ++ putN u = putN U) (fun t _ _ => (intOf t).toNat)
 case atStart => exact ⟨U, [], hUl, rfl, World.ownsRow_nil _ _ _ _, Only.refl _ _, rfl⟩
 case round =>
  obtain ⟨u, xs, hu, rfl, hown, hkept, hL⟩ := hrel
  have hx10 : xs.length ≤ 10 := by
   have h1 := congrArg List.length hL
   rw [List.length_append] at h1
   have := H10.out
   omega
  have HL := hid hL
  clear hL
  by_cases h : u < 128
  ·obtain ⟨g, cap, w1, Hr, hown1, hon1⟩ := own_byte hown hkept.size (by omega) u (by omega)
   have e1 : (u : Int) % 256 = (u : Int) := by omega
   have HE : Hid (w1.ownsRow w.heap.size 5 1 (.slice (some ⟨g, 0, none⟩) (xs.length + 1) cap) (putN U).length ((putN U).map bV)) := by
    rw [← HL.out, putN_small h]
    exact hown1
   have HK2 : Hid (Kept w w1) := hid (hkept.trans hon1 (fun q hq e => absurd hq (by have := (hown.lt q e).1; omega)))
   clear hown hown1 hkept hon1
   go_wp2_with (at_builtin; refine wpList_append_run rfl _ _ _ rfl rfl rfl Hr ?_)
   go_ret
   exact ⟨_, rfl, HE.out, HK2.out⟩
  ·obtain ⟨g, cap, w1, Hr, hown1, hon1⟩ := own_byte hown hkept.size (by omega) (u % 128 + 128) (by omega)
   have e0 := and_127 u hu
   have e1 := or_more7 u
   obtain ⟨B, hB⟩ : ∃ B, u % 128 + 128 = B := ⟨_, rfl⟩
   obtain ⟨p, hp⟩ : ∃ p, u % 128 = p := ⟨_, rfl⟩
   obtain ⟨q, e2⟩ : ∃ q : Nat, (u : Int) / 128 = (q : Int) := ⟨u / 128, by omega⟩
   rw [hB] at e1 Hr hown1
   rw [hp] at e0 e1
   have ep : (p : Int) % 256 = (p : Int) := by omega
   have HR := hid hown1
   have HK2 : Hid (Kept w w1) := hid (hkept.trans hon1 (fun q hq e => absurd hq (by have := (hown.lt q e).1; omega)))
   have HL2 : Hid ((xs ++ [UInt8.ofNat B]) ++ putN q = putN U) := by
    show _ = _
    rw [← HL.out, putN_big (n := u) (by omega), List.append_assoc, hB, show u / 128 = q by omega]
    rfl
   clear hown hown1 hkept hon1 hB hp
   go_wp2_with (at_builtin; refine wpList_append_run rfl _ _ _ rfl rfl rfl Hr ?_)
   go_roundw
   case rel => exact ⟨q, xs ++ [UInt8.ofNat B], by omega, by go_num, HR.out, HK2.out, HL2.out⟩
   case measure => simp [intOf]; omega
end Go.Proofs.YtllfanlhgnkcfaaGreatDoor.U
namespace Go.Proofs.YtllfanlhgnkcfaaGreatDoor.U
open Go.RowKit Go.Proofs.Lys
set_option linter.unusedVariables false
def got (x : Nat × Nat × Nat) : Value := .tuple #[.int .i64 (wrap64 (x.1 : Int)), .int .i64 (x.2.1 : Int), .int .i64 (x.2.2 : Int)]
theorem andnot_128 (c : Nat) (h : c < 256) : bits .andNot .u8 (c : Int) 128 = ((c % 128 : Nat) : Int) := by
 have : ∀ c, c < 256 → bits .andNot .u8 ((c : Nat) : Int) 128 = ((c % 128 : Nat) : Int) := by decide +kernel
 exact this c h
theorem shift_fact (p k S : Nat) (hp : p < 128) (hk : k ≤ 9) (hS : 7 * k = S) : ∃ q r : Nat, IntKind.u64.wrap ((p : Int) * 2 ^ S) = (q : Int) ∧ (q : Int) / 2 ^ S = (r : Int) ∧ (k = 9 ∧ 1 < p → r ≠ p) ∧ (¬ (k = 9 ∧ 1 < p) → r = p ∧ q = p * 2 ^ (7 * k)) ∧ q < 18446744073709551616 := by
 subst hS
 have h2 : (0 : Nat) < 2 ^ (7 * k) := Nat.two_pow_pos _
 refine ⟨p * 2 ^ (7 * k) % 18446744073709551616, p * 2 ^ (7 * k) % 18446744073709551616 / 2 ^ (7 * k), by simp [IntKind.wrap, IntKind.bits, IntKind.signed], by simp, ?_, ?_, Nat.mod_lt _ (by decide)⟩
 ·rintro ⟨rfl, h⟩
  rw [show (2 : Nat) ^ (7 * 9) = 9223372036854775808 by decide]
  omega
 ·intro h
  have hlt : p * 2 ^ (7 * k) < 18446744073709551616 := by
   have := piece_word (n := 0) h2 hp hk (by omega)
   simpa using this
  rw [Nat.mod_eq_of_lt hlt]
  exact ⟨Nat.mul_div_cancel _ h2, rfl⟩
theorem or_word (n p k q : Nat) (h : n < 2 ^ (7 * k)) (hn : n < 18446744073709551616) (hq : q = p * 2 ^ (7 * k)) (hq2 : q < 18446744073709551616) : bits .or .u64 (n : Int) (q : Int) = ((n + p * 2 ^ (7 * k) : Nat) : Int) := by
 rw [u64_or_nat n q hn hq2, hq, or_piece n p k h]
theorem got_err : got (0, 0, 5) = .tuple #[.int .i64 0, .int .i64 0, .int .i64 5] := by simp [got, wrap64]
theorem andnot_0 : bits .andNot .u8 0 128 = 0 := by decide
theorem or_0 (n : Nat) (h : n < 18446744073709551616) : bits .or .u64 (n : Int) 0 = (n : Int) := by
 have := u64_or_nat n 0 h (by decide)
 simpa using this
set_option maxRecDepth 100000 in
set_option maxHeartbeats 1600000 in
theorem get_any (w : World) (v : Value) (bs : List UInt8) (hs : SrcOf w v (bs.map bV)) (hl : bs.length ≤ 10000000) :
  Calls Tryz.prog 84 #[v] w fun e w' => e = .returned (got (getA bs 0 0)) ∧ w' = w := by
 rcases hs.shape with ⟨hnil, a, c, rfl⟩ | ⟨hpos, b, o, c, rfl, hc⟩
 ·have e0 : bs = [] := List.map_eq_nil_iff.1 hnil
  subst e0
  go_enter Tryz.func84, Tryz.ntmps84
  go_wp2
  refine wp_loop_rounds 1 ?_
  rw [rounds_succ]
  go_wp2
  go_ret3
  exact ⟨by rw [getA, got_err]; rfl, rfl⟩
 ·rw [List.length_map] at hpos ⊢
  obtain ⟨L, hL⟩ : ∃ L, bs.length = L := ⟨_, rfl⟩
  rw [hL] at hpos hl ⊢
  have HC : Hid (∀ j (hj : j < bs.length), w.cell? ⟨b, o + j, none⟩ = some (.int .u8 ((bs[j].toNat : Nat) : Int))) := fun j hj => hc j _ (by rw [List.getElem?_map, List.getElem?_eq_getElem hj]; rfl)
  have HL := hid hL
  clear hL hc hs
  go_enter Tryz.func84, Tryz.ntmps84
  go_wp2
  go_loop [5, 12] (fun t s => ∃ (k n : Nat), k ≤ L ∧ k ≤ 10 ∧ t = .int .u64 (n : Int) ∧ s = .int .i64 (k : Int) ∧ n < 18446744073709551616 ∧ n < 2 ^ (7 * k) ∧ getA (bs.drop k) k n = getA bs 0 0) (fun t s => L - (intOf s).toNat)
  case atStart => exact ⟨0, 0, by omega, by omega, rfl, rfl, by omega, by simp, rfl⟩
  case round =>
   obtain ⟨k, n, hk, hk10, rfl, rfl, hn, hn2, hg⟩ := hrel
   by_cases hlt : k < L
   ·have hkl : k < bs.length := by have := HL.out; omega
    have hcell := HC.out k hkl
    rw [List.drop_eq_getElem_cons hkl] at hg
    have hc256 := UInt8.toNat_lt bs[k]
    by_cases hov : k = 10
    ·rw [getA_over (.inl (by omega))] at hg
     have HG := hid hg
     subst hov
     obtain ⟨C, hC⟩ : ∃ C : Nat, bs[10].toNat = C := ⟨_, rfl⟩
     rw [hC] at hcell hc256
     have hp := andnot_128 C hc256
     obtain ⟨p, hP⟩ : ∃ p, C % 128 = p := ⟨_, rfl⟩
     rw [hP] at hp
     clear hg hC
     go_wp2
     go_ret3
     exact ⟨by rw [← HG.out, got_err]; rfl, rfl⟩
    ·have hk9 : k ≤ 9 := by omega
     obtain ⟨C, hC⟩ : ∃ C : Nat, bs[k].toNat = C := ⟨_, rfl⟩
     have hp := andnot_128 bs[k].toNat hc256
     obtain ⟨p, hP⟩ : ∃ p, C % 128 = p := ⟨_, rfl⟩
     obtain ⟨S, hS⟩ : ∃ S, 7 * k = S := ⟨_, rfl⟩
     obtain ⟨q, r, hq, hr, hr1, hr2, hq2⟩ := shift_fact p k S (by omega) hk9 hS
     have eS : (k : Int) * 7 = (S : Int) := by omega
     rw [hC] at hcell hc256 hp
     rw [hP] at hp
     have hp128 : p < 128 := by omega
     by_cases hov : k = 9 ∧ 1 < p
     ·rw [getA_over (.inr (by rw [hC, hP]; exact hov))] at hg
      have hne := hr1 hov
      have hne1 : ((r : Int) != (p : Int)) = true := by simp; omega
      have hne2 : ((r : Int) == (p : Int)) = false := by simp; omega
      have HG := hid hg
      clear hg hC hr1 hr2 hP hS hov
      go_wp2
      go_ret3
      exact ⟨by rw [← HG.out, got_err]; rfl, rfl⟩
     ·obtain ⟨hrp, hqe⟩ := hr2 hov
      subst hrp
      have hor := or_word n r k q hn2 hn hqe hq2
      have hw := piece_word hn2 hp128 hk9 (by omega)
      have hw2 := piece_lt hn2 hp128
      obtain ⟨n', hn'⟩ : ∃ n', n + r * 2 ^ (7 * k) = n' := ⟨_, rfl⟩
      rw [hn'] at hor hw hw2
      by_cases hm : 128 ≤ C
      ·rw [getA_go hk9 (by rw [hC, hP]; omega) (by omega), hC, hP, hn'] at hg
       have HG := hid hg
       have HW2 := hid hw2
       clear hg hC hr1 hr2 hP hn' hqe hw2 hn2
       go_wp2
       go_round
       case rel => exact ⟨k + 1, n', by omega, by omega, rfl, by go_num, hw, HW2.out, HG.out⟩
       case measure => simp [intOf]; omega
      ·by_cases hz : C = 0 ∧ 0 < k
       ·rw [getA_nought hk9 (by omega) hz.2] at hg
        obtain ⟨hz1, hz2⟩ := hz
        have HG := hid hg
        subst hz1
        have a0 := andnot_0
        have o0 := or_0 n hn
        clear hg hC hr1 hr2 hn' hqe hw2 hn2 hp hP hq hr hor
        go_wp2
        go_ret3
        exact ⟨by rw [← HG.out, got_err]; rfl, rfl⟩
       ·rw [getA_last hk9 (by rw [hC, hP]; omega) (by rw [hC]; exact Nat.lt_of_not_le hm) (by rw [hC]; exact fun h => Nat.eq_zero_of_not_pos (fun h2 => hz ⟨h, h2⟩)), hC, hP, hn'] at hg
        have HG := hid hg
        by_cases hc0 : C = 0
        ·have hk0 : k = 0 := by omega
         subst hc0
         subst hk0
         rw [Nat.add_zero] at hcell
         have e0 : n' = n := by rw [← hn', ← hP]; simp
         subst e0
         have a0 := andnot_0
         have o0 := or_0 n' hn
         clear hg hC hr1 hr2 hn' hqe hw2 hn2 hp hP hq hr hor hS eS
         go_wp2
         go_ret3
         refine ⟨?_, rfl⟩
         rw [← HG.out]
         rfl
        ·clear hg hC hr1 hr2 hP hn' hqe hw2 hn2
         go_wp2
         go_ret3
         refine ⟨?_, rfl⟩
         rw [← HG.out]
         rfl
   ·have e0 : bs.drop k = [] := List.drop_of_length_le (by have := HL.out; omega)
    rw [e0] at hg
    have HG : Hid (getA bs 0 0 = (0, 0, 5)) := hg.symm
    clear hg
    go_wp2
    go_ret3
    exact ⟨by rw [HG.out, got_err]; rfl, rfl⟩
end Go.Proofs.YtllfanlhgnkcfaaGreatDoor.U
namespace Go.Proofs.YtllfanlhgnkcfaaGreatDoor.U
open Go.RowKit Go.Proofs.Lys
set_option linter.unusedVariables false
def zigN (x : Int) : Nat := if x < 0 then (-2 * x - 1).toNat else (2 * x).toNat
abbrev In64 (x : Int) : Prop := -9223372036854775808 ≤ x ∧ x ≤ 9223372036854775807
theorem zigN_lt {x : Int} (h : In64 x) : zigN x < 18446744073709551616 := by
 unfold zigN
 split <;> omega
theorem uN_back {x : Int} (h : In64 x) : wrap64 ((uN x : Nat) : Int) = x := by
 unfold wrap64 uN
 omega
theorem uN_wrap64 {u : Nat} (h : u < 18446744073709551616) : uN (wrap64 (u : Int)) = u := by
 unfold wrap64 uN
 omega
theorem cast_eq {a b : Nat} (h : a = b) : (a : Int) = (b : Int) := by rw [h]
theorem xor_ones (a : Nat) (h : a < 18446744073709551616) : bits .xor .u64 (a : Int) 18446744073709551615 = ((18446744073709551615 - a : Nat) : Int) := by
 have h2 := u64_xor_nat a 18446744073709551615 h (by decide)
 rw [show (18446744073709551615 : Int) = ((18446744073709551615 : Nat) : Int) from rfl, h2]
 congr 1
 have h3 := BitVec.toNat_not (x := BitVec.ofNat 64 a)
 have h4 : ~~~(BitVec.ofNat 64 a) = BitVec.ofNat 64 a ^^^ BitVec.allOnes 64 := by rw [BitVec.xor_allOnes]
 rw [h4, BitVec.toNat_xor, BitVec.toNat_allOnes, BitVec.toNat_ofNat, Nat.mod_eq_of_lt h] at h3
 have e : (2 : Nat) ^ 64 = 18446744073709551616 := by decide
 rw [e] at h3
 simpa using h3
theorem xor_none (a : Nat) (h : a < 18446744073709551616) : bits .xor .u64 (a : Int) 0 = (a : Int) := by
 have h2 := u64_xor_nat a 0 h (by decide)
 simpa using h2
set_option maxRecDepth 100000 in
theorem zig_any (w : World) (x : Int) (h : In64 x) : Calls Tryz.prog 75 #[.int .i64 x] w fun e w' => e = .returned (.int .i64 (wrap64 (zigN x : Int))) ∧ w' = w := by
 obtain ⟨h0, h1⟩ := h
 by_cases hx : x < 0
 ·have hU := uN_wrap x
  have e1 : IntKind.u64.wrap (((uN x : Nat) : Int) * 2) = ((2 * uN x - 18446744073709551616 : Nat) : Int) := by
   rw [uN_wrap]
   exact cast_eq (by unfold uN; omega)
  have e2 : x / 9223372036854775808 = -1 := by omega
  have e5 : IntKind.u64.wrap (-1) = 18446744073709551615 := by decide
  have e3 := xor_ones (2 * uN x - 18446744073709551616) (by unfold uN; omega)
  have e4 : 18446744073709551615 - (2 * uN x - 18446744073709551616) = zigN x := by unfold uN zigN; rw [if_pos hx]; omega
  rw [e4] at e3
  generalize zigN x = z at e3 ⊢
  generalize 2 * uN x - 18446744073709551616 = a at e1 e3
  generalize uN x = U at hU e1
  clear e4
  go_enter Tryz.func75, Tryz.ntmps75
  go_wp2
  go_ret
  exact ⟨rfl, rfl⟩
 ·have hU := uN_wrap x
  have e1 : IntKind.u64.wrap (((uN x : Nat) : Int) * 2) = ((zigN x : Nat) : Int) := by
   rw [uN_wrap]
   exact cast_eq (by unfold uN zigN; rw [if_neg hx]; omega)
  have e2 : x / 9223372036854775808 = 0 := by omega
  have e3 := xor_none (zigN x) (zigN_lt ⟨h0, h1⟩)
  generalize zigN x = z at e1 e3 ⊢
  generalize uN x = U at hU e1
  go_enter Tryz.func75, Tryz.ntmps75
  go_wp2
  go_ret
  exact ⟨rfl, rfl⟩
theorem not_word (a : Nat) (h : a < 18446744073709551616) : bits .xor .u64 IntKind.u64.max (a : Int) = ((18446744073709551615 - a : Nat) : Int) := by
 have e : IntKind.u64.max = ((18446744073709551615 : Nat) : Int) := by decide
 have h2 := u64_xor_nat 18446744073709551615 a (by decide) h
 have h3 := xor_ones a h
 rw [show (18446744073709551615 : Int) = ((18446744073709551615 : Nat) : Int) from rfl, u64_xor_nat a _ h (by decide), Nat.xor_comm] at h3
 rw [e, h2, h3]
set_option maxRecDepth 100000 in
theorem rzig_any (w : World) (x : Int) (h : In64 x) : Calls Tryz.prog 53 #[.int .i64 x] w fun e w' => e = .returned (.int .i64 (wrap64 (zigN x : Int))) ∧ w' = w := by
 obtain ⟨h0, h1⟩ := h
 by_cases hx : x < 0
 ·have hU := uN_wrap x
  have e1 : IntKind.u64.wrap (((uN x : Nat) : Int) * 2) = ((2 * uN x - 18446744073709551616 : Nat) : Int) := by
   rw [uN_wrap]
   exact cast_eq (by unfold uN; omega)
  have e3 := not_word (2 * uN x - 18446744073709551616) (by unfold uN; omega)
  have e4 : 18446744073709551615 - (2 * uN x - 18446744073709551616) = zigN x := by unfold uN zigN; rw [if_pos hx]; omega
  rw [e4] at e3
  generalize zigN x = z at e3 ⊢
  generalize 2 * uN x - 18446744073709551616 = a at e1 e3
  generalize uN x = U at hU e1
  clear e4
  go_enter Tryz.func53, Tryz.ntmps53
  go_wp2
  go_ret
  exact ⟨rfl, rfl⟩
 ·have hU := uN_wrap x
  have e1 : IntKind.u64.wrap (((uN x : Nat) : Int) * 2) = ((zigN x : Nat) : Int) := by
   rw [uN_wrap]
   exact cast_eq (by unfold uN zigN; rw [if_neg hx]; omega)
  generalize zigN x = z at e1 ⊢
  generalize uN x = U at hU e1
  go_enter Tryz.func53, Tryz.ntmps53
  go_wp2
  go_ret
  exact ⟨rfl, rfl⟩
end Go.Proofs.YtllfanlhgnkcfaaGreatDoor.U
