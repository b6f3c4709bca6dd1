/-
  Vput, Vget, Ccut.
-/
import Derived.Test.YtbhpmeeknbbmmaaQ01
import Derived.Test.YtbhpmeeknbbmmaaQ06
import Derived.WalkLawsBesides
import Derived.Laws.BitsAllLaws
import Derived.Laws.ShiftsVarLaws
import Derived.Deep.Slices

/-
  varint.Put and the document's own Put.
-/
namespace Go.Proofs.Ytbhpmeeknbbmmaa.U
open Go.RowKit Go.Proofs.Lys
set_option linter.unusedVariables false

def uN (x : Int) : Nat := (x % 18446744073709551616).toNat
theorem uN_wrap (x : Int) : IntKind.u64.wrap x = ((uN x : Nat) : Int) := by
  unfold uN
  rw [Int.toNat_of_nonneg (Int.emod_nonneg _ (by decide))]
  simp [IntKind.wrap, IntKind.bits, IntKind.signed]
theorem uN_lt (x : Int) : uN x < 18446744073709551616 := by
  unfold uN
  have := Int.emod_nonneg x (b := 18446744073709551616) (by decide)
  have := Int.emod_lt_of_pos x (b := 18446744073709551616) (by decide)
  omega

/-- One byte more of a row that is owned. -/
theorem own_byte {w : World} {base : Nat} {vr : Value} {lr : List UInt8} (hown : w.ownsRow base 5 1 vr lr.length (lr.map bV)) (hb : base ≤ w.heap.size) (hl : lr.length ≤ 100000000) (B : Nat) (hB : B < 256) :
    ∃ g cap w1, Hid ((Builtin.append_ #[23, 23] 0 #[vr, .slice (some ⟨w.heap.size, 0, none⟩) 1 1]).run Try.prog (w.alloc (.cells #[.int .u8 (B : Int)] 5)) = .ok (.slice (some ⟨g, 0, none⟩) (lr.length + 1) cap) w1) ∧ w1.ownsRow base 5 1 (.slice (some ⟨g, 0, none⟩) (lr.length + 1) cap) (lr ++ [UInt8.ofNat B]).length ((lr ++ [UInt8.ofNat B]).map bV) ∧ Only (fun k => vr.ownBlock = some k) w w1 := by
  obtain ⟨v', w1, hrun, hown1, hgrow, hat⟩ := append_src (P := Try.prog) (xv := .slice (some ⟨w.heap.size, 0, none⟩) 1 1) (ys := [.int .u8 (B : Int)]) Try.underlying23 Try.infoB rfl (by decide) (hown.alloc (.cells #[.int .u8 (B : Int)] 5)) (own_src (World.ownsRow_lit w #[.int .u8 (B : Int)] 1 (Nat.zero_le _) (by decide) rfl)) (by intro u hu; simp at hu; subst hu; rfl) (by simp; omega) (by simp; omega)
  obtain ⟨g, cap, rfl⟩ := own_some hown1 (by simp)
  refine ⟨g, cap, w1, hrun, ?_, ((Only.refl _ w).alloc _).grown hgrow (fun j hj _ => hj)⟩
  have e1 : (lr ++ [UInt8.ofNat B]).length = lr.length + [Value.int .u8 (B : Int)].length := by simp
  have e2 : (lr ++ [UInt8.ofNat B]).map bV = lr.map bV ++ [Value.int .u8 (B : Int)] := by
    rw [List.map_append]
    have : bV (UInt8.ofNat B) = .int .u8 (B : Int) := by
      unfold bV
      rw [UInt8.toNat_ofNat', Nat.mod_eq_of_lt hB]
    simp [this]
  rw [e1, e2]
  exact hown1

theorem or_more (u : Nat) : bits .or .u8 ((u : Int) % 256) 128 = ((u % 128 + 128 : Nat) : Int) := by
  have h := u8_or_nat (u % 256) 128 (by omega) (by decide)
  have e : ((u % 256 : Nat) : Int) = (u : Int) % 256 := by simp
  rw [e] at h
  rw [show (128 : Int) = ((128 : Nat) : Int) from rfl, h]
  congr 1
  have h2 : ∀ x, x < 256 → x ||| 128 = x % 128 + 128 := by decide +kernel
  rw [h2 _ (by omega)]
  omega
theorem and_127 (u : Nat) (h : u < 18446744073709551616) : bits .and .u64 (u : Int) 127 = ((u % 128 : Nat) : Int) := by
  have h2 := u64_and_nat u 127 h (by decide)
  rw [show (127 : Int) = ((127 : Nat) : Int) from rfl, h2]
  congr 1
  exact Nat.and_two_pow_sub_one_eq_mod u 7
theorem or_more7 (u : Nat) : bits .or .u8 ((u % 128 : Nat) : Int) 128 = ((u % 128 + 128 : Nat) : Int) := by
  have h := or_more (u % 128)
  rw [show (((u % 128 : Nat) : Int)) % 256 = ((u % 128 : Nat) : Int) by omega, show u % 128 % 128 = u % 128 by omega] at h
  exact h

set_option maxRecDepth 100000 in
set_option maxHeartbeats 1600000 in
theorem put_any (w : World) (x : Int) :
    Calls Try.prog 20 #[.int .i64 x] w fun e w' => ∃ v, e = .returned v ∧ w'.ownsRow w.heap.size 5 1 v (putN (uN x)).length ((putN (uN x)).map bV) ∧ Kept w w' := by
  have hU := uN_wrap x
  have hUl := uN_lt x
  generalize uN x = U at hU hUl ⊢
  have H10 := hid (putN_ten hUl)
  go_enter Try.func20, Try.ntmps20
  go_wp2
  go_loopw [3, 4] (fun t s wr => ∃ (u : Nat) (xs : List UInt8), u < 18446744073709551616 ∧ t = .int .u64 (u : Int) ∧ wr.ownsRow w.heap.size 5 1 s xs.length (xs.map bV) ∧ Kept w wr ∧ xs ++ putN u = putN U) (fun t _ _ => (intOf t).toNat)
  case atStart => exact ⟨U, [], hUl, rfl, World.ownsRow_nil _ _ _ _, Only.refl _ _, rfl⟩
  case round =>
    obtain ⟨u, xs, hu, rfl, hown, hkept, hL⟩ := hrel
    have hx10 : xs.length ≤ 10 := by
      have h1 := congrArg List.length hL
      rw [List.length_append] at h1
      have := H10.out
      omega
    have HL := hid hL
    clear hL
    by_cases h : u < 128
    · obtain ⟨g, cap, w1, Hr, hown1, hon1⟩ := own_byte hown hkept.size (by omega) u (by omega)
      have e1 : (u : Int) % 256 = (u : Int) := by omega
      have HE : Hid (w1.ownsRow w.heap.size 5 1 (.slice (some ⟨g, 0, none⟩) (xs.length + 1) cap) (putN U).length ((putN U).map bV)) := by
        rw [← HL.out, putN_small h]
        exact hown1
      have HK2 : Hid (Kept w w1) := hid (hkept.trans hon1 (fun q hq e => absurd hq (by have := (hown.lt q e).1; omega)))
      clear hown hown1 hkept hon1
      go_wp2_with (at_builtin; refine wpList_append_run rfl _ _ _ rfl rfl rfl Hr ?_)
      go_ret
      exact ⟨_, rfl, HE.out, HK2.out⟩
    · obtain ⟨g, cap, w1, Hr, hown1, hon1⟩ := own_byte hown hkept.size (by omega) (u % 128 + 128) (by omega)
      have e1 := or_more u
      obtain ⟨B, hB⟩ : ∃ B, u % 128 + 128 = B := ⟨_, rfl⟩
      obtain ⟨q, e2⟩ : ∃ q : Nat, (u : Int) / 128 = (q : Int) := ⟨u / 128, by omega⟩
      rw [hB] at e1 Hr hown1
      have HR := hid hown1
      have HK2 : Hid (Kept w w1) := hid (hkept.trans hon1 (fun q hq e => absurd hq (by have := (hown.lt q e).1; omega)))
      have HL2 : Hid ((xs ++ [UInt8.ofNat B]) ++ putN q = putN U) := by
        show _ = _
        rw [← HL.out, putN_big (n := u) (by omega), List.append_assoc, hB, show u / 128 = q by omega]
        rfl
      clear hown hown1 hkept hon1 hB
      go_wp2_with (at_builtin; refine wpList_append_run rfl _ _ _ rfl rfl rfl Hr ?_)
      go_roundw
      case rel => exact ⟨q, xs ++ [UInt8.ofNat B], by omega, by go_num, HR.out, HK2.out, HL2.out⟩
      case measure => simp [intOf]; omega

set_option maxRecDepth 100000 in
set_option maxHeartbeats 1600000 in
theorem rput_any (w : World) (x : Int) :
    Calls Try.prog 24 #[.int .i64 x] w fun e w' => ∃ v, e = .returned v ∧ w'.ownsRow w.heap.size 5 1 v (putN (uN x)).length ((putN (uN x)).map bV) ∧ Kept w w' := by
  have hU := uN_wrap x
  have hUl := uN_lt x
  generalize uN x = U at hU hUl ⊢
  have H10 := hid (putN_ten hUl)
  go_enter Try.func24, Try.ntmps24
  go_wp2
  go_loopw [3, 4] (fun t s wr => ∃ (u : Nat) (xs : List UInt8), u < 18446744073709551616 ∧ t = .int .u64 (u : Int) ∧ wr.ownsRow w.heap.size 5 1 s xs.length (xs.map bV) ∧ Kept w wr ∧ xs ++ putN u = putN U) (fun t _ _ => (intOf t).toNat)
  case atStart => exact ⟨U, [], hUl, rfl, World.ownsRow_nil _ _ _ _, Only.refl _ _, rfl⟩
  case round =>
    obtain ⟨u, xs, hu, rfl, hown, hkept, hL⟩ := hrel
    have hx10 : xs.length ≤ 10 := by
      have h1 := congrArg List.length hL
      rw [List.length_append] at h1
      have := H10.out
      omega
    have HL := hid hL
    clear hL
    by_cases h : u < 128
    · obtain ⟨g, cap, w1, Hr, hown1, hon1⟩ := own_byte hown hkept.size (by omega) u (by omega)
      have e1 : (u : Int) % 256 = (u : Int) := by omega
      have HE : Hid (w1.ownsRow w.heap.size 5 1 (.slice (some ⟨g, 0, none⟩) (xs.length + 1) cap) (putN U).length ((putN U).map bV)) := by
        rw [← HL.out, putN_small h]
        exact hown1
      have HK2 : Hid (Kept w w1) := hid (hkept.trans hon1 (fun q hq e => absurd hq (by have := (hown.lt q e).1; omega)))
      clear hown hown1 hkept hon1
      go_wp2_with (at_builtin; refine wpList_append_run rfl _ _ _ rfl rfl rfl Hr ?_)
      go_ret
      exact ⟨_, rfl, HE.out, HK2.out⟩
    · obtain ⟨g, cap, w1, Hr, hown1, hon1⟩ := own_byte hown hkept.size (by omega) (u % 128 + 128) (by omega)
      have e0 := and_127 u hu
      have e1 := or_more7 u
      obtain ⟨B, hB⟩ : ∃ B, u % 128 + 128 = B := ⟨_, rfl⟩
      obtain ⟨p, hp⟩ : ∃ p, u % 128 = p := ⟨_, rfl⟩
      obtain ⟨q, e2⟩ : ∃ q : Nat, (u : Int) / 128 = (q : Int) := ⟨u / 128, by omega⟩
      rw [hB] at e1 Hr hown1
      rw [hp] at e0 e1
      have ep : (p : Int) % 256 = (p : Int) := by omega
      have HR := hid hown1
      have HK2 : Hid (Kept w w1) := hid (hkept.trans hon1 (fun q hq e => absurd hq (by have := (hown.lt q e).1; omega)))
      have HL2 : Hid ((xs ++ [UInt8.ofNat B]) ++ putN q = putN U) := by
        show _ = _
        rw [← HL.out, putN_big (n := u) (by omega), List.append_assoc, hB, show u / 128 = q by omega]
        rfl
      clear hown hown1 hkept hon1 hB hp
      go_wp2_with (at_builtin; refine wpList_append_run rfl _ _ _ rfl rfl rfl Hr ?_)
      go_roundw
      case rel => exact ⟨q, xs ++ [UInt8.ofNat B], by omega, by go_num, HR.out, HK2.out, HL2.out⟩
      case measure => simp [intOf]; omega
end Go.Proofs.Ytbhpmeeknbbmmaa.U

/-
  varint.Get and the document's own Get.
-/
namespace Go.Proofs.Ytbhpmeeknbbmmaa.U
open Go.RowKit Go.Proofs.Lys
set_option linter.unusedVariables false

/-- What Get answers. -/
def got (x : Nat × Nat × Nat) : Value := .tuple #[.int .i64 (wrap64 (x.1 : Int)), .int .i64 (x.2.1 : Int), .int .i64 (x.2.2 : Int)]

theorem andnot_128 (c : Nat) (h : c < 256) : bits .andNot .u8 (c : Int) 128 = ((c % 128 : Nat) : Int) := by
  have : ∀ c, c < 256 → bits .andNot .u8 ((c : Nat) : Int) 128 = ((c % 128 : Nat) : Int) := by decide +kernel
  exact this c h
theorem and_127b (c : Nat) (h : c < 256) : bits .and .u8 (c : Int) 127 = ((c % 128 : Nat) : Int) := by
  have : ∀ c, c < 256 → bits .and .u8 ((c : Nat) : Int) 127 = ((c % 128 : Nat) : Int) := by decide +kernel
  exact this c h
/-- The piece of a byte comes back from where it is shifted, or doesn't. -/
theorem shift_fact (p k S : Nat) (hp : p < 128) (hk : k ≤ 9) (hS : 7 * k = S) : ∃ q r : Nat, IntKind.u64.wrap ((p : Int) * 2 ^ S) = (q : Int) ∧ (q : Int) / 2 ^ S = (r : Int) ∧ (k = 9 ∧ 1 < p → r ≠ p) ∧ (¬ (k = 9 ∧ 1 < p) → r = p ∧ q = p * 2 ^ (7 * k)) ∧ q < 18446744073709551616 := by
  subst hS
  have h2 : (0 : Nat) < 2 ^ (7 * k) := Nat.two_pow_pos _
  refine ⟨p * 2 ^ (7 * k) % 18446744073709551616, p * 2 ^ (7 * k) % 18446744073709551616 / 2 ^ (7 * k), by simp [IntKind.wrap, IntKind.bits, IntKind.signed], by simp, ?_, ?_, Nat.mod_lt _ (by decide)⟩
  · rintro ⟨rfl, h⟩
    rw [show (2 : Nat) ^ (7 * 9) = 9223372036854775808 by decide]
    omega
  · intro h
    have hlt : p * 2 ^ (7 * k) < 18446744073709551616 := by
      have := piece_word (n := 0) h2 hp hk (by omega)
      simpa using this
    rw [Nat.mod_eq_of_lt hlt]
    exact ⟨Nat.mul_div_cancel _ h2, rfl⟩
theorem or_word (n p k q : Nat) (h : n < 2 ^ (7 * k)) (hn : n < 18446744073709551616) (hq : q = p * 2 ^ (7 * k)) (hq2 : q < 18446744073709551616) : bits .or .u64 (n : Int) (q : Int) = ((n + p * 2 ^ (7 * k) : Nat) : Int) := by
  rw [u64_or_nat n q hn hq2, hq, or_piece n p k h]

theorem got_err : got (0, 0, 5) = .tuple #[.int .i64 0, .int .i64 0, .int .i64 5] := by simp [got, wrap64]
theorem andnot_0 : bits .andNot .u8 0 128 = 0 := by decide
theorem or_0 (n : Nat) (h : n < 18446744073709551616) : bits .or .u64 (n : Int) 0 = (n : Int) := by
  have := u64_or_nat n 0 h (by decide)
  simpa using this

set_option maxRecDepth 100000 in
set_option maxHeartbeats 1600000 in
theorem get_any (w : World) (v : Value) (bs : List UInt8) (hs : SrcOf w v (bs.map bV)) (hl : bs.length ≤ 1000000) :
    Calls Try.prog 25 #[v] w fun e w' => e = .returned (got (getA bs 0 0)) ∧ w' = w := by
  rcases hs.shape with ⟨hnil, a, c, rfl⟩ | ⟨hpos, b, o, c, rfl, hc⟩
  · have e0 : bs = [] := List.map_eq_nil_iff.1 hnil
    subst e0
    go_enter Try.func25, Try.ntmps25
    go_wp2
    refine wp_loop_rounds 1 ?_
    rw [rounds_succ]
    go_wp2
    go_ret3
    exact ⟨by rw [getA, got_err]; rfl, rfl⟩
  · rw [List.length_map] at hpos ⊢
    obtain ⟨L, hL⟩ : ∃ L, bs.length = L := ⟨_, rfl⟩
    rw [hL] at hpos hl ⊢
    have HC : Hid (∀ j (hj : j < bs.length), w.cell? ⟨b, o + j, none⟩ = some (.int .u8 ((bs[j].toNat : Nat) : Int))) := fun j hj => hc j _ (by rw [List.getElem?_map, List.getElem?_eq_getElem hj]; rfl)
    have HL := hid hL
    clear hL hc hs
    go_enter Try.func25, Try.ntmps25
    go_wp2
    go_loop [5, 12] (fun t s => ∃ (k n : Nat), k ≤ L ∧ k ≤ 10 ∧ t = .int .u64 (n : Int) ∧ s = .int .i64 (k : Int) ∧ n < 18446744073709551616 ∧ n < 2 ^ (7 * k) ∧ getA (bs.drop k) k n = getA bs 0 0) (fun t s => L - (intOf s).toNat)
    case atStart => exact ⟨0, 0, by omega, by omega, rfl, rfl, by omega, by simp, rfl⟩
    case round =>
      obtain ⟨k, n, hk, hk10, rfl, rfl, hn, hn2, hg⟩ := hrel
      by_cases hlt : k < L
      · have hkl : k < bs.length := by have := HL.out; omega
        have hcell := HC.out k hkl
        rw [List.drop_eq_getElem_cons hkl] at hg
        have hc256 := UInt8.toNat_lt bs[k]
        by_cases hov : k = 10
        · rw [getA_over (.inl (by omega))] at hg
          have HG := hid hg
          subst hov
          obtain ⟨C, hC⟩ : ∃ C : Nat, bs[10].toNat = C := ⟨_, rfl⟩
          rw [hC] at hcell hc256
          have hp := andnot_128 C hc256
          obtain ⟨p, hP⟩ : ∃ p, C % 128 = p := ⟨_, rfl⟩
          rw [hP] at hp
          clear hg hC
          go_wp2
          go_ret3
          exact ⟨by rw [← HG.out, got_err]; rfl, rfl⟩
        · have hk9 : k ≤ 9 := by omega
          obtain ⟨C, hC⟩ : ∃ C : Nat, bs[k].toNat = C := ⟨_, rfl⟩
          have hp := andnot_128 bs[k].toNat hc256
          obtain ⟨p, hP⟩ : ∃ p, C % 128 = p := ⟨_, rfl⟩
          obtain ⟨S, hS⟩ : ∃ S, 7 * k = S := ⟨_, rfl⟩
          obtain ⟨q, r, hq, hr, hr1, hr2, hq2⟩ := shift_fact p k S (by omega) hk9 hS
          have eS : (k : Int) * 7 = (S : Int) := by omega
          rw [hC] at hcell hc256 hp
          rw [hP] at hp
          have hp128 : p < 128 := by omega
          by_cases hov : k = 9 ∧ 1 < p
          · rw [getA_over (.inr (by rw [hC, hP]; exact hov))] at hg
            have hne := hr1 hov
            have hne1 : ((r : Int) != (p : Int)) = true := by simp; omega
            have hne2 : ((r : Int) == (p : Int)) = false := by simp; omega
            have HG := hid hg
            clear hg hC hr1 hr2 hP hS hov
            go_wp2
            go_ret3
            exact ⟨by rw [← HG.out, got_err]; rfl, rfl⟩
          · obtain ⟨hrp, hqe⟩ := hr2 hov
            subst hrp
            have hor := or_word n r k q hn2 hn hqe hq2
            have hw := piece_word hn2 hp128 hk9 (by omega)
            have hw2 := piece_lt hn2 hp128
            obtain ⟨n', hn'⟩ : ∃ n', n + r * 2 ^ (7 * k) = n' := ⟨_, rfl⟩
            rw [hn'] at hor hw hw2
            by_cases hm : 128 ≤ C
            · rw [getA_go hk9 (by rw [hC, hP]; omega) (by omega), hC, hP, hn'] at hg
              have HG := hid hg
              have HW2 := hid hw2
              clear hg hC hr1 hr2 hP hn' hqe hw2 hn2
              go_wp2
              go_round
              case rel => exact ⟨k + 1, n', by omega, by omega, rfl, by go_num, hw, HW2.out, HG.out⟩
              case measure => simp [intOf]; omega
            · by_cases hz : C = 0 ∧ 0 < k
              · rw [getA_nought hk9 (by omega) hz.2] at hg
                obtain ⟨hz1, hz2⟩ := hz
                have HG := hid hg
                subst hz1
                have a0 := andnot_0
                have o0 := or_0 n hn
                clear hg hC hr1 hr2 hn' hqe hw2 hn2 hp hP hq hr hor
                go_wp2
                go_ret3
                exact ⟨by rw [← HG.out, got_err]; rfl, rfl⟩
              · rw [getA_last hk9 (by rw [hC, hP]; omega) (by rw [hC]; exact Nat.lt_of_not_le hm) (by rw [hC]; exact fun h => Nat.eq_zero_of_not_pos (fun h2 => hz ⟨h, h2⟩)), hC, hP, hn'] at hg
                have HG := hid hg
                by_cases hc0 : C = 0
                · have hk0 : k = 0 := by omega
                  subst hc0
                  subst hk0
                  rw [Nat.add_zero] at hcell
                  have e0 : n' = n := by rw [← hn', ← hP]; simp
                  subst e0
                  have a0 := andnot_0
                  have o0 := or_0 n' hn
                  clear hg hC hr1 hr2 hn' hqe hw2 hn2 hp hP hq hr hor hS eS
                  go_wp2
                  go_ret3
                  refine ⟨?_, rfl⟩
                  rw [← HG.out]
                  rfl
                · clear hg hC hr1 hr2 hP hn' hqe hw2 hn2
                  go_wp2
                  go_ret3
                  refine ⟨?_, rfl⟩
                  rw [← HG.out]
                  rfl
      · have e0 : bs.drop k = [] := List.drop_of_length_le (by have := HL.out; omega)
        rw [e0] at hg
        have HG : Hid (getA bs 0 0 = (0, 0, 5)) := hg.symm
        clear hg
        go_wp2
        go_ret3
        exact ⟨by rw [HG.out, got_err]; rfl, rfl⟩

set_option maxRecDepth 100000 in
set_option maxHeartbeats 1600000 in
theorem rget_any (w : World) (v : Value) (bs : List UInt8) (hs : SrcOf w v (bs.map bV)) (hl : bs.length ≤ 1000000) :
    Calls Try.prog 30 #[v] w fun e w' => e = .returned (got (getA bs 0 0)) ∧ w' = w := by
  rcases hs.shape with ⟨hnil, a, c, rfl⟩ | ⟨hpos, b, o, c, rfl, hc⟩
  · have e0 : bs = [] := List.map_eq_nil_iff.1 hnil
    subst e0
    go_enter Try.func30, Try.ntmps30
    go_wp2
    refine wp_loop_rounds 1 ?_
    rw [rounds_succ]
    go_wp2
    go_ret3
    exact ⟨by rw [getA, got_err]; rfl, rfl⟩
  · rw [List.length_map] at hpos ⊢
    obtain ⟨L, hL⟩ : ∃ L, bs.length = L := ⟨_, rfl⟩
    rw [hL] at hpos hl ⊢
    have HC : Hid (∀ j (hj : j < bs.length), w.cell? ⟨b, o + j, none⟩ = some (.int .u8 ((bs[j].toNat : Nat) : Int))) := fun j hj => hc j _ (by rw [List.getElem?_map, List.getElem?_eq_getElem hj]; rfl)
    have HL := hid hL
    clear hL hc hs
    go_enter Try.func30, Try.ntmps30
    go_wp2
    go_loop [5, 6] (fun t s => ∃ (k n : Nat), k ≤ L ∧ k ≤ 10 ∧ t = .int .u64 (n : Int) ∧ s = .int .i64 (k : Int) ∧ n < 18446744073709551616 ∧ n < 2 ^ (7 * k) ∧ getA (bs.drop k) k n = getA bs 0 0) (fun t s => L - (intOf s).toNat)
    case atStart => exact ⟨0, 0, by omega, by omega, rfl, rfl, by omega, by simp, rfl⟩
    case round =>
      obtain ⟨k, n, hk, hk10, rfl, rfl, hn, hn2, hg⟩ := hrel
      by_cases hlt : k < L
      · have hkl : k < bs.length := by have := HL.out; omega
        have hcell := HC.out k hkl
        rw [List.drop_eq_getElem_cons hkl] at hg
        have hc256 := UInt8.toNat_lt bs[k]
        by_cases hov : k = 10
        · rw [getA_over (.inl (by omega))] at hg
          have HG := hid hg
          subst hov
          clear hg hcell
          go_wp2
          go_ret3
          exact ⟨by rw [← HG.out, got_err]; rfl, rfl⟩
        · have hk9 : k ≤ 9 := by omega
          obtain ⟨C, hC⟩ : ∃ C : Nat, bs[k].toNat = C := ⟨_, rfl⟩
          have hp := and_127b bs[k].toNat hc256
          obtain ⟨p, hP⟩ : ∃ p, C % 128 = p := ⟨_, rfl⟩
          obtain ⟨S, hS⟩ : ∃ S, 7 * k = S := ⟨_, rfl⟩
          obtain ⟨q, r, hq, hr, hr1, hr2, hq2⟩ := shift_fact p k S (by omega) hk9 hS
          have eS : 7 * (k : Int) = (S : Int) := by omega
          rw [hC] at hcell hc256 hp
          rw [hP] at hp
          have hp128 : p < 128 := by omega
          by_cases hov : k = 9 ∧ 1 < p
          · rw [getA_over (.inr (by rw [hC, hP]; exact hov))] at hg
            obtain ⟨ho1, ho2⟩ := hov
            subst ho1
            have HG := hid hg
            clear hg hC hr1 hr2 hP hS eS
            go_wp2
            go_ret3
            exact ⟨by rw [← HG.out, got_err]; rfl, rfl⟩
          · obtain ⟨hrp, hqe⟩ := hr2 hov
            subst hrp
            have hor := or_word n r k q hn2 hn hqe hq2
            have hw := piece_word hn2 hp128 hk9 (by omega)
            have hw2 := piece_lt hn2 hp128
            obtain ⟨n', hn'⟩ : ∃ n', n + r * 2 ^ (7 * k) = n' := ⟨_, rfl⟩
            rw [hn'] at hor hw hw2
            have hb9 : ∃ T, ((k : Int) == 9) = T ∧ (T = true → (1 < (r : Int)) = False) := ⟨_, rfl, fun h => by simp at h; simp; omega⟩
            obtain ⟨T, hT, hT2⟩ := hb9
            have d1 : T = true → decide (1 < (r : Int)) = false := fun h => by simp [hT2 h]
            have H1 := hid d1
            clear hT2 d1
            by_cases hm : 128 ≤ C
            · rw [getA_go hk9 (by rw [hC, hP]; omega) (by omega), hC, hP, hn'] at hg
              have HG := hid hg
              have HW2 := hid hw2
              clear hg hC hr1 hr2 hP hn' hqe hw2 hn2
              cases T
              · go_wp2
                go_round
                case rel => exact ⟨k + 1, n', by omega, by omega, rfl, by go_num, hw, HW2.out, HG.out⟩
                case measure => simp [intOf]; omega
              · have d1 := H1.out rfl
                go_wp2
                go_round
                case rel => exact ⟨k + 1, n', by omega, by omega, rfl, by go_num, hw, HW2.out, HG.out⟩
                case measure => simp [intOf]; omega
            · by_cases hz : C = 0 ∧ 0 < k
              · rw [getA_nought hk9 (by omega) hz.2] at hg
                obtain ⟨hz1, hz2⟩ := hz
                have HG := hid hg
                subst hz1
                have hp0 : r = 0 := by omega
                subst hp0
                have o0 := or_0 n hn
                have e127 : bits .and .u8 0 127 = 0 := by decide
                clear hg hC hr1 hr2 hn' hqe hw2 hn2 hp hP hq hr hor
                cases T <;>
                · go_wp2
                  go_ret3
                  exact ⟨by rw [← HG.out, got_err]; rfl, rfl⟩
              · rw [getA_last hk9 (by rw [hC, hP]; omega) (by rw [hC]; exact Nat.lt_of_not_le hm) (by rw [hC]; exact fun h => Nat.eq_zero_of_not_pos (fun h2 => hz ⟨h, h2⟩)), hC, hP, hn'] at hg
                have HG := hid hg
                by_cases hc0 : C = 0
                · have hk0 : k = 0 := by omega
                  subst hc0
                  subst hk0
                  rw [Nat.add_zero] at hcell
                  have e0 : n' = n := by rw [← hn', ← hP]; simp
                  subst e0
                  have e127 : bits .and .u8 0 127 = 0 := by decide
                  have o0 := or_0 n' hn
                  clear hg hC hr1 hr2 hn' hqe hw2 hn2 hp hP hq hr hor hS eS H1 hT
                  go_wp2
                  go_ret3
                  refine ⟨?_, rfl⟩
                  rw [← HG.out]
                  rfl
                · have hr0 : r ≠ 0 := by omega
                  clear hg hC hr1 hr2 hP hn' hqe hw2 hn2
                  cases T
                  · go_wp2
                    go_ret3
                    refine ⟨?_, rfl⟩
                    rw [← HG.out]
                    rfl
                  · have d1 := H1.out rfl
                    go_wp2
                    go_ret3
                    refine ⟨?_, rfl⟩
                    rw [← HG.out]
                    rfl
      · have e0 : bs.drop k = [] := List.drop_of_length_le (by have := HL.out; omega)
        rw [e0] at hg
        have HG : Hid (getA bs 0 0 = (0, 0, 5)) := hg.symm
        clear hg
        go_wp2
        go_ret3
        exact ⟨by rw [HG.out, got_err]; rfl, rfl⟩
end Go.Proofs.Ytbhpmeeknbbmmaa.U

/-
  The document's own: the bytes that a number tells of.
-/
namespace Go.Proofs.Ytbhpmeeknbbmmaa.C
open Go.RowKit Go.Proofs.Lys
set_option linter.unusedVariables false

/-- Bytes that are read, with room for them. -/
def BSrc (w : World) (v : Value) (bs : List UInt8) : Prop := SrcOf w v (bs.map bV) ∧ ∃ a c, v = .slice a bs.length c ∧ bs.length ≤ c
theorem BSrc.stay {w w' : World} {v : Value} {bs : List UInt8} (h : BSrc w v bs) (k : Kept w w') : BSrc w' v bs := ⟨h.1.stay k, h.2⟩
theorem own_bsrc {w : World} {base : Nat} {v : Value} {bs : List UInt8} (h : w.ownsRow base 5 1 v bs.length (bs.map bV)) : BSrc w v bs := by
  refine ⟨own_src h, ?_⟩
  rcases h.2 with ⟨rfl, h0⟩ | ⟨g, cap, cur, rfl, _, _, hcap, _⟩
  · exact ⟨none, 0, by rw [h0], by omega⟩
  · exact ⟨_, cap, rfl, by omega⟩
theorem BSrc.sub {w : World} {v : Value} {bs : List UInt8} (h : BSrc w v bs) {lo hi : Nat} (h1 : lo ≤ hi) (h2 : hi ≤ bs.length) :
    ∃ a' c', (∀ W, (Instr.sliceAt 23 v (some (.int .i64 (lo : Int))) (some (.int .i64 (hi : Int))) none).run Try.prog W = .ok (.slice a' (hi - lo) c') W) ∧ BSrc w (.slice a' (hi - lo) c') ((bs.take hi).drop lo) := by
  obtain ⟨hs, a, c, rfl, hc⟩ := h
  have hlen : ((bs.take hi).drop lo).length = hi - lo := by rw [List.length_drop, List.length_take]; omega
  have hz : ∀ W, (sizeOf 5).run Try.prog W = .ok 1 W := fun W => by kernel_rfl
  have e2 : hi ≤ c := by omega
  refine ⟨if c = lo then a else a.map (·.add (lo * 1)), c - lo, fun W => ?_, ?_, _, _, by rw [hlen], by rw [hlen]; omega⟩
  · simp [Instr.sliceAt, Instr.slice, Instr.sliceBounds, Instr.sliceBound, run_underlying Try.underlying23, asIntOf, h1, e2, hz, Result.andThen]
  · rcases hs with ⟨hv, hn⟩ | ⟨x, c2, hv, hcell⟩
    · simp only [Value.slice.injEq] at hv
      obtain ⟨rfl, _, rfl⟩ := hv
      have hb : bs = [] := List.map_eq_nil_iff.1 hn
      subst hb
      have h0 : hi = 0 := by simpa using h2
      have h3 : lo = 0 := by omega
      subst h0
      subst h3
      exact .inl ⟨rfl, rfl⟩
    · simp only [Value.slice.injEq] at hv
      obtain ⟨rfl, _, rfl⟩ := hv
      by_cases hcl : c = lo
      · rw [if_pos hcl]
        have h0 : (bs.take hi).drop lo = [] := List.length_eq_zero_iff.1 (by rw [hlen]; omega)
        refine .inr ⟨x, c - lo, by rw [List.length_map, hlen], fun j u hu => ?_⟩
        rw [h0] at hu
        simp at hu
      · rw [if_neg hcl]
        refine .inr ⟨x.add lo, c - lo, by rw [List.length_map, hlen, Nat.mul_one]; rfl, fun j u hu => ?_⟩
        rw [Deep.add_add]
        refine hcell (lo + j) u ?_
        rw [List.getElem?_map, List.getElem?_drop, List.getElem?_take] at hu
        rw [List.getElem?_map]
        split at hu
        · exact hu
        · cases hu
theorem BSrc.tail {w : World} {v : Value} {bs : List UInt8} (h : BSrc w v bs) {lo : Nat} (h1 : lo ≤ bs.length) :
    ∃ a' c', (∀ W, (Instr.sliceAt 23 v (some (.int .i64 (lo : Int))) none none).run Try.prog W = .ok (.slice a' (bs.length - lo) c') W) ∧ BSrc w (.slice a' (bs.length - lo) c') (bs.drop lo) := by
  obtain ⟨a', c', hr, hb⟩ := h.sub h1 (Nat.le_refl _)
  rw [List.take_of_length_le (Nat.le_refl _)] at hb
  refine ⟨a', c', fun W => ?_, hb⟩
  obtain ⟨hs, a, c, rfl, hc⟩ := h
  have h2 := hr W
  have hz : ∀ W, (sizeOf 5).run Try.prog W = .ok 1 W := fun W => by kernel_rfl
  simp [Instr.sliceAt, Instr.slice, Instr.sliceBounds, Instr.sliceBound, run_underlying Try.underlying23, asIntOf, h1, hc, hz, Result.andThen] at h2 ⊢
  exact h2

/-- What cut leaves: the bytes, where they end; or that they are not there. -/
def CutPost (w : World) (bs : List UInt8) (at_ : Nat) (e : Ending) (w' : World) : Prop :=
  w' = w ∧ ((cutR (bs.drop at_) = none ∧ e = .returned (.tuple #[.slice none 0 0, .int .i64 0, .bool false])) ∨
    ∃ a R va, cutR (bs.drop at_) = some (a, R) ∧ R.length ≤ bs.length ∧ bs.drop (bs.length - R.length) = R ∧ e = .returned (.tuple #[va, .int .i64 ((bs.length - R.length : Nat) : Int), .bool true]) ∧ BSrc w va a)
theorem getA_le (l : List UInt8) : ∀ i n, (getA l i n).2.1 ≤ i + l.length := by
  induction l with
  | nil => intro i n; simp [getA]
  | cons c t ih =>
    intro i n
    unfold getA
    have := ih (i + 1) (n + c.toNat % 128 * 2 ^ (7 * i))
    rw [List.length_cons]
    split
    · exact Nat.zero_le _
    · split
      · omega
      · split
        · exact Nat.zero_le _
        · show i + 1 ≤ _
          omega

set_option maxRecDepth 100000 in
set_option maxHeartbeats 1600000 in
theorem rcut_any (w : World) (v : Value) (bs : List UInt8) (at_ : Nat) (hs : BSrc w v bs) (hl : bs.length ≤ 100000) (ha : at_ ≤ bs.length) :
    Calls Try.prog 31 #[v, .int .i64 (at_ : Int)] w (CutPost w bs at_) := by
  obtain ⟨a1, c1, hr1, hb1⟩ := hs.tail ha
  have hg := U.rget_any w _ (bs.drop at_) hb1.1 (by rw [List.length_drop]; omega)
  have hle := getA_le (bs.drop at_) 0 0
  rw [List.length_drop, Nat.zero_add] at hle
  obtain ⟨⟨u, k, er⟩, hG⟩ : ∃ x, getA (bs.drop at_) 0 0 = x := ⟨_, rfl⟩
  rw [hG] at hg hle
  simp only at hle
  unfold U.got at hg
  simp only at hg
  obtain ⟨Z, hZ⟩ : ∃ Z, wrap64 (u : Int) = Z := ⟨_, rfl⟩
  rw [hZ] at hg
  have HCR : Hid (cutR (bs.drop at_) = if er ≠ 0 ∨ Z < 0 ∨ ((bs.length : Int) - (at_ : Int)) - (k : Int) < Z then none else some (((bs.drop at_).drop k).take Z.toNat, ((bs.drop at_).drop k).drop Z.toNat)) := by
    show _ = _
    unfold cutR
    rw [hG]
    simp only
    rw [hZ, List.length_drop, show ((bs.length - at_ : Nat) : Int) = (bs.length : Int) - (at_ : Int) by omega]
  have HB := hid hs
  obtain ⟨va, vc, hv⟩ : ∃ a c, v = .slice a bs.length c := by obtain ⟨_, a, c, h, _⟩ := hs; exact ⟨a, c, h⟩
  obtain ⟨L, hL⟩ : ∃ L, bs.length = L := ⟨_, rfl⟩
  have HL := hid hL
  rw [hL] at hr1 hb1 hg hle hl ha HCR hv
  subst hv
  clear hs hG hZ hL hb1
  by_cases he : er = 0
  · subst he
    by_cases hz0 : Z < 0
    · rw [if_pos (.inr (.inl hz0))] at HCR
      go_enter Try.func31, Try.ntmps31
      go_wp2_with fail
      refine hg.mono ?_
      rintro e w' ⟨rfl, hw⟩
      replace hw := hw.symm
      subst hw
      go_wp2_with fail
      go_ret3
      exact ⟨rfl, .inl ⟨HCR.out, rfl⟩⟩
    · by_cases hz1 : (L : Int) - (at_ : Int) - (k : Int) < Z
      · rw [if_pos (.inr (.inr hz1))] at HCR
        go_enter Try.func31, Try.ntmps31
        go_wp2_with fail
        refine hg.mono ?_
        rintro e w' ⟨rfl, hw⟩
        replace hw := hw.symm
        subst hw
        go_wp2_with fail
        go_ret3
        exact ⟨rfl, .inl ⟨HCR.out, rfl⟩⟩
      · rw [if_neg (fun h => h.elim (fun h => h rfl) (fun h => h.elim hz0 hz1))] at HCR
        obtain ⟨z, rfl⟩ : ∃ z : Nat, Z = (z : Int) := ⟨Z.toNat, by omega⟩
        rw [Int.toNat_natCast] at HCR
        have hk : at_ + k ≤ at_ + k + z := by omega
        have hk2 : at_ + k + z ≤ bs.length := by have := HL.out; omega
        obtain ⟨a2, c2, hr2, hb2⟩ := HB.out.sub hk hk2
        have e1 : (bs.take (at_ + k + z)).drop (at_ + k) = ((bs.drop at_).drop k).take z := by
          rw [List.drop_take, List.drop_drop, show at_ + k + z - (at_ + k) = z by omega]
        have e2 : ((bs.drop at_).drop k).drop z = bs.drop (at_ + k + z) := by
          rw [List.drop_drop, List.drop_drop]
          first | rfl | (congr 1; omega)
        rw [e2] at HCR
        rw [e1] at hb2
        have e3 : (bs.drop (at_ + k + z)).length = L - (at_ + k + z) := by rw [List.length_drop, HL.out]
        rw [show at_ + k + z - (at_ + k) = z by omega] at hr2 hb2
        have HB2 := hid hb2
        have i1 : ((at_ + k : Nat) : Int) = (at_ : Int) + (k : Int) := by omega
        have i2 : ((at_ + k + z : Nat) : Int) = (at_ : Int) + (k : Int) + (z : Int) := by omega
        rw [i1, i2] at hr2
        have HE3 := hid e3
        clear hb2 e1 e2 e3 i1 i2 hk hk2
        go_enter Try.func31, Try.ntmps31
        go_wp2_with fail
        refine hg.mono ?_
        rintro e w' ⟨rfl, hw⟩
        replace hw := hw.symm
        subst hw
        go_wp2_with fail
        go_ret3
        refine ⟨rfl, .inr ⟨_, _, _, HCR.out, by have := HE3.out; have := HL.out; omega, ?_, ?_, HB2.out⟩⟩
        · rw [HE3.out, HL.out]
          congr 1
          omega
        · rw [HE3.out, HL.out, show ((L - (L - (at_ + k + z)) : Nat) : Int) = (at_ : Int) + (k : Int) + (z : Int) by omega]
          rfl
  · rw [if_pos (.inl he)] at HCR
    have he' : ((er : Int) == 0) = false := by simp [he]
    have he2 : ((er : Int) != 0) = true := by simp [he]
    go_enter Try.func31, Try.ntmps31
    go_wp2_with fail
    refine hg.mono ?_
    rintro e w' ⟨rfl, hw⟩
    replace hw := hw.symm
    subst hw
    go_wp2_with fail
    go_ret3
    exact ⟨rfl, .inl ⟨HCR.out, rfl⟩⟩
end Go.Proofs.Ytbhpmeeknbbmmaa.C
