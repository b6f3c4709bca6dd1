/-
  varint.Get and the document's own Get.
-/
import Derived.Test.YtjifcgphlidimaaDoorVput
namespace Go.Proofs.YtjifcgphlidimaaDoor.U
open Go.RowKit Go.Proofs.Lys
set_option linter.unusedVariables false

/-- What Get answers. -/
def got (x : Nat × Nat × Nat) : Value := .tuple #[.int .i64 (wrap64 (x.1 : Int)), .int .i64 (x.2.1 : Int), .int .i64 (x.2.2 : Int)]

theorem andnot_128 (c : Nat) (h : c < 256) : bits .andNot .u8 (c : Int) 128 = ((c % 128 : Nat) : Int) := by
  have : ∀ c, c < 256 → bits .andNot .u8 ((c : Nat) : Int) 128 = ((c % 128 : Nat) : Int) := by decide +kernel
  exact this c h
theorem and_127b (c : Nat) (h : c < 256) : bits .and .u8 (c : Int) 127 = ((c % 128 : Nat) : Int) := by
  have : ∀ c, c < 256 → bits .and .u8 ((c : Nat) : Int) 127 = ((c % 128 : Nat) : Int) := by decide +kernel
  exact this c h
/-- The piece of a byte comes back from where it is shifted, or doesn't. -/
theorem shift_fact (p k S : Nat) (hp : p < 128) (hk : k ≤ 9) (hS : 7 * k = S) : ∃ q r : Nat, IntKind.u64.wrap ((p : Int) * 2 ^ S) = (q : Int) ∧ (q : Int) / 2 ^ S = (r : Int) ∧ (k = 9 ∧ 1 < p → r ≠ p) ∧ (¬ (k = 9 ∧ 1 < p) → r = p ∧ q = p * 2 ^ (7 * k)) ∧ q < 18446744073709551616 := by
  subst hS
  have h2 : (0 : Nat) < 2 ^ (7 * k) := Nat.two_pow_pos _
  refine ⟨p * 2 ^ (7 * k) % 18446744073709551616, p * 2 ^ (7 * k) % 18446744073709551616 / 2 ^ (7 * k), by simp [IntKind.wrap, IntKind.bits, IntKind.signed], by simp, ?_, ?_, Nat.mod_lt _ (by decide)⟩
  · rintro ⟨rfl, h⟩
    rw [show (2 : Nat) ^ (7 * 9) = 9223372036854775808 by decide]
    omega
  · intro h
    have hlt : p * 2 ^ (7 * k) < 18446744073709551616 := by
      have := piece_word (n := 0) h2 hp hk (by omega)
      simpa using this
    rw [Nat.mod_eq_of_lt hlt]
    exact ⟨Nat.mul_div_cancel _ h2, rfl⟩
theorem or_word (n p k q : Nat) (h : n < 2 ^ (7 * k)) (hn : n < 18446744073709551616) (hq : q = p * 2 ^ (7 * k)) (hq2 : q < 18446744073709551616) : bits .or .u64 (n : Int) (q : Int) = ((n + p * 2 ^ (7 * k) : Nat) : Int) := by
  rw [u64_or_nat n q hn hq2, hq, or_piece n p k h]

theorem got_err : got (0, 0, 5) = .tuple #[.int .i64 0, .int .i64 0, .int .i64 5] := by simp [got, wrap64]
theorem andnot_0 : bits .andNot .u8 0 128 = 0 := by decide
theorem or_0 (n : Nat) (h : n < 18446744073709551616) : bits .or .u64 (n : Int) 0 = (n : Int) := by
  have := u64_or_nat n 0 h (by decide)
  simpa using this

set_option maxRecDepth 100000 in
set_option maxHeartbeats 1600000 in
theorem get_any (w : World) (v : Value) (bs : List UInt8) (hs : SrcOf w v (bs.map bV)) (hl : bs.length ≤ 1000000) :
    Calls Tryd.prog 50 #[v] w fun e w' => e = .returned (got (getA bs 0 0)) ∧ w' = w := by
  rcases hs.shape with ⟨hnil, a, c, rfl⟩ | ⟨hpos, b, o, c, rfl, hc⟩
  · have e0 : bs = [] := List.map_eq_nil_iff.1 hnil
    subst e0
    go_enter Tryd.func50, Tryd.ntmps50
    go_wp2
    refine wp_loop_rounds 1 ?_
    rw [rounds_succ]
    go_wp2
    go_ret3
    exact ⟨by rw [getA, got_err]; rfl, rfl⟩
  · rw [List.length_map] at hpos ⊢
    obtain ⟨L, hL⟩ : ∃ L, bs.length = L := ⟨_, rfl⟩
    rw [hL] at hpos hl ⊢
    have HC : Hid (∀ j (hj : j < bs.length), w.cell? ⟨b, o + j, none⟩ = some (.int .u8 ((bs[j].toNat : Nat) : Int))) := fun j hj => hc j _ (by rw [List.getElem?_map, List.getElem?_eq_getElem hj]; rfl)
    have HL := hid hL
    clear hL hc hs
    go_enter Tryd.func50, Tryd.ntmps50
    go_wp2
    go_loop [5, 12] (fun t s => ∃ (k n : Nat), k ≤ L ∧ k ≤ 10 ∧ t = .int .u64 (n : Int) ∧ s = .int .i64 (k : Int) ∧ n < 18446744073709551616 ∧ n < 2 ^ (7 * k) ∧ getA (bs.drop k) k n = getA bs 0 0) (fun t s => L - (intOf s).toNat)
    case atStart => exact ⟨0, 0, by omega, by omega, rfl, rfl, by omega, by simp, rfl⟩
    case round =>
      obtain ⟨k, n, hk, hk10, rfl, rfl, hn, hn2, hg⟩ := hrel
      by_cases hlt : k < L
      · have hkl : k < bs.length := by have := HL.out; omega
        have hcell := HC.out k hkl
        rw [List.drop_eq_getElem_cons hkl] at hg
        have hc256 := UInt8.toNat_lt bs[k]
        by_cases hov : k = 10
        · rw [getA_over (.inl (by omega))] at hg
          have HG := hid hg
          subst hov
          obtain ⟨C, hC⟩ : ∃ C : Nat, bs[10].toNat = C := ⟨_, rfl⟩
          rw [hC] at hcell hc256
          have hp := andnot_128 C hc256
          obtain ⟨p, hP⟩ : ∃ p, C % 128 = p := ⟨_, rfl⟩
          rw [hP] at hp
          clear hg hC
          go_wp2
          go_ret3
          exact ⟨by rw [← HG.out, got_err]; rfl, rfl⟩
        · have hk9 : k ≤ 9 := by omega
          obtain ⟨C, hC⟩ : ∃ C : Nat, bs[k].toNat = C := ⟨_, rfl⟩
          have hp := andnot_128 bs[k].toNat hc256
          obtain ⟨p, hP⟩ : ∃ p, C % 128 = p := ⟨_, rfl⟩
          obtain ⟨S, hS⟩ : ∃ S, 7 * k = S := ⟨_, rfl⟩
          obtain ⟨q, r, hq, hr, hr1, hr2, hq2⟩ := shift_fact p k S (by omega) hk9 hS
          have eS : (k : Int) * 7 = (S : Int) := by omega
          rw [hC] at hcell hc256 hp
          rw [hP] at hp
          have hp128 : p < 128 := by omega
          by_cases hov : k = 9 ∧ 1 < p
          · rw [getA_over (.inr (by rw [hC, hP]; exact hov))] at hg
            have hne := hr1 hov
            have hne1 : ((r : Int) != (p : Int)) = true := by simp; omega
            have hne2 : ((r : Int) == (p : Int)) = false := by simp; omega
            have HG := hid hg
            clear hg hC hr1 hr2 hP hS hov
            go_wp2
            go_ret3
            exact ⟨by rw [← HG.out, got_err]; rfl, rfl⟩
          · obtain ⟨hrp, hqe⟩ := hr2 hov
            subst hrp
            have hor := or_word n r k q hn2 hn hqe hq2
            have hw := piece_word hn2 hp128 hk9 (by omega)
            have hw2 := piece_lt hn2 hp128
            obtain ⟨n', hn'⟩ : ∃ n', n + r * 2 ^ (7 * k) = n' := ⟨_, rfl⟩
            rw [hn'] at hor hw hw2
            by_cases hm : 128 ≤ C
            · rw [getA_go hk9 (by rw [hC, hP]; omega) (by omega), hC, hP, hn'] at hg
              have HG := hid hg
              have HW2 := hid hw2
              clear hg hC hr1 hr2 hP hn' hqe hw2 hn2
              go_wp2
              go_round
              case rel => exact ⟨k + 1, n', by omega, by omega, rfl, by go_num, hw, HW2.out, HG.out⟩
              case measure => simp [intOf]; omega
            · by_cases hz : C = 0 ∧ 0 < k
              · rw [getA_nought hk9 (by omega) hz.2] at hg
                obtain ⟨hz1, hz2⟩ := hz
                have HG := hid hg
                subst hz1
                have a0 := andnot_0
                have o0 := or_0 n hn
                clear hg hC hr1 hr2 hn' hqe hw2 hn2 hp hP hq hr hor
                go_wp2
                go_ret3
                exact ⟨by rw [← HG.out, got_err]; rfl, rfl⟩
              · rw [getA_last hk9 (by rw [hC, hP]; omega) (by rw [hC]; exact Nat.lt_of_not_le hm) (by rw [hC]; exact fun h => Nat.eq_zero_of_not_pos (fun h2 => hz ⟨h, h2⟩)), hC, hP, hn'] at hg
                have HG := hid hg
                by_cases hc0 : C = 0
                · have hk0 : k = 0 := by omega
                  subst hc0
                  subst hk0
                  rw [Nat.add_zero] at hcell
                  have e0 : n' = n := by rw [← hn', ← hP]; simp
                  subst e0
                  have a0 := andnot_0
                  have o0 := or_0 n' hn
                  clear hg hC hr1 hr2 hn' hqe hw2 hn2 hp hP hq hr hor hS eS
                  go_wp2
                  go_ret3
                  refine ⟨?_, rfl⟩
                  rw [← HG.out]
                  rfl
                · clear hg hC hr1 hr2 hP hn' hqe hw2 hn2
                  go_wp2
                  go_ret3
                  refine ⟨?_, rfl⟩
                  rw [← HG.out]
                  rfl
      · have e0 : bs.drop k = [] := List.drop_of_length_le (by have := HL.out; omega)
        rw [e0] at hg
        have HG : Hid (getA bs 0 0 = (0, 0, 5)) := hg.symm
        clear hg
        go_wp2
        go_ret3
        exact ⟨by rw [HG.out, got_err]; rfl, rfl⟩

set_option maxRecDepth 100000 in
set_option maxHeartbeats 1600000 in
theorem rget_any (w : World) (v : Value) (bs : List UInt8) (hs : SrcOf w v (bs.map bV)) (hl : bs.length ≤ 1000000) :
    Calls Tryd.prog 45 #[v] w fun e w' => e = .returned (got (getA bs 0 0)) ∧ w' = w := by
  rcases hs.shape with ⟨hnil, a, c, rfl⟩ | ⟨hpos, b, o, c, rfl, hc⟩
  · have e0 : bs = [] := List.map_eq_nil_iff.1 hnil
    subst e0
    go_enter Tryd.func45, Tryd.ntmps45
    go_wp2
    refine wp_loop_rounds 1 ?_
    rw [rounds_succ]
    go_wp2
    go_ret3
    exact ⟨by rw [getA, got_err]; rfl, rfl⟩
  · rw [List.length_map] at hpos ⊢
    obtain ⟨L, hL⟩ : ∃ L, bs.length = L := ⟨_, rfl⟩
    rw [hL] at hpos hl ⊢
    have HC : Hid (∀ j (hj : j < bs.length), w.cell? ⟨b, o + j, none⟩ = some (.int .u8 ((bs[j].toNat : Nat) : Int))) := fun j hj => hc j _ (by rw [List.getElem?_map, List.getElem?_eq_getElem hj]; rfl)
    have HL := hid hL
    clear hL hc hs
    go_enter Tryd.func45, Tryd.ntmps45
    go_wp2
    go_loop [5, 6] (fun t s => ∃ (k n : Nat), k ≤ L ∧ k ≤ 10 ∧ t = .int .u64 (n : Int) ∧ s = .int .i64 (k : Int) ∧ n < 18446744073709551616 ∧ n < 2 ^ (7 * k) ∧ getA (bs.drop k) k n = getA bs 0 0) (fun t s => L - (intOf s).toNat)
    case atStart => exact ⟨0, 0, by omega, by omega, rfl, rfl, by omega, by simp, rfl⟩
    case round =>
      obtain ⟨k, n, hk, hk10, rfl, rfl, hn, hn2, hg⟩ := hrel
      by_cases hlt : k < L
      · have hkl : k < bs.length := by have := HL.out; omega
        have hcell := HC.out k hkl
        rw [List.drop_eq_getElem_cons hkl] at hg
        have hc256 := UInt8.toNat_lt bs[k]
        by_cases hov : k = 10
        · rw [getA_over (.inl (by omega))] at hg
          have HG := hid hg
          subst hov
          clear hg hcell
          go_wp2
          go_ret3
          exact ⟨by rw [← HG.out, got_err]; rfl, rfl⟩
        · have hk9 : k ≤ 9 := by omega
          obtain ⟨C, hC⟩ : ∃ C : Nat, bs[k].toNat = C := ⟨_, rfl⟩
          have hp := and_127b bs[k].toNat hc256
          obtain ⟨p, hP⟩ : ∃ p, C % 128 = p := ⟨_, rfl⟩
          obtain ⟨S, hS⟩ : ∃ S, 7 * k = S := ⟨_, rfl⟩
          obtain ⟨q, r, hq, hr, hr1, hr2, hq2⟩ := shift_fact p k S (by omega) hk9 hS
          have eS : 7 * (k : Int) = (S : Int) := by omega
          rw [hC] at hcell hc256 hp
          rw [hP] at hp
          have hp128 : p < 128 := by omega
          by_cases hov : k = 9 ∧ 1 < p
          · rw [getA_over (.inr (by rw [hC, hP]; exact hov))] at hg
            obtain ⟨ho1, ho2⟩ := hov
            subst ho1
            have HG := hid hg
            clear hg hC hr1 hr2 hP hS eS
            go_wp2
            go_ret3
            exact ⟨by rw [← HG.out, got_err]; rfl, rfl⟩
          · obtain ⟨hrp, hqe⟩ := hr2 hov
            subst hrp
            have hor := or_word n r k q hn2 hn hqe hq2
            have hw := piece_word hn2 hp128 hk9 (by omega)
            have hw2 := piece_lt hn2 hp128
            obtain ⟨n', hn'⟩ : ∃ n', n + r * 2 ^ (7 * k) = n' := ⟨_, rfl⟩
            rw [hn'] at hor hw hw2
            have hb9 : ∃ T, ((k : Int) == 9) = T ∧ (T = true → (1 < (r : Int)) = False) := ⟨_, rfl, fun h => by simp at h; simp; omega⟩
            obtain ⟨T, hT, hT2⟩ := hb9
            have d1 : T = true → decide (1 < (r : Int)) = false := fun h => by simp [hT2 h]
            have H1 := hid d1
            clear hT2 d1
            by_cases hm : 128 ≤ C
            · rw [getA_go hk9 (by rw [hC, hP]; omega) (by omega), hC, hP, hn'] at hg
              have HG := hid hg
              have HW2 := hid hw2
              clear hg hC hr1 hr2 hP hn' hqe hw2 hn2
              cases T
              · go_wp2
                go_round
                case rel => exact ⟨k + 1, n', by omega, by omega, rfl, by go_num, hw, HW2.out, HG.out⟩
                case measure => simp [intOf]; omega
              · have d1 := H1.out rfl
                go_wp2
                go_round
                case rel => exact ⟨k + 1, n', by omega, by omega, rfl, by go_num, hw, HW2.out, HG.out⟩
                case measure => simp [intOf]; omega
            · by_cases hz : C = 0 ∧ 0 < k
              · rw [getA_nought hk9 (by omega) hz.2] at hg
                obtain ⟨hz1, hz2⟩ := hz
                have HG := hid hg
                subst hz1
                have hp0 : r = 0 := by omega
                subst hp0
                have o0 := or_0 n hn
                have e127 : bits .and .u8 0 127 = 0 := by decide
                clear hg hC hr1 hr2 hn' hqe hw2 hn2 hp hP hq hr hor
                cases T <;>
                · go_wp2
                  go_ret3
                  exact ⟨by rw [← HG.out, got_err]; rfl, rfl⟩
              · rw [getA_last hk9 (by rw [hC, hP]; omega) (by rw [hC]; exact Nat.lt_of_not_le hm) (by rw [hC]; exact fun h => Nat.eq_zero_of_not_pos (fun h2 => hz ⟨h, h2⟩)), hC, hP, hn'] at hg
                have HG := hid hg
                by_cases hc0 : C = 0
                · have hk0 : k = 0 := by omega
                  subst hc0
                  subst hk0
                  rw [Nat.add_zero] at hcell
                  have e0 : n' = n := by rw [← hn', ← hP]; simp
                  subst e0
                  have e127 : bits .and .u8 0 127 = 0 := by decide
                  have o0 := or_0 n' hn
                  clear hg hC hr1 hr2 hn' hqe hw2 hn2 hp hP hq hr hor hS eS H1 hT
                  go_wp2
                  go_ret3
                  refine ⟨?_, rfl⟩
                  rw [← HG.out]
                  rfl
                · have hr0 : r ≠ 0 := by omega
                  clear hg hC hr1 hr2 hP hn' hqe hw2 hn2
                  cases T
                  · go_wp2
                    go_ret3
                    refine ⟨?_, rfl⟩
                    rw [← HG.out]
                    rfl
                  · have d1 := H1.out rfl
                    go_wp2
                    go_ret3
                    refine ⟨?_, rfl⟩
                    rw [← HG.out]
                    rfl
      · have e0 : bs.drop k = [] := List.drop_of_length_le (by have := HL.out; omega)
        rw [e0] at hg
        have HG : Hid (getA bs 0 0 = (0, 0, 5)) := hg.symm
        clear hg
        go_wp2
        go_ret3
        exact ⟨by rw [HG.out, got_err]; rfl, rfl⟩
end Go.Proofs.YtjifcgphlidimaaDoor.U
