/-
  What package floats makes of a text of hexadecimal digits: the number of the float whose bits it tells.
-/
import Derived.Test.YtcpgamhekelamaaDoorFof
import Derived.Test.YtcpgamhekelamaaDoorShelf
import Derived.ScopeJumps
import Derived.WalkMore
namespace Go.Proofs.YtcpgamhekelamaaDoor
open Go.RowKit
set_option linter.unusedVariables false

def numF (x : Int) : Int := if nanF x then 0 else ofF x
def errF (x : Int) : Int := if nanF x then 3 else 0
theorem of_ans (x : Int) (w : World) (h0 : 0 ≤ x) (h1 : x ≤ 18446744073709551615) :
    Calls Tryd.prog 11 #[.float .f64 x.toNat] w fun e w' => e = .returned (.tuple #[.int .i64 (numF x), .int .i64 (errF x)]) ∧ w' = w := by
  have e : ((x.toNat : Nat) : Int) = x := by omega
  unfold numF errF
  cases hn : nanF x
  · have := of_num x.toNat w (by omega) (by rw [e]; exact hn)
    rw [e] at this
    exact this
  · exact of_nan x.toNat w (by rw [e]; exact hn)

def hexV (c : UInt8) : Int := Lib.indexByte [48, 49, 50, 51, 52, 53, 54, 55, 56, 57, 97, 98, 99, 100, 101, 102] c
def hexOk (l : List UInt8) : Bool := l.all fun c => decide (0 ≤ hexV c)
def hexN (l : List UInt8) : Int := l.foldl (fun a c => a * 16 + hexV c) 0
def bitsN (l : List UInt8) : Int := if l.length = 16 ∧ hexOk l = true then numF (hexN l) else 0
def bitsE (l : List UInt8) : Int := if l.length = 16 ∧ hexOk l = true then errF (hexN l) else 4

theorem index_lt (l : List UInt8) (c : UInt8) : Lib.indexByte l c < l.length := by
  induction l with
  | nil => simp [Lib.indexByte]
  | cons b l ih =>
    unfold Lib.indexByte
    rw [List.length_cons]
    split
    · omega
    · split <;> omega
theorem hex_lt (c : UInt8) : hexV c ≤ 15 := by have := index_lt [48, 49, 50, 51, 52, 53, 54, 55, 56, 57, 97, 98, 99, 100, 101, 102] c; unfold hexV; simp at this; omega
theorem take_more (s : ByteArray) (k : Nat) (h : k < s.size) : s.data.toList.take (k + 1) = s.data.toList.take k ++ [s[k]] := by
  have h' : k < s.data.toList.length := by rw [← Lib.size_eq]; exact h
  rw [List.take_add_one, List.getElem?_eq_getElem h']
  rfl
theorem take_all (s : ByteArray) (k : Nat) (h : s.size ≤ k) : s.data.toList.take k = s.data.toList := List.take_of_length_le (by rw [← Lib.size_eq]; exact h)
theorem hexN_more (l : List UInt8) (c : UInt8) : hexN (l ++ [c]) = hexN l * 16 + hexV c := by unfold hexN; rw [List.foldl_append]; rfl
theorem hexOk_more (l : List UInt8) (c : UInt8) : hexOk (l ++ [c]) = (hexOk l && decide (0 ≤ hexV c)) := by unfold hexOk; rw [List.all_append]; simp
theorem hexN_bd (l : List UInt8) (h : hexOk l = true) : 0 ≤ hexN l ∧ hexN l < 16 ^ l.length := by
  suffices ∀ (l : List UInt8) (a : Int), hexOk l = true → 0 ≤ a → 0 ≤ l.foldl (fun a c => a * 16 + hexV c) a ∧ l.foldl (fun a c => a * 16 + hexV c) a < (a + 1) * 16 ^ l.length by
    have := this l 0 h (by decide)
    unfold hexN
    simpa using this
  intro l
  induction l with
  | nil => intro a _ ha; simp; omega
  | cons c l ih =>
    intro a h ha
    unfold hexOk at h
    rw [List.all_cons, Bool.and_eq_true] at h
    have hc : 0 ≤ hexV c := of_decide_eq_true h.1
    have hl := hex_lt c
    obtain ⟨i1, i2⟩ := ih (a * 16 + hexV c) h.2 (by omega)
    refine ⟨i1, Int.lt_of_lt_of_le i2 ?_⟩
    rw [List.length_cons, Int.pow_succ, Int.mul_comm (16 ^ l.length) 16, ← Int.mul_assoc]
    exact Int.mul_le_mul_of_nonneg_right (by omega) (Int.le_of_lt (Int.pow_pos (by decide)))
theorem or_digit (x d : Int) (x0 : 0 ≤ x) (x1 : x ≤ 1152921504606846975) (d0 : 0 ≤ d) (d1 : d ≤ 15) : bits .or .u64 (x * 16) d = x * 16 + d := by
  obtain ⟨a, rfl⟩ : ∃ n : Nat, x = n := ⟨x.toNat, by omega⟩
  obtain ⟨b, rfl⟩ : ∃ n : Nat, d = n := ⟨d.toNat, by omega⟩
  have := bits_or_u64_nat (a * 16) b (by omega) (by omega)
  rw [show (((a * 16 : Nat)) : Int) = (a : Int) * 16 by omega] at this
  rw [this]
  have e := Nat.two_pow_add_eq_or_of_lt (i := 4) (b := b) (by omega) a
  rw [show a * 16 = 2 ^ 4 * a by omega, ← e]
  omega

theorem hex_bad (s : ByteArray) (k : Nat) (h : k < s.size) (hb : hexV s[k] < 0) : hexOk s.data.toList = false := by
  unfold hexOk
  rw [List.all_eq_false]
  have h' : k < s.data.toList.length := by rw [← Lib.size_eq]; exact h
  refine ⟨s.data.toList[k], List.getElem_mem h', ?_⟩
  have e : s.data.toList[k] = s[k] := rfl
  rw [e]
  simp
  omega

theorem bits_any (s : ByteArray) (w : World) :
    Calls Tryd.prog 17 #[.string s] w fun e w' => e = .returned (.tuple #[.int .i64 (bitsN s.data.toList), .int .i64 (bitsE s.data.toList)]) ∧ w' = w := by
  have hf := run_from
  by_cases h : s.size = 16
  · have hl : s.data.toList.length = 16 := by rw [← Lib.size_eq]; exact h
    go_enter Tryd.func17, Tryd.ntmps17
    go_wp2
    refine wp_scope_jumps 0 (fun a' w' => w' = w ∧ hexOk s.data.toList = false ∧ ∃ u0 u1 u2 u3 u4 u5 u6 u7 u8 u9 u10 u11 u12 u13 u14 u15 u16 u17 u18 u19 u20 u21 u22 u23 u24 u25 u26 u27 u28 u29 u30 u31, a' = { tmps := #[u0, u1, u2, u3, u4, u5, u6, u7, u8, u9, u10, u11, u12, u13, u14, u15, u16, u17, u18, u19, u20, u21, u22, u23, u24, u25, u26, u27, u28, u29, u30, u31], defers := [] }) (fun _ _ => 0) rfl ?_ ?_
    · go_wp2
      go_loop [4, 12] (fun wd i => ∃ (k : Nat), k ≤ 16 ∧ i = .int .i64 k ∧ wd = .int .u64 (hexN (s.data.toList.take k)) ∧ hexOk (s.data.toList.take k) = true) (fun _ i => (16 - intOf i).toNat)
      case atStart => exact ⟨0, by omega, rfl, rfl, rfl⟩
      case round =>
        obtain ⟨k, k1, rfl, rfl, hok⟩ := hrel
        have hbd := hexN_bd _ hok
        rw [List.length_take, hl, Nat.min_eq_left k1] at hbd
        have hall := take_all s k
        have hmore := take_more s k
        by_cases hk : k < 16
        · have hks : k < s.size := by omega
          replace hmore := hmore hks
          have hN := hexN_more (s.data.toList.take k) s[k]
          have hO := hexOk_more (s.data.toList.take k) s[k]
          rw [← hmore] at hN hO
          have hp : (16 : Int) ^ k ≤ 16 ^ 15 := by
            have : (16 : Nat) ^ k ≤ 16 ^ 15 := Nat.pow_le_pow_right (by decide) (by omega)
            have h2 : ((16 ^ k : Nat) : Int) ≤ ((16 ^ 15 : Nat) : Int) := by omega
            simpa using h2
          have hbad := hex_bad s k hks
          have HN : Hid (hexN (s.data.toList.take (k + 1)) = hexN (s.data.toList.take k) * 16 + hexV s[k]) := hN
          have HO : Hid (hexOk (s.data.toList.take (k + 1)) = (hexOk (s.data.toList.take k) && decide (0 ≤ hexV s[k]))) := hO
          have HB : Hid (hexV s[k] < 0 → hexOk s.data.toList = false) := hbad
          have dl := hex_lt s[k]
          obtain ⟨d, hd⟩ : ∃ d, hexV s[k] = d := ⟨_, rfl⟩
          rw [hd] at HN HO HB dl
          have HK : Hid (hexOk (s.data.toList.take k) = true) := hok
          clear hN hO hbad hmore hall hok
          have hd' : Lib.indexByte [48, 49, 50, 51, 52, 53, 54, 55, 56, 57, 97, 98, 99, 100, 101, 102] s[k] = d := hd
          clear hd
          obtain ⟨x0, x1⟩ := hbd
          generalize hexN (s.data.toList.take k) = x at *
          have x2 : x ≤ 1152921504606846975 := by omega
          clear x1 hp
          by_cases hneg : d < 0
          · go_wp2_with (go_at_call 28; refine (Tryd.strings_IndexByte _ _ _).mono ?_; rintro e w' ⟨rfl, rfl⟩)
            go_step3
            exact ⟨rfl, rfl, HB.out hneg, _, _, _, _, _, _, _, _, _, _, _, _, _, _, _, _, _, _, _, _, _, _, _, _, _, _, _, _, _, _, _, _, rfl⟩
          · have ho := or_digit x d x0 x2 (by omega) dl
            have d0 : 0 ≤ d := by omega
            go_wp2_with (go_at_call 28; refine (Tryd.strings_IndexByte _ _ _).mono ?_; rintro e w' ⟨rfl, rfl⟩)
            go_round
            case rel => exact ⟨k + 1, by omega, by go_num, by rw [HN.out], by rw [HO.out, HK.out]; simp [d0]⟩
            case measure => simp [intOf]; omega
        · have hk' : k = 16 := by omega
          subst hk'
          have ea := hall (by omega)
          rw [ea] at hok hbd
          rw [ea]
          have eN : Hid (bitsN s.data.toList = numF (hexN s.data.toList)) := if_pos ⟨hl, hok⟩
          have eE : Hid (bitsE s.data.toList = errF (hexN s.data.toList)) := if_pos ⟨hl, hok⟩
          obtain ⟨x0, x1⟩ := hbd
          clear ea hall hmore hok
          generalize hexN s.data.toList = x at *
          have x2 : x ≤ 18446744073709551615 := by omega
          clear x1
          go_wp2_with (go_at_call 11; refine (of_ans _ _ (by omega) (by omega)).mono ?_; rintro e w' ⟨rfl, rfl⟩)
          simp only [Exit.jump]
          exact bodyPost_ret (v := .tuple #[.int .i64 (numF x), .int .i64 (errF x)]) (by simp [results, Tryd.results17, go_sem]) rfl ⟨by rw [eN.out, eE.out], rfl⟩
    · rintro a' w' ⟨rfl, hbad, u0, u1, u2, u3, u4, u5, u6, u7, u8, u9, u10, u11, u12, u13, u14, u15, u16, u17, u18, u19, u20, u21, u22, u23, u24, u25, u26, u27, u28, u29, u30, u31, rfl⟩
      have eN : Hid (bitsN s.data.toList = 0) := if_neg (by rw [hbad]; simp)
      have eE : Hid (bitsE s.data.toList = 4) := if_neg (by rw [hbad]; simp)
      go_wp2
      simp only [Exit.jump]
      exact bodyPost_ret (v := .tuple #[.int .i64 0, .int .i64 4]) (by simp [results, Tryd.results17, go_sem]) rfl ⟨by rw [eN.out, eE.out], rfl⟩
  · have hl : s.data.toList.length ≠ 16 := by rw [← Lib.size_eq]; exact h
    have eN : bitsN s.data.toList = 0 := if_neg (fun h => hl h.1)
    have eE : bitsE s.data.toList = 4 := if_neg (fun h => hl h.1)
    rw [eN, eE]
    have h' : ((s.size : Int) == 16) = false := by simp; omega
    go_enter Tryd.func17, Tryd.ntmps17
    go_wp2
    refine wp_scope_jumps 0 (fun a' w' => w' = w ∧ ∃ u0 u1 u2 u3 u4 u5 u6 u7 u8 u9 u10 u11 u12 u13 u14 u15 u16 u17 u18 u19 u20 u21 u22 u23 u24 u25 u26 u27 u28 u29 u30 u31, a' = { tmps := #[u0, u1, u2, u3, u4, u5, u6, u7, u8, u9, u10, u11, u12, u13, u14, u15, u16, u17, u18, u19, u20, u21, u22, u23, u24, u25, u26, u27, u28, u29, u30, u31], defers := [] }) (fun _ _ => 0) rfl ?_ ?_
    · go_wp2
      go_step3
      exact ⟨rfl, rfl, _, _, _, _, _, _, _, _, _, _, _, _, _, _, _, _, _, _, _, _, _, _, _, _, _, _, _, _, _, _, _, _, rfl⟩
    · rintro a' w' ⟨rfl, u0, u1, u2, u3, u4, u5, u6, u7, u8, u9, u10, u11, u12, u13, u14, u15, u16, u17, u18, u19, u20, u21, u22, u23, u24, u25, u26, u27, u28, u29, u30, u31, rfl⟩
      go_wp2
      simp only [Exit.jump]
      exact bodyPost_ret (v := .tuple #[.int .i64 0, .int .i64 4]) (by simp [results, Tryd.results17, go_sem]) rfl ⟨rfl, rfl⟩
end Go.Proofs.YtcpgamhekelamaaDoor
