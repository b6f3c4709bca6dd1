/-
  What the document's own answer returns for a text of hexadecimal digits; and the digits of a word.
-/
import Derived.Test.YtcpgamhekelamaaDoorRofl
namespace Go.Proofs.YtcpgamhekelamaaDoor
open Go.RowKit
set_option linter.unusedVariables false

def hexC (n : Nat) : Int := if 48 ≤ n ∧ n ≤ 57 then (n : Int) - 48 else if 97 ≤ n ∧ n ≤ 102 then (n : Int) - 87 else -1
theorem hexC_all : ∀ n : Fin 256, hexV (UInt8.ofNat n.val) = hexC n.val := by decide +kernel
theorem hexV_eq (c : UInt8) : hexV c = hexC c.toNat := by
  have h := hexC_all ⟨c.toNat, c.toNat_lt⟩
  simpa using h
theorem rhex_any (c : UInt8) (w : World) :
    Calls Tryd.prog 29 #[.int .u8 (c.toNat : Int)] w fun e w' => e = .returned (.int .i64 (hexV c)) ∧ w' = w := by
  rw [hexV_eq]
  have hl : c.toNat < 256 := c.toNat_lt
  generalize c.toNat = n at *
  unfold hexC
  by_cases a : 48 ≤ n <;> by_cases b : n ≤ 57 <;> by_cases d : 97 ≤ n <;> by_cases e : n ≤ 102
  all_goals first | (exfalso; omega) | skip
  all_goals
    go_enter Tryd.func29, Tryd.ntmps29
    go_wp2
    go_ret
    exact ⟨ret_int (by first | omega | (split <;> omega) | (split <;> split <;> omega)), rfl⟩

def hexB (d : Int) : UInt8 := ([48, 49, 50, 51, 52, 53, 54, 55, 56, 57, 97, 98, 99, 100, 101, 102] : List UInt8).getD d.toNat 0
def hexT : Nat → Int → List UInt8
  | 0, _ => []
  | k + 1, x => hexT k x ++ [hexB (x / 16 ^ (15 - k) % 16)]
theorem hexB_all : ∀ n : Fin 16, hexV (hexB ((n.val : Nat) : Int)) = n.val := by decide +kernel
theorem hexB_val (d : Int) (h0 : 0 ≤ d) (h1 : d < 16) : hexV (hexB d) = d := by
  have h := hexB_all ⟨d.toNat, by omega⟩
  simp only [Int.toNat_of_nonneg h0] at h
  exact h
theorem hexT_len (k : Nat) (x : Int) : (hexT k x).length = k := by
  induction k with
  | zero => rfl
  | succ k ih => unfold hexT; rw [List.length_append, ih]; rfl
theorem hexT_ok (k : Nat) (x : Int) : hexOk (hexT k x) = true := by
  induction k with
  | zero => rfl
  | succ k ih =>
    unfold hexT
    rw [hexOk_more, ih, hexB_val _ (by omega) (by omega)]
    simp
    omega
theorem hexT_num (k : Nat) (x : Int) (hk : k ≤ 16) (h0 : 0 ≤ x) (h1 : x ≤ 18446744073709551615) : hexN (hexT k x) = x / 16 ^ (16 - k) := by
  induction k with
  | zero => exact (Int.ediv_eq_zero_of_lt h0 (by show x < 16 ^ 16; omega)).symm
  | succ k ih =>
    unfold hexT
    rw [hexN_more, ih (by omega), hexB_val _ (by omega) (by omega), show 16 - k = (15 - k) + 1 by omega, show 16 - (k + 1) = 15 - k by omega, Int.pow_succ, ← Int.ediv_ediv_of_nonneg (Int.le_of_lt (Int.pow_pos (by decide)))]
    omega

theorem rbits_any (s : ByteArray) (w : World) :
    Calls Tryd.prog 18 #[.string s] w fun e w' => e = .returned (.tuple #[.int .i64 (bitsN s.data.toList), .int .i64 (bitsE s.data.toList)]) ∧ Stay w w' := by
  have hf := run_from
  by_cases h : s.size = 16
  · have hl : Hid (s.data.toList.length = 16) := by show _ = _; rw [← Lib.size_eq]; exact h
    go_enter Tryd.func18, Tryd.ntmps18
    go_wp2
    go_loop [4, 5] (fun wd i => ∃ (k : Nat), k ≤ 16 ∧ i = .int .i64 k ∧ wd = .int .u64 (hexN (s.data.toList.take k)) ∧ hexOk (s.data.toList.take k) = true) (fun _ i => (16 - intOf i).toNat)
    case atStart => exact ⟨0, by omega, rfl, rfl, rfl⟩
    case round =>
      obtain ⟨k, k1, rfl, rfl, hok⟩ := hrel
      have hbd := hexN_bd _ hok
      rw [List.length_take, hl.out, Nat.min_eq_left k1] at hbd
      have hall := take_all s k
      have hmore := take_more s k
      by_cases hk : k < 16
      · have hks : k < s.size := by omega
        replace hmore := hmore hks
        have hN := hexN_more (s.data.toList.take k) s[k]
        have hO := hexOk_more (s.data.toList.take k) s[k]
        rw [← hmore] at hN hO
        have hp : (16 : Int) ^ k ≤ 16 ^ 15 := by
          have : (16 : Nat) ^ k ≤ 16 ^ 15 := Nat.pow_le_pow_right (by decide) (by omega)
          have h2 : ((16 ^ k : Nat) : Int) ≤ ((16 ^ 15 : Nat) : Int) := by omega
          simpa using h2
        have hbad := hex_bad s k hks
        have HN : Hid (hexN (s.data.toList.take (k + 1)) = hexN (s.data.toList.take k) * 16 + hexV s[k]) := hN
        have HO : Hid (hexOk (s.data.toList.take (k + 1)) = (hexOk (s.data.toList.take k) && decide (0 ≤ hexV s[k]))) := hO
        have HB : Hid (hexV s[k] < 0 → hexOk s.data.toList = false) := hbad
        have dl := hex_lt s[k]
        have hc := fun w => rhex_any s[k] w
        obtain ⟨d, hd⟩ : ∃ d, hexV s[k] = d := ⟨_, rfl⟩
        rw [hd] at HN HO HB dl
        simp only [hd] at hc
        have HK : Hid (hexOk (s.data.toList.take k) = true) := hok
        clear hN hO hbad hmore hall hok hd
        obtain ⟨x0, x1⟩ := hbd
        generalize hexN (s.data.toList.take k) = x at *
        have x2 : x ≤ 1152921504606846975 := by omega
        clear x1 hp
        by_cases hneg : d < 0
        · have hbb := HB.out hneg
          have eN : Hid (bitsN s.data.toList = 0) := if_neg (by rw [hbb]; simp)
          have eE : Hid (bitsE s.data.toList = 4) := if_neg (by rw [hbb]; simp)
          clear hbb
          go_wp2_with (go_at_call 29; refine (hc _).mono ?_; rintro e w' ⟨rfl, rfl⟩)
          exact bodyPost_ret (v := .tuple #[.int .i64 0, .int .i64 4]) (by simp [results, Tryd.results18, go_sem]) rfl ⟨by rw [eN.out, eE.out], Stay.refl _⟩
        · have ho := or_digit x d x0 x2 (by omega) dl
          have d0 : 0 ≤ d := by omega
          go_wp2_with (go_at_call 29; refine (hc _).mono ?_; rintro e w' ⟨rfl, rfl⟩)
          go_round
          case rel => exact ⟨k + 1, by omega, by go_num, by rw [HN.out], by rw [HO.out, HK.out]; simp [d0]⟩
          case measure => simp [intOf]; omega
      · have hk' : k = 16 := by omega
        subst hk'
        have ea := hall (by omega)
        rw [ea] at hok hbd
        rw [ea]
        have eN : Hid (bitsN s.data.toList = numF (hexN s.data.toList)) := if_pos ⟨hl.out, hok⟩
        have eE : Hid (bitsE s.data.toList = errF (hexN s.data.toList)) := if_pos ⟨hl.out, hok⟩
        obtain ⟨x0, x1⟩ := hbd
        clear ea hall hmore hok
        generalize hexN s.data.toList = x at *
        have x2 : x ≤ 18446744073709551615 := by omega
        clear x1
        go_wp2_with (go_at_call 12; refine (rof_ans _ _ (by omega) (by omega)).mono ?_; rintro e w1 ⟨rfl, hg⟩)
        exact bodyPost_ret (v := .tuple #[.int .i64 (numF x), .int .i64 (errF x)]) (by simp [results, Tryd.results18, go_sem]) rfl ⟨by rw [eN.out, eE.out], hg⟩
  · have hl : s.data.toList.length ≠ 16 := by rw [← Lib.size_eq]; exact h
    have eN : bitsN s.data.toList = 0 := if_neg (fun h => hl h.1)
    have eE : bitsE s.data.toList = 4 := if_neg (fun h => hl h.1)
    rw [eN, eE]
    clear hl eN eE
    have h' : ((s.size : Int) == 16) = false := by simp; omega
    go_enter Tryd.func18, Tryd.ntmps18
    go_wp2
    exact bodyPost_ret (v := .tuple #[.int .i64 0, .int .i64 4]) (by simp [results, Tryd.results18, go_sem]) rfl ⟨rfl, Stay.refl _⟩
end Go.Proofs.YtcpgamhekelamaaDoor
