/-
  The law FloatsBits, walked: what every text is as the bits of a float, and the sixteen digits of every word.
-/
import Derived.Test.YtcpgamhekelamaaDoorRbits
namespace Go.Proofs.YtcpgamhekelamaaDoor
open Go.RowKit
set_option linter.unusedVariables false

theorem ext_all : ∀ n : Fin 16, (ByteArray.mk #[48, 49, 50, 51, 52, 53, 54, 55, 56, 57, 97, 98, 99, 100, 101, 102]).extract n.val (n.val + 1) = ByteArray.mk [hexB ((n.val : Nat) : Int)].toArray := by decide +kernel
theorem ext_one (n : Nat) (h : n ≤ 15) : (ByteArray.mk #[48, 49, 50, 51, 52, 53, 54, 55, 56, 57, 97, 98, 99, 100, 101, 102]).extract n (n + 1) = ByteArray.mk [hexB (n : Int)].toArray := ext_all ⟨n, by omega⟩
theorem run_slice_u (s : ByteArray) (l h : Nat) (w : World) (h1 : h ≤ s.size) (h2 : l ≤ h) (i j : Int) (hi : i = (l : Int)) (hj : j = (h : Int)) :
    (Instr.slice 9 (.string s) (some (.int .u64 i)) (some (.int .u64 j)) none).run Tryd.prog w = .ok (.string (s.extract l h)) w := by
  subst hi hj
  simp [Instr.slice, Instr.sliceBounds, Instr.sliceBound, asIntOf, go_sem, h1, h2, run_underlying Tryd.underlying9]
theorem pow_four (j : Nat) : (2 : Int) ^ (4 * j) = 16 ^ j := by
  induction j with
  | zero => rfl
  | succ j ih => rw [show 4 * (j + 1) = 4 * j + 4 by omega, Int.pow_add, ih, Int.pow_succ]; rfl
theorem digit_at (x z : Int) (k : Nat) (hk : k < 16) (x0 : 0 ≤ x) (x1 : x ≤ 18446744073709551615) (hz : z = 60 - 4 * (k : Int)) :
    0 ≤ x / 2 ^ z.toNat ∧ x / 2 ^ z.toNat ≤ 18446744073709551615 ∧ bits .and .u64 (x / 2 ^ z.toNat) 15 = (((x / 16 ^ (15 - k) % 16).toNat : Nat) : Int) ∧ (x / 16 ^ (15 - k) % 16).toNat ≤ 15 := by
  have e : (2 : Int) ^ z.toNat = 16 ^ (15 - k) := by rw [← pow_four]; congr 1; omega
  rw [e]
  have p : (0 : Int) < 16 ^ (15 - k) := Int.pow_pos (by decide)
  have y0 : 0 ≤ x / 16 ^ (15 - k) := Int.ediv_nonneg x0 (Int.le_of_lt p)
  have y1 : x / 16 ^ (15 - k) ≤ x := Int.ediv_le_self _ x0
  refine ⟨y0, by omega, ?_, by omega⟩
  have : bits .and .u64 (x / 16 ^ (15 - k)) 15 = x / 16 ^ (15 - k) % 16 := mask_u _ 4 (by decide) y0 (by omega)
  rw [this]
  omega

set_option maxHeartbeats 1600000 in
theorem lbits_in (s : ByteArray) (a x : Int) (w : World) (hs : s.size ≤ 1000) (hx : IntKind.u64.wrap a = x) (x0 : 0 ≤ x) (x1 : x ≤ 18446744073709551615) :
    Calls Tryd.prog 6 #[.string s, .int .i64 a] w fun e w' => e = .returned (.bool true) ∧ Stay w w' := by
  have hf := run_from
  obtain ⟨p, hp⟩ : ∃ p, bitsN s.data.toList = p := ⟨_, rfl⟩
  obtain ⟨q, hq⟩ : ∃ q, bitsE s.data.toList = q := ⟨_, rfl⟩
  go_enter Tryd.func6, Tryd.ntmps6
  go_wp2_with (first | (go_at_call 9; refine (alive_any _).mono ?_; rintro e w1 ⟨rfl, hg⟩) | (go_at_call 17; refine (bits_any _ _).mono ?_; rintro e w' ⟨rfl, rfl⟩; rewrite [hp, hq]) | (go_at_call 18; refine (rbits_any _ _).mono ?_; rintro e w2 ⟨rfl, hg2⟩; rewrite [hp, hq]))
  have hg3 : Hid _ := hg.trans hg2
  clear hg hg2 hp hq
  go_loop [10, 11] (fun h i => ∃ (k : Nat) (z : Int), k ≤ 16 ∧ i = .int .i64 z ∧ z = 60 - 4 * (k : Int) ∧ h = .string ⟨(hexT k x).toArray⟩) (fun _ i => (intOf i + 4).toNat)
  case atStart => exact ⟨0, 60, by omega, rfl, rfl, rfl⟩
  case round =>
    obtain ⟨k, z, k1, rfl, hz, rfl⟩ := hrel
    by_cases hk : k < 16
    · have z0 : 0 ≤ z := by omega
      have z1 : z ≤ 60 := by omega
      have hT : (ByteArray.mk (hexT k x).toArray).size = k := by show (hexT k x).length = k; exact hexT_len k x
      obtain ⟨y0, y1, hd, hn⟩ := digit_at x z k hk x0 x1 hz
      have HT : Hid (ByteArray.mk (hexT k x).toArray ++ ByteArray.mk [hexB (((x / 16 ^ (15 - k) % 16).toNat : Nat) : Int)].toArray = ByteArray.mk (hexT (k + 1) x).toArray) := by
        show _ = _
        rw [mk_app, show (((x / 16 ^ (15 - k) % 16).toNat : Nat) : Int) = x / 16 ^ (15 - k) % 16 by omega]
        rfl
      generalize (x / 16 ^ (15 - k) % 16).toNat = n at *
      have hx1 := ext_one n hn
      generalize (ByteArray.mk (hexT k x).toArray) = h at *
      have hsl : ∀ w, (Instr.slice 9 (.string ⟨#[48, 49, 50, 51, 52, 53, 54, 55, 56, 57, 97, 98, 99, 100, 101, 102]⟩) (some (.int .u64 (n : Int))) (some (.int .u64 ((n : Int) + 1))) none).run Tryd.prog w = .ok (.string (ByteArray.mk [hexB (n : Int)].toArray)) w := fun w => by
        have := run_slice_u ⟨#[48, 49, 50, 51, 52, 53, 54, 55, 56, 57, 97, 98, 99, 100, 101, 102]⟩ n (n + 1) w (by show n + 1 ≤ 16; omega) (by omega) n (n + 1) rfl (by omega)
        rw [hx1] at this
        exact this
      obtain ⟨g, hgb⟩ : ∃ g, ByteArray.mk [hexB (n : Int)].toArray = g := ⟨_, rfl⟩
      have hgs : g.size = 1 := by rw [← hgb]; rfl
      rw [hgb] at HT
      simp only [hgb] at hsl
      clear hgb
      have HZ : Hid (z = 60 - 4 * (k : Int)) := hz
      clear hz hx1
      go_wp2
      go_round
      case rel => exact ⟨k + 1, z - 4, by omega, by go_num, by have := HZ.out; omega, by rw [← HT.out]⟩
      case measure => simp [intOf]; omega
    · have hk' : k = 16 := by omega
      subst hk'
      have hz' : z = -4 := by omega
      subst hz'
      have eN : bitsN (hexT 16 x) = numF x := by
        unfold bitsN
        rw [if_pos ⟨hexT_len 16 x, hexT_ok 16 x⟩, hexT_num 16 x (by decide) x0 x1]
        simp
      have eE : bitsE (hexT 16 x) = errF x := by
        unfold bitsE
        rw [if_pos ⟨hexT_len 16 x, hexT_ok 16 x⟩, hexT_num 16 x (by decide) x0 x1]
        simp
      have hc : ∀ w, Calls Tryd.prog 17 #[.string ⟨(hexT 16 x).toArray⟩] w fun e w' => e = .returned (.tuple #[.int .i64 (numF x), .int .i64 (errF x)]) ∧ w' = w := fun w => by
        have := bits_any ⟨(hexT 16 x).toArray⟩ w
        rw [show (ByteArray.mk (hexT 16 x).toArray).data.toList = hexT 16 x from rfl, eN, eE] at this
        exact this
      clear eN eE hz
      generalize (ByteArray.mk (hexT 16 x).toArray) = h at *
      go_wp2_with (first | (go_at_call 17; refine (hc _).mono ?_; rintro e w' ⟨rfl, rfl⟩) | (go_at_call 12; refine (rof_ans _ _ x0 x1).mono ?_; rintro e w3 ⟨rfl, hg4⟩) | (go_at_call 13; refine (num_any _ _).mono ?_; rintro e w' ⟨rfl, rfl⟩))
      go_ret
      exact ⟨rfl, Stay.trans hg3.out hg4⟩

theorem lbits_out (s : ByteArray) (a : Int) (w : World) (hs : 1000 < s.size) :
    Calls Tryd.prog 6 #[.string s, .int .i64 a] w fun e w' => e = .returned (.bool true) ∧ Stay w w' := by
  go_enter Tryd.func6, Tryd.ntmps6
  go_wp2_with (go_at_call 9; refine (alive_any _).mono ?_; rintro e w1 ⟨rfl, hg⟩)
  go_ret
  exact ⟨rfl, hg⟩
end Go.Proofs.YtcpgamhekelamaaDoor
