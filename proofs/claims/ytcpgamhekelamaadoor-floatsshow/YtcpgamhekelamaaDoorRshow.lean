/-
  What the document's own answer prints of a fixed-point number; and that what is printed is read again.
-/
import Derived.Test.YtcpgamhekelamaaDoorFref
import Derived.Test.YtcpgamhekelamaaDoorRdec
namespace Go.Proofs.YtcpgamhekelamaaDoor
open Go.RowKit
set_option linter.unusedVariables false

theorem rdec_same : ∀ (n : Nat) (w : World), n < 18446744073709551616 →
    Calls Tryd.prog 41 #[.int .u64 (n : Int)] w fun e w' => e = .returned (.string ⟨(Lib.decDigits n).toArray⟩) ∧ w' = w := by
  intro n
  induction n using Nat.strongRecOn with
  | _ n ih =>
    intro w hn
    have hsl := fun w => num_slice .u64 ((n : Int) % 10) w (by omega) (by omega)
    by_cases h : n < 10
    · have e : ByteArray.mk (Lib.decDigits n).toArray = ByteArray.mk [digB ((n : Int) % 10)].toArray := by
        rw [Lib.decDigits, dif_pos h]
        unfold digB
        rw [show ((n : Int) % 10).toNat = n by omega]
      rw [e]
      generalize ByteArray.mk [digB ((n : Int) % 10)].toArray = g at *
      clear ih
      go_enter Tryd.func41, Tryd.ntmps41
      go_wp2
      go_ret
      exact ⟨rfl, rfl⟩
    · have hi := fun w => ih (n / 10) (by omega) w (by omega)
      have e : ByteArray.mk (Lib.decDigits n).toArray = ByteArray.mk (Lib.decDigits (n / 10)).toArray ++ ByteArray.mk [digB ((n : Int) % 10)].toArray := by
        rw [mk_app]
        conv => lhs; rw [Lib.decDigits, dif_neg h]
        unfold digB
        rw [show ((n : Int) % 10).toNat = n % 10 by omega]
      have hs1 : (ByteArray.mk (Lib.decDigits (n / 10)).toArray).size ≤ 20 := by
        have := dec_len 19 (n / 10) (by show _ < 100000000000000000000; omega)
        exact this
      have hs2 : (ByteArray.mk [digB ((n : Int) % 10)].toArray).size = 1 := rfl
      rw [e]
      have hc : ((n / 10 : Nat) : Int) = (n : Int) / 10 := by omega
      simp only [hc] at hi
      generalize ByteArray.mk [digB ((n : Int) % 10)].toArray = g at *
      generalize ByteArray.mk (Lib.decDigits (n / 10)).toArray = f at *
      clear ih e hc
      go_enter Tryd.func41, Tryd.ntmps41
      go_wp2_with (go_at_call 41; refine (hi _).mono ?_; rintro e w1 ⟨rfl, rfl⟩)
      go_ret
      exact ⟨rfl, rfl⟩
theorem rdec_int (u : Int) (w : World) (h0 : 0 ≤ u) (h1 : u ≤ 18446744073709551615) :
    Calls Tryd.prog 41 #[.int .u64 u] w fun e w' => e = .returned (.string ⟨(Lib.decDigits u.toNat).toArray⟩) ∧ w' = w := by
  have := rdec_same u.toNat w (by omega)
  rw [show ((u.toNat : Nat) : Int) = u by omega] at this
  exact this
theorem rdec_one (d : Int) (w : World) (h0 : 0 ≤ d) (h1 : d ≤ 9) :
    Calls Tryd.prog 41 #[.int .u64 d] w fun e w' => e = .returned (.string ⟨[digB d].toArray⟩) ∧ w' = w := by
  have := rdec_int d w h0 (by omega)
  rw [show Lib.decDigits d.toNat = [digB d] by rw [Lib.decDigits, dif_pos (by omega)]; rfl] at this
  exact this

def strLen : Value → Nat | .string s => s.size | _ => 0
theorem mask_32 (a : Int) (h0 : 0 ≤ a) (h1 : a ≤ 18446744073709551615) : bits .and .u64 a 4294967295 = a % 4294967296 := mask_u a 32 (by decide) h0 h1

set_option maxHeartbeats 3200000 in
theorem rshow_core (s : Bool) (x n q f : Int) (D : List UInt8) (w : World) (h0 : -9223372036854775808 ≤ x) (h1 : x ≤ 9223372036854775807) (hn : absZ x = n) (n0 : 0 ≤ n) (n1 : n ≤ 9223372036854775808) (hq : n / 4294967296 = q) (hf : n % 4294967296 = f) (hl : (ByteArray.mk D.toArray).size ≤ 20)
    (hd : ∀ w, Calls Tryd.prog 41 #[.int .u64 q] w fun e w' => e = .returned (.string ⟨D.toArray⟩) ∧ w' = w) (hs : Hid (decide (x < 0) = s)) :
    Calls Tryd.prog 22 #[.int .i64 x] w fun e w' => e = .returned (.string ⟨(signL s ++ (D ++ fracT f)).toArray⟩) ∧ w' = w := by
  have f0 : 0 ≤ f := by omega
  have f1 : f < 4294967296 := by omega
  have hm := mask_32 n n0 (by omega)
  rw [hf] at hm
  have HD : Hid (ByteArray.mk D.toArray ++ ByteArray.mk #[46] = ByteArray.mk (D ++ 46 :: []).toArray) := mk_app D [46]
  have hlD : Hid (D.length ≤ 20) := hl
  have HN : ∀ l : List UInt8, Hid (ByteArray.mk #[45] ++ ByteArray.mk l.toArray = ByteArray.mk (45 :: l).toArray) := fun l => mk_app [45] l
  by_cases hz : f = 0
  · have hT : fracT f = [] := if_pos hz
    have hzb : (f == 0) = true := by simp [hz]
    subst hz
    rw [hT, List.append_nil]
    by_cases hx : x < 0
    · have hs' : s = true := by rw [← hs.out]; simp [hx]
      have e : ByteArray.mk (signL s ++ D).toArray = ByteArray.mk #[45] ++ ByteArray.mk D.toArray := by rw [(HN D).out]; simp [signL, hs']
      rw [e]
      generalize ByteArray.mk D.toArray = S at *
      clear e HN HD hlD hs'
      go_enter Tryd.func22, Tryd.ntmps22
      go_wp2_with (first | (go_at_call 40; refine (rsize_any _ _ (by omega) (by omega)).mono ?_; rintro e w' ⟨rfl, rfl⟩; rewrite [hn]) | (go_at_call 41; refine (hd _).mono ?_; rintro e w1 ⟨rfl, rfl⟩))
      go_ret
      exact ⟨rfl, rfl⟩
    · have hs' : s = false := by rw [← hs.out]; simp [hx]
      have e : ByteArray.mk (signL s ++ D).toArray = ByteArray.mk D.toArray := by simp [signL, hs']
      rw [e]
      generalize ByteArray.mk D.toArray = S at *
      clear e HN HD hlD hs'
      go_enter Tryd.func22, Tryd.ntmps22
      go_wp2_with (first | (go_at_call 40; refine (rsize_any _ _ (by omega) (by omega)).mono ?_; rintro e w' ⟨rfl, rfl⟩; rewrite [hn]) | (go_at_call 41; refine (hd _).mono ?_; rintro e w1 ⟨rfl, rfl⟩))
      go_ret
      exact ⟨rfl, rfl⟩
  · have hT : Hid (fracT f = 46 :: fracL 32 f) := if_neg hz
    have hzb : (f != 0) = true := by simp [hz]
    generalize hS : ByteArray.mk D.toArray = S at *
    clear hS hz hf
    go_enter Tryd.func22, Tryd.ntmps22
    go_wp2_with (first | (go_at_call 40; refine (rsize_any _ _ (by omega) (by omega)).mono ?_; rintro e w' ⟨rfl, rfl⟩; rewrite [hn]) | (go_at_call 41; refine (hd _).mono ?_; rintro e w1 ⟨rfl, rfl⟩))
    go_loop [4, 5] (fun s y => ∃ (k : Nat) (z : Int) (ds : List UInt8), k ≤ 32 ∧ y = .int .u64 z ∧ 0 ≤ z ∧ z < 4294967296 ∧ (2 : Int) ^ k ∣ z ∧ ds.length = k ∧ ds ++ fracL (32 - k) z = fracL 32 f ∧ s = .string ⟨(D ++ 46 :: ds).toArray⟩) (fun s _ => 100 - strLen s)
    case atStart => exact ⟨0, f, [], by omega, rfl, f0, f1, Int.one_dvd _, rfl, rfl, by rw [← HD.out]⟩
    case round =>
      obtain ⟨k, z, ds, k1, rfl, z0, z1, hdv, hlen, hds, rfl⟩ := hrel
      have hsz : (ByteArray.mk (D ++ 46 :: ds).toArray).size ≤ 53 := by
        show (D ++ 46 :: ds).length ≤ 53
        have := hlD.out
        rw [List.length_append, List.length_cons]; omega
      by_cases hx : z = 0
      · subst hx
        have e0 : Hid (fracL 32 f = ds) := by show _ = _; rw [← hds]; cases 32 - k <;> simp [fracL]
        clear hds hdv
        by_cases hneg : x < 0
        · have hs' : s = true := by rw [← hs.out]; simp [hneg]
          have e : Hid (ByteArray.mk (signL s ++ (D ++ fracT f)).toArray = ByteArray.mk #[45] ++ ByteArray.mk (D ++ 46 :: ds).toArray) := by show _ = _; rw [hT.out, e0.out, (HN (D ++ 46 :: ds)).out]; simp [signL, hs']
          generalize ByteArray.mk (D ++ 46 :: ds).toArray = G at *
          clear HN hs'
          go_wp2
          go_ret
          exact ⟨by rw [e.out]; rfl, rfl⟩
        · have hs' : s = false := by rw [← hs.out]; simp [hneg]
          have e : Hid (ByteArray.mk (signL s ++ (D ++ fracT f)).toArray = ByteArray.mk (D ++ 46 :: ds).toArray) := by show _ = _; rw [hT.out, e0.out]; simp [signL, hs']
          generalize ByteArray.mk (D ++ 46 :: ds).toArray = G at *
          clear HN hs'
          go_wp2
          go_ret
          exact ⟨by rw [e.out]; rfl, rfl⟩
      · have hk : k < 32 := by
          rcases Nat.lt_or_ge k 32 with h | h
          · exact h
          · exact absurd (pow_end z z0 z1 (by rw [show (32 : Nat) = k by omega]; exact hdv)) hx
        have hx' : (z == 0) = false := by simp [hx]
        have hstep := frac_step k z hx hk
        have hdv' := pow_more k z hk hdv
        have hm2 := mask_32 (z * 10) (by omega) (by omega)
        have hc := fun w => rdec_one (z * 10 / 4294967296) w (by omega) (by omega)
        obtain ⟨d, hdd⟩ : ∃ d, z * 10 / 4294967296 = d := ⟨_, rfl⟩
        obtain ⟨y, hy⟩ : ∃ y, z * 10 % 4294967296 = y := ⟨_, rfl⟩
        rw [hdd, hy] at hstep
        rw [hy] at hdv' hm2
        simp only [hdd] at hc
        have y0 : 0 ≤ y := by omega
        have y1 : y < 4294967296 := by omega
        have HE : Hid (ByteArray.mk (D ++ 46 :: ds).toArray ++ ByteArray.mk [digB d].toArray = ByteArray.mk (D ++ 46 :: (ds ++ [digB d])).toArray) := by
          show _ = _
          rw [mk_app, List.append_assoc, List.cons_append]
        have hgs : (ByteArray.mk [digB d].toArray).size = 1 := rfl
        have HDS : Hid (ds ++ fracL (32 - k) z = fracL 32 f) := hds
        have HT : Hid _ := hstep
        have HV : Hid _ := hdv'
        have HL : Hid (ds.length = k) := hlen
        have HZ : Hid ((ByteArray.mk (D ++ 46 :: (ds ++ [digB d])).toArray).size = (ByteArray.mk (D ++ 46 :: ds).toArray).size + 1) := by
          show (D ++ 46 :: (ds ++ [digB d])).length = (D ++ 46 :: ds).length + 1
          simp only [List.length_append, List.length_cons, List.length_nil]; omega
        clear hds hstep hdv' hdv hy hlen
        generalize ByteArray.mk [digB d].toArray = g at *
        generalize ByteArray.mk (D ++ 46 :: ds).toArray = G at *
        go_wp2_with (go_at_call 41; refine (hc _).mono ?_; rintro e w' ⟨rfl, hw'⟩; subst hw')
        go_round
        case rel => exact ⟨k + 1, y, ds ++ [digB d], by omega, rfl, y0, y1, HV.out, by rw [List.length_append, HL.out]; rfl, by rw [List.append_assoc, List.singleton_append, ← HT.out]; exact HDS.out, by rw [← HE.out]⟩
        case measure => simp [strLen, ByteArray.size_append, hgs]; omega

theorem rshow_any (x : Int) (w : World) (h0 : -9223372036854775808 ≤ x) (h1 : x ≤ 9223372036854775807) :
    Calls Tryd.prog 22 #[.int .i64 x] w fun e w' => e = .returned (.string ⟨(showL x).toArray⟩) ∧ w' = w := by
  have ha := abs_nonneg x
  have hb := abs_bd h0 h1
  have := rshow_core _ x (absZ x) (absZ x / 4294967296) (absZ x % 4294967296) (Lib.decDigits (absZ x / 4294967296).toNat) w h0 h1 rfl ha hb rfl rfl
    (by have := dec_len 19 (absZ x / 4294967296).toNat (by show _ < 100000000000000000000; omega); exact this) (fun w => rdec_int _ w (by omega) (by omega)) rfl
  have e : signL (decide (x < 0)) ++ (Lib.decDigits (absZ x / 4294967296).toNat ++ fracT (absZ x % 4294967296)) = showL x := by
    unfold showL signL
    by_cases hx : x < 0
    · rw [abs_neg hx]; simp [hx]
    · rw [abs_pos (by omega)]; simp [hx]
  rw [e] at this
  exact this

theorem show_meet (x : Int) (h0 : -9223372036854775808 ≤ x) (h1 : x ≤ 9223372036854775807) :
    (x % 4 = 0 → parseE (showL x) = 0 ∧ parseN (showL x) = x) ∧ (parseE (showL x) = 4 ∨ parseE (showL x) = 0 ∧ parseN (showL x) = x) ∧ (showL x).length ≤ 60 := by
  have ha := abs_nonneg x
  have hb := abs_bd h0 h1
  have e : showL x = signL (decide (x < 0)) ++ (Lib.decDigits (absZ x / 4294967296).toNat ++ fracT (absZ x % 4294967296)) := by
    unfold showL signL
    by_cases hx : x < 0
    · rw [abs_neg hx]; simp [hx]
    · rw [abs_pos (by omega)]; simp [hx]
  have hlen : (showL x).length ≤ 60 := by
    rw [e]
    have l1 := dec_len 19 (absZ x / 4294967296).toNat (by show _ < 100000000000000000000; omega)
    have l2 := fracT_len (absZ x % 4294967296)
    rw [List.length_append, List.length_append]
    unfold signL
    split <;> simp <;> omega
  obtain ⟨q, hq⟩ : ∃ q, absZ x / 4294967296 = q := ⟨_, rfl⟩
  obtain ⟨f, hf⟩ : ∃ f, absZ x % 4294967296 = f := ⟨_, rfl⟩
  rw [hq, hf] at e
  have hA := dec_ok q.toNat (by show _ < 100000000000000000000; omega)
  obtain ⟨a1, a2, a3⟩ := dec_all q.toNat
  have hx4 : x % 4 = 0 → f % 4 = 0 := by
    intro h
    rcases Int.lt_or_le x 0 with hx | hx
    · rw [abs_neg hx] at hf; omega
    · rw [abs_pos hx] at hf; omega
  have val : q < 2147483648 → downZ (decide (x < 0)) (q * 4294967296 + f) false = x := by
    intro hq2
    unfold downZ
    by_cases hx : x < 0
    · rw [abs_neg hx] at hq hf; simp [hx]; omega
    · rw [abs_pos (by omega)] at hq hf; simp [hx]; omega
  have hqn : ((q.toNat : Nat) : Int) = q := by omega
  by_cases hz : f = 0
  · have hT : fracT f = [] := if_pos hz
    rw [hT, List.append_nil] at e
    obtain ⟨p1, p2⟩ := parse_digits (decide (x < 0)) _ hA
    have key : parseE (showL x) = 0 ∧ parseN (showL x) = x := by
      rw [e, p1, p2]
      refine ⟨rfl, ?_⟩
      unfold readZ
      rw [a2, hqn]
      by_cases c : 2147483648 ≤ q
      · rw [if_pos c]
        unfold endZ
        by_cases hx : x < 0
        · rw [abs_neg hx] at hq hf; simp [hx]; omega
        · rw [abs_pos (by omega)] at hq hf; omega
      · rw [if_neg c, show partL [] = 0 from rfl, show leftL [] = false from rfl]
        have := val (by omega)
        rw [hz] at this
        exact this
    exact ⟨fun _ => key, Or.inr key, hlen⟩
  · have hT : fracT f = 46 :: fracL 32 f := if_neg hz
    rw [hT] at e
    obtain ⟨b1, b2⟩ := frac_all 32 f (by omega) (by omega) (Int.one_dvd _) (by decide)
    have hq3 : q < 2147483648 := by
      rcases Int.lt_or_le x 0 with hx | hx
      · rw [abs_neg hx] at hq hf; omega
      · rw [abs_pos hx] at hq hf; omega
    by_cases hL : (fracL 32 f).length ≤ 30
    · have hB : decOk (fracL 32 f) = true := by
        have : 1 ≤ (fracL 32 f).length := by
          show 1 ≤ (if f = 0 then ([] : List UInt8) else _).length
          rw [if_neg hz]; simp
        unfold decOk
        rw [b1]
        simp
        omega
      obtain ⟨p1, p2⟩ := parse_point (decide (x < 0)) _ _ hA hB
      have key : parseE (showL x) = 0 ∧ parseN (showL x) = x := by
        rw [e, p1, p2]
        refine ⟨rfl, ?_⟩
        have c1 : partL (fracL 32 f) = f := by unfold partL; rw [b2]; exact Int.mul_ediv_cancel _ (Int.ne_of_gt (ten_pos _))
        have c2 : leftL (fracL 32 f) = false := by unfold leftL; rw [b2, Int.mul_emod_left]; rfl
        unfold readZ
        rw [a2, hqn, if_neg (by omega), c1, c2]
        exact val hq3
      exact ⟨fun _ => key, Or.inr key, hlen⟩
    · have p := parse_long (decide (x < 0)) _ _ hA (by omega) b1
      rw [← e] at p
      refine ⟨fun h => ?_, Or.inl p, hlen⟩
      have h4 := hx4 h
      exact absurd (frac_zero 32 f 30 (by decide) (Int.dvd_of_emod_eq_zero h4) (by omega) (by omega) (by decide)) hL
end Go.Proofs.YtcpgamhekelamaaDoor
