/-
  The document's own: how many of the highest and lowest bits are 0.
-/
import Derived.Test.YtpajpnjkgojafaaWpack
namespace Go.Proofs.Ytpajpnjkgojafaa.V
open Go.RowKit Go.Proofs.Lys
set_option linter.unusedVariables false

/-- How far the highest bits are counted. -/
def LdAt (x z : Nat) : Prop := (z ≤ 31 ∧ leadA x (31 - z) = lead x) ∨ (31 < z ∧ lead x = 31)
theorem LdAt.step {x z : Nat} (h : LdAt x z) (hb : x.testBit (63 - z) = false) : LdAt x (z + 1) := by
  rcases h with ⟨h1, h2⟩ | ⟨h1, h2⟩
  · by_cases e : z = 31
    · subst e
      exact .inr ⟨by omega, h2.symm⟩
    · have e1 : 31 - z = (30 - z) + 1 := by omega
      rw [e1, leadA_step (by rw [show 33 + (30 - z) = 63 - z by omega]; exact hb)] at h2
      exact .inl ⟨by omega, by rw [show 31 - (z + 1) = 30 - z by omega]; exact h2⟩
  · exact .inr ⟨by omega, h2⟩
theorem LdAt.stop {x z : Nat} (h : LdAt x z) (hb : z < 64 → x.testBit (63 - z) = true) : (31 < z ∧ lead x = 31) ∨ (z ≤ 31 ∧ lead x = z) := by
  rcases h with ⟨h1, h2⟩ | h
  · refine .inr ⟨h1, ?_⟩
    by_cases e : z = 31
    · subst e
      exact h2.symm
    · have e1 : 31 - z = (30 - z) + 1 := by omega
      rw [e1, leadA_stop (by rw [show 33 + (30 - z) = 63 - z by omega]; exact hb (by omega))] at h2
      omega
  · exact .inl h
theorem tr_step {x t : Nat} (hx : x < 18446744073709551616) (h0 : x ≠ 0) (ht : t ≤ 63) (h : trailA x (64 - t) = trail x) (hb : x.testBit t = false) : t + 1 ≤ 63 ∧ trailA x (64 - (t + 1)) = trail x := by
  have e : 64 - t = (63 - t) + 1 := by omega
  rw [e, trailA_step (by rw [show 63 - (63 - t) = t by omega]; exact hb)] at h
  have hl := trail_lt hx h0
  refine ⟨?_, by rw [show 64 - (t + 1) = 63 - t by omega]; exact h⟩
  refine Nat.le_of_not_lt (fun hlt => ?_)
  rw [show 63 - t = 0 by omega] at h
  have : trailA x 0 = 64 := rfl
  omega
theorem tr_stop {x t : Nat} (ht : t ≤ 63) (h : trailA x (64 - t) = trail x) (hb : x.testBit t = true) : trail x = t := by
  have e : 64 - t = (63 - t) + 1 := by omega
  rw [e, trailA_stop (by rw [show 63 - (63 - t) = t by omega]; exact hb)] at h
  omega

set_option maxRecDepth 100000 in
set_option maxHeartbeats 1600000 in
theorem zeros_any (w : World) (x : Nat) (hx : x < 18446744073709551616) (h0 : x ≠ 0) : Calls Try.prog 17 #[.int .u64 (x : Int)] w fun e w' => e = .returned (.tuple #[.int .i64 (lead x : Int), .int .i64 (trail x : Int)]) ∧ w' = w := by
  go_enter Try.func17, Try.ntmps17
  go_wp2
  go_loopw [4] (fun s wr => ∃ z : Nat, z ≤ 64 ∧ s = .int .i64 (z : Int) ∧ LdAt x z ∧ wr = w) (fun s _ => 64 - (intOf s).toNat)
  case atStart => exact ⟨0, by omega, rfl, .inl ⟨by omega, rfl⟩, rfl⟩
  case round =>
    obtain ⟨z, hz, rfl, hL, hw⟩ := hrel
    subst hw
    have HL := hid hL
    clear hL
    by_cases hlt : z < 64
    · obtain ⟨q, hq⟩ : ∃ q : Nat, (63 : Int) - (z : Int) = (q : Int) := ⟨63 - z, by omega⟩
      have hqe : q = 63 - z := by omega
      have hq63 : q ≤ 63 := by omega
      have hl := low_bit x q hx
      cases hbit : x.testBit q with
      | false =>
        rw [hbit] at hl
        have HU := hid (HL.out.step (by rw [← hqe]; exact hbit))
        clear hqe
        go_wp2
        go_roundw
        case rel => exact ⟨z + 1, by omega, by go_num, HU.out, trivial⟩
        case measure => simp [intOf]; omega
      | true =>
        rw [hbit] at hl
        have HU := hid (HL.out.stop (fun _ => by rw [← hqe]; exact hbit))
        clear hqe
        go_wp2
        go_loopw [5] (fun s w1 => ∃ t : Nat, t ≤ 63 ∧ s = .int .i64 (t : Int) ∧ trailA x (64 - t) = trail x ∧ w1 = wr) (fun s _ => 64 - (intOf s).toNat)
        case atStart => exact ⟨0, by omega, rfl, rfl, rfl⟩
        case round =>
          obtain ⟨t, ht, rfl, hT, hw⟩ := hrel
          subst hw
          have HT := hid hT
          clear hT hl
          have hl := low_bit x t hx
          cases hbt : x.testBit t with
          | false =>
            rw [hbt] at hl
            have HV := hid (tr_step hx h0 ht HT.out hbt)
            go_wp2
            go_roundw
            case rel => exact ⟨t + 1, HV.out.1, by go_num, HV.out.2, trivial⟩
            case measure => simp [intOf]; omega
          | true =>
            rw [hbt] at hl
            have HV := hid (tr_stop ht HT.out hbt)
            by_cases hz31 : 31 < z
            · have HE : Hid (lead x = 31) := by
                rcases HU.out with h | h
                · exact h.2
                · omega
              go_wp2
              go_ret2
              rw [HE.out, HV.out]
              exact ⟨rfl, rfl⟩
            · have HE : Hid (lead x = z) := by
                rcases HU.out with h | h
                · omega
                · exact h.2
              go_wp2
              go_ret2
              rw [HE.out, HV.out]
              exact ⟨rfl, rfl⟩
    · have HU := hid (HL.out.stop (fun h => absurd h hlt))
      have hl : True := trivial
      go_wp2
      go_loopw [5] (fun s w1 => ∃ t : Nat, t ≤ 63 ∧ s = .int .i64 (t : Int) ∧ trailA x (64 - t) = trail x ∧ w1 = wr) (fun s _ => 64 - (intOf s).toNat)
      case atStart => exact ⟨0, by omega, rfl, rfl, rfl⟩
      case round =>
        obtain ⟨t, ht, rfl, hT, hw⟩ := hrel
        subst hw
        have HT := hid hT
        clear hT hl
        have hl := low_bit x t hx
        cases hbt : x.testBit t with
        | false =>
          rw [hbt] at hl
          have HV := hid (tr_step hx h0 ht HT.out hbt)
          go_wp2
          go_roundw
          case rel => exact ⟨t + 1, HV.out.1, by go_num, HV.out.2, trivial⟩
          case measure => simp [intOf]; omega
        | true =>
          rw [hbt] at hl
          have HV := hid (tr_stop ht HT.out hbt)
          have hz31 : 31 < z := by omega
          have HE : Hid (lead x = 31) := by
            rcases HU.out with h | h
            · exact h.2
            · omega
          go_wp2
          go_ret2
          rw [HE.out, HV.out]
          exact ⟨rfl, rfl⟩
end Go.Proofs.Ytpajpnjkgojafaa.V
