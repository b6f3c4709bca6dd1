/-
  The law ResampleHolds.
-/
import Derived.Test.YtjjmidooikgaaaaPthold
import Derived.BigQuiet
import Derived.Deep.QuietTactic
namespace Go.Proofs.Ytjjmidooikgaaaa.Rs
open Go Go.RowKit Go.Proofs.Lys
open Ru (In64 one okT T0 int_cells kept_drewN)
set_option linter.unusedVariables false
set_option linter.unusedSimpArgs false

theorem any_take {l : Smps} {k : Nat} (h : k < l.length) (P : (Int × Int) → Bool) : (l.take (k + 1)).any P = ((l.take k).any P || P l[k]) := by
  rw [← List.take_append_getElem h, List.any_append]
  simp
/-- Have the first k samples one of step i? -/
def AnyIs (l : Smps) (f s : Int) (i k : Nat) (B : Value) : Prop := B = .bool ((l.take k).any (inS f s i))
set_option maxRecDepth 100000 in
set_option maxHeartbeats 3200000 in
theorem holds_walk (w : World) (va : Value) (l : Smps) (f s n : Int) (ha : SIn w va l) (hf : In64 f) (hs : In64 s) (hn : In64 n) :
    Calls Try.prog 5 #[va, .int .i64 f, .int .i64 s, .int .i64 n] w fun e w' => e = .returned (.bool true) ∧ Kept w w' := by
  obtain ⟨hss, hle, hin⟩ := ha
  obtain ⟨_, ra, rc, rfl, _⟩ := id hss
  have HAL := hid (alive_any w)
  obtain ⟨L, hL⟩ : ∃ L, l.length = L := ⟨_, rfl⟩
  rw [hL] at hss hle ⊢
  have HS := hid hss
  have HL := hid hL
  have HIN := hid hin
  have HSI := hid hs
  clear hss hL hin
  by_cases h1 : 500 < L
  · have d1 : decide (500 < (L : Int)) = true := by simp; omega
    clear h1
    go_enter Try.func5, Try.ntmps5
    go_wp2_with fail
    refine HAL.out.mono ?_
    rintro e w2 ⟨rfl, k2⟩
    have K2 := hid k2
    clear k2
    go_wp2
    go_ret
    exact ⟨rfl, K2.out⟩
  have d1 : decide (500 < (L : Int)) = false := by simp; omega
  by_cases h2 : 2000 < n
  · have d2 : decide (2000 < n) = true := by simp [h2]
    clear h1 h2
    go_enter Try.func5, Try.ntmps5
    go_wp2_with fail
    refine HAL.out.mono ?_
    rintro e w2 ⟨rfl, k2⟩
    have K2 := hid k2
    clear k2
    go_wp2
    go_ret
    exact ⟨rfl, K2.out⟩
  have d2 : decide (2000 < n) = false := by simp; omega
  by_cases h3 : 1099511627776 < s
  · have d3 : decide (1099511627776 < s) = true := by simp [h3]
    clear h1 h2 h3
    go_enter Try.func5, Try.ntmps5
    go_wp2_with fail
    refine HAL.out.mono ?_
    rintro e w2 ⟨rfl, k2⟩
    have K2 := hid k2
    clear k2
    go_wp2
    go_ret
    exact ⟨rfl, K2.out⟩
  have d3 : decide (1099511627776 < s) = false := by simp; omega
  have HPT := hid (fun W (k : Kept w W) => points_any W ra L rc l f s n (HS.out.stay k) HL.out (by omega) HIN.out HSI.out)
  have HN2 := hid h2
  have HS2 := hid h3
  have hL5 : L ≤ 500 := by omega
  clear h1 h2 h3 hs hf hn hle
  go_enter Try.func5, Try.ntmps5
  go_wp2_with fail
  refine HAL.out.mono ?_
  rintro e w2 ⟨rfl, k2⟩
  have K2 := hid k2
  have HP2 := hid (HPT.out w2 k2)
  clear k2 HAL HPT
  go_wp2_with fail
  refine HP2.out.mono ?_
  rintro e w3 hp
  obtain ⟨v, r, g, x, ha, rfl, hv, k3⟩ := pts_ans hp
  have hlen := ans_len ha
  obtain ⟨a3, c3, hve⟩ := hv.len
  obtain ⟨Q, hQ⟩ : ∃ Q, r.length = Q := ⟨_, rfl⟩
  rw [List.length_map, hQ] at hve
  subst hve
  have HQ := hid hQ
  have HA := hid ha
  have HV3 := hid hv
  have hxI : In64 x := by unfold In64; omega
  have HNU := hid (fun W => num_any x W hxI)
  have hQ1 : Q ≤ 10000 := by omega
  have K3 := hid (K2.out.trans k3 (fun _ _ f => f))
  have HX0 : Hid (x ≠ 0 → Q = 0) := hid (fun h => by
    rcases HA.out.2 with ⟨_, h2, _⟩ | ⟨h2, _⟩
    · rw [← HQ.out, h2]; rfl
    · exact absurd h2 h)
  clear hp ha hv k3 hlen hQ HP2 hxI
  by_cases hQ0 : Q = 0
  · subst hQ0
    by_cases hx : x = 0
    · subst hx
      go_wp2_with fail
      refine (HNU.out _).mono ?_
      rintro e w6 ⟨rfl, hw6⟩
      replace hw6 := hw6.symm
      subst hw6
      go_wp2
      go_ret
      exact ⟨rfl, K3.out⟩
    · have hxb : (x == 0) = false := by simpa using hx
      go_wp2_with fail
      refine (HNU.out _).mono ?_
      rintro e w6 ⟨rfl, hw6⟩
      replace hw6 := hw6.symm
      subst hw6
      go_wp2
      go_ret
      exact ⟨rfl, K3.out⟩
  · have hx : x = 0 := by
      by_cases hx : x = 0
      · exact hx
      · exact absurd (HX0.out hx) hQ0
    subst hx
    have hAR := ans_rows HA.out (by rw [HQ.out]; omega)
    obtain ⟨hrn, g1, g2, g3, g4, g5, g6, hok, hstep⟩ := hAR
    rw [HQ.out] at hrn
    have hnQ : n = (Q : Int) := by omega
    subst hnQ
    have HST : Hid (∀ i (hi : i + 1 < r.length), cell f s l (i + 1) = none → r[i + 1] = r[i]) := hid hstep
    have HMO := hid (mono_ok hok)
    have hQ2 : Q ≤ 2000 := by have := HN2.out; omega
    have hs2 : s ≤ 1099511627776 := by have := HS2.out; omega
    have hQb : ((Q : Int) == 0) = false := by simp; omega
    have hQb2 : decide ((Q : Int) = 0) = false := by simp; omega
    rcases HV3.out.shape with ⟨hnil, _⟩ | ⟨hpos, b, o, c, he, hc⟩
    · have : r = [] := List.map_eq_nil_iff.1 hnil
      rw [← HQ.out, this] at hQ0
      exact absurd rfl hQ0
    rw [List.length_map, HQ.out] at he
    simp only [Value.slice.injEq, and_true, true_and] at he
    obtain ⟨rfl, rfl⟩ := he
    have HV4 : Hid (SrcOf w3 (.slice (some ⟨b, o, none⟩) Q c3) (r.map (Value.int .i64))) := hid HV3.out
    clear HX0 hrn hok hstep hpos hc HV3 d2 HA
    go_wp2_with fail
    refine (HNU.out _).mono ?_
    rintro e w6 ⟨rfl, hw6⟩
    replace hw6 := hw6.symm
    subst hw6
    go_wp2_with fail
    go_loopw [12] (fun s12 W => ∃ i : Nat, i < Q ∧ s12 = .int .i64 ((i : Int) + 1) ∧ Kept w3 W) (fun s12 _ => Q - (intOf s12).toNat)
    case atStart => exact ⟨0, by omega, rfl, Only.refl _ _⟩
    case round =>
      obtain ⟨i, hi, rfl, kr⟩ := hrel
      have KR := hid kr
      by_cases hlt : i + 1 < Q
      · obtain ⟨P, hP⟩ : ∃ P, ((i : Int) + 1) * s = P := ⟨_, rfl⟩
        have hP1 : ((i : Int) + 1 + 1) * s = P + s := by rw [Int.add_mul, hP]; simp
        have hP2 : 0 ≤ P := by rw [← hP]; exact Int.mul_nonneg (by omega) (by omega)
        have hP3 : P ≤ 2199023255552000 := by
          rw [← hP]
          have := Int.mul_le_mul (show (i : Int) + 1 ≤ 2000 by omega) hs2 (by omega) (by omega)
          omega
        have HP := hid hP
        have hw1 : wrap64 (((i : Int) + 1) * s) = P := by rw [hP]; unfold wrap64; omega
        have hw2 : wrap64 (f + P) = f + P := by unfold wrap64; omega
        have hw3 : wrap64 (((i : Int) + 1 + 1) * s) = P + s := by rw [hP1]; unfold wrap64; omega
        have hw4 : wrap64 (f + (P + s)) = f + (P + s) := by unfold wrap64; omega
        clear hP kr hP1
        go_wp2_with fail
        go_loopw [14, 13] (fun s14 s13 W => ∃ (k : Nat), k ≤ L ∧ s14 = .int .i64 (k : Int) ∧ W = wr ∧ Hid (AnyIs l f s (i + 1) k s13)) (fun s14 _ _ => L - (intOf s14).toNat)
        case atStart => exact ⟨0, by omega, rfl, rfl, hid (by unfold AnyIs; simp)⟩
        case round =>
          obtain ⟨k, hk, rfl, hW, HBV⟩ := hrel
          subst hW
          obtain ⟨B, hB⟩ : ∃ B, (l.take k).any (inS f s (i + 1)) = B := ⟨_, rfl⟩
          have hBV := HBV.out
          unfold AnyIs at hBV
          rw [hB] at hBV
          subst hBV
          have HB := hid hB
          clear HBV hB
          by_cases hkL : k < L
          · have hkl : k < l.length := by have := HL.out; omega
            have hnx := any_take hkl (inS f s (i + 1))
            rw [HB.out] at hnx
            cases B with
            | true =>
              have HB2 : Hid (AnyIs l f s (i + 1) (k + 1) (.bool true)) := hid (by
                    unfold AnyIs
                    rw [hnx]; rfl)
              clear hnx HB
              go_wp2_with fail
              go_roundw
              case rel => exact ⟨k + 1, by omega, by go_num, by trivial, HB2⟩
              case measure => simp [intOf]; omega
            | false =>
              obtain ⟨bs, os, e0, c0, _⟩ := ((HS.out.1.stay K3.out).stay KR.out).cell HL.out k hkL
              subst e0
              obtain ⟨T, hT⟩ : ∃ T, (l[k]'hkl).1 = T := ⟨_, rfl⟩
              rw [hT] at c0
              have hTb := HMO.out.2 l[k] (List.getElem_mem hkl)
              rw [hT] at hTb
              have hins : inS f s (i + 1) l[k] = (decide (f + P ≤ T) && decide (T < f + P + s)) := by
                unfold inS
                rw [hT, show ((i + 1 : Nat) : Int) * s = P by rw [← HP.out]; rfl]
              rw [hins] at hnx
              clear hins hT HB
              by_cases hlo : T < f + P
              · have HB2 : Hid (AnyIs l f s (i + 1) (k + 1) (.bool false)) := hid (by
                    unfold AnyIs
                    rw [hnx, decide_eq_false (show ¬ f + P ≤ T by omega)]; rfl)
                have d5 : decide (f + P ≤ T) = false := by simp; omega
                clear hnx hlo
                go_wp2_with fail
                go_roundw
                case rel => exact ⟨k + 1, by omega, by go_num, by trivial, HB2⟩
                case measure => simp [intOf]; omega
              · have d5 : decide (f + P ≤ T) = true := by simp; omega
                by_cases hup : T < f + P + s
                · have HB2 : Hid (AnyIs l f s (i + 1) (k + 1) (.bool true)) := hid (by
                    unfold AnyIs
                    rw [hnx, d5, decide_eq_true hup]; rfl)
                  have d6 : decide (T < f + (P + s)) = true := by simp; omega
                  clear hnx hlo hup
                  go_wp2_with fail
                  go_roundw
                  case rel => exact ⟨k + 1, by omega, by go_num, by trivial, HB2⟩
                  case measure => simp [intOf]; omega
                · have HB2 : Hid (AnyIs l f s (i + 1) (k + 1) (.bool false)) := hid (by
                    unfold AnyIs
                    rw [hnx, d5, decide_eq_false hup]; rfl)
                  have d6 : decide (T < f + (P + s)) = false := by simp; omega
                  clear hnx hlo hup
                  go_wp2_with fail
                  go_roundw
                  case rel => exact ⟨k + 1, by omega, by go_num, by trivial, HB2⟩
                  case measure => simp [intOf]; omega
          · have hkn : L = k := by omega
            subst hkn
            have hall : l.any (inS f s (i + 1)) = B := by
              have h := HB.out
              rw [List.take_of_length_le (by have := HL.out; omega)] at h
              exact h
            clear HB
            cases B with
            | true =>
              clear hall
              go_wp2_with fail
              go_quiet (fail)
              go_wp2_with fail
              go_roundw
              case rel => exact ⟨i + 1, by omega, by go_num, kept_drewN KR.out _⟩
              case measure => simp [intOf]; omega
            | false =>
              rw [any_cell] at hall
              have hnone : cell f s l (i + 1) = none := by
                cases h : cell f s l (i + 1) with
                | none => rfl
                | some v => rw [h] at hall; cases hall
              have hlen1 : i + 1 < r.length := by have := HQ.out; omega
              have heq := HST.out i hlen1 hnone
              have y1 := int_cells (HV4.out.stay KR.out) (i + 1) hlen1
              have y0 := int_cells (HV4.out.stay KR.out) i (by omega)
              rw [heq] at y1
              generalize r[i] = U at y0 y1
              clear hall hnone hlen1 heq
              go_wp2_with fail
              go_quiet (fail)
              go_wp2_with fail
              go_roundw
              case rel => exact ⟨i + 1, by omega, by go_num, kept_drewN KR.out _⟩
              case measure => simp [intOf]; omega
      · have hiQ : i + 1 = Q := by omega
        have K9 := hid (K3.out.trans kr (fun _ _ f => f))
        subst hiQ
        clear kr
        go_wp2_with fail
        go_ret
        exact ⟨by simp, K9.out⟩
end Go.Proofs.Ytjjmidooikgaaaa.Rs
