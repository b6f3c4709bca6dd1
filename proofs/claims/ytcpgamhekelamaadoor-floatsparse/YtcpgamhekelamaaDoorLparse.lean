/-
  What the document's own Parse returns, for every text of at most a thousand bytes; and the law FloatsParse, walked.
-/
import Derived.Test.YtcpgamhekelamaaDoorRdec
import Derived.Test.YtcpgamhekelamaaDoorRmn
import Derived.Test.YtcpgamhekelamaaDoorRmnz
import Derived.Test.YtcpgamhekelamaaDoorRmm
import Derived.Test.YtcpgamhekelamaaDoorRmmz
import Derived.Test.YtcpgamhekelamaaDoorRmp
import Derived.Test.YtcpgamhekelamaaDoorRmpz
namespace Go.Proofs.YtcpgamhekelamaaDoor
open Go.RowKit
set_option linter.unusedVariables false

def zN (neg : Bool) (z : List UInt8) : Int := if z = [105, 110, 102] then endZ neg else if textOk z = true then readZ neg (headL z) (tailL z) else 0
def zE (z : List UInt8) : Int := if z = [105, 110, 102] then 0 else if textOk z = true then 0 else 4
theorem at_drop (s : ByteArray) (q : Nat) (c : UInt8) (F : List UInt8) (h : s.data.toList.drop q = c :: F) : ∃ hq : q < s.size, s[q] = c ∧ s.data.toList.drop (q + 1) = F := by
  have hq : q < s.size := by
    rw [Lib.size_eq]
    rcases Nat.lt_or_ge q s.data.toList.length with k | k
    · exact k
    · rw [List.drop_of_length_le k] at h; cases h
  have := drop_more s q hq
  rw [h] at this
  injection this with a b
  exact ⟨hq, a.symm, b.symm⟩
theorem ext_list (s : ByteArray) (a b : Nat) : (s.extract a b).data.toList = (s.data.toList.drop a).take (b - a) := Lib.extract_data s a b

theorem rparse_n (s : ByteArray) (z : List UInt8) (w : World) (hm : s.size ≤ 1000) (hnan : (s.toList == [110, 97, 110]) = false) (h0 : 0 < s.size) (hc1 : (((s[0].toNat : Nat) : Int) == 45) = false) (hc2 : (((s[0].toNat : Nat) : Int) == 43) = false) (hz : s.data.toList.drop 0 = z) :
    Calls Tryd.prog 20 #[.string s] w fun e w' => e = .returned (.tuple #[.int .i64 (zN false z), .int .i64 (zE z)]) ∧ Stay w w' := by
  have hsz := Lib.size_eq s
  have hzl : z.length = s.size - 0 := by rw [← hz, List.length_drop, hsz]
  have he : (s.extract 0 s.size).toList = z := by rw [Lib.extract_toList, hz, List.take_of_length_le (by omega)]
  have he2 : s.toList = s.data.toList := Lib.toList_data s
  unfold zN zE
  by_cases hi : z = [105, 110, 102]
  · rw [if_pos hi, if_pos hi, ← end_scut2 false 18446744073709551616 (by decide)]
    exact rp_inf_n s 0 0 w hm hnan h0 hc1 hc2 (by rw [he, hi]; rfl) (by rw [he2, show s.data.toList = z by rw [← hz, List.drop_zero], hi]; rfl)
  rw [if_neg hi, if_neg hi]
  have hI : ((s.extract 0 s.size).toList == [105, 110, 102]) = false := by rw [he]; simpa using hi
  have hI2 : (s.toList == [105, 110, 102]) = false := by rw [he2, show s.data.toList = z by rw [← hz, List.drop_zero]]; simpa using hi
  have hd := fun w => rdig_any s 0 w (by omega) (by omega)
  rw [hz] at hd
  obtain ⟨s1, s2, s3, s4⟩ := scan_parts z
  have few : textOk z = false → (digC z < 1 ∨ 30 < digC z) → Calls Tryd.prog 20 #[.string s] w fun e w' => e = .returned (.tuple #[.int .i64 (if textOk z = true then readZ false (headL z) (tailL z) else 0), .int .i64 (if textOk z = true then 0 else 4)]) ∧ Stay w w' := by
    intro ht hb
    rw [ht]
    simp only [Bool.false_eq_true, if_false]
    rcases hb with hb | hb
    · exact rp_few_n s (digC z) 0 w hm hnan h0 hc1 hc2 hI hI2 hb hd
    · exact rp_many_n s (digC z) 0 w hm hnan h0 hc1 hc2 hI hI2 hb hd
  have hsl : (digC z) ≤ s.size → ∀ w, (Instr.slice 9 (.string s) (some (.int .i64 0)) (some (.int .i64 ((digC z) : Nat))) none).run Tryd.prog w = .ok (.string (s.extract 0 (digC z))) w := fun hq w => run_slice_n s 0 (digC z) .i64 w hq (by omega) 0 _ rfl rfl
  have hWl : (s.extract 0 (digC z)).data.toList = z.take (digC z) := by rw [ext_list, hz]; congr 1 <;> omega
  have hWs : (s.extract 0 (digC z)).size = digC z := by rw [Lib.size_eq, hWl, s2]
  rcases s4 with hR | ⟨c, F, hR, hcd⟩
  · obtain ⟨e1, e2, e3, e4⟩ := scan_end z hR
    by_cases hb : 1 ≤ digC z ∧ digC z ≤ 30
    · rw [if_pos (e3.mpr hb), if_pos (e3.mpr hb), e1, e2]
      have := rp_main_n0 s (s.extract 0 (digC z)) ⟨#[]⟩ (digC z) 0 (digC z) w hm hnan h0 hc1 hc2 hI hI2 hb.1 hb.2 hd (hsl (by omega)) (by omega) (by simp; omega) rfl (by decide) hWs (by show allDig _ = true; rw [hWl]; exact s1) rfl rfl
      rw [hWl, List.take_of_length_le (by omega)] at this
      exact this
    · exact few (by cases h : textOk z; rfl; exact absurd (e3.mp h) hb) (by omega)
  · have hRs : s.data.toList.drop (digC z) = c :: F := by rw [← hR, ← hz, List.drop_drop]; congr 1 <;> omega
    obtain ⟨hq, hsq, hF1⟩ := at_drop s (digC z) c F hRs
    by_cases h46 : c = 46
    · subst h46
      obtain ⟨e1, e2, e3, e4⟩ := scan_point z F hR
      by_cases hb : 1 ≤ digC z ∧ digC z ≤ 30
      · have hd2 := fun w => rdig_any s ((digC z) + 1) w (by omega) (by omega)
        rw [hF1] at hd2
        have hpt : (((s[(digC z)].toNat : Nat) : Int) == 46) = true := by rw [hsq]; rfl
        by_cases hc : 1 ≤ digC F ∧ digC F ≤ 30
        · have hfl : digC F ≤ F.length := (scan_parts F).2.2.1
          have hsl2 : ∀ w, (Instr.slice 9 (.string s) (some (.int .i64 ((((digC z) : Nat) : Int) + 1))) (some (.int .i64 ((((digC z) : Nat) : Int) + 1 + (digC F : Int)))) none).run Tryd.prog w = .ok (.string (s.extract ((digC z) + 1) ((digC z) + 1 + digC F))) w := fun w => run_slice_n s ((digC z) + 1) ((digC z) + 1 + digC F) .i64 w (by omega) (by omega) _ _ (by omega) (by omega)
          by_cases hl : digC F = F.length
          · have hok := e3.mpr ⟨hb, hc, hl⟩
            rw [if_pos hok, if_pos hok, e1, e2]
            have hFl : (s.extract ((digC z) + 1) ((digC z) + 1 + digC F)).data.toList = F := by rw [ext_list, hF1, List.take_of_length_le (by omega)]
            have := rp_main_n s (s.extract 0 (digC z)) (s.extract ((digC z) + 1) ((digC z) + 1 + digC F)) (digC z) (digC F) (digC z) w hm hnan h0 hc1 hc2 hI hI2 hb.1 hb.2 hd (hsl (by omega)) hd2 hq hpt hc.1 hc.2 (by simp; omega) hsl2 hWs (by show allDig _ = true; rw [hWl]; exact s1) (by rw [Lib.size_eq, hFl, hl]) (by show allDig _ = true; rw [hFl]; exact (dig_all F).mpr hl)
            rw [hWl, hFl] at this
            exact this
          · have hbad : textOk z = false := by cases h : textOk z; rfl; exact absurd (e3.mp h).2.2 hl
            rw [hbad]
            simp only [Bool.false_eq_true, if_false]
            exact rp_short_n (s.extract ((digC z) + 1) ((digC z) + 1 + digC F)) s (s.extract 0 (digC z)) (digC z) (digC F) (digC z) w hm hnan h0 hc1 hc2 hI hI2 hb.1 hb.2 hd (hsl (by omega)) hd2 hq hpt hc.1 hc.2 (by simp; omega) hsl2
        · have hbad : textOk z = false := by cases h : textOk z; rfl; exact absurd (e3.mp h).2.1 hc
          rw [hbad]
          simp only [Bool.false_eq_true, if_false]
          by_cases hf : digC F < 1
          · exact rp_mfew_n s (s.extract 0 (digC z)) (digC z) (digC F) (digC z) w hm hnan h0 hc1 hc2 hI hI2 hb.1 hb.2 hd (hsl (by omega)) hd2 hq hpt hf
          · exact rp_mmany_n s (s.extract 0 (digC z)) (digC z) (digC F) (digC z) w hm hnan h0 hc1 hc2 hI hI2 hb.1 hb.2 hd (hsl (by omega)) hd2 hq hpt (by omega)
      · exact few (by cases h : textOk z; rfl; exact absurd (e3.mp h).1 hb) (by omega)
    · have hbad := scan_other z F c hR hcd h46
      by_cases hb : 1 ≤ digC z ∧ digC z ≤ 30
      · rw [hbad]
        simp only [Bool.false_eq_true, if_false]
        have hpt : (((s[(digC z)].toNat : Nat) : Int) == 46) = false := by
          rw [hsq]
          simp only [beq_eq_false_iff_ne]
          intro k
          exact h46 (UInt8.toNat_inj.mp (by have h9 : c.toNat = 46 := (by omega); rw [h9]; rfl))
        exact rp_other_n s (s.extract 0 (digC z)) (digC z) 0 (digC z) w hm hnan h0 hc1 hc2 hI hI2 hb.1 hb.2 hd (hsl (by omega)) hq hpt (by simp; omega)
      · exact few hbad (by omega)

theorem rparse_m (s : ByteArray) (z : List UInt8) (w : World) (hm : s.size ≤ 1000) (hnan : (s.toList == [110, 97, 110]) = false) (h0 : 0 < s.size) (hc1 : (((s[0].toNat : Nat) : Int) == 45) = true) (hz : s.data.toList.drop 1 = z) :
    Calls Tryd.prog 20 #[.string s] w fun e w' => e = .returned (.tuple #[.int .i64 (zN true z), .int .i64 (zE z)]) ∧ Stay w w' := by
  have hsz := Lib.size_eq s
  have hzl : z.length = s.size - 1 := by rw [← hz, List.length_drop, hsz]
  have he : (s.extract 1 s.size).toList = z := by rw [Lib.extract_toList, hz, List.take_of_length_le (by omega)]
  have he2 : s.toList = s.data.toList := Lib.toList_data s
  unfold zN zE
  by_cases hi : z = [105, 110, 102]
  · rw [if_pos hi, if_pos hi, ← end_scut2 true 18446744073709551616 (by decide)]
    exact rp_inf_m s 0 0 w hm hnan h0 hc1 (by rw [he, hi]; rfl)
  rw [if_neg hi, if_neg hi]
  have hI : ((s.extract 1 s.size).toList == [105, 110, 102]) = false := by rw [he]; simpa using hi

  have hd := fun w => rdig_any s 1 w (by omega) (by omega)
  rw [hz] at hd
  obtain ⟨s1, s2, s3, s4⟩ := scan_parts z
  have few : textOk z = false → (digC z < 1 ∨ 30 < digC z) → Calls Tryd.prog 20 #[.string s] w fun e w' => e = .returned (.tuple #[.int .i64 (if textOk z = true then readZ true (headL z) (tailL z) else 0), .int .i64 (if textOk z = true then 0 else 4)]) ∧ Stay w w' := by
    intro ht hb
    rw [ht]
    simp only [Bool.false_eq_true, if_false]
    rcases hb with hb | hb
    · exact rp_few_m s (digC z) 0 w hm hnan h0 hc1 hI hb hd
    · exact rp_many_m s (digC z) 0 w hm hnan h0 hc1 hI hb hd
  have hsl : (1 + digC z) ≤ s.size → ∀ w, (Instr.slice 9 (.string s) (some (.int .i64 1)) (some (.int .i64 ((1 + digC z) : Nat))) none).run Tryd.prog w = .ok (.string (s.extract 1 (1 + digC z))) w := fun hq w => run_slice_n s 1 (1 + digC z) .i64 w hq (by omega) 1 _ rfl rfl
  have hWl : (s.extract 1 (1 + digC z)).data.toList = z.take (digC z) := by rw [ext_list, hz]; congr 1 <;> omega
  have hWs : (s.extract 1 (1 + digC z)).size = digC z := by rw [Lib.size_eq, hWl, s2]
  rcases s4 with hR | ⟨c, F, hR, hcd⟩
  · obtain ⟨e1, e2, e3, e4⟩ := scan_end z hR
    by_cases hb : 1 ≤ digC z ∧ digC z ≤ 30
    · rw [if_pos (e3.mpr hb), if_pos (e3.mpr hb), e1, e2]
      have := rp_main_m0 s (s.extract 1 (1 + digC z)) ⟨#[]⟩ (digC z) 0 (1 + digC z) w hm hnan h0 hc1 hI hb.1 hb.2 (by omega) hd (hsl (by omega)) (by omega) (by simp; omega) rfl (by decide) hWs (by show allDig _ = true; rw [hWl]; exact s1) rfl rfl
      rw [hWl, List.take_of_length_le (by omega)] at this
      exact this
    · exact few (by cases h : textOk z; rfl; exact absurd (e3.mp h) hb) (by omega)
  · have hRs : s.data.toList.drop (1 + digC z) = c :: F := by rw [← hR, ← hz, List.drop_drop]
    obtain ⟨hq, hsq, hF1⟩ := at_drop s (1 + digC z) c F hRs
    by_cases h46 : c = 46
    · subst h46
      obtain ⟨e1, e2, e3, e4⟩ := scan_point z F hR
      by_cases hb : 1 ≤ digC z ∧ digC z ≤ 30
      · have hd2 := fun w => rdig_any s ((1 + digC z) + 1) w (by omega) (by omega)
        rw [hF1] at hd2
        have hpt : (((s[(1 + digC z)].toNat : Nat) : Int) == 46) = true := by rw [hsq]; rfl
        by_cases hc : 1 ≤ digC F ∧ digC F ≤ 30
        · have hfl : digC F ≤ F.length := (scan_parts F).2.2.1
          have hsl2 : ∀ w, (Instr.slice 9 (.string s) (some (.int .i64 ((((1 + digC z) : Nat) : Int) + 1))) (some (.int .i64 ((((1 + digC z) : Nat) : Int) + 1 + (digC F : Int)))) none).run Tryd.prog w = .ok (.string (s.extract ((1 + digC z) + 1) ((1 + digC z) + 1 + digC F))) w := fun w => run_slice_n s ((1 + digC z) + 1) ((1 + digC z) + 1 + digC F) .i64 w (by omega) (by omega) _ _ (by omega) (by omega)
          by_cases hl : digC F = F.length
          · have hok := e3.mpr ⟨hb, hc, hl⟩
            rw [if_pos hok, if_pos hok, e1, e2]
            have hFl : (s.extract ((1 + digC z) + 1) ((1 + digC z) + 1 + digC F)).data.toList = F := by rw [ext_list, hF1, List.take_of_length_le (by omega)]
            have := rp_main_m s (s.extract 1 (1 + digC z)) (s.extract ((1 + digC z) + 1) ((1 + digC z) + 1 + digC F)) (digC z) (digC F) (1 + digC z) w hm hnan h0 hc1 hI hb.1 hb.2 (by omega) hd (hsl (by omega)) hd2 hq hpt hc.1 hc.2 (by simp; omega) hsl2 hWs (by show allDig _ = true; rw [hWl]; exact s1) (by rw [Lib.size_eq, hFl, hl]) (by show allDig _ = true; rw [hFl]; exact (dig_all F).mpr hl)
            rw [hWl, hFl] at this
            exact this
          · have hbad : textOk z = false := by cases h : textOk z; rfl; exact absurd (e3.mp h).2.2 hl
            rw [hbad]
            simp only [Bool.false_eq_true, if_false]
            exact rp_short_m (s.extract ((1 + digC z) + 1) ((1 + digC z) + 1 + digC F)) s (s.extract 1 (1 + digC z)) (digC z) (digC F) (1 + digC z) w hm hnan h0 hc1 hI hb.1 hb.2 (by omega) hd (hsl (by omega)) hd2 hq hpt hc.1 hc.2 (by simp; omega) hsl2
        · have hbad : textOk z = false := by cases h : textOk z; rfl; exact absurd (e3.mp h).2.1 hc
          rw [hbad]
          simp only [Bool.false_eq_true, if_false]
          by_cases hf : digC F < 1
          · exact rp_mfew_m s (s.extract 1 (1 + digC z)) (digC z) (digC F) (1 + digC z) w hm hnan h0 hc1 hI hb.1 hb.2 (by omega) hd (hsl (by omega)) hd2 hq hpt hf
          · exact rp_mmany_m s (s.extract 1 (1 + digC z)) (digC z) (digC F) (1 + digC z) w hm hnan h0 hc1 hI hb.1 hb.2 (by omega) hd (hsl (by omega)) hd2 hq hpt (by omega)
      · exact few (by cases h : textOk z; rfl; exact absurd (e3.mp h).1 hb) (by omega)
    · have hbad := scan_other z F c hR hcd h46
      by_cases hb : 1 ≤ digC z ∧ digC z ≤ 30
      · rw [hbad]
        simp only [Bool.false_eq_true, if_false]
        have hpt : (((s[(1 + digC z)].toNat : Nat) : Int) == 46) = false := by
          rw [hsq]
          simp only [beq_eq_false_iff_ne]
          intro k
          exact h46 (UInt8.toNat_inj.mp (by have h9 : c.toNat = 46 := (by omega); rw [h9]; rfl))
        exact rp_other_m s (s.extract 1 (1 + digC z)) (digC z) 0 (1 + digC z) w hm hnan h0 hc1 hI hb.1 hb.2 (by omega) hd (hsl (by omega)) hq hpt (by simp; omega)
      · exact few hbad (by omega)

theorem rparse_p (s : ByteArray) (z : List UInt8) (w : World) (hm : s.size ≤ 1000) (hnan : (s.toList == [110, 97, 110]) = false) (h0 : 0 < s.size) (hc1 : (((s[0].toNat : Nat) : Int) == 45) = false) (hc2 : (((s[0].toNat : Nat) : Int) == 43) = true) (hz : s.data.toList.drop 1 = z) :
    Calls Tryd.prog 20 #[.string s] w fun e w' => e = .returned (.tuple #[.int .i64 (zN false z), .int .i64 (zE z)]) ∧ Stay w w' := by
  have hsz := Lib.size_eq s
  have hzl : z.length = s.size - 1 := by rw [← hz, List.length_drop, hsz]
  have he : (s.extract 1 s.size).toList = z := by rw [Lib.extract_toList, hz, List.take_of_length_le (by omega)]
  have he2 : s.toList = s.data.toList := Lib.toList_data s
  unfold zN zE
  by_cases hi : z = [105, 110, 102]
  · rw [if_pos hi, if_pos hi, ← end_scut2 false 18446744073709551616 (by decide)]
    exact rp_inf_p s 0 0 w hm hnan h0 hc1 hc2 (by rw [he, hi]; rfl)
  rw [if_neg hi, if_neg hi]
  have hI : ((s.extract 1 s.size).toList == [105, 110, 102]) = false := by rw [he]; simpa using hi

  have hd := fun w => rdig_any s 1 w (by omega) (by omega)
  rw [hz] at hd
  obtain ⟨s1, s2, s3, s4⟩ := scan_parts z
  have few : textOk z = false → (digC z < 1 ∨ 30 < digC z) → Calls Tryd.prog 20 #[.string s] w fun e w' => e = .returned (.tuple #[.int .i64 (if textOk z = true then readZ false (headL z) (tailL z) else 0), .int .i64 (if textOk z = true then 0 else 4)]) ∧ Stay w w' := by
    intro ht hb
    rw [ht]
    simp only [Bool.false_eq_true, if_false]
    rcases hb with hb | hb
    · exact rp_few_p s (digC z) 0 w hm hnan h0 hc1 hc2 hI hb hd
    · exact rp_many_p s (digC z) 0 w hm hnan h0 hc1 hc2 hI hb hd
  have hsl : (1 + digC z) ≤ s.size → ∀ w, (Instr.slice 9 (.string s) (some (.int .i64 1)) (some (.int .i64 ((1 + digC z) : Nat))) none).run Tryd.prog w = .ok (.string (s.extract 1 (1 + digC z))) w := fun hq w => run_slice_n s 1 (1 + digC z) .i64 w hq (by omega) 1 _ rfl rfl
  have hWl : (s.extract 1 (1 + digC z)).data.toList = z.take (digC z) := by rw [ext_list, hz]; congr 1 <;> omega
  have hWs : (s.extract 1 (1 + digC z)).size = digC z := by rw [Lib.size_eq, hWl, s2]
  rcases s4 with hR | ⟨c, F, hR, hcd⟩
  · obtain ⟨e1, e2, e3, e4⟩ := scan_end z hR
    by_cases hb : 1 ≤ digC z ∧ digC z ≤ 30
    · rw [if_pos (e3.mpr hb), if_pos (e3.mpr hb), e1, e2]
      have := rp_main_p0 s (s.extract 1 (1 + digC z)) ⟨#[]⟩ (digC z) 0 (1 + digC z) w hm hnan h0 hc1 hc2 hI hb.1 hb.2 (by omega) hd (hsl (by omega)) (by omega) (by simp; omega) rfl (by decide) hWs (by show allDig _ = true; rw [hWl]; exact s1) rfl rfl
      rw [hWl, List.take_of_length_le (by omega)] at this
      exact this
    · exact few (by cases h : textOk z; rfl; exact absurd (e3.mp h) hb) (by omega)
  · have hRs : s.data.toList.drop (1 + digC z) = c :: F := by rw [← hR, ← hz, List.drop_drop]
    obtain ⟨hq, hsq, hF1⟩ := at_drop s (1 + digC z) c F hRs
    by_cases h46 : c = 46
    · subst h46
      obtain ⟨e1, e2, e3, e4⟩ := scan_point z F hR
      by_cases hb : 1 ≤ digC z ∧ digC z ≤ 30
      · have hd2 := fun w => rdig_any s ((1 + digC z) + 1) w (by omega) (by omega)
        rw [hF1] at hd2
        have hpt : (((s[(1 + digC z)].toNat : Nat) : Int) == 46) = true := by rw [hsq]; rfl
        by_cases hc : 1 ≤ digC F ∧ digC F ≤ 30
        · have hfl : digC F ≤ F.length := (scan_parts F).2.2.1
          have hsl2 : ∀ w, (Instr.slice 9 (.string s) (some (.int .i64 ((((1 + digC z) : Nat) : Int) + 1))) (some (.int .i64 ((((1 + digC z) : Nat) : Int) + 1 + (digC F : Int)))) none).run Tryd.prog w = .ok (.string (s.extract ((1 + digC z) + 1) ((1 + digC z) + 1 + digC F))) w := fun w => run_slice_n s ((1 + digC z) + 1) ((1 + digC z) + 1 + digC F) .i64 w (by omega) (by omega) _ _ (by omega) (by omega)
          by_cases hl : digC F = F.length
          · have hok := e3.mpr ⟨hb, hc, hl⟩
            rw [if_pos hok, if_pos hok, e1, e2]
            have hFl : (s.extract ((1 + digC z) + 1) ((1 + digC z) + 1 + digC F)).data.toList = F := by rw [ext_list, hF1, List.take_of_length_le (by omega)]
            have := rp_main_p s (s.extract 1 (1 + digC z)) (s.extract ((1 + digC z) + 1) ((1 + digC z) + 1 + digC F)) (digC z) (digC F) (1 + digC z) w hm hnan h0 hc1 hc2 hI hb.1 hb.2 (by omega) hd (hsl (by omega)) hd2 hq hpt hc.1 hc.2 (by simp; omega) hsl2 hWs (by show allDig _ = true; rw [hWl]; exact s1) (by rw [Lib.size_eq, hFl, hl]) (by show allDig _ = true; rw [hFl]; exact (dig_all F).mpr hl)
            rw [hWl, hFl] at this
            exact this
          · have hbad : textOk z = false := by cases h : textOk z; rfl; exact absurd (e3.mp h).2.2 hl
            rw [hbad]
            simp only [Bool.false_eq_true, if_false]
            exact rp_short_p (s.extract ((1 + digC z) + 1) ((1 + digC z) + 1 + digC F)) s (s.extract 1 (1 + digC z)) (digC z) (digC F) (1 + digC z) w hm hnan h0 hc1 hc2 hI hb.1 hb.2 (by omega) hd (hsl (by omega)) hd2 hq hpt hc.1 hc.2 (by simp; omega) hsl2
        · have hbad : textOk z = false := by cases h : textOk z; rfl; exact absurd (e3.mp h).2.1 hc
          rw [hbad]
          simp only [Bool.false_eq_true, if_false]
          by_cases hf : digC F < 1
          · exact rp_mfew_p s (s.extract 1 (1 + digC z)) (digC z) (digC F) (1 + digC z) w hm hnan h0 hc1 hc2 hI hb.1 hb.2 (by omega) hd (hsl (by omega)) hd2 hq hpt hf
          · exact rp_mmany_p s (s.extract 1 (1 + digC z)) (digC z) (digC F) (1 + digC z) w hm hnan h0 hc1 hc2 hI hb.1 hb.2 (by omega) hd (hsl (by omega)) hd2 hq hpt (by omega)
      · exact few (by cases h : textOk z; rfl; exact absurd (e3.mp h).1 hb) (by omega)
    · have hbad := scan_other z F c hR hcd h46
      by_cases hb : 1 ≤ digC z ∧ digC z ≤ 30
      · rw [hbad]
        simp only [Bool.false_eq_true, if_false]
        have hpt : (((s[(1 + digC z)].toNat : Nat) : Int) == 46) = false := by
          rw [hsq]
          simp only [beq_eq_false_iff_ne]
          intro k
          exact h46 (UInt8.toNat_inj.mp (by have h9 : c.toNat = 46 := (by omega); rw [h9]; rfl))
        exact rp_other_p s (s.extract 1 (1 + digC z)) (digC z) 0 (1 + digC z) w hm hnan h0 hc1 hc2 hI hb.1 hb.2 (by omega) hd (hsl (by omega)) hq hpt (by simp; omega)
      · exact few hbad (by omega)

theorem rparse_any (s : ByteArray) (w : World) (hm : s.size ≤ 1000) :
    Calls Tryd.prog 20 #[.string s] w fun e w' => e = .returned (.tuple #[.int .i64 (parseN s.data.toList), .int .i64 (parseE s.data.toList)]) ∧ Stay w w' := by
  have he2 : s.toList = s.data.toList := Lib.toList_data s
  unfold parseN parseE
  by_cases hn : s.data.toList = [110, 97, 110]
  · rw [if_pos hn, if_pos hn]
    exact rp_nan s 0 0 w hm (by rw [he2, hn]; rfl)
  rw [if_neg hn, if_neg hn]
  have hnan : (s.toList == [110, 97, 110]) = false := by rw [he2]; simpa using hn
  cases hl : s.data.toList with
  | nil =>
    have hs0 : s.size = 0 := by rw [Lib.size_eq, hl]; rfl
    have hd := fun w => rdig_any s 0 w (by omega) (by omega)
    rw [List.drop_zero, hl] at hd
    have hee : (s.extract 0 s.size).toList = [] := by rw [Lib.extract_toList, hl]; simp
    exact rp_few_e s 0 0 w hm hnan hs0 (by rw [hee]; rfl) (by rw [he2, hl]; rfl) (by decide) hd
  | cons c t =>
    have h0 : 0 < s.size := by rw [Lib.size_eq, hl]; simp
    have hc : s[0] = c := by
      have := drop_more s 0 h0
      rw [List.drop_zero, hl] at this
      injection this with a b
      exact a.symm
    by_cases c1 : c = 45
    · subst c1
      have := rparse_m s t w hm hnan h0 (by rw [hc]; rfl) (by rw [hl]; rfl)
      exact this
    · have k1 : (((s[0].toNat : Nat) : Int) == 45) = false := by
        rw [hc]
        simp only [beq_eq_false_iff_ne]
        intro k
        exact c1 (UInt8.toNat_inj.mp (by have h9 : c.toNat = 45 := (by omega); rw [h9]; rfl))
      by_cases c2 : c = 43
      · subst c2
        have := rparse_p s t w hm hnan h0 k1 (by rw [hc]; rfl) (by rw [hl]; rfl)
        exact this
      · have k2 : (((s[0].toNat : Nat) : Int) == 43) = false := by
          rw [hc]
          simp only [beq_eq_false_iff_ne]
          intro k
          exact c2 (UInt8.toNat_inj.mp (by have h9 : c.toNat = 43 := (by omega); rw [h9]; rfl))
        have := rparse_n s (c :: t) w hm hnan h0 k1 k2 (by rw [hl]; rfl)
        have e1 : sizeL (c :: t) = c :: t := by simp [sizeL, c1, c2]
        have e2 : negL (c :: t) = false := by simp [negL, c1]
        rw [e1, e2]
        exact this

theorem lparse_any (s : ByteArray) (w : World) :
    Calls Tryd.prog 7 #[.string s] w fun e w' => e = .returned (.bool true) ∧ Stay w w' := by
  by_cases hs : s.size ≤ 1000
  · have c1 := fun w => parse_any s w (by omega)
    have c2 := fun w => rparse_any s w hs
    generalize parseN s.data.toList = p at *
    generalize parseE s.data.toList = q at *
    go_enter Tryd.func7, Tryd.ntmps7
    go_wp2_with (first | (go_at_call 9; refine (alive_any _).mono ?_; rintro e w1 ⟨rfl, hg⟩) | (go_at_call 19; refine (c1 _).mono ?_; rintro e w2 ⟨rfl, hg2⟩) | (go_at_call 20; refine (c2 _).mono ?_; rintro e w3 ⟨rfl, hg3⟩) | (go_at_call 13; refine (num_any _ _).mono ?_; rintro e w' ⟨rfl, rfl⟩))
    go_ret
    exact ⟨rfl, Stay.trans (Stay.trans hg hg2) hg3⟩
  · have hs' : 1000 < s.size := by omega
    go_enter Tryd.func7, Tryd.ntmps7
    go_wp2_with (go_at_call 9; refine (alive_any _).mono ?_; rintro e w1 ⟨rfl, hg⟩)
    go_ret
    exact ⟨rfl, hg⟩
end Go.Proofs.YtcpgamhekelamaaDoor
