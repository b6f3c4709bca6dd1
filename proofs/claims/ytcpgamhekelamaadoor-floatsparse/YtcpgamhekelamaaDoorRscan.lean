/-
  What the document's own answer counts as digits of a text; and how that meets the parts before and behind the point.
-/
import Derived.Test.YtcpgamhekelamaaDoorFref
import Derived.Test.YtcpgamhekelamaaDoorFplain
namespace Go.Proofs.YtcpgamhekelamaaDoor
open Go.RowKit
set_option linter.unusedVariables false

def digC (l : List UInt8) : Nat := (l.takeWhile isDig).length
theorem digC_len (l : List UInt8) (k : Nat) (h : allDig (l.take k) = true) (hk : k ≤ l.length) (hn : k = l.length ∨ ∃ c, l[k]? = some c ∧ isDig c = false) : digC l = k := by
  unfold digC
  induction k generalizing l with
  | zero =>
    cases l with
    | nil => rfl
    | cons c l =>
      rcases hn with hn | ⟨d, h1, h2⟩
      · simp at hn
      · simp at h1; subst h1; rw [List.takeWhile_cons, h2]; rfl
  | succ k ih =>
    cases l with
    | nil => simp at hk
    | cons c l =>
      unfold allDig at h
      rw [List.take_succ_cons, List.all_cons, Bool.and_eq_true] at h
      rw [List.takeWhile_cons, h.1]
      simp only [if_true, List.length_cons]
      rw [ih l h.2 (by simpa using hk) (by
        rcases hn with hn | ⟨d, h1, h2⟩
        · left; simpa using hn
        · right; exact ⟨d, by simpa using h1, h2⟩)]

theorem rdig_any (s : ByteArray) (a : Nat) (w : World) (h : a ≤ s.size) (hm : s.size ≤ 2000) :
    Calls Tryd.prog 34 #[.string s, .int .i64 (a : Int)] w fun e w' => e = .returned (.int .i64 (digC (s.data.toList.drop a) : Nat)) ∧ w' = w := by
  have hlen : Hid (s.size = s.data.toList.length) := Lib.size_eq s
  go_enter Tryd.func34, Tryd.ntmps34
  go_wp2
  go_loop [5] (fun n => ∃ k : Nat, a + k ≤ s.size ∧ n = .int .i64 (k : Int) ∧ allDig ((s.data.toList.drop a).take k) = true) (fun n => (s.size - intOf n).toNat)
  case atStart => exact ⟨0, by omega, rfl, rfl⟩
  case round =>
    obtain ⟨k, k1, rfl, hok⟩ := hrel
    have HK : Hid (allDig ((s.data.toList.drop a).take k) = true) := hok
    clear hok
    obtain ⟨p, hp⟩ : ∃ p, p = a + k := ⟨_, rfl⟩
    have hi : ((a : Int) + (k : Int)) = (p : Int) := by omega
    by_cases hk : p < s.size
    · have hg : Hid ((s.data.toList.drop a)[k]? = some s[p]) := by
        show _ = _
        rw [List.getElem?_drop, ← hp]
        have h' : p < s.data.toList.length := by rw [← hlen.out]; exact hk
        rw [List.getElem?_eq_getElem h']
        rfl
      have HP : Hid (p = a + k) := hp
      have kp : k < s.size := by omega
      clear hp
      by_cases c0 : 48 ≤ s[p].toNat
      · by_cases c1 : s[p].toNat ≤ 57
        · go_wp2
          go_round
          case rel => exact ⟨k + 1, by have := HP.out; omega, by go_num, by
            have := HK.out
            rw [List.take_add_one, hg.out]
            unfold allDig at *
            rw [List.all_append, this]
            simp [isDig, c0, c1]⟩
          case measure => simp [intOf]; omega
        · have hb : Hid (digC (s.data.toList.drop a) = k) := digC_len _ k HK.out (by have := HP.out; rw [List.length_drop, ← hlen.out]; omega) (Or.inr ⟨_, hg.out, by simp [isDig, c1]⟩)
          go_wp2
          go_ret
          exact ⟨by rw [hb.out]; rfl, rfl⟩
      · have hb : Hid (digC (s.data.toList.drop a) = k) := digC_len _ k HK.out (by have := HP.out; rw [List.length_drop, ← hlen.out]; omega) (Or.inr ⟨_, hg.out, by simp [isDig, c0]⟩)
        go_wp2
        go_ret
        exact ⟨by rw [hb.out]; rfl, rfl⟩
    · have hb : Hid (digC (s.data.toList.drop a) = k) := digC_len _ k HK.out (by rw [List.length_drop, ← hlen.out]; omega) (Or.inl (by rw [List.length_drop, ← hlen.out]; omega))
      clear hp
      go_wp2
      go_ret
      exact ⟨by rw [hb.out]; rfl, rfl⟩

theorem scan_parts (z : List UInt8) : allDig (z.take (digC z)) = true ∧ (z.take (digC z)).length = digC z ∧ digC z ≤ z.length ∧ (z.drop (digC z) = [] ∨ ∃ c F, z.drop (digC z) = c :: F ∧ isDig c = false) := by
  unfold digC
  induction z with
  | nil => simp [allDig]
  | cons c z ih =>
    obtain ⟨i1, i2, i3, i4⟩ := ih
    by_cases h : isDig c = true
    · rw [List.takeWhile_cons, h]
      simp only [if_true, List.length_cons, List.take_succ_cons, List.drop_succ_cons]
      refine ⟨?_, by omega, by omega, i4⟩
      unfold allDig at *
      rw [List.all_cons, i1, h]; rfl
    · have h' : isDig c = false := by simpa using h
      rw [List.takeWhile_cons, h']
      simp only [Bool.false_eq_true, if_false, List.length_nil, List.take_zero, List.drop_zero]
      exact ⟨rfl, trivial, Nat.zero_le _, Or.inr ⟨c, z, rfl, h'⟩⟩
theorem dig_all (F : List UInt8) : allDig F = true ↔ digC F = F.length := by
  obtain ⟨s1, s2, s3, s4⟩ := scan_parts F
  constructor
  · intro h
    exact digC_len F F.length (by rw [List.take_length]; exact h) (Nat.le_refl _) (Or.inl rfl)
  · intro h
    rw [h, List.take_length] at s1
    exact s1
theorem dec_iff (D : List UInt8) : decOk D = true ↔ allDig D = true ∧ 1 ≤ D.length ∧ D.length ≤ 30 := by
  constructor
  · exact dec_parts
  · rintro ⟨h1, h2, h3⟩
    unfold decOk
    rw [h1]
    simp
    omega

theorem scan_end (z : List UInt8) (h : z.drop (digC z) = []) : headL z = z ∧ tailL z = [] ∧ (textOk z = true ↔ 1 ≤ digC z ∧ digC z ≤ 30) ∧ z.length = digC z := by
  obtain ⟨s1, s2, s3, s4⟩ := scan_parts z
  have e : z.length = digC z := by have := congrArg List.length h; rw [List.length_drop] at this; simp at this; omega
  have ez : z.take (digC z) = z := List.take_of_length_le (by omega)
  rw [ez] at s1
  obtain ⟨t1, t2, t3⟩ := take_none z (all_ne s1)
  have e1 : headL z = z := t1
  have e2 : tailL z = [] := by unfold tailL; rw [t2]; rfl
  refine ⟨e1, e2, ?_, e⟩
  unfold textOk pointL
  rw [e1, t3]
  simp only [Bool.not_false, Bool.true_or, Bool.and_true]
  rw [dec_iff, e]
  exact ⟨fun h => h.2, fun h => ⟨s1, h⟩⟩
theorem scan_point (z F : List UInt8) (h : z.drop (digC z) = 46 :: F) : headL z = z.take (digC z) ∧ tailL z = F ∧ (textOk z = true ↔ (1 ≤ digC z ∧ digC z ≤ 30) ∧ (1 ≤ digC F ∧ digC F ≤ 30) ∧ digC F = F.length) ∧ z.length = digC z + 1 + F.length := by
  obtain ⟨s1, s2, s3, s4⟩ := scan_parts z
  have ez : z = z.take (digC z) ++ 46 :: F := by rw [← h, List.take_append_drop]
  have e : z.length = digC z + 1 + F.length := by have := congrArg List.length h; rw [List.length_drop, List.length_cons] at this; omega
  obtain ⟨t1, t2⟩ := take_point (z.take (digC z)) F (all_ne s1)
  rw [← ez] at t1 t2
  have e1 : headL z = z.take (digC z) := t1
  have e2 : tailL z = F := by unfold tailL; rw [t2]; rfl
  have e3 : pointL z = true := by unfold pointL; rw [ez]; simp
  refine ⟨e1, e2, ?_, e⟩
  unfold textOk
  rw [e1, e2, e3]
  simp only [Bool.not_true, Bool.false_or, Bool.and_eq_true]
  rw [dec_iff, dec_iff, s2]
  constructor
  · rintro ⟨⟨_, a, b⟩, c, d, e⟩
    have c' := (dig_all F).mp c
    exact ⟨⟨a, b⟩, by omega, c'⟩
  · rintro ⟨⟨a, b⟩, ⟨c, d⟩, e⟩
    exact ⟨⟨s1, a, b⟩, (dig_all F).mpr e, by omega, by omega⟩
theorem scan_other (z F : List UInt8) (c : UInt8) (h : z.drop (digC z) = c :: F) (hc : isDig c = false) (h46 : c ≠ 46) : textOk z = false := by
  obtain ⟨s1, s2, s3, s4⟩ := scan_parts z
  have ez : z = z.take (digC z) ++ c :: F := by rw [← h, List.take_append_drop]
  have hin : c ∈ headL z := by
    unfold headL
    rw [ez, List.takeWhile_append_of_pos (by simpa using all_ne s1), List.takeWhile_cons]
    have : (c != 46) = true := by simpa using h46
    rw [this]
    simp
  have : allDig (headL z) = false := by
    unfold allDig
    rw [List.all_eq_false]
    exact ⟨c, hin, by simp [hc]⟩
  unfold textOk decOk
  rw [this]
  simp
end Go.Proofs.YtcpgamhekelamaaDoor
