/-
  What package floats makes of the parts of a decimal text: its sign, its digits, the fraction scaled, the number read.
-/
import Derived.Test.YtcpgamhekelamaaDoorFtext
namespace Go.Proofs.YtcpgamhekelamaaDoor
open Go.RowKit
set_option linter.unusedVariables false

theorem dig_at (s : ByteArray) (k : Nat) (h : k < s.size) (hd : allDig s.data.toList = true) : isDig s[k] = true := by
  have h' : k < s.data.toList.length := by rw [← Lib.size_eq]; exact h
  have := List.all_eq_true.mp hd (s.data.toList[k]) (List.getElem_mem h')
  exact this
theorem dig_num {c : UInt8} (h : isDig c = true) : 48 ≤ c.toNat ∧ c.toNat ≤ 57 := by unfold isDig at h; simp at h; exact h
theorem drop_more (s : ByteArray) (k : Nat) (h : k < s.size) : s.data.toList.drop k = s[k] :: s.data.toList.drop (k + 1) := by
  have h' : k < s.data.toList.length := by rw [← Lib.size_eq]; exact h
  rw [List.drop_eq_getElem_cons h']
  rfl
theorem all_drop {l : List UInt8} (h : allDig l = true) (k : Nat) : allDig (l.drop k) = true := by
  unfold allDig at *
  rw [List.all_eq_true] at *
  exact fun x hx => h x (List.mem_of_mem_drop hx)
theorem all_take {l : List UInt8} (h : allDig l = true) (k : Nat) : allDig (l.take k) = true := by
  unfold allDig at *
  rw [List.all_eq_true] at *
  exact fun x hx => h x (List.mem_of_mem_take hx)

theorem scale_any (s : ByteArray) (w : World) (h : s.size ≤ 30) (hd : allDig s.data.toList = true) :
    Calls Tryd.prog 47 #[.string s] w fun e w' => e = .returned (.tuple #[.int .i64 (partL s.data.toList), .bool (leftL s.data.toList)]) ∧ w' = w := by
  go_enter Tryd.func47, Tryd.ntmps47
  go_wp2
  go_loop [2, 3, 9] (fun p l i => ∃ (k : Nat), k ≤ s.size ∧ i = .int .i64 k ∧ p = .int .i64 (partL (s.data.toList.drop (s.size - k))) ∧ l = .bool (leftL (s.data.toList.drop (s.size - k)))) (fun _ _ i => (s.size - intOf i).toNat)
  case atStart => exact ⟨0, by omega, rfl, by rw [Nat.sub_zero, List.drop_of_length_le (by rw [← Lib.size_eq]; omega)]; rfl, by rw [Nat.sub_zero, List.drop_of_length_le (by rw [← Lib.size_eq]; omega)]; rfl⟩
  case round =>
    obtain ⟨k, k1, rfl, rfl, rfl⟩ := hrel
    obtain ⟨x0, x1⟩ := part_bd (all_drop hd (s.size - k))
    by_cases hk : k < s.size
    · have hi : (s.size : Int) - 1 - k = ((s.size - 1 - k : Nat) : Int) := by omega
      have hl : s.size - 1 - k < s.size := by omega
      obtain ⟨c0, c1⟩ := dig_num (dig_at s _ hl hd)
      have em : s.data.toList.drop (s.size - (k + 1)) = s[s.size - 1 - k] :: s.data.toList.drop (s.size - k) := by
        have e := drop_more s (s.size - 1 - k) hl
        rw [show s.size - 1 - k + 1 = s.size - k by omega] at e
        rw [← e]
        congr 1
        omega
      obtain ⟨s1, s2⟩ := scale_step s[s.size - 1 - k] (s.data.toList.drop (s.size - k)) _ rfl
      rw [← em] at s1 s2
      unfold digV at s1 s2
      have S1 : Hid _ := s1
      have S2 : Hid _ := s2
      clear s1 s2 em
      generalize partL (s.data.toList.drop (s.size - k)) = x at *
      generalize leftL (s.data.toList.drop (s.size - k)) = b at *
      cases b
      · go_wp2
        go_round
        case rel => exact ⟨k + 1, by omega, by go_num, by rw [← S1.out], by rw [← S2.out]; rfl⟩
        case measure => simp [intOf]; omega
      · go_wp2
        go_round
        case rel => exact ⟨k + 1, by omega, by go_num, by rw [← S1.out], by rw [← S2.out]; rfl⟩
        case measure => simp [intOf]; omega
    · have hk' : k = s.size := by omega
      rw [show s.size - k = 0 by omega, List.drop_zero]
      subst hk'
      go_wp2
      exact bodyPost_ret (v := .tuple #[.int .i64 (partL s.data.toList), .bool (leftL s.data.toList)]) (by simp [results, Tryd.results47, go_sem]) rfl ⟨rfl, rfl⟩

theorem read_loop (neg : Bool) (s t : ByteArray) (w : World) (z p : Int) (l : Bool) (hs : s.size ≤ 30) (hd : allDig s.data.toList = true) (p0 : 0 ≤ p) (p1 : p < 4294967296)
    (hN : numL s.data.toList < 2147483648 → z = downZ neg (numL s.data.toList * 4294967296 + p) l) (hE : 2147483648 ≤ numL s.data.toList → z = endZ neg)
    (hc : ∀ w, Calls Tryd.prog 47 #[.string t] w fun e w' => e = .returned (.tuple #[.int .i64 p, .bool l]) ∧ w' = w) :
    Calls Tryd.prog 33 #[.bool neg, .string s, .string t] w fun e w' => e = .returned (.int .i64 z) ∧ w' = w := by
  have HN : Hid _ := hN
  have HE : Hid _ := hE
  clear hN hE
  go_enter Tryd.func33, Tryd.ntmps33
  go_wp2
  go_loop [7, 13] (fun p i => ∃ (k : Nat), k ≤ s.size ∧ i = .int .i64 k ∧ p = .int .i64 (min (numL (s.data.toList.take k)) 2147483648)) (fun _ i => (s.size - intOf i).toNat)
  case atStart => exact ⟨0, by omega, rfl, rfl⟩
  case round =>
    obtain ⟨k, k1, rfl, rfl⟩ := hrel
    have x0 := (numL_bd (all_take hd k)).1
    by_cases hk : k < s.size
    · obtain ⟨c0, c1⟩ := dig_num (dig_at s k hk hd)
      have em := take_more s k hk
      have e2 := numL_more (s.data.toList.take k) s[k]
      rw [← em] at e2
      unfold digV at e2
      have E2 : Hid _ := e2
      clear em e2
      generalize numL (s.data.toList.take k) = x at *
      obtain ⟨y, hy⟩ : ∃ y, min x 2147483648 = y := ⟨_, rfl⟩
      have y0 : 0 ≤ y := by omega
      have y1 : y ≤ 2147483648 := by omega
      have HY : Hid (min x 2147483648 = y) := hy
      rw [hy]
      clear hy
      go_wp2
      go_round
      case rel => exact ⟨k + 1, by omega, by go_num, by
        rw [E2.out]
        congr 1
        have := HY.out
        omega⟩
      case measure => simp [intOf]; omega
    · have hk' : s.size ≤ k := by omega
      rw [take_all s k hk'] at x0
      rw [take_all s k hk']
      generalize numL s.data.toList = x at *
      have ek : (k : Int) = (s.size : Int) := by omega
      rw [ek]
      by_cases hx : 2147483648 ≤ x
      · rw [show min x 2147483648 = 2147483648 by omega]
        have hz := HE.out hx
        subst hz
        go_wp2_with (go_at_call 24; refine (end_any _ _).mono ?_; rintro e w' ⟨rfl, rfl⟩)
        go_ret
        exact ⟨rfl, rfl⟩
      · rw [show min x 2147483648 = x by omega]
        have hz := HN.out (by omega)
        subst hz
        have ho : ofZ x = x * 4294967296 := cut_in (by omega) (by omega)
        have hx' : (x == 2147483648) = false := by simp; omega
        go_wp2_with (first | (go_at_call 47; refine (hc _).mono ?_; rintro e w' ⟨rfl, rfl⟩) | (go_at_call 38; refine (of_any _ _ (by omega) (by omega)).mono ?_; rintro e w' ⟨rfl, rfl⟩; rw [ho]) | (go_at_call 25; refine (down_any _ _ _ _ (by omega) (by omega)).mono ?_; rintro e w' ⟨rfl, rfl⟩))
        go_ret
        exact ⟨rfl, rfl⟩

theorem read_any (neg : Bool) (s t : ByteArray) (w : World) (hs : s.size ≤ 30) (hd : allDig s.data.toList = true) (ht : t.size ≤ 30) (hd' : allDig t.data.toList = true) :
    Calls Tryd.prog 33 #[.bool neg, .string s, .string t] w fun e w' => e = .returned (.int .i64 (readZ neg s.data.toList t.data.toList)) ∧ w' = w := by
  obtain ⟨p0, p1⟩ := part_bd hd'
  refine read_loop neg s t w _ _ _ hs hd p0 p1 (fun h => ?_) (fun h => ?_) (fun w => scale_any t w ht hd')
  · unfold readZ; rw [if_neg (by omega)]
  · unfold readZ; rw [if_pos h]

theorem dec_any (s : ByteArray) (w : World) (hm : s.size ≤ 9223372036854775807) :
    Calls Tryd.prog 32 #[.string s] w fun e w' => e = .returned (.bool (decOk s.data.toList)) ∧ w' = w := by
  have hsz : Hid (s.size = s.data.toList.length) := Lib.size_eq s
  go_enter Tryd.func32, Tryd.ntmps32
  go_wp2
  go_loop [6] (fun i => ∃ (k : Nat), k ≤ s.size ∧ i = .int .i64 k ∧ allDig (s.data.toList.take k) = true) (fun i => (s.size - intOf i).toNat)
  case atStart => exact ⟨0, by omega, rfl, rfl⟩
  case round =>
    obtain ⟨k, k1, rfl, hok⟩ := hrel
    have HK : Hid (allDig (s.data.toList.take k) = true) := hok
    clear hok
    by_cases hk : k < s.size
    · have em := take_more s k hk
      have HM : Hid _ := em
      clear em
      by_cases c0 : 48 ≤ s[k].toNat
      · by_cases c1 : s[k].toNat ≤ 57
        · go_wp2
          go_round
          case rel => exact ⟨k + 1, by omega, by go_num, by
            rw [HM.out]
            have := HK.out
            unfold allDig at *
            rw [List.all_append, this]
            simp [isDig, c0, c1]⟩
          case measure => simp [intOf]; omega
        · have hb : decOk s.data.toList = false := by
            have : allDig s.data.toList = false := by
              cases h : allDig s.data.toList
              · rfl
              · have := dig_num (dig_at s k hk h); omega
            unfold decOk
            rw [this]; rfl
          have HB : Hid _ := hb
          clear hb
          go_wp2
          go_ret
          exact ⟨by rw [HB.out]; rfl, rfl⟩
      · have hb : decOk s.data.toList = false := by
          have : allDig s.data.toList = false := by
            cases h : allDig s.data.toList
            · rfl
            · have := dig_num (dig_at s k hk h); omega
          unfold decOk
          rw [this]; rfl
        have HB : Hid _ := hb
        clear hb
        go_wp2
        go_ret
        exact ⟨by rw [HB.out]; rfl, rfl⟩
    · have ek : (k : Int) = (s.size : Int) := by omega
      rw [ek]
      have hb : decOk s.data.toList = (decide (1 ≤ s.size) && decide (s.size ≤ 30)) := by
        have := HK.out
        rw [take_all s k (by omega)] at this
        unfold decOk
        rw [this, ← hsz.out]
        simp
      have HB : Hid _ := hb
      clear hb hsz
      by_cases d0 : 1 ≤ s.size <;> by_cases d1 : s.size ≤ 30
      all_goals first | (exfalso; omega) | skip
      all_goals
        go_wp2
        go_ret
        exact ⟨by rw [HB.out]; first | (simp [d0, d1]; done) | (simp [d0, d1]; omega), rfl⟩

theorem idx_cons (b c : UInt8) (l : List UInt8) : Lib.indexByte (b :: l) c = if b == c then 0 else if Lib.indexByte l c == -1 then -1 else Lib.indexByte l c + 1 := rfl
theorem index_parts (l : List UInt8) : (Lib.indexByte l 46 = -1 ∧ headL l = l ∧ tailL l = [] ∧ pointL l = false) ∨ ∃ i : Nat, Lib.indexByte l 46 = i ∧ i < l.length ∧ headL l = l.take i ∧ tailL l = l.drop (i + 1) ∧ pointL l = true := by
  induction l with
  | nil => left; exact ⟨rfl, rfl, rfl, rfl⟩
  | cons b l ih =>
    unfold headL tailL pointL at *
    rw [idx_cons]
    by_cases hb : b = 46
    · subst hb
      right
      exact ⟨0, by simp, by simp, by simp, by simp, by simp⟩
    · have h1 : (b == 46) = false := by simp [hb]
      have h2 : (b != 46) = true := by simp [hb]
      rw [h1]
      simp only [Bool.false_eq_true, if_false]
      rcases ih with ⟨i1, i2, i3, i4⟩ | ⟨i, i1, i2, i3, i4, i5⟩
      · left
        refine ⟨?_, ?_, ?_, ?_⟩
        · rw [i1]; rfl
        · rw [List.takeWhile_cons, h2]; simp [i2]
        · rw [List.dropWhile_cons, h2]; simpa using i3
        · rw [List.contains_cons, i4, Bool.or_false]; simpa using fun h => hb h.symm
      · right
        refine ⟨i + 1, ?_, ?_, ?_, ?_, ?_⟩
        · rw [i1]
          have : (((i : Nat) : Int) == -1) = false := by first | (simp; done) | (simp; omega)
          rw [this]
          simp
        · simp; omega
        · rw [List.takeWhile_cons, h2]; simp [i3]
        · rw [List.dropWhile_cons, h2]; simpa using i4
        · rw [List.contains_cons, i5]; simp

theorem scut_any (s : ByteArray) (w : World) (hm : s.size ≤ 9223372036854775806) :
    Calls Tryd.prog 46 #[.string s, .string ⟨#[46]⟩] w fun e w' => e = .returned (.tuple #[.string ⟨(headL s.data.toList).toArray⟩, .string ⟨(tailL s.data.toList).toArray⟩, .bool (pointL s.data.toList)]) ∧ Stay w w' := by
  have hsz : Hid (s.size = s.data.toList.length) := Lib.size_eq s
  rcases index_parts s.data.toList with ⟨i1, i2, i3, i4⟩ | ⟨i, i1, i2, i3, i4, i5⟩
  · rw [i2, i3, i4]
    clear i2 i3 i4
    go_enter Tryd.func46, Tryd.ntmps46
    go_wp2_with (go_at_call 52; refine (Tryd.stringslite_Index_one _ _ _).mono ?_; rintro e w' ⟨rfl, rfl⟩; rw [i1])
    exact bodyPost_ret (v := .tuple #[.string ⟨s.data.toList.toArray⟩, .string ⟨#[]⟩, .bool false]) (by simp [results, Tryd.results46, go_sem]) rfl ⟨rfl, Stay.refl _⟩
  · rw [← hsz.out] at i2
    have e1 : (⟨(headL s.data.toList).toArray⟩ : ByteArray) = s.extract 0 i := by rw [i3, Lib.extract_eq]; simp
    have e2 : (⟨(tailL s.data.toList).toArray⟩ : ByteArray) = s.extract (i + 1) s.size := by rw [i4, Lib.extract_eq, List.take_of_length_le (by rw [List.length_drop, ← hsz.out]; omega)]
    rw [e1, e2, i5]
    clear e1 e2 i5 i4 i3 hsz
    go_enter Tryd.func46, Tryd.ntmps46
    go_wp2_with (go_at_call 52; refine (Tryd.stringslite_Index_one _ _ _).mono ?_; rintro e w' ⟨rfl, rfl⟩; rw [i1])
    go_region
    go_wp2
    exact bodyPost_ret (v := .tuple #[.string (s.extract 0 i), .string (s.extract (i + 1) s.size), .bool true]) (by simp [results, Tryd.results46, go_sem]) rfl ⟨rfl, (Stay.refl _).drew⟩

theorem fcut_any (s : ByteArray) (w : World) (hm : s.size ≤ 9223372036854775806) :
    Calls Tryd.prog 31 #[.string s, .string ⟨#[46]⟩] w fun e w' => e = .returned (.tuple #[.string ⟨(headL s.data.toList).toArray⟩, .string ⟨(tailL s.data.toList).toArray⟩, .bool (pointL s.data.toList)]) ∧ Stay w w' := by
  go_enter Tryd.func31, Tryd.ntmps31
  go_wp2_with (go_at_call 46; refine (scut_any _ _ (by omega)).mono ?_; rintro e w' ⟨rfl, hg⟩)
  exact bodyPost_ret (v := .tuple #[.string ⟨(headL s.data.toList).toArray⟩, .string ⟨(tailL s.data.toList).toArray⟩, .bool (pointL s.data.toList)]) (by simp [results, Tryd.results31, go_sem]) rfl ⟨rfl, hg⟩

theorem pre_one (l : List UInt8) (c : UInt8) : Lib.hasPrefix l [c] = (l.head? == some c) ∧ Lib.trimPrefix l [c] = if l.head? = some c then l.drop 1 else l := by
  unfold Lib.trimPrefix Lib.hasPrefix
  cases l with
  | nil => simp
  | cons b l =>
    simp only [List.isPrefixOf, Bool.and_true, List.head?_cons]
    by_cases h : b = c
    · subst h; simp
    · have : (c == b) = false := by simp; exact fun k => h k.symm
      simp [this, h]

theorem unsigned_any (s : ByteArray) (w : World) :
    Calls Tryd.prog 30 #[.string s] w fun e w' => e = .returned (.tuple #[.bool (negL s.data.toList), .string ⟨(sizeL s.data.toList).toArray⟩]) ∧ w' = w := by
  have h1 := pre_one s.data.toList 45
  have h2 := pre_one s.data.toList 43
  have k1 : Hid (Lib.hasPrefix s.data.toList (ByteArray.mk #[45]).data.toList = negL s.data.toList) := h1.1
  have k2 : Hid (Lib.trimPrefix s.data.toList (ByteArray.mk #[45]).data.toList = _) := h1.2
  have k3 : Hid (Lib.trimPrefix s.data.toList (ByteArray.mk #[43]).data.toList = _) := h2.2
  by_cases hn : s.data.toList.head? = some 45
  · have e1 : negL s.data.toList = true := by unfold negL; rw [hn]; rfl
    have e2 : sizeL s.data.toList = s.data.toList.drop 1 := if_pos (Or.inl hn)
    rw [e1] at k1
    rw [if_pos hn] at k2
    rw [e1, e2]
    clear h1 h2 k3 e1 e2 hn
    go_enter Tryd.func30, Tryd.ntmps30
    go_wp2_with (go_at_call 44; refine (Tryd.strings_CutPrefix _ _ _).mono ?_; rintro e w' ⟨rfl, rfl⟩; rw [k1.out, k2.out])
    exact bodyPost_ret (v := .tuple #[.bool true, .string ⟨(s.data.toList.drop 1).toArray⟩]) (by simp [results, Tryd.results30, go_sem]) rfl ⟨rfl, rfl⟩
  · have e1 : negL s.data.toList = false := by unfold negL; simpa using hn
    have e2 : sizeL s.data.toList = if s.data.toList.head? = some 43 then s.data.toList.drop 1 else s.data.toList := by unfold sizeL; simp [hn]
    rw [e1] at k1
    rw [← e2] at k3
    rw [e1]
    clear h1 h2 e1 e2 hn
    generalize sizeL s.data.toList = z at *
    go_enter Tryd.func30, Tryd.ntmps30
    go_wp2_with (first | (go_at_call 44; refine (Tryd.strings_CutPrefix _ _ _).mono ?_; rintro e w' ⟨rfl, rfl⟩; rw [k1.out]) | (go_at_call 45; refine (Tryd.strings_TrimPrefix _ _ _).mono ?_; rintro e w' ⟨rfl, rfl⟩; rw [k3.out]))
    exact bodyPost_ret (v := .tuple #[.bool false, .string ⟨z.toArray⟩]) (by simp [results, Tryd.results30, go_sem]) rfl ⟨rfl, rfl⟩
end Go.Proofs.YtcpgamhekelamaaDoor
