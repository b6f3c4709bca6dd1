/-
  What package floats reads out of a text: the number that is not above the one it tells, cut, or that it is none.
-/
import Derived.Test.YtcpgamhekelamaaDoorFread
namespace Go.Proofs.YtcpgamhekelamaaDoor
open Go.RowKit
set_option linter.unusedVariables false

theorem parse_nan (s z a b : ByteArray) (neg p : Bool) (v : Int) (w : World) (hs : (s.toList == [110, 97, 110]) = true)
    (h1 : ∀ w, Calls Tryd.prog 30 #[.string s] w fun e w' => e = .returned (.tuple #[.bool neg, .string z]) ∧ w' = w)
    (h2 : ∀ w, Calls Tryd.prog 31 #[.string z, .string ⟨#[46]⟩] w fun e w' => e = .returned (.tuple #[.string a, .string b, .bool p]) ∧ Stay w w') :
    Calls Tryd.prog 19 #[.string s] w fun e w' => e = .returned (.tuple #[.int .i64 0, .int .i64 3]) ∧ Stay w w' := by
  go_enter Tryd.func19, Tryd.ntmps19
  go_wp2
  go_step3
  go_wp2_with (first | (go_at_call 30; refine (h1 _).mono ?_; rintro e w1 ⟨rfl, rfl⟩) | (go_at_call 31; refine (h2 _).mono ?_; rintro e w2 ⟨rfl, hg⟩) | (go_at_call 24; refine (end_any _ _).mono ?_; rintro e w' ⟨rfl, rfl⟩))
  try rw [Exit.noGoto_ret]
  exact bodyPost_ret (v := .tuple #[.int .i64 0, .int .i64 3]) (by simp [results, Tryd.results19, go_sem]) rfl ⟨rfl, hg⟩

theorem parse_inf (s z a b : ByteArray) (neg p : Bool) (v : Int) (w : World) (hs : (s.toList == [110, 97, 110]) = false) (hz : (z.toList == [105, 110, 102]) = true)
    (h1 : ∀ w, Calls Tryd.prog 30 #[.string s] w fun e w' => e = .returned (.tuple #[.bool neg, .string z]) ∧ w' = w)
    (h2 : ∀ w, Calls Tryd.prog 31 #[.string z, .string ⟨#[46]⟩] w fun e w' => e = .returned (.tuple #[.string a, .string b, .bool p]) ∧ Stay w w') :
    Calls Tryd.prog 19 #[.string s] w fun e w' => e = .returned (.tuple #[.int .i64 (endZ neg), .int .i64 0]) ∧ Stay w w' := by
  go_enter Tryd.func19, Tryd.ntmps19
  go_wp2
  go_step3
  go_wp2_with (first | (go_at_call 30; refine (h1 _).mono ?_; rintro e w1 ⟨rfl, rfl⟩) | (go_at_call 31; refine (h2 _).mono ?_; rintro e w2 ⟨rfl, hg⟩) | (go_at_call 24; refine (end_any _ _).mono ?_; rintro e w' ⟨rfl, rfl⟩))
  try rw [Exit.noGoto_ret]
  exact bodyPost_ret (v := .tuple #[.int .i64 (endZ neg), .int .i64 0]) (by simp [results, Tryd.results19, go_sem]) rfl ⟨rfl, hg⟩

theorem parse_bad (s z a b : ByteArray) (neg p : Bool) (v : Int) (w : World) (hs : (s.toList == [110, 97, 110]) = false) (hz : (z.toList == [105, 110, 102]) = false)
    (h1 : ∀ w, Calls Tryd.prog 30 #[.string s] w fun e w' => e = .returned (.tuple #[.bool neg, .string z]) ∧ w' = w)
    (h2 : ∀ w, Calls Tryd.prog 31 #[.string z, .string ⟨#[46]⟩] w fun e w' => e = .returned (.tuple #[.string a, .string b, .bool p]) ∧ Stay w w')
    (h3 : ∀ w, Calls Tryd.prog 32 #[.string a] w fun e w' => e = .returned (.bool false) ∧ w' = w) :
    Calls Tryd.prog 19 #[.string s] w fun e w' => e = .returned (.tuple #[.int .i64 0, .int .i64 4]) ∧ Stay w w' := by
  go_enter Tryd.func19, Tryd.ntmps19
  go_wp2
  refine wp_scope_jumps 0 (fun a' w' => Stay w w' ∧ ∃ u0 u1 u2 u3 u4 u5 u6 u7 u8 u9 u10 u11 u12 u13 u14 u15 u16 u17 u18 u19 u20 u21 u22 u23 u24 u25 u26 u27 u28 u29 u30 u31 u32 u33 u34 u35 u36 u37 u38 u39 u40 u41, a' = { tmps := #[u0, u1, u2, u3, u4, u5, u6, u7, u8, u9, u10, u11, u12, u13, u14, u15, u16, u17, u18, u19, u20, u21, u22, u23, u24, u25, u26, u27, u28, u29, u30, u31, u32, u33, u34, u35, u36, u37, u38, u39, u40, u41], defers := [] }) (fun _ _ => 0) rfl ?_ ?_
  · go_wp2_with (first | (go_at_call 30; refine (h1 _).mono ?_; rintro e w1 ⟨rfl, rfl⟩) | (go_at_call 31; refine (h2 _).mono ?_; rintro e w2 ⟨rfl, hg⟩) | (go_at_call 24; refine (end_any _ _).mono ?_; rintro e w' ⟨rfl, rfl⟩) | (go_at_call 32; refine (h3 _).mono ?_; rintro e w' ⟨rfl, rfl⟩))
    go_step3
    exact ⟨rfl, hg, _, _, _, _, _, _, _, _, _, _, _, _, _, _, _, _, _, _, _, _, _, _, _, _, _, _, _, _, _, _, _, _, _, _, _, _, _, _, _, _, _, _, rfl⟩
  · rintro a' w' ⟨hg, u0, u1, u2, u3, u4, u5, u6, u7, u8, u9, u10, u11, u12, u13, u14, u15, u16, u17, u18, u19, u20, u21, u22, u23, u24, u25, u26, u27, u28, u29, u30, u31, u32, u33, u34, u35, u36, u37, u38, u39, u40, u41, rfl⟩
    go_wp2
    simp only [Exit.jump]
    exact bodyPost_ret (v := .tuple #[.int .i64 0, .int .i64 4]) (by simp [results, Tryd.results19, go_sem]) rfl ⟨rfl, hg⟩

theorem parse_whole (s z a b : ByteArray) (neg p : Bool) (v : Int) (w : World) (hs : (s.toList == [110, 97, 110]) = false) (hz : (z.toList == [105, 110, 102]) = false)
    (h1 : ∀ w, Calls Tryd.prog 30 #[.string s] w fun e w' => e = .returned (.tuple #[.bool neg, .string z]) ∧ w' = w)
    (h2 : ∀ w, Calls Tryd.prog 31 #[.string z, .string ⟨#[46]⟩] w fun e w' => e = .returned (.tuple #[.string a, .string b, .bool false]) ∧ Stay w w')
    (h3 : ∀ w, Calls Tryd.prog 32 #[.string a] w fun e w' => e = .returned (.bool true) ∧ w' = w)
    (h5 : ∀ w, Calls Tryd.prog 33 #[.bool neg, .string a, .string b] w fun e w' => e = .returned (.int .i64 v) ∧ w' = w) :
    Calls Tryd.prog 19 #[.string s] w fun e w' => e = .returned (.tuple #[.int .i64 v, .int .i64 0]) ∧ Stay w w' := by
  go_enter Tryd.func19, Tryd.ntmps19
  go_wp2
  go_step3
  go_wp2_with (first | (go_at_call 30; refine (h1 _).mono ?_; rintro e w1 ⟨rfl, rfl⟩) | (go_at_call 31; refine (h2 _).mono ?_; rintro e w2 ⟨rfl, hg⟩) | (go_at_call 24; refine (end_any _ _).mono ?_; rintro e w' ⟨rfl, rfl⟩) | (go_at_call 32; refine (h3 _).mono ?_; rintro e w' ⟨rfl, rfl⟩) | (go_at_call 33; refine (h5 _).mono ?_; rintro e w' ⟨rfl, rfl⟩))
  try rw [Exit.noGoto_ret]
  exact bodyPost_ret (v := .tuple #[.int .i64 v, .int .i64 0]) (by simp [results, Tryd.results19, go_sem]) rfl ⟨rfl, hg⟩

theorem parse_badder (s z a b : ByteArray) (neg p : Bool) (v : Int) (w : World) (D : ByteArray → Bool) (ha : D a = true) (hb : D b = false) (sa : a.size ≤ 9223372036854775807) (sb : b.size ≤ 9223372036854775807) (hs : (s.toList == [110, 97, 110]) = false) (hz : (z.toList == [105, 110, 102]) = false)
    (h1 : ∀ w, Calls Tryd.prog 30 #[.string s] w fun e w' => e = .returned (.tuple #[.bool neg, .string z]) ∧ w' = w)
    (h2 : ∀ w, Calls Tryd.prog 31 #[.string z, .string ⟨#[46]⟩] w fun e w' => e = .returned (.tuple #[.string a, .string b, .bool true]) ∧ Stay w w')
    (hD : ∀ x w, x.size ≤ 9223372036854775807 → Calls Tryd.prog 32 #[.string x] w fun e w' => e = .returned (.bool (D x)) ∧ w' = w) :
    Calls Tryd.prog 19 #[.string s] w fun e w' => e = .returned (.tuple #[.int .i64 0, .int .i64 4]) ∧ Stay w w' := by
  go_enter Tryd.func19, Tryd.ntmps19
  go_wp2
  refine wp_scope_jumps 0 (fun a' w' => Stay w w' ∧ ∃ u0 u1 u2 u3 u4 u5 u6 u7 u8 u9 u10 u11 u12 u13 u14 u15 u16 u17 u18 u19 u20 u21 u22 u23 u24 u25 u26 u27 u28 u29 u30 u31 u32 u33 u34 u35 u36 u37 u38 u39 u40 u41, a' = { tmps := #[u0, u1, u2, u3, u4, u5, u6, u7, u8, u9, u10, u11, u12, u13, u14, u15, u16, u17, u18, u19, u20, u21, u22, u23, u24, u25, u26, u27, u28, u29, u30, u31, u32, u33, u34, u35, u36, u37, u38, u39, u40, u41], defers := [] }) (fun _ _ => 0) rfl ?_ ?_
  · go_wp2_with (first | (go_at_call 30; refine (h1 _).mono ?_; rintro e w1 ⟨rfl, rfl⟩) | (go_at_call 31; refine (h2 _).mono ?_; rintro e w2 ⟨rfl, hg⟩) | (go_at_call 24; refine (end_any _ _).mono ?_; rintro e w' ⟨rfl, rfl⟩) | (go_at_call 32; refine (hD _ _ (by assumption)).mono ?_; rintro e w' ⟨rfl, rfl⟩; (first | rw [ha] | rw [hb])))
    go_step3
    exact ⟨rfl, hg, _, _, _, _, _, _, _, _, _, _, _, _, _, _, _, _, _, _, _, _, _, _, _, _, _, _, _, _, _, _, _, _, _, _, _, _, _, _, _, _, _, _, rfl⟩
  · rintro a' w' ⟨hg, u0, u1, u2, u3, u4, u5, u6, u7, u8, u9, u10, u11, u12, u13, u14, u15, u16, u17, u18, u19, u20, u21, u22, u23, u24, u25, u26, u27, u28, u29, u30, u31, u32, u33, u34, u35, u36, u37, u38, u39, u40, u41, rfl⟩
    go_wp2
    simp only [Exit.jump]
    exact bodyPost_ret (v := .tuple #[.int .i64 0, .int .i64 4]) (by simp [results, Tryd.results19, go_sem]) rfl ⟨rfl, hg⟩

theorem parse_both (s z a b : ByteArray) (neg p : Bool) (v : Int) (w : World) (D : ByteArray → Bool) (ha : D a = true) (hb : D b = true) (sa : a.size ≤ 9223372036854775807) (sb : b.size ≤ 9223372036854775807) (hs : (s.toList == [110, 97, 110]) = false) (hz : (z.toList == [105, 110, 102]) = false)
    (h1 : ∀ w, Calls Tryd.prog 30 #[.string s] w fun e w' => e = .returned (.tuple #[.bool neg, .string z]) ∧ w' = w)
    (h2 : ∀ w, Calls Tryd.prog 31 #[.string z, .string ⟨#[46]⟩] w fun e w' => e = .returned (.tuple #[.string a, .string b, .bool true]) ∧ Stay w w')
    (hD : ∀ x w, x.size ≤ 9223372036854775807 → Calls Tryd.prog 32 #[.string x] w fun e w' => e = .returned (.bool (D x)) ∧ w' = w)
    (h5 : ∀ w, Calls Tryd.prog 33 #[.bool neg, .string a, .string b] w fun e w' => e = .returned (.int .i64 v) ∧ w' = w) :
    Calls Tryd.prog 19 #[.string s] w fun e w' => e = .returned (.tuple #[.int .i64 v, .int .i64 0]) ∧ Stay w w' := by
  go_enter Tryd.func19, Tryd.ntmps19
  go_wp2
  go_step3
  go_wp2_with (first | (go_at_call 30; refine (h1 _).mono ?_; rintro e w1 ⟨rfl, rfl⟩) | (go_at_call 31; refine (h2 _).mono ?_; rintro e w2 ⟨rfl, hg⟩) | (go_at_call 24; refine (end_any _ _).mono ?_; rintro e w' ⟨rfl, rfl⟩) | (go_at_call 32; refine (hD _ _ (by assumption)).mono ?_; rintro e w' ⟨rfl, rfl⟩; (first | rw [ha] | rw [hb])) | (go_at_call 33; refine (h5 _).mono ?_; rintro e w' ⟨rfl, rfl⟩))
  try rw [Exit.noGoto_ret]
  exact bodyPost_ret (v := .tuple #[.int .i64 v, .int .i64 0]) (by simp [results, Tryd.results19, go_sem]) rfl ⟨rfl, hg⟩

theorem size_le (l : List UInt8) : (sizeL l).length ≤ l.length := by
  unfold sizeL
  split
  · rw [List.length_drop]; omega
  · exact Nat.le_refl _
theorem head_le (l : List UInt8) : (headL l).length ≤ l.length := by
  rcases index_parts l with ⟨_, h, _⟩ | ⟨i, _, _, h, _⟩ <;> rw [h]
  · exact Nat.le_refl _
  · rw [List.length_take]; omega
theorem tail_le (l : List UInt8) : (tailL l).length ≤ l.length := by
  rcases index_parts l with ⟨_, _, h, _⟩ | ⟨i, _, _, _, h, _⟩ <;> rw [h]
  · exact Nat.zero_le _
  · rw [List.length_drop]; omega
theorem dec_parts {l : List UInt8} (h : decOk l = true) : allDig l = true ∧ 1 ≤ l.length ∧ l.length ≤ 30 := by
  unfold decOk at h
  simp at h
  exact ⟨h.1.1, h.1.2, h.2⟩

theorem parse_any (s : ByteArray) (w : World) (hm : s.size ≤ 9223372036854775806) :
    Calls Tryd.prog 19 #[.string s] w fun e w' => e = .returned (.tuple #[.int .i64 (parseN s.data.toList), .int .i64 (parseE s.data.toList)]) ∧ Stay w w' := by
  have h1 := fun w => unsigned_any s w
  have hl := size_le s.data.toList
  rw [← Lib.size_eq] at hl
  have e0 : s.toList = s.data.toList := Lib.toList_data s
  generalize s.data.toList = l at *
  unfold parseN parseE
  by_cases hn : l = [110, 97, 110]
  · rw [if_pos hn, if_pos hn]
    refine parse_nan s ⟨(sizeL l).toArray⟩ ⟨(headL (sizeL l)).toArray⟩ ⟨(tailL (sizeL l)).toArray⟩ (negL l) (pointL (sizeL l)) 0 w ?_ h1 (fun w => fcut_any ⟨(sizeL l).toArray⟩ w ?_)
    · rw [e0, hn]; rfl
    · show (sizeL l).length ≤ _; omega
  · rw [if_neg hn, if_neg hn]
    have hs : (s.toList == [110, 97, 110]) = false := by rw [e0]; simpa using hn
    have h2 := fun w => fcut_any ⟨(sizeL l).toArray⟩ w (by show (sizeL l).length ≤ _; omega)
    have e1 : (ByteArray.mk (sizeL l).toArray).toList = sizeL l := Lib.toList_data _
    generalize negL l = neg at *
    generalize sizeL l = z at *
    have e2 : (ByteArray.mk z.toArray).data.toList = z := rfl
    rw [e2] at h2
    by_cases hi : z = [105, 110, 102]
    · rw [if_pos hi, if_pos hi]
      refine parse_inf s ⟨z.toArray⟩ ⟨(headL z).toArray⟩ ⟨(tailL z).toArray⟩ neg (pointL z) 0 w hs ?_ h1 h2
      rw [e1, hi]; rfl
    · rw [if_neg hi, if_neg hi]
      have hz : ((ByteArray.mk z.toArray).toList == [105, 110, 102]) = false := by rw [e1]; simpa using hi
      have l1 := head_le z
      have l2 := tail_le z
      have h3 : ∀ w, Calls Tryd.prog 32 #[.string ⟨(headL z).toArray⟩] w fun e w' => e = .returned (.bool (decOk (headL z))) ∧ w' = w := fun w => dec_any ⟨(headL z).toArray⟩ w (by show (headL z).length ≤ _; omega)
      have h4 : ∀ w, Calls Tryd.prog 32 #[.string ⟨(tailL z).toArray⟩] w fun e w' => e = .returned (.bool (decOk (tailL z))) ∧ w' = w := fun w => dec_any ⟨(tailL z).toArray⟩ w (by show (tailL z).length ≤ _; omega)
      unfold textOk
      cases ha : decOk (headL z)
      · rw [ha] at h3
        simp only [Bool.false_and, Bool.false_eq_true, if_false]
        exact parse_bad s ⟨z.toArray⟩ ⟨(headL z).toArray⟩ ⟨(tailL z).toArray⟩ neg (pointL z) 0 w hs hz h1 h2 h3
      · rw [ha] at h3
        obtain ⟨a1, a2, a3⟩ := dec_parts ha
        cases hp : pointL z
        · rw [hp] at h2
          simp only [Bool.true_and, Bool.not_false, Bool.true_or, if_true]
          have ht : tailL z = [] := by rcases index_parts z with ⟨_, _, h, _⟩ | ⟨i, _, _, _, _, h⟩; exact h; rw [h] at hp; cases hp
          have h5 := fun w => read_any neg ⟨(headL z).toArray⟩ ⟨(tailL z).toArray⟩ w a3 a1 (by show (tailL z).length ≤ 30; rw [ht]; decide) (by show allDig (tailL z) = true; rw [ht]; rfl)
          exact parse_whole s ⟨z.toArray⟩ ⟨(headL z).toArray⟩ ⟨(tailL z).toArray⟩ neg false _ w hs hz h1 h2 h3 h5
        · rw [hp] at h2
          cases hb : decOk (tailL z)
          · rw [hb] at h4
            simp only [Bool.true_and, Bool.not_true, Bool.or_false, Bool.false_eq_true, if_false]
            exact parse_badder s ⟨z.toArray⟩ ⟨(headL z).toArray⟩ ⟨(tailL z).toArray⟩ neg true 0 w (fun x => decOk x.data.toList) ha hb (by show (headL z).length ≤ _; omega) (by show (tailL z).length ≤ _; omega) hs hz h1 h2 (fun x w h => dec_any x w h)
          · rw [hb] at h4
            obtain ⟨b1, b2, b3⟩ := dec_parts hb
            simp only [Bool.true_and, Bool.or_true, if_true]
            have h5 := fun w => read_any neg ⟨(headL z).toArray⟩ ⟨(tailL z).toArray⟩ w a3 a1 b3 b1
            exact parse_both s ⟨z.toArray⟩ ⟨(headL z).toArray⟩ ⟨(tailL z).toArray⟩ neg true _ w (fun x => decOk x.data.toList) ha hb (by show (headL z).length ≤ _; omega) (by show (tailL z).length ≤ _; omega) hs hz h1 h2 (fun x w h => dec_any x w h) h5
end Go.Proofs.YtcpgamhekelamaaDoor
