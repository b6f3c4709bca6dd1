/-
  The walk of the law DiskFault.
-/
import Derived.Test.YtephpgiiljjieaaLfuse
namespace Go.Proofs.Ytephpgiiljjieaa
open Go.RowKit Go.Proofs.Lys Go.Maps Go.Shelf
set_option linter.unusedVariables false

theorem cut_ten (s : ByteArray) (l h : Nat) (k : IntKind) (w : World) (h1 : h ≤ s.size) (h2 : l ≤ h) (i j : Int) (hi : i = (l : Int)) (hj : j = (h : Int)) :
    (Instr.slice 9 (.string s) (some (.int k i)) (some (.int k j)) none).run Try.prog w = .ok (.string (s.extract l h)) w := by
  subst hi hj
  simp [Instr.slice, Instr.sliceBounds, Instr.sliceBound, asIntOf, go_sem, h1, h2, run_underlying Try.underlying9]
theorem cut_one (d : Int) (w : World) (d0 : 0 ≤ d) (d1 : d ≤ 9) : ∃ g : ByteArray, g.size = 1 ∧ ∀ w, (Instr.slice 9 (.string ⟨#[48, 49, 50, 51, 52, 53, 54, 55, 56, 57]⟩) (some (.int .u64 d)) (some (.int .u64 (d + 1))) none).run Try.prog w = .ok (.string g) w := by
  refine ⟨(ByteArray.mk #[48, 49, 50, 51, 52, 53, 54, 55, 56, 57]).extract d.toNat (d.toNat + 1), ?_, fun w => cut_ten ⟨#[48, 49, 50, 51, 52, 53, 54, 55, 56, 57]⟩ d.toNat (d.toNat + 1) .u64 w (by show d.toNat + 1 ≤ 10; omega) (by omega) d (d + 1) (by omega) (by omega)⟩
  rw [ByteArray.size_extract]
  show min (d.toNat + 1) 10 - d.toNat = 1
  omega

theorem dec_one (n : Nat) (w : World) (hn : n < 10) : Calls Try.prog 57 #[.int .u64 (n : Int)] w fun e w' => ∃ s : ByteArray, e = .returned (.string s) ∧ s.size = 1 ∧ w' = w := by
  obtain ⟨g, hg, hsl⟩ := cut_one ((n : Int) % 10) w (by omega) (by omega)
  have HG := Hid.mk hg
  clear hg
  go_enter Try.func57, Try.ntmps57
  go_wp2
  go_ret
  exact ⟨g, rfl, HG.out, rfl⟩
theorem dec_two (n : Nat) (w : World) (hn : n < 100) : Calls Try.prog 57 #[.int .u64 (n : Int)] w fun e w' => ∃ s : ByteArray, e = .returned (.string s) ∧ s.size ≤ 2 ∧ w' = w := by
  by_cases h : n < 10
  · refine (dec_one n w h).mono ?_
    rintro e w' ⟨s, rfl, hs, rfl⟩
    exact ⟨s, rfl, by omega, rfl⟩
  · obtain ⟨g, hg, hsl⟩ := cut_one ((n : Int) % 10) w (by omega) (by omega)
    have hd := Hid.mk (dec_one (n / 10) w (by omega))
    obtain ⟨q, hq⟩ : ∃ q : Nat, (n : Int) / 10 = (q : Int) := ⟨n / 10, by omega⟩
    have hd2 : Hid (Calls Try.prog 57 #[.int .u64 (q : Int)] w fun e w' => ∃ s : ByteArray, e = .returned (.string s) ∧ s.size = 1 ∧ w' = w) := by
      have e : n / 10 = q := by omega
      rw [← e]
      exact hd.out
    clear hd
    go_enter Try.func57, Try.ntmps57
    go_wp2_with fail
    refine hd2.out.mono ?_
    rintro e w1 ⟨s1, rfl, hs1, hw⟩
    replace hw := hw.symm
    subst hw
    have hsz : s1.size + g.size ≤ 9223372036854775807 := by omega
    go_wp2_with fail
    go_ret
    exact ⟨_, rfl, by simp [ByteArray.size_append]; omega, rfl⟩
theorem number_small (n : Nat) (w : World) (hn : n < 100) : Calls Try.prog 34 #[.int .i64 (n : Int)] w fun e w' => ∃ s : ByteArray, e = .returned (.string s) ∧ s.size ≤ 2 ∧ w' = w := by
  have hd := Hid.mk (dec_two n w hn)
  go_enter Try.func34, Try.ntmps34
  go_wp2_with fail
  refine hd.out.mono ?_
  rintro e w1 ⟨s1, rfl, hs1, hw⟩
  replace hw := hw.symm
  subst hw
  go_wp2_with fail
  go_ret
  exact ⟨s1, rfl, hs1, rfl⟩

set_option maxRecDepth 100000 in
set_option maxHeartbeats 1600000 in
theorem fault_out (w : World) (n a : Int) (hq : (n < 0 ∨ 100 < n) ∨ (a < 0 ∨ 20 < a)) : Calls Try.prog 8 #[.int .i64 n, .int .i64 a] w fun e w' => e = .returned (.bool true) ∧ Kept w w' := by
  have hnot : ∀ (x : Bool) (w : World), (Op.unary .not (.bool x)).run Try.prog w = .ok (.bool (!x)) w := fun _ _ => rfl
  rcases hq with (hq | hq) | (hq | hq)
  all_goals
    go_enter Try.func8, Try.ntmps8
    go_wp2_with (go_at_call 9; refine (alive3_any _).mono ?_; rintro e w1 ⟨rfl, hk⟩)
    all_goals
      go_ret
      exact ⟨rfl, hk⟩

set_option maxRecDepth 100000 in
set_option maxHeartbeats 3200000 in
theorem fault_walk (w : World) (n a : Int) : Calls Try.prog 8 #[.int .i64 n, .int .i64 a] w fun e w' => e = .returned (.bool true) ∧ Kept w w' := by
  have hnot : ∀ (x : Bool) (w : World), (Op.unary .not (.bool x)).run Try.prog w = .ok (.bool (!x)) w := fun _ _ => rfl
  have hcv := fun (w : World) (C : Array Value) (n c : Nat) => Lib.run_convert_bytes_const (P := Try.prog) w 29 5 C n c Try.underlying29 Try.underlying5
  by_cases hq : (n < 0 ∨ 100 < n) ∨ (a < 0 ∨ 20 < a)
  · exact fault_out w n a hq
  obtain ⟨N, rfl⟩ : ∃ N : Nat, n = (N : Int) := ⟨n.toNat, by omega⟩
  obtain ⟨A, rfl⟩ : ∃ A : Nat, a = (A : Int) := ⟨a.toNat, by omega⟩
  have n1 : N ≤ 100 := by omega
  have a1 : A ≤ 20 := by omega
  have d0 : decide ((N : Int) < 0) = false := by simp
  have d1 : decide (100 < (N : Int)) = false := by simp; omega
  have d2 : decide ((A : Int) < 0) = false := by simp
  have d3 : decide (20 < (A : Int)) = false := by simp; omega
  clear hq
  go_enter Try.func8, Try.ntmps8
  go_wp2_with fail
  refine (alive3_any _).mono ?_
  rintro e w1 ⟨rfl, hk1⟩
  go_wp2_with fail
  refine (up_new hk1 1048576).mono ?_
  rintro e w2 ⟨rfl, h2⟩
  rw [one_start] at h2
  have H2 := Hid.mk h2
  clear h2
  go_wp2_with fail
  refine (up_create H2.out (small _ (by decide)) ⟨by show (0 : Nat) ≤ _; decide, by show 0 + 0 + 0 < _; decide⟩).mono ?_
  rintro e w3 ⟨rfl, h3⟩
  have H3 : Hid (Up w w3 w1.heap.size (oneF [] 0 1 false none none)) := by
    have h4 : Up w w3 w1.heap.size ((DModel.mk [] [] [] [] 1048576 0 false none none).doOp ⟨0, [97], [], []⟩).2 := h3
    rw [one_one] at h4
    exact h4
  clear h3 H2
  go_wp2_with fail
  refine (up_fault H3.out (N : Int) (by omega)).mono ?_
  rintro e w4 ⟨rfl, h4⟩
  have H4 : Hid (Up w w4 w1.heap.size (oneF [] 0 1 false none (some N))) := by
    have e : DModel.lay (N : Int) = some N := by unfold DModel.lay; rw [if_neg (by omega), Int.toNat_natCast]
    rw [e] at h4
    exact h4
  clear h4 H3 hk1
  go_wp2_with fail
  go_loopw [7] (fun i wr => ∃ k : Nat, k ≤ A ∧ i = .int .i64 (k : Int) ∧ Up w wr w1.heap.size (oneF [] 0 1 false none (some N))) (fun i _ => A - (intOf i).toNat)
  case atStart => exact ⟨0, by omega, rfl, H4.out⟩
  case round =>
    obtain ⟨k, hk, rfl, hU⟩ := hrel
    have HU := Hid.mk hU
    clear hU
    by_cases hlt : k < A
    · go_wp2_with fail
      refine (number_small k wr (by omega)).mono ?_
      rintro e w5 ⟨s, rfl, hs, hw⟩
      replace hw := hw.symm
      subst hw
      have hsz : (ByteArray.mk #[110, 111, 110, 101]).size + s.size ≤ 9223372036854775807 := by show 4 + s.size ≤ _; omega
      obtain ⟨t, ht⟩ : ∃ t, (ByteArray.mk #[110, 111, 110, 101]) ++ s = t := ⟨_, rfl⟩
      have hts : t.size = 4 + s.size := by rw [← ht, ByteArray.size_append]; rfl
      have E6 : Hid ((oneF [] 0 1 false none (some N)).doOp ⟨2, t.data.toList, [], []⟩ = (6, oneF [] 0 1 false none (some N))) := by
        refine one_none [] 0 1 none (some N) (fun e => by cases e) ?_
        rw [beq_eq_false_iff_ne]
        intro e
        have := congrArg List.length e
        have h2 : t.data.toList.length = t.size := by simp
        rw [h2, hts] at this
        simp at this
        omega
      go_wp2_with fail
      refine (up_sync HU.out (s := t) (by unfold maxLen; omega) (one_few _ _ _ _ _ _ (by omega))).mono ?_
      rintro e w6 ⟨rfl, h6⟩
      rw [E6.out] at h6 ⊢
      have H6 := Hid.mk h6
      clear h6 hts hsz ht E6
      go_wp2_with (go_at_call 15; refine (num3_any _ _).mono ?_; rintro e w' ⟨rfl, hw⟩; replace hw := hw.symm; subst hw)
      go_roundw
      case rel => exact ⟨k + 1, by omega, by go_num, H6.out⟩
      case measure => simp [intOf]; omega
    · go_wp2_with fail
      go_loopw [9] (fun i wr => ∃ (k : Nat) (B : List UInt8), k ≤ N ∧ i = .int .i64 (k : Int) ∧ B.length = k ∧ Up w wr w1.heap.size (oneF B 0 (k + 1) false none (some (N - k)))) (fun i _ => N - (intOf i).toNat)
      case atStart => exact ⟨0, [], by omega, rfl, rfl, HU.out⟩
      case round =>
        obtain ⟨j, B, hj, rfl, hBl, hU⟩ := hrel
        have HU := Hid.mk hU
        have HB := Hid.mk hBl
        clear hU
        by_cases hjl : j < N
        · have E5 : Hid ((oneF B 0 (j + 1) false none (some (N - j))).doOp ⟨1, [97], [], [120]⟩ = (0, oneF (B ++ [120]) 0 (j + 1 + 1) false none (some (N - j - 1)))) :=
            one_ok B [120] 0 (j + 1) none (some (N - j)) (by rw [hBl]; simp; omega) (by intro e; cases e) (by intro e; have := Option.some.inj e; omega)
          clear hBl
          go_wp2_with fail
          refine (up_append (m := oneF B 0 (j + 1) false none (some (N - j))) (HU.out.stay (stay_mark _ _)) (small _ (by decide)) (src_lit [120] wr rfl) (by decide) (one_few _ _ _ _ _ _ (by omega))).mono ?_
          rintro e w5 ⟨rfl, h5⟩
          have e6 : (oneF B 0 (j + 1) false none (some (N - j))).doOp ⟨1, (⟨#[97]⟩ : ByteArray).data.toList, [], [120]⟩ = _ := E5.out
          rw [e6] at h5 ⊢
          have H5 := Hid.mk h5
          clear h5 HU e6
          go_wp2_with (go_at_call 15; refine (num3_any _ _).mono ?_; rintro e w' ⟨rfl, hw⟩; replace hw := hw.symm; subst hw)
          go_roundw
          case rel => exact ⟨j + 1, B ++ [120], by omega, by go_num, by rw [List.length_append, HB.out]; rfl, by rw [show N - (j + 1) = N - j - 1 by omega]; exact H5.out⟩
          case measure => simp [intOf]; omega
        · have hjN : j = N := by omega
          subst hjN
          have E5 : Hid ((oneF B 0 (j + 1) false none (some (j - j))).doOp ⟨1, [97], [], [121]⟩ = (10, oneF B 0 (j + 1) false none none)) := by
            rw [Nat.sub_self]
            exact one_fault B [121] 0 (j + 1) none (by rw [hBl]; simp; omega) (by intro e; cases e)
          have E6 : Hid ((oneF B 0 (j + 1) false none none).doOp ⟨1, [97], [], [122]⟩ = (0, oneF (B ++ [122]) 0 (j + 1 + 1) false none none)) :=
            one_ok B [122] 0 (j + 1) none none (by rw [hBl]; simp; omega) (by intro e; cases e) (by intro e; cases e)
          clear hBl
          go_wp2_with fail
          refine (up_append (m := oneF B 0 (j + 1) false none (some (j - j))) (HU.out.stay (stay_mark _ _)) (small _ (by decide)) (src_lit [121] wr rfl) (by decide) (one_few _ _ _ _ _ _ (by omega))).mono ?_
          rintro e w5 ⟨rfl, h5⟩
          have e6 : (oneF B 0 (j + 1) false none (some (j - j))).doOp ⟨1, (⟨#[97]⟩ : ByteArray).data.toList, [], [121]⟩ = _ := E5.out
          rw [e6] at h5 ⊢
          have H5 := Hid.mk h5
          clear h5 HU e6
          go_wp2_with fail
          refine (up_append (m := oneF B 0 (j + 1) false none none) (H5.out.stay (stay_mark _ _)) (small _ (by decide)) (src_lit [122] w5 rfl) (by decide) (one_few _ _ _ _ _ _ (by omega))).mono ?_
          rintro e w6 ⟨rfl, h6⟩
          have e6 : (oneF B 0 (j + 1) false none none).doOp ⟨1, (⟨#[97]⟩ : ByteArray).data.toList, [], [122]⟩ = _ := E6.out
          rw [e6] at h6 ⊢
          have H6 := Hid.mk h6
          clear h6 H5 e6
          go_wp2_with fail
          refine (up_read H6.out (small _ (by decide))).mono ?_
          rintro e w7 ⟨v7, rfl, ho7, hk7, h7⟩
          have er : (oneF (B ++ [122]) 0 (j + 1 + 1) false none none).read (⟨#[97]⟩ : ByteArray).data.toList = (0, B ++ [122]) := rfl
          rw [er] at ho7 ⊢
          simp only at ho7
          have hlen : (B ++ [122]).length = j + 1 := by rw [List.length_append, HB.out]; rfl
          rw [hlen] at ho7
          obtain ⟨g, cap, rfl⟩ := own_some ho7 (by omega)
          have hc : w7.cell? ⟨g, j, none⟩ = some (.int .u8 122) := by
            rw [ho7.cellAt j (by omega), List.getElem?_map, List.getElem?_append_right (by rw [HB.out]; exact Nat.le_refl _), HB.out, Nat.sub_self]
            rfl
          have H7 := Hid.mk h7
          clear h7 ho7 er hlen H6
          go_wp2_with (go_at_call 15; refine (num3_any _ _).mono ?_; rintro e w' ⟨rfl, hw⟩; replace hw := hw.symm; subst hw)
          go_ret
          exact ⟨rfl, H7.out.kept⟩
end Go.Proofs.Ytephpgiiljjieaa
