/-
  The law's own small functions; times that go by one step.
-/
import Derived.Test.YtghofnopdcklnaaSunpack
import Derived.Test.YtghofnopdcklnaaSrpack
namespace Go.Proofs.Ytghofnopdcklnaa
open Go.RowKit Go.Proofs.Lys
set_option linter.unusedVariables false

theorem num6_any (n : Int) (w : World) : Calls Try.prog 25 #[.int .i64 n] w fun e w' => e = .returned (.int .i64 n) ∧ w' = w := by
  go_enter Try.func25, Try.ntmps25
  go_wp2
  go_ret
  exact ⟨rfl, rfl⟩

theorem alive6_bytes : packL (allB [10, 20, 30]) = [0, 0, 0, 0, 0, 0, 0, 10, 164, 128] := by decide +kernel
theorem alive6_packs : Packs [10, 20, 30] [0, 0, 0, 0, 0, 0, 0, 10, 164, 128] 0 := by
  refine .inr (.inr ⟨by decide, fun i hi => ?_, alive6_bytes.symm, rfl⟩)
  rcases i with _ | _ | _ | i
  · simp
  · simp
  · simp
  · simp at hi
    omega

set_option maxRecDepth 100000 in
set_option maxHeartbeats 800000 in
theorem alive6_any (w : World) : Calls Try.prog 22 #[] w fun e w' => e = .returned (.bool true) ∧ Kept w w' := by
  have hA : SrcOf (w.alloc (.cells #[.int .i64 10, .int .i64 20, .int .i64 30] 3)) (.slice (some ⟨w.heap.size, 0, none⟩) 3 3) ([10, 20, 30].map (Value.int .i64)) := own_src (World.ownsRow_lit (base := 0) (size := 1) w #[.int .i64 10, .int .i64 20, .int .i64 30] 3 (Nat.zero_le _) (by decide) rfl)
  have hp := pack_any _ _ _ hA (by decide)
  clear hA
  go_enter Try.func22, Try.ntmps22
  go_wp2_with fail
  refine hp.mono ?_
  rintro e w1 ⟨k1, u, bs, x, rfl, hP, ho⟩
  obtain ⟨rfl, rfl⟩ := hP.inj alive6_packs
  clear hp hP
  have hc : (convert 29 9 u).run Try.prog w1 = .ok (.string ⟨#[0, 0, 0, 0, 0, 0, 0, 10, 164, 128]⟩) w1 := bytes_str (own_src ho)
  have hk : Kept w w1 := ((Only.refl _ w).alloc _).trans k1 (fun _ _ f => f)
  have ho' : w1.ownsRow _ 5 1 u 10 _ := ho
  obtain ⟨a, c, rfl⟩ := own_slice ho'
  clear ho ho' k1
  go_wp2_with (go_at_call 25; refine (num6_any _ _).mono ?_; rintro e w' ⟨rfl, hw⟩; replace hw := hw.symm; subst hw)
  go_ret
  exact ⟨rfl, hk⟩

set_option maxRecDepth 100000 in
set_option maxHeartbeats 1600000 in
theorem same_any (w : World) (va vb : Value) (l : List Int) (ha : SrcOf w va (l.map (Value.int .i64))) (hb : SrcOf w vb (l.map (Value.int .i64))) (hl : l.length ≤ 1000000) :
    Calls Try.prog 26 #[va, vb] w fun e w' => e = .returned (.bool true) ∧ Kept w w' := by
  rcases ha.shape with ⟨hnil, a, c, rfl⟩ | ⟨hpos, b, o, c, rfl, hc⟩
  · have e0 : l = [] := List.map_eq_nil_iff.1 hnil
    subst e0
    obtain ⟨a2, c2, rfl⟩ := hb.len
    rw [List.length_map, List.length_nil]
    clear ha hb hnil
    go_enter Try.func26, Try.ntmps26
    go_wp2
    refine wp_loop_rounds 1 ?_
    rw [rounds_succ]
    go_wp2
    go_ret
    exact ⟨rfl, Only.refl _ _⟩
  · rcases hb.shape with ⟨hnil, _⟩ | ⟨_, b2, o2, c2, rfl, hc2⟩
    · rw [hnil] at hpos
      simp at hpos
    · rw [List.length_map] at hpos ha hb ⊢
      obtain ⟨L, hL⟩ : ∃ L, l.length = L := ⟨_, rfl⟩
      have HA := hid ha
      have HB := hid hb
      rw [hL] at hpos hl HA HB ⊢
      have HL := hid hL
      clear hL hc hc2 ha hb
      go_enter Try.func26, Try.ntmps26
      go_wp2
      go_loopw [5] (fun s wr => ∃ (k : Nat), k ≤ L ∧ s = .int .i64 (k : Int) ∧ Kept w wr) (fun s _ => L - (intOf s).toNat)
      case atStart => exact ⟨0, by omega, rfl, Only.refl _ _⟩
      case round =>
        obtain ⟨k, hk, rfl, kr⟩ := hrel
        by_cases hlt : k < L
        · have hkl : k < l.length := by have := HL.out; omega
          have c1 := int_cells (HA.out.stay kr) k hkl
          have c2 := int_cells (HB.out.stay kr) k hkl
          generalize l[k] = x at c1 c2
          clear hkl
          go_wp2_with fail
          go_quiet (fail)
          go_wp2_with fail
          go_roundw
          case rel => exact ⟨k + 1, by omega, by go_num, kept_drewN kr nq⟩
          case measure => simp [intOf]; omega
        · have e : k = L := by omega
          subst e
          go_wp2
          go_ret
          exact ⟨rfl, kr⟩

/-- Times that go by one step. -/
def stepL (A S : Int) (n : Nat) : List Int := (List.range n).map (fun i : Nat => A + (i : Int) * S)
theorem stepL_length (A S : Int) (n : Nat) : (stepL A S n).length = n := by simp [stepL]
theorem stepL_succ (A S : Int) (n : Nat) : stepL A S (n + 1) = stepL A S n ++ [A + (n : Int) * S] := by simp [stepL, List.range_succ]
theorem stepL_get (A S : Int) (n i : Nat) (h : i < (stepL A S n).length) : (stepL A S n)[i] = A + (i : Int) * S := by simp [stepL]
theorem mul_le {k n : Nat} {S : Int} (h : k ≤ n) (h0 : 0 ≤ S) : (k : Int) * S ≤ (n : Int) * S := Int.mul_le_mul_of_nonneg_right (by omega) h0
theorem stepL_rising (A S : Int) (n : Nat) (hA : 0 ≤ A) (hA2 : A ≤ 1125899906842624) (hS : 1 ≤ S) (hS2 : S ≤ 1099511627776) (hn : n ≤ 120) : Rising (stepL A S n) := by
  intro i hi
  have hi' : i < n := by rw [stepL_length] at hi; exact hi
  rw [stepL_get]
  have h1 : (i : Int) * S ≤ (120 : Nat) * S := mul_le (by omega) (by omega)
  have h0 : 0 ≤ (i : Int) * S := Int.mul_nonneg (by omega) (by omega)
  refine ⟨by omega, by omega, fun h => ?_⟩
  rw [stepL_get]
  have e : (i : Int) * S = ((i - 1 : Nat) : Int) * S + S := by
    rw [show (i : Int) = ((i - 1 : Nat) : Int) + 1 by omega, Int.add_mul, Int.one_mul]
  omega
theorem encE_step (S : Int) (hS : 1 ≤ S) : (encE S).length = if S ≤ 64 then 9 else if S ≤ 256 then 12 else if S ≤ 2048 then 16 else 68 := by
  rw [encE]
  rcases wk_spec S with ⟨h, h1⟩ | ⟨h, h1, h2, h3⟩ | ⟨h, h1, h2, h3, h4⟩ | ⟨h, h1, h2, h3, h4, h5⟩ | ⟨h, h1, h2, h3, h4⟩
  · omega
  · rw [h, if_pos (by omega), List.length_append, bitsL_length]
    rfl
  · rw [h, if_neg (by omega), if_pos (by omega), List.length_append, bitsL_length]
    rfl
  · rw [h, if_neg (by omega), if_neg (by omega), if_pos (by omega), List.length_append, bitsL_length]
    rfl
  · rw [h, if_neg (by omega), if_neg (by omega), if_neg (by omega), List.length_append, bitsL_length]
    rfl
theorem steady_len (A S : Int) (n : Nat) : (allB (stepL A S (n + 2))).length = 64 + (encE S).length + n := by
  have e : stepL A S (n + 2) = A :: (A + S) :: (List.range n).map (fun i : Nat => (A + S) + S + (i : Int) * S) := by
    unfold stepL
    rw [List.range_succ_eq_map, List.range_succ_eq_map]
    simp only [List.map_cons, List.map_map]
    congr 1
    · simp
    congr 1
    · simp
    · refine List.map_congr_left (fun i _ => ?_)
      simp only [Function.comp]
      have : (((i.succ).succ : Nat) : Int) * S = (i : Int) * S + S + S := by
        rw [show (((i.succ).succ : Nat) : Int) = (i : Int) + 1 + 1 by omega, Int.add_mul, Int.add_mul, Int.one_mul]
      omega
  rw [e]
  simp only [allB, encT, List.length_append, bitsL_length]
  have e2 : A + S - A = S := by omega
  rw [e2, encT_steady S n (A + S), Int.sub_zero]
  omega

set_option maxRecDepth 100000 in
set_option maxHeartbeats 3200000 in
theorem steady_walk (w : World) (A S N : Int) : Calls Try.prog 6 #[.int .i64 A, .int .i64 S, .int .i64 N] w fun e w' => e = .returned (.bool true) ∧ Kept w w' := by
  have hnot : ∀ (x : Bool) (w : World), (Op.unary .not (.bool x)).run Try.prog w = .ok (.bool (!x)) w := fun _ _ => rfl
  by_cases h1 : A < 0
  · go_enter Try.func6, Try.ntmps6
    go_wp2_with (go_at_call 22; refine (alive6_any _).mono ?_; rintro e w1 ⟨rfl, hk⟩)
    go_ret
    exact ⟨rfl, hk⟩
  by_cases h2 : 1125899906842624 < A
  · go_enter Try.func6, Try.ntmps6
    go_wp2_with (go_at_call 22; refine (alive6_any _).mono ?_; rintro e w1 ⟨rfl, hk⟩)
    go_ret
    exact ⟨rfl, hk⟩
  by_cases h3 : S < 1
  · go_enter Try.func6, Try.ntmps6
    go_wp2_with (go_at_call 22; refine (alive6_any _).mono ?_; rintro e w1 ⟨rfl, hk⟩)
    go_ret
    exact ⟨rfl, hk⟩
  by_cases h4 : 1099511627776 < S
  · go_enter Try.func6, Try.ntmps6
    go_wp2_with (go_at_call 22; refine (alive6_any _).mono ?_; rintro e w1 ⟨rfl, hk⟩)
    go_ret
    exact ⟨rfl, hk⟩
  by_cases h5 : N < 2
  · go_enter Try.func6, Try.ntmps6
    go_wp2_with (go_at_call 22; refine (alive6_any _).mono ?_; rintro e w1 ⟨rfl, hk⟩)
    go_ret
    exact ⟨rfl, hk⟩
  by_cases h6 : 120 < N
  · go_enter Try.func6, Try.ntmps6
    go_wp2_with (go_at_call 22; refine (alive6_any _).mono ?_; rintro e w1 ⟨rfl, hk⟩)
    go_ret
    exact ⟨rfl, hk⟩
  obtain ⟨n, rfl⟩ : ∃ n : Nat, N = (n : Int) := ⟨N.toNat, by omega⟩
  have hn2 : 2 ≤ n := by omega
  have hn : n ≤ 120 := by omega
  have HRi : Hid (Rising (stepL A S n)) := stepL_rising A S n (by omega) (by omega) (by omega) (by omega) hn
  obtain ⟨sec, hsec⟩ : ∃ sec, (encE S).length = sec := ⟨_, rfl⟩
  have hse := encE_step S (by omega)
  rw [hsec] at hse
  have HLn : Hid ((allB (stepL A S n)).length = 64 + sec + (n - 2)) := by
    obtain ⟨m, rfl⟩ : ∃ m, n = m + 2 := ⟨n - 2, by omega⟩
    show _ = _
    rw [steady_len, hsec, Nat.add_sub_cancel]
  have HSe := hid hse
  clear hse hsec
  go_enter Try.func6, Try.ntmps6
  go_wp2_with fail
  refine (alive6_any _).mono ?_
  rintro e w1 ⟨rfl, hk1⟩
  go_wp2_with fail
  go_loopw [8, 9] (fun v i wr => ∃ (k : Nat), k ≤ n ∧ i = .int .i64 (k : Int) ∧ wr.ownsRow w1.heap.size 3 1 v (stepL A S k).length ((stepL A S k).map (Value.int .i64)) ∧ Kept w1 wr) (fun _ i _ => n - (intOf i).toNat)
  case atStart => exact ⟨0, by omega, rfl, World.ownsRow_nil _ _ _ _, Only.refl _ _⟩
  case round =>
    obtain ⟨k, hk, rfl, hro, kr⟩ := hrel
    have hlen := stepL_length A S k
    by_cases hlt : k < n
    · obtain ⟨M, hM⟩ : ∃ M, (k : Int) * S = M := ⟨_, rfl⟩
      have hM0 : 0 ≤ M := by rw [← hM]; exact Int.mul_nonneg (by omega) (by omega)
      have hM1 : M ≤ 131941395333120 := by
        have := mul_le (k := k) (n := 120) (S := S) (by omega) (by omega)
        rw [hM] at this
        omega
      obtain ⟨g, cap, w2, Hr, hown2, hon2⟩ := own_num hro kr.size (by omega) (A + M)
      have hown' : w2.ownsRow w1.heap.size 3 1 (.slice (some ⟨g, 0, none⟩) (k + 1) cap) (stepL A S (k + 1)).length ((stepL A S (k + 1)).map (Value.int .i64)) := by
        rw [stepL_succ, hM]
        rw [hlen] at hown2
        exact hown2
      have HK2 : Hid (Kept w1 w2) := hid (kr.trans hon2 (fun q hq e => absurd hq (by have := (hro.lt q e).1; omega)))
      have HO := hid hown'
      rw [hlen] at Hr
      clear hown' hown2 hon2 hro kr hlen
      go_wp2_with (at_builtin; refine wpList_append_run rfl _ _ _ rfl rfl rfl Hr ?_)
      go_roundw
      case rel => exact ⟨k + 1, by omega, by go_num, HO.out, HK2.out⟩
      case measure => simp [intOf]; omega
    · have e : k = n := by omega
      subst e
      have hp := pack_any wr _ (stepL A S k) (own_src hro) (by omega)
      have HK : Hid (Kept w wr) := hk1.trans kr (fun _ _ f => f)
      obtain ⟨a, c, rfl⟩ := own_slice hro
      rw [hlen] at hp ⊢
      clear hro kr hlen
      go_wp2_with fail
      refine hp.mono ?_
      rintro e w2 ⟨k2, u, bs, x, rfl, hP, ho2⟩
      have hP2 : Packs (stepL A S k) (packL (allB (stepL A S k))) 0 := .inr (.inr ⟨by rw [stepL_length]; exact hn, HRi.out, rfl, rfl⟩)
      obtain ⟨hb, rfl⟩ := hP.inj hP2
      have hbl : bs.length = (64 + sec + (k - 2) + 7) / 8 := by rw [hb, packL_length, HLn.out]
      obtain ⟨ua, uc, rfl⟩ := own_slice ho2
      obtain ⟨Lb, hLb⟩ : ∃ Lb, bs.length = Lb := ⟨_, rfl⟩
      rw [hLb] at hbl ⊢
      have HKK : Hid (Kept w w2) := HK.out.trans k2 (fun _ _ f => f)
      clear hP hP2 hb ho2 hLb hp k2
      have hse := HSe.out
      by_cases g1 : S ≤ 64
      · rw [if_pos g1] at hse
        subst hse
        have hq : (Lb : Int) = (73 + (k : Int) - 2 + 7) / 8 := by omega
        clear hbl
        go_wp2_with (go_at_call 25; refine (num6_any _ _).mono ?_; rintro e w' ⟨rfl, hw⟩; replace hw := hw.symm; subst hw)
        go_ret
        exact ⟨by simp, HKK.out⟩
      · by_cases g2 : S ≤ 256
        · rw [if_neg g1, if_pos g2] at hse
          subst hse
          have hq : (Lb : Int) = (76 + (k : Int) - 2 + 7) / 8 := by omega
          clear hbl
          go_wp2_with (go_at_call 25; refine (num6_any _ _).mono ?_; rintro e w' ⟨rfl, hw⟩; replace hw := hw.symm; subst hw)
          go_ret
          exact ⟨by simp, HKK.out⟩
        · by_cases g3 : S ≤ 2048
          · rw [if_neg g1, if_neg g2, if_pos g3] at hse
            subst hse
            have hq : (Lb : Int) = (80 + (k : Int) - 2 + 7) / 8 := by omega
            clear hbl
            go_wp2_with (go_at_call 25; refine (num6_any _ _).mono ?_; rintro e w' ⟨rfl, hw⟩; replace hw := hw.symm; subst hw)
            go_ret
            exact ⟨by simp, HKK.out⟩
          · rw [if_neg g1, if_neg g2, if_neg g3] at hse
            subst hse
            have hq : (Lb : Int) = (132 + (k : Int) - 2 + 7) / 8 := by omega
            clear hbl
            go_wp2_with (go_at_call 25; refine (num6_any _ _).mono ?_; rintro e w' ⟨rfl, hw⟩; replace hw := hw.symm; subst hw)
            go_ret
            exact ⟨by simp, HKK.out⟩
end Go.Proofs.Ytghofnopdcklnaa
