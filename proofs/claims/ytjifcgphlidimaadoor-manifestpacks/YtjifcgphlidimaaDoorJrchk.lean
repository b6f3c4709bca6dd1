/-
  The document's own check of a manifest.
-/
import Derived.Test.YtjifcgphlidimaaDoorJchk
namespace Go.Proofs.YtjifcgphlidimaaDoor.J
open Go.RowKit Go.Proofs.Lys
set_option linter.unusedVariables false

theorem kept_drewN {w w' : World} (h : Kept w w') (n : Nat) : Kept w (w'.drewN n) := by
  induction n with
  | zero => exact h
  | succ n ih => exact ih.drew
theorem num_id {a n : Int} : ∀ (l : List Rf), numO a n l = true → ∀ x ∈ l, a < x.1 := by
  intro l
  induction l generalizing a with
  | nil => intro _ x hx; cases hx
  | cons y r ih =>
    intro h x hx
    rw [numO] at h
    simp only [Bool.and_eq_true, decide_eq_true_eq] at h
    rcases List.mem_cons.1 hx with rfl | hx
    · omega
    · have := ih h.2 x hx
      omega

/-- The second half of the check: times. -/
theorem winO_no {t : Int} (h : winO t = false) : t < -9007199254740992 ∨ 9007199254740993 < t := by
  unfold winO at h
  simp at h
  omega
theorem winO_yes {t : Int} (h : winO t = true) : ¬ t < -9007199254740992 ∧ ¬ 9007199254740993 < t := by
  unfold winO at h
  simp at h
  omega
theorem cntO_no {t : Int} (h : cntO t = false) : t < 1 ∨ 1099511627776 < t := by
  unfold cntO at h
  simp at h
  omega
theorem cntO_yes {t : Int} (h : cntO t = true) : ¬ t < 1 ∧ ¬ 1099511627776 < t := by
  unfold cntO at h
  simp at h
  omega
abbrev manO (a : Option Addr) (L c : Nat) (N G Lo : Int) : Obj := .cells #[.slice a L c, .int .i64 N, .int .i64 G, .int .i64 Lo] 24

set_option maxRecDepth 100000 in
set_option maxHeartbeats 4000000 in
theorem rcheck_any (w : World) (a : Option Addr) (c : Nat) (m : Man) (hs : RfSrc w (.slice a m.bl.length c) m.bl) :
    Calls Tryd.prog 10 #[manV (.slice a m.bl.length c) m] w fun e w' => e = .returned (.int .i64 (chkO m)) ∧ Kept w w' := by
  obtain ⟨l, N, G, Lo⟩ := m
  have HS := hid hs
  obtain ⟨L, hL⟩ : ∃ L, l.length = L := ⟨_, rfl⟩
  have HL := hid hL
  unfold chkO manV
  simp only at HS ⊢
  rw [hL] at HS ⊢
  clear hs hL
  have HK := hid (show Kept w (w.alloc (manO a L c N G Lo)) from (Only.refl _ w).alloc _)
  by_cases h1 : 200 < L
  · rw [if_pos h1]
    go_enter Tryd.func10, Tryd.ntmps10
    go_wp2
    go_ret
    exact ⟨rfl, HK.out⟩
  rw [if_neg h1]
  by_cases h2 : N < 1 ∨ G < 1 ∨ 1099511627776 < N ∨ 1099511627776 < G
  · have e : (cntO N && cntO G && numO 0 N l) = false := by
      cases hN : cntO N with
      | false => rfl
      | true =>
        cases hG : cntO G with
        | false => rfl
        | true =>
          have := cntO_yes hN
          have := cntO_yes hG
          omega
    rw [e, if_pos rfl]
    clear e
    by_cases q1 : N < 1
    · clear h2
      go_enter Tryd.func10, Tryd.ntmps10
      go_wp2
      go_ret
      exact ⟨rfl, HK.out⟩
    · by_cases q2 : G < 1
      · clear h2
        go_enter Tryd.func10, Tryd.ntmps10
        go_wp2
        go_ret
        exact ⟨rfl, HK.out⟩
      · by_cases q3 : 1099511627776 < N
        · clear h2
          go_enter Tryd.func10, Tryd.ntmps10
          go_wp2
          go_ret
          exact ⟨rfl, HK.out⟩
        · have q4 : 1099511627776 < G := by omega
          clear h2
          go_enter Tryd.func10, Tryd.ntmps10
          go_wp2
          go_ret
          exact ⟨rfl, HK.out⟩
  have e : (cntO N && cntO G && numO 0 N l) = numO 0 N l := by
    have eN : cntO N = true := by unfold cntO; simp; omega
    have eG : cntO G = true := by unfold cntO; simp; omega
    rw [eN, eG]
    rfl
  rw [e]
  clear e
  obtain ⟨q1, q2, q3, q4⟩ : ¬ N < 1 ∧ ¬ G < 1 ∧ ¬ 1099511627776 < N ∧ ¬ 1099511627776 < G := by omega
  clear h2
  obtain ⟨Pst, hPst⟩ : ∃ P : Int, P = (if numO 0 N l = false then 1 else if (timO l && winO Lo) = false then 21 else 0) := ⟨_, rfl⟩
  rw [← hPst]
  have HP := hid hPst
  clear hPst
  go_enter Tryd.func10, Tryd.ntmps10
  go_wp2
  go_loopw [3] (fun s wr => ∃ (k : Nat), k ≤ L ∧ s = .int .i64 (k : Int) ∧ numO (if k = 0 then 0 else (l.getD (k - 1) (0, 0, 0, 0)).1) N (l.drop k) = numO 0 N l ∧ (k ≠ 0 → 0 < (l.getD (k - 1) (0, 0, 0, 0)).1) ∧ Kept (w.alloc (manO a L c N G Lo)) wr) (fun s _ => L - (intOf s).toNat)
  case atStart => exact ⟨0, by omega, rfl, rfl, fun h => (h rfl).elim, Only.refl _ _⟩
  case round =>
    obtain ⟨k, hk, rfl, hr, hpos, kr⟩ := hrel
    have KR := hid (HK.out.trans kr (fun _ _ f => f))
    have hB := (Blk.new w [.slice a L c, .int .i64 N, .int .i64 G, .int .i64 Lo] 24).of_block (kr.block w.heap.size (by simp) (fun f => f))
    have hsz := hB.lt
    have m0 := hB.cell 0 rfl
    have m1 := hB.cell 1 rfl
    have m3 := hB.cell 3 rfl
    clear hB
    by_cases hlt : k < L
    · obtain ⟨b, o, rfl, c0, c1, c2, c3⟩ := (HS.out.stay KR.out).cell HL.out k hlt
      have hkl : k < l.length := by have := HL.out; omega
      rw [List.drop_eq_getElem_cons hkl] at hr
      obtain ⟨x, hx⟩ : ∃ x, l[k] = x := ⟨_, rfl⟩
      have HN : Hid (l.getD (k + 1 - 1) (0, 0, 0, 0) = x) := by show _ = _; simp [List.getD_eq_getElem?_getD, List.getElem?_eq_getElem hkl, hx]
      rw [hx] at c0 c1 c2 c3 hr
      obtain ⟨i, lv, f, t⟩ := x
      clear hx
      have hb : b < wr.heap.size := World.block_lt_of_cell? wr _ c0
      obtain ⟨w5, hw5⟩ : ∃ W, wr.alloc (rfO (i, lv, f, t)) = W := ⟨_, rfl⟩
      have k5 : Kept wr w5 := by rw [← hw5]; exact (Only.refl _ wr).alloc _
      have hB5 : Blk w5 wr.heap.size [.int .i64 i, .int .i64 lv, .int .i64 f, .int .i64 t] 54 := by rw [← hw5]; exact Blk.new wr [.int .i64 i, .int .i64 lv, .int .i64 f, .int .i64 t] 54
      have x0 := hB5.cell 0 rfl
      have x1 := hB5.cell 1 rfl
      have n0 := each_cell k5 _ _ m0
      have n1 := each_cell k5 _ _ m1
      have KR5 := hid (KR.out.trans k5 (fun _ _ f => f))
      have KQ5 := hid (kr.trans k5 (fun _ _ f => f))
      clear hB5 k5
      by_cases g1 : i < 1
      · have d1 : decide (i < 1) = true := by simp; omega
        have HV : Hid (Pst = 1) := by
          rw [HP.out, ← hr]
          by_cases h0 : k = 0
          · rw [if_pos h0, num_no (.inl (by show i ≤ 0; omega))]; rfl
          · have := hpos h0
            rw [if_neg h0, num_no (.inl (by show i ≤ _; omega))]; rfl
        clear hr hpos HP
        go_wp2_with fail
        go_quiet (fail)
        go_wp2_with fail
        go_ret
        exact ⟨by rw [HV.out]; rfl, kept_drewN KR5.out nq⟩
      have d1 : decide (i < 1) = false := by simp; omega
      by_cases h0 : k = 0
      · rw [if_pos h0] at hr
        subst h0
        have d0 : decide ((0 : Int) < 0) = false := by decide
        simp only [Nat.zero_mul, Nat.add_zero] at c0 c1 c2 c3
        by_cases g3 : N ≤ i
        · have d3 : decide (N ≤ i) = true := by simp; omega
          have HV : Hid (Pst = 1) := by rw [HP.out, ← hr, num_no (.inr (.inl g3))]; rfl
          clear hr HP hpos
          go_wp2_with fail
          go_quiet (fail)
          go_wp2_with fail
          go_ret
          exact ⟨by rw [HV.out]; rfl, kept_drewN KR5.out nq⟩
        have d3 : decide (N ≤ i) = false := by simp; omega
        by_cases g4 : lv < 0
        · have d4 : decide (lv < 0) = true := by simp; omega
          have HV : Hid (Pst = 1) := by rw [HP.out, ← hr, num_no (.inr (.inr (.inl g4)))]; rfl
          clear hr HP hpos
          go_wp2_with fail
          go_quiet (fail)
          go_wp2_with fail
          go_ret
          exact ⟨by rw [HV.out]; rfl, kept_drewN KR5.out nq⟩
        have d4 : decide (lv < 0) = false := by simp; omega
        by_cases g5 : 20 < lv
        · have d5 : decide (20 < lv) = true := by simp; omega
          have HV : Hid (Pst = 1) := by rw [HP.out, ← hr, num_no (.inr (.inr (.inr g5)))]; rfl
          clear hr HP hpos
          go_wp2_with fail
          go_quiet (fail)
          go_wp2_with fail
          go_ret
          exact ⟨by rw [HV.out]; rfl, kept_drewN KR5.out nq⟩
        have d5 : decide (20 < lv) = false := by simp; omega
        have HR := hid ((num_go (by show ¬ (i ≤ 0 ∨ N ≤ i ∨ lv < 0 ∨ 20 < lv); omega)).symm.trans hr)
        clear hr hpos
        go_wp2_with fail
        go_quiet (fail)
        go_wp2_with fail
        go_roundw
        case rel =>
          refine ⟨0 + 1, by omega, by go_num, ?_, ?_, kept_drewN KQ5.out nq⟩
          · rw [if_neg (by omega), HN.out]
            exact HR.out
          · intro _
            rw [HN.out]
            show 0 < i
            omega
        case measure => simp [intOf]; omega
      · rw [if_neg h0] at hr
        obtain ⟨k', rfl⟩ : ∃ k', k = k' + 1 := ⟨k - 1, by omega⟩
        obtain ⟨b', o', e', p0, _⟩ := (HS.out.stay KR5.out).cell HL.out k' (by omega)
        cases e'
        have hkl' : k' < l.length := by omega
        obtain ⟨y, hy⟩ : ∃ y, (l[k']).1 = y := ⟨_, rfl⟩
        have hy2 : (l.getD (k' + 1 - 1) (0, 0, 0, 0)).1 = y := by simp [List.getD_eq_getElem?_getD, List.getElem?_eq_getElem hkl', hy]
        rw [hy] at p0
        rw [hy2] at hr
        clear hy hy2
        have d0 : decide ((0 : Int) < (k' : Int) + 1) = true := by simp; try omega
        by_cases g2 : i ≤ y
        · have d2 : decide (i ≤ y) = true := by simp; omega
          have HV : Hid (Pst = 1) := by rw [HP.out, ← hr, num_no (.inl g2)]; rfl
          clear hr HP hpos
          go_wp2_with fail
          go_quiet (fail)
          go_wp2_with fail
          go_ret
          exact ⟨by rw [HV.out]; rfl, kept_drewN KR5.out nq⟩
        have d2 : decide (i ≤ y) = false := by simp; omega
        by_cases g3 : N ≤ i
        · have d3 : decide (N ≤ i) = true := by simp; omega
          have HV : Hid (Pst = 1) := by rw [HP.out, ← hr, num_no (.inr (.inl g3))]; rfl
          clear hr HP hpos
          go_wp2_with fail
          go_quiet (fail)
          go_wp2_with fail
          go_ret
          exact ⟨by rw [HV.out]; rfl, kept_drewN KR5.out nq⟩
        have d3 : decide (N ≤ i) = false := by simp; omega
        by_cases g4 : lv < 0
        · have d4 : decide (lv < 0) = true := by simp; omega
          have HV : Hid (Pst = 1) := by rw [HP.out, ← hr, num_no (.inr (.inr (.inl g4)))]; rfl
          clear hr HP hpos
          go_wp2_with fail
          go_quiet (fail)
          go_wp2_with fail
          go_ret
          exact ⟨by rw [HV.out]; rfl, kept_drewN KR5.out nq⟩
        have d4 : decide (lv < 0) = false := by simp; omega
        by_cases g5 : 20 < lv
        · have d5 : decide (20 < lv) = true := by simp; omega
          have HV : Hid (Pst = 1) := by rw [HP.out, ← hr, num_no (.inr (.inr (.inr g5)))]; rfl
          clear hr HP hpos
          go_wp2_with fail
          go_quiet (fail)
          go_wp2_with fail
          go_ret
          exact ⟨by rw [HV.out]; rfl, kept_drewN KR5.out nq⟩
        have d5 : decide (20 < lv) = false := by simp; omega
        have HR := hid ((num_go (by show ¬ (i ≤ y ∨ N ≤ i ∨ lv < 0 ∨ 20 < lv); omega)).symm.trans hr)
        clear hr hpos
        go_wp2_with fail
        go_quiet (fail)
        go_wp2_with fail
        go_roundw
        case rel =>
          refine ⟨k' + 2, by omega, by go_num, ?_, ?_, kept_drewN KQ5.out nq⟩
          · rw [if_neg (by omega), show k' + 2 - 1 = k' + 1 + 1 - 1 by omega, HN.out]
            exact HR.out
          · intro _
            rw [show k' + 2 - 1 = k' + 1 + 1 - 1 by omega, HN.out]
            show 0 < i
            omega
        case measure => simp [intOf]; omega
    · have e0 : l.drop k = [] := List.drop_of_length_le (by have := HL.out; omega)
      rw [e0] at hr
      have HR : Hid (numO 0 N l = true) := hr.symm
      have hke : k = L := by omega
      subst hke
      clear hr hpos hlt
      by_cases g1 : Lo < -9007199254740992
      · have HV : Hid (Pst = 21) := by
          rw [HP.out, HR.out]
          have : winO Lo = false := by unfold winO; simp; omega
          rw [this, Bool.and_false]
          rfl
        go_wp2
        go_ret
        exact ⟨by rw [HV.out]; rfl, KR.out⟩
      by_cases g2 : 9007199254740993 < Lo
      · have HV : Hid (Pst = 21) := by
          rw [HP.out, HR.out]
          have : winO Lo = false := by unfold winO; simp; omega
          rw [this, Bool.and_false]
          rfl
        go_wp2
        go_ret
        exact ⟨by rw [HV.out]; rfl, KR.out⟩
      have HP2 : Hid (Pst = if timO l = false then 21 else 0) := by
        rw [HP.out, HR.out]
        have : winO Lo = true := by unfold winO; simp; omega
        rw [this, Bool.and_true]
        rfl
      clear HP HR m1
      go_wp2
      go_loopw [5] (fun s w' => ∃ (j : Nat), j ≤ k ∧ s = .int .i64 (j : Int) ∧ timO (l.drop j) = timO l ∧ Kept wr w') (fun s _ => k - (intOf s).toNat)
      case atStart => exact ⟨0, by omega, rfl, rfl, Only.refl _ _⟩
      case round =>
        obtain ⟨j, hj, rfl, hr, kr2⟩ := hrel
        have KR2 := hid (KR.out.trans kr2 (fun _ _ f => f))
        have hsz2 : w.heap.size < wr.heap.size := Nat.lt_of_lt_of_le hsz kr2.size
        have n0 := each_cell kr2 _ _ m0
        by_cases hlt : j < k
        · obtain ⟨b, o, rfl, c0, c1, c2, c3⟩ := (HS.out.stay KR2.out).cell HL.out j hlt
          have hkl : j < l.length := by have := HL.out; omega
          rw [List.drop_eq_getElem_cons hkl] at hr
          obtain ⟨x, hx⟩ : ∃ x, l[j] = x := ⟨_, rfl⟩
          rw [hx] at c0 c1 c2 c3 hr
          obtain ⟨i, lv, f, t⟩ := x
          clear hx m0
          have hb : b < wr.heap.size := World.block_lt_of_cell? wr _ c0
          by_cases t1 : f < -9007199254740992
          · have HV : Hid (Pst = 21) := by rw [HP2.out, ← hr, tim_no (.inl (by unfold winO; simp; omega))]; rfl
            clear hr
            go_wp2
            go_ret
            exact ⟨by rw [HV.out]; rfl, KR2.out.alloc _⟩
          by_cases t2 : 9007199254740993 < f
          · have HV : Hid (Pst = 21) := by rw [HP2.out, ← hr, tim_no (.inl (by unfold winO; simp; omega))]; rfl
            clear hr
            go_wp2
            go_ret
            exact ⟨by rw [HV.out]; rfl, KR2.out.alloc _⟩
          by_cases t3 : t < -9007199254740992
          · have HV : Hid (Pst = 21) := by rw [HP2.out, ← hr, tim_no (.inr (.inl (by unfold winO; simp; omega)))]; rfl
            clear hr
            go_wp2
            go_ret
            exact ⟨by rw [HV.out]; rfl, KR2.out.alloc _⟩
          by_cases t4 : 9007199254740993 < t
          · have HV : Hid (Pst = 21) := by rw [HP2.out, ← hr, tim_no (.inr (.inl (by unfold winO; simp; omega)))]; rfl
            clear hr
            go_wp2
            go_ret
            exact ⟨by rw [HV.out]; rfl, KR2.out.alloc _⟩
          by_cases t5 : t ≤ f
          · have HV : Hid (Pst = 21) := by rw [HP2.out, ← hr, tim_no (.inr (.inr t5))]; rfl
            clear hr
            go_wp2
            go_ret
            exact ⟨by rw [HV.out]; rfl, KR2.out.alloc _⟩
          have HR := hid ((tim_go (by unfold winO; simp; omega) (by unfold winO; simp; omega) t5).symm.trans hr)
          clear hr
          go_wp2
          go_roundw
          case rel => exact ⟨j + 1, by omega, by go_num, HR.out, kr2.alloc _⟩
          case measure => simp [intOf]; omega
        · have e0 : l.drop j = [] := List.drop_of_length_le (by have := HL.out; omega)
          rw [e0] at hr
          have HV : Hid (Pst = 0) := by rw [HP2.out, ← hr]; rfl
          clear hr
          go_wp2
          go_ret
          exact ⟨by rw [HV.out]; rfl, KR2.out⟩
end Go.Proofs.YtjifcgphlidimaaDoor.J
