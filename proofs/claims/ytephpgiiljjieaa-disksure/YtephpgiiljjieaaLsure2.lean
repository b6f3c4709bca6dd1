/-
  The walk of the law DiskSure, within its bounds and out of them.
-/
import Derived.Test.YtephpgiiljjieaaLsure
namespace Go.Proofs.Ytephpgiiljjieaa
open Go.RowKit Go.Proofs.Lys Go.Maps Go.Shelf
set_option linter.unusedVariables false

set_option maxRecDepth 100000 in
set_option maxHeartbeats 1600000 in
theorem sure_out (w : World) (a0 a1 a2 : Option Addr) (S M K c0 c1 c2 : Nat) (hq : 3000 < S ∨ 3000 < M ∨ 100 < K) :
    Calls Try.prog 5 #[.slice a0 S c0, .slice a1 M c1, .slice a2 K c2] w fun e w' => e = .returned (.bool true) ∧ Kept w w' := by
  have hnot : ∀ (x : Bool) (w : World), (Op.unary .not (.bool x)).run Try.prog w = .ok (.bool (!x)) w := fun _ _ => rfl
  rcases hq with hq | hq | hq
  all_goals
    go_enter Try.func5, Try.ntmps5
    go_wp2_with (go_at_call 9; refine (alive3_any _).mono ?_; rintro e w1 ⟨rfl, hk⟩)
    all_goals
      go_ret
      exact ⟨rfl, hk⟩

set_option maxRecDepth 100000 in
set_option maxHeartbeats 3200000 in
theorem sure_walk (w : World) (v0 v1 v2 : Value) (S M : List UInt8) (keep : List Int) (h0 : SrcOf w v0 (S.map bV)) (h1 : SrcOf w v1 (M.map bV)) (h2 : NumSrc w v2 keep) :
    Calls Try.prog 5 #[v0, v1, v2] w fun e w' => e = .returned (.bool true) ∧ Kept w w' := by
  have hnot : ∀ (x : Bool) (w : World), (Op.unary .not (.bool x)).run Try.prog w = .ok (.bool (!x)) w := fun _ _ => rfl
  obtain ⟨a0, c0, e0⟩ := h0.len
  obtain ⟨a1, c1, e1⟩ := h1.len
  obtain ⟨a2, c2, e2⟩ := h2.1.len
  rw [List.length_map] at e0 e1 e2
  obtain ⟨LS, hLS⟩ : ∃ n, S.length = n := ⟨_, rfl⟩
  obtain ⟨LM, hLM⟩ : ∃ n, M.length = n := ⟨_, rfl⟩
  obtain ⟨LK, hLK⟩ : ∃ n, keep.length = n := ⟨_, rfl⟩
  rw [hLS] at e0
  rw [hLM] at e1
  rw [hLK] at e2
  subst e0 e1 e2
  by_cases hq : 3000 < LS ∨ 3000 < LM ∨ 100 < LK
  · exact sure_out w a0 a1 a2 LS LM LK c0 c1 c2 hq
  have q0 : LS ≤ 3000 := by omega
  have q1 : LM ≤ 3000 := by omega
  have q2 : LK ≤ 100 := by omega
  clear hq
  have HS := Hid.mk hLS
  have HM := Hid.mk hLM
  have H0 := Hid.mk h0
  have H1 := Hid.mk h1
  have H2 := Hid.mk h2
  clear h0 h1 h2 hLS hLM hLK
  go_enter Try.func5, Try.ntmps5
  go_wp2_with fail
  refine (alive3_any _).mono ?_
  rintro e w1 ⟨rfl, hk1⟩
  go_wp2_with fail
  refine (up_new hk1 10000).mono ?_
  rintro e w2 ⟨rfl, h2⟩
  rw [su_start] at h2
  have U2 := Hid.mk h2
  clear h2 hk1
  go_wp2_with fail
  refine (up_create U2.out (small _ (by decide)) ⟨by show (0 : Nat) ≤ _; decide, by show 0 + 0 + 0 < _; decide⟩).mono ?_
  rintro e w3 ⟨rfl, h3⟩
  have U3 : Hid (Up w w3 w1.heap.size (suA 1 [] 0)) := by
    have h4 : Up w w3 w1.heap.size ((DModel.mk [] [] [] [] 10000 0 false none none).doOp ⟨0, [97], [], []⟩).2 := h3
    rw [su_one] at h4
    exact h4
  clear h3 U2
  go_wp2_with fail
  refine (up_append U3.out (small _ (by decide)) (src_at (H0.out.stay U3.out.kept)) (by rw [HS.out]; omega) (few_a _ _ _ (by omega))).mono ?_
  rintro e w4 ⟨rfl, h4⟩
  have U4 : Hid (Up w w4 w1.heap.size (suA 2 S 0)) := by
    have h5 : Up w w4 w1.heap.size ((suA 1 [] 0).doOp ⟨1, [97], [], S⟩).2 := h4
    rw [su_appA _ _ _ _ (by rw [HS.out]; simp; omega)] at h5
    exact h5
  clear h4 U3
  go_wp2_with fail
  refine (up_sync U4.out (small _ (by decide)) (few_a _ _ _ (by omega))).mono ?_
  rintro e w5 ⟨rfl, h5⟩
  have U5 : Hid (Up w w5 w1.heap.size (suA 3 S S.length)) := by
    have h6 : Up w w5 w1.heap.size ((suA 2 S 0).doOp ⟨2, [97], [], []⟩).2 := h5
    rw [su_sync] at h6
    exact h6
  clear h5 U4
  go_wp2_with fail
  refine (up_syncdir U5.out (few_a _ _ _ (by omega))).mono ?_
  rintro e w6 ⟨rfl, h6⟩
  have U6 : Hid (Up w w6 w1.heap.size (suB 4 S S.length)) := by
    rw [su_dir] at h6
    exact h6
  clear h6 U5
  go_wp2_with fail
  refine (up_append U6.out (small _ (by decide)) (src_at (H1.out.stay U6.out.kept)) (by rw [HM.out]; omega) (few_b _ _ _ (by omega))).mono ?_
  rintro e w7 ⟨rfl, h7⟩
  have U7 : Hid (Up w w7 w1.heap.size (suB 5 (S ++ M) S.length)) := by
    have h8 : Up w w7 w1.heap.size ((suB 4 S S.length).doOp ⟨1, [97], [], M⟩).2 := h7
    rw [su_appB _ _ _ _ (by rw [HS.out, HM.out]; omega)] at h8
    exact h8
  clear h7 U6
  go_wp2_with fail
  refine (up_create U7.out (small _ (by decide)) (few_b _ _ _ (by omega))).mono ?_
  rintro e w8 ⟨rfl, h8⟩
  have U8 : Hid (Up w w8 w1.heap.size (suC 6 (S ++ M) S.length)) := by
    have h9 : Up w w8 w1.heap.size ((suB 5 (S ++ M) S.length).doOp ⟨0, [98], [], []⟩).2 := h8
    rw [su_two] at h9
    exact h9
  clear h8 U7
  go_wp2_with fail
  refine (up_crash U8.out (fun O c m _ hO => SrcOf.ints H2.out.1 H2.out.2 U8.out.kept hO) (few_c _ _ _ (by omega))).mono ?_
  rintro e w9 ⟨rfl, h9⟩
  rw [su_crash] at h9
  obtain ⟨f0, f1, f2⟩ := settle_sure S M keep.tail
  generalize DModel.settleF ⟨S ++ M, S.length⟩ keep.tail = F at h9 f0 f1 f2
  generalize hodd : DModel.oddB (keep.headD 0) = odd at h9
  have U9 := Hid.mk h9
  clear h9 U8 hodd
  go_wp2_with fail
  refine (up_read U9.out (small _ (by decide))).mono ?_
  rintro e w10 ⟨v10, rfl, ho10, hk10, h10⟩
  have er : (DModel.mk [F.1, ⟨[], 0⟩] (suD odd) (suD odd) [] 10000 6 false none none).read (⟨#[97]⟩ : ByteArray).data.toList = (0, F.1.b) := by cases odd <;> rfl
  rw [er] at ho10 ⊢
  simp only at ho10
  have U10 := Hid.mk h10
  have hls := up_list h10 ⟨by show (6 : Nat) ≤ _; decide, by show (suD odd).length + (suD odd).length + 0 < _; cases odd <;> decide⟩
  have HLs := Hid.mk hls
  have HO10 := Hid.mk ho10
  obtain ⟨ra, rc, rfl⟩ := own_slice ho10
  clear h10 ho10 er hls U9 hk10
  go_wp2_with fail
  refine HLs.out.mono ?_
  rintro e w11 ⟨v11, rfl, ho11, hk11, h11⟩
  clear HLs
  have hR11 := own_only HO10.out hk11 (fun _ _ f => f)
  rw [HS.out] at f0 f1 f2
  rw [HM.out] at f1
  obtain ⟨LB, hLB⟩ : ∃ n, F.1.b.length = n := ⟨_, rfl⟩
  rw [hLB] at hR11 f0 f1 ⊢
  obtain ⟨vc, hsl, hcv⟩ := cut_own hR11 f0 f2
  have hcs : ∀ m, (convert 29 9 (.slice a0 LS c0)).run Try.prog (w11.drewN m) = .ok (.string ⟨S.toArray⟩) (w11.drewN m) := fun m => SrcOf.conv (H0.out.stay (Kept.drewN' h11.kept m))
  have g0 : (LS : Int) ≤ (LB : Int) := by omega
  have g1 : (LB : Int) ≤ (LS : Int) + (LM : Int) := by omega
  have U11 := Hid.mk h11
  clear f0 f1 f2 hLB hR11 h11 HO10 U10 hk11
  cases odd with
  | false =>
    have el : (DModel.mk [F.1, ⟨[], 0⟩] (suD false) (suD false) [] 10000 6 false none none).list = [[97]] := rfl
    rw [el] at ho11
    obtain ⟨la, lc, rfl⟩ := own_slice ho11
    clear ho11 el
    go_wp2_with fail
    go_quiet ((go_at_call 15; exact Calls.quiet_of_same (num3_any _ _)))
    go_wp2
    go_ret
    exact ⟨rfl, Kept.drewN' U11.out.kept _⟩
  | true =>
    have el : (DModel.mk [F.1, ⟨[], 0⟩] (suD true) (suD true) [] 10000 6 false none none).list = [[97], [98]] := rfl
    rw [el] at ho11
    obtain ⟨lg, lc, rfl⟩ := own_some ho11 (by decide)
    have lcell : w11.cell? ⟨lg, 1, none⟩ = some (.string ⟨#[98]⟩) := by
      rw [ho11.cellAt 1 (by decide)]
      rfl
    clear ho11 el
    go_wp2_with fail
    go_quiet ((go_at_call 15; exact Calls.quiet_of_same (num3_any _ _)))
    go_wp2
    go_ret
    exact ⟨rfl, Kept.drewN' U11.out.kept _⟩
end Go.Proofs.Ytephpgiiljjieaa
