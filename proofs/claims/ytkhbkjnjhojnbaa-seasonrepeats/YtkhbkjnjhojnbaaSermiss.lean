/-
  Package season: the document's own Miss.
-/
import Derived.Test.YtkhbkjnjhojnbaaSemiss
namespace Go.Proofs.Ytkhbkjnjhojnbaa.Se
open Go Go.RowKit Go.Proofs.Lys
set_option linter.unusedVariables false
set_option linter.unusedSimpArgs false

set_option maxRecDepth 100000 in
set_option maxHeartbeats 1600000 in
theorem rmiss_any (w : World) (a : Option Addr) (L c : Nat) (l : List Int) (s n : Int) (h : PtSrc w (.slice a L c) l) (hL : l.length = L) (hl : L ≤ 9223372036854775807) (hin : ∀ i, In64 (l.getD i 0)) :
    Calls Try.prog 9 #[.slice a L c, .int .i64 s, .int .i64 n] w (MissR w l L s n) := by
  have K0 := hid (Only.refl (fun _ => False) w)
  by_cases h1 : s < 1
  · have HF := hid (missR_no (w := w) (s := s) (n := n) hL (fun x => by have := x.1.1; omega) K0.out)
    clear h hL
    go_enter Try.func9, Try.ntmps9
    go_wp2
    go_ret2
    exact HF.out
  by_cases h2 : 10000 < s
  · have HF := hid (missR_no (w := w) (s := s) (n := n) hL (fun x => by have := x.1.2.1; omega) K0.out)
    clear h hL
    go_enter Try.func9, Try.ntmps9
    go_wp2
    go_ret2
    exact HF.out
  by_cases h3 : n < 1
  · have HF := hid (missR_no (w := w) (s := s) (n := n) hL (fun x => by have := x.2.1; omega) K0.out)
    clear h hL
    go_enter Try.func9, Try.ntmps9
    go_wp2
    go_ret2
    exact HF.out
  by_cases h5 : (L : Int) < s
  · have HF := hid (missR_no (w := w) (s := s) (n := n) hL (fun x => by have := x.1.2.2; omega) K0.out)
    clear h hL
    go_enter Try.func9, Try.ntmps9
    go_wp2
    go_ret2
    exact HF.out
  have hw1 : wrap64 ((L : Int) - s) = (L : Int) - s := by unfold wrap64; omega
  by_cases h4 : (L : Int) - s < n
  · have HF := hid (missR_no (w := w) (s := s) (n := n) hL (fun x => by have := x.2.2; omega) K0.out)
    clear h hL
    go_enter Try.func9, Try.ntmps9
    go_wp2
    go_ret2
    exact HF.out
  have hok : OkM L s n := ⟨⟨by omega, by omega, by omega⟩, by omega, by omega⟩
  have HF := hid (fun W' k => missR_ok (w := w) (w' := W') (s := s) (n := n) hL hok k)
  obtain ⟨N, hN⟩ : ∃ N, n.toNat = N := ⟨_, rfl⟩
  obtain ⟨S, hS⟩ : ∃ S, s.toNat = S := ⟨_, rfl⟩
  have hnN : n = (N : Int) := by omega
  have hsS : s = (S : Int) := by omega
  have hns : N + S ≤ L := by omega
  obtain ⟨lo, hlo⟩ : ∃ lo, L - N = lo := ⟨_, rfl⟩
  rw [hN, hS, hlo] at HF
  have hlo2 : lo + N = L := by omega
  have hlo3 : S ≤ lo := by omega
  have hw2 : wrap64 ((L : Int) - (N : Int)) = (lo : Int) := by unfold wrap64; omega
  have hLN : (L : Int) - (N : Int) = (lo : Int) := by omega
  rcases SrcOf.shape h with ⟨hnil, _⟩ | ⟨hsh1, b, o, c', he, hsh2⟩
  · rw [List.map_eq_nil_iff.1 hnil] at hL
    simp at hL
    omega
  simp only [Value.slice.injEq] at he
  obtain ⟨rfl, hsh3, rfl⟩ := he
  clear hsh1 hsh2 hsh3
  have HP : Hid (∀ W i, Kept w W → i < L → W.cell? ⟨b, o + i, none⟩ = some (.int .i64 (l.getD i 0))) := hid (fun W i k hi => by
    obtain ⟨b', o', e, hc⟩ := pt_cell (SrcOf.stay h k) hL i hi
    cases e
    exact hc)
  have HIN := hid hin
  have HSU := hid (fun k => sumD_in l S lo k)
  have HDI := hid (fun x y => distC_in x y)
  have hb : b < w.heap.size := World.block_lt_of_cell? w _ (HP.out w 0 (Only.refl _ w) (by omega))
  clear h hok hN hS hL hin hlo
  subst hsS
  subst hnN
  have hS0 : ¬ ((S : Int) < 1) := by omega
  go_enter Try.func9, Try.ntmps9
  go_wp2_with fail
  go_loopw [9, 8] (fun s9 s8 wr => ∃ k : Nat, k ≤ N ∧ s9 = .int .i64 ((lo + k : Nat) : Int) ∧ s8 = .int .i64 (sumD l S lo k) ∧ Hid (Kept w wr)) (fun s9 _ _ => L - (intOf s9).toNat)
  case atStart => exact ⟨0, by omega, rfl, rfl, K0⟩
  case round =>
    obtain ⟨k, hk, rfl, rfl, HK⟩ := hrel
    by_cases hlt : k < N
    · obtain ⟨q, hq⟩ : ∃ q, lo + k - S = q := ⟨_, rfl⟩
      have y0 := HP.out wr.drew (lo + k) HK.out.drew (by omega)
      have y1 := HP.out wr.drew q HK.out.drew (by omega)
      have HDS := hid (fun W => rdist_any (l.getD (lo + k) 0) (l.getD q 0) W (HIN.out _) (HIN.out _))
      have HAD := hid (fun W => radd_any (sumD l S lo k) (distC (l.getD (lo + k) 0) (l.getD q 0)) W (HSU.out k) (HDI.out _ _))
      have hsd : addC (sumD l S lo k) (distC (l.getD (lo + k) 0) (l.getD q 0)) = sumD l S lo (k + 1) := by rw [← hq]; rfl
      rw [hsd] at HAD
      generalize sumD l S lo k = SM at *
      obtain ⟨SM1, hSM1⟩ : ∃ SM1, sumD l S lo (k + 1) = SM1 := ⟨_, rfl⟩
      rw [hSM1] at HAD
      have HSM := hid hSM1
      generalize distC (l.getD (lo + k) 0) (l.getD q 0) = D at *
      generalize l.getD (lo + k) 0 = X at *
      generalize l.getD q 0 = Y at *
      have hik : ((lo + k : Nat) : Int) < (L : Int) := by omega
      obtain ⟨I, hI⟩ : ∃ I, lo + k = I := ⟨_, rfl⟩
      have hw3 : wrap64 ((I : Int) - (S : Int)) = (q : Int) := by unfold wrap64; omega
      have hw4 : (I : Int) - (S : Int) = (q : Int) := by omega
      have hIL : I < L := by omega
      have hqL : q < L := by omega
      have HE := hid (show I + 1 = lo + (k + 1) by omega)
      have HM2 := hid (show I < L by omega)
      have HN2 := hid (show k + 1 ≤ N by omega)
      rw [hI] at y0 hik ⊢
      have hbr : b < wr.heap.size := World.block_lt_of_cell? wr.drew _ y0
      clear hI hq hsd hLN hSM1
      go_wp2_with fail
      refine wp_region_noPanic ?_
      refine wp_region_last (L := 13) (S := fun w' => w' = wr.drew) (by kernel_rfl) ?_
      have hS : (fun w' : World => w' = wr.drew) wr.drew := rfl
      refine wpAnyL_take (i := 0) (v := .int .i64 SM) rfl (by kernel_rfl) (by kernel_rfl) (by kernel_rfl) (by kernel_rfl) (by kernel_rfl) (fun _ _ _ h => h) (Or.inl ⟨by kernel_rfl, ?_⟩) hS ?_
      · (intro w' hSw; subst hSw; go_simp)
      (try simp only [List.getElem_toArray, List.getElem_cons_succ, List.getElem_cons_zero])
      go_frame
      refine wpAnyL_take (i := 1) (v := .slice (some ⟨b, o, none⟩) L c) rfl (by kernel_rfl) (by kernel_rfl) (by kernel_rfl) (by kernel_rfl) (by kernel_rfl) (fun _ _ _ h => h) (Or.inl ⟨by kernel_rfl, ?_⟩) hS ?_
      · (intro w' hSw; subst hSw; go_simp)
      (try simp only [List.getElem_toArray, List.getElem_cons_succ, List.getElem_cons_zero])
      go_frame
      refine wpAnyL_take (i := 2) (v := .int .i64 (I : Int)) rfl (by kernel_rfl) (by kernel_rfl) (by kernel_rfl) (by kernel_rfl) (by kernel_rfl) (fun _ _ _ h => h) (Or.inl ⟨by kernel_rfl, ?_⟩) hS ?_
      · (intro w' hSw; subst hSw; go_simp)
      (try simp only [List.getElem_toArray, List.getElem_cons_succ, List.getElem_cons_zero])
      go_frame
      refine wpAnyL_take (i := 3) (v := .pointer (some ⟨b, o + I, none⟩)) rfl (by kernel_rfl) (by kernel_rfl) (by kernel_rfl) (by kernel_rfl) (by kernel_rfl) (fun _ _ _ h => h) (Or.inl ⟨by kernel_rfl, ?_⟩) hS ?_
      · (intro w' hSw; subst hSw; go_simp)
      (try simp only [List.getElem_toArray, List.getElem_cons_succ, List.getElem_cons_zero])
      go_frame
      refine wpAnyL_take (i := 4) (v := .int .i64 X) rfl (by kernel_rfl) (by kernel_rfl) (by kernel_rfl) (by kernel_rfl) (by kernel_rfl) (fun _ _ _ h => h) (Or.inl ⟨by kernel_rfl, ?_⟩) hS ?_
      · (intro w' hSw; subst hSw; go_simp)
      (try simp only [List.getElem_toArray, List.getElem_cons_succ, List.getElem_cons_zero])
      go_frame
      refine wpAnyL_take (i := 5) (v := .slice (some ⟨b, o, none⟩) L c) rfl (by kernel_rfl) (by kernel_rfl) (by kernel_rfl) (by kernel_rfl) (by kernel_rfl) (fun _ _ _ h => h) (Or.inl ⟨by kernel_rfl, ?_⟩) hS ?_
      · (intro w' hSw; subst hSw; go_simp)
      (try simp only [List.getElem_toArray, List.getElem_cons_succ, List.getElem_cons_zero])
      go_frame
      refine wpAnyL_take (i := 6) (v := .int .i64 (I : Int)) rfl (by kernel_rfl) (by kernel_rfl) (by kernel_rfl) (by kernel_rfl) (by kernel_rfl) (fun _ _ _ h => h) (Or.inl ⟨by kernel_rfl, ?_⟩) hS ?_
      · (intro w' hSw; subst hSw; go_simp)
      (try simp only [List.getElem_toArray, List.getElem_cons_succ, List.getElem_cons_zero])
      go_frame
      refine wpAnyL_take (i := 7) (v := .int .i64 (S : Int)) rfl (by kernel_rfl) (by kernel_rfl) (by kernel_rfl) (by kernel_rfl) (by kernel_rfl) (fun _ _ _ h => h) (Or.inl ⟨by kernel_rfl, ?_⟩) hS ?_
      · (intro w' hSw; subst hSw; go_simp)
      (try simp only [List.getElem_toArray, List.getElem_cons_succ, List.getElem_cons_zero])
      go_frame
      refine wpAnyL_take (i := 8) (v := .int .i64 (q : Int)) rfl (by kernel_rfl) (by kernel_rfl) (by kernel_rfl) (by kernel_rfl) (by kernel_rfl) (fun _ _ _ h => h) (Or.inl ⟨by kernel_rfl, ?_⟩) hS ?_
      · (intro w' hSw; subst hSw; (go_simp; rw [IntKind.wrap_i64]; omega))
      (try simp only [List.getElem_toArray, List.getElem_cons_succ, List.getElem_cons_zero])
      go_frame
      refine wpAnyL_take (i := 9) (v := .pointer (some ⟨b, o + q, none⟩)) rfl (by kernel_rfl) (by kernel_rfl) (by kernel_rfl) (by kernel_rfl) (by kernel_rfl) (fun _ _ _ h => h) (Or.inl ⟨by kernel_rfl, ?_⟩) hS ?_
      · (intro w' hSw; subst hSw; go_simp)
      (try simp only [List.getElem_toArray, List.getElem_cons_succ, List.getElem_cons_zero])
      go_frame
      refine wpAnyL_take (i := 10) (v := .int .i64 Y) rfl (by kernel_rfl) (by kernel_rfl) (by kernel_rfl) (by kernel_rfl) (by kernel_rfl) (fun _ _ _ h => h) (Or.inl ⟨by kernel_rfl, ?_⟩) hS ?_
      · (intro w' hSw; subst hSw; go_simp)
      (try simp only [List.getElem_toArray, List.getElem_cons_succ, List.getElem_cons_zero])
      go_frame
      refine wpAnyL_one (i := 11) (by kernel_rfl) rfl (by kernel_rfl) ?_
      go_simp
      refine (HDS.out _).mono ?_
      rintro e w' ⟨rfl, rfl⟩
      refine ⟨rfl, ?_⟩
      (try simp only [List.getElem_toArray, List.getElem_cons_succ, List.getElem_cons_zero])
      (try go_frame)
      refine wpAnyL_one (i := 12) (by kernel_rfl) rfl (by kernel_rfl) ?_
      go_simp
      refine (HAD.out _).mono ?_
      rintro e w' ⟨rfl, rfl⟩
      refine ⟨rfl, ?_⟩
      (try simp only [List.getElem_toArray, List.getElem_cons_succ, List.getElem_cons_zero])
      (try go_frame)
      refine wpAnyL_last (by kernel_rfl) (by kernel_rfl) rfl rfl ?_
      go_simp
      refine NoPanic.normal ?_
      go_wp2_with fail
      go_roundw
      case rel => exact ⟨k + 1, HN2.out, by rw [← HE.out]; go_num, by rw [HSM.out], hid HK.out.drew⟩
      case measure => simp [intOf]; omega
    · have e : k = N := by omega
      subst e
      have hik : ¬ ((lo + k : Nat) : Int) < (L : Int) := by omega
      go_wp2
      go_ret2
      exact HF.out _ HK.out
end Go.Proofs.Ytkhbkjnjhojnbaa.Se
