/-
  The document's own Text of matchers.
-/
import Derived.Test.YtbdcaikcdhfdoaaMrcheck
import Derived.Test.YtbdcaikcdhfdoaaMtxt
import Derived.Test.YtbdcaikcdhfdoaaNrtext
import Derived.Test.YtbdcaikcdhfdoaaWpair
namespace Go.Proofs.Ytbdcaikcdhfdoaa.N
open Go.RowKit Go.Proofs.Lys
set_option linter.unusedVariables false
set_option linter.unusedSimpArgs false

set_option maxRecDepth 100000 in
set_option maxHeartbeats 16000000 in
theorem rmtext_any (w : World) (v : Value) (l : Mats) (hs : MatSrc w v l) (hl : l.length ≤ 100000) (hB : SmallM l) :
    Calls Try.prog 16 #[v] w fun e w' => e = .returned (.string (mkB (mtxtL l))) ∧ Kept w w' := by
  have HC := hid (rcheck_any w v l hs hl hB)
  obtain ⟨a1, c1, rfl⟩ := hs.len
  by_cases hck : checkM l = 0
  · have hck8 := (checkM_zero.1 hck).1
    have HOK := hid (checkM_zero.1 hck).2
    rw [hck] at HC
    have HS := hid hs
    obtain ⟨L, hL⟩ : ∃ L, l.length = L := ⟨_, rfl⟩
    have HL := hid hL
    rw [hL] at HS HC hl hck8 ⊢
    by_cases h0 : L = 0
    · subst h0
      have Ht : Hid (mkB (mtxtL l) = ⟨#[42]⟩) := by
        refine hid ?_
        have : l = [] := List.length_eq_zero_iff.1 hL
        subst this
        rfl
      clear hs hL hck hB
      go_enter Try.func16, Try.ntmps16
      go_wp2_with fail
      refine HC.out.mono ?_
      rintro e w1 ⟨rfl, hq⟩
      replace hq := hq.symm
      subst hq
      go_wp2
      go_ret
      exact ⟨by rw [Ht.out]; rfl, Only.refl _ _⟩
    · have hne : l ≠ [] := fun e => h0 (by rw [← hL, e]; rfl)
      have Ht : Hid (mtxtL l = matsT l) := by refine hid ?_; unfold mtxtL; rw [if_pos hck, if_neg hne]
      have h0' : ((L : Int) == 0) = false := by simp; omega
      clear hs hL hck hB hne h0
      go_enter Try.func16, Try.ntmps16
      go_wp2_with fail
      refine HC.out.mono ?_
      rintro e w1 ⟨rfl, hq⟩
      replace hq := hq.symm
      subst hq
      clear HC
      go_wp2_with fail
      go_loopw [3, 4] (fun q i wr => ∃ (k : Nat) (Q : ByteArray), k ≤ L ∧ i = .int .i64 (k : Int) ∧ q = .string Q ∧ Q.data.toList = matsT (l.take k) ∧ Kept w wr) (fun _ i _ => L - (intOf i).toNat)
      case atStart => exact ⟨0, _, by omega, rfl, rfl, rfl, Only.refl _ _⟩
      case round =>
        obtain ⟨k, Q, hk, rfl, rfl, hQ, kr⟩ := hrel
        have HQ := hid hQ
        have HKr := hid kr
        have hQs : Q.size ≤ 5000 := by
          rw [Lib.size_eq, hQ]
          have h1 := matsT_len (l := l.take k) (fun x hx => HOK.out x (List.mem_of_mem_take hx))
          have h2 : (l.take k).length ≤ 8 := by rw [List.length_take]; omega
          omega
        by_cases hlt : k < L
        · have hkl : k < l.length := by have := HL.out; omega
          obtain ⟨b1, o1, rfl, x1, y1, z1⟩ := (HS.out.stay kr).cell HL.out k hlt
          have hmo := matOk_parts (HOK.out _ (List.getElem_mem hkl))
          have HT : Hid (matsT (l.take (k + 1)) = matsT (l.take k) ++ ((if k = 0 then [] else [44]) ++ matT (l[k]'hkl))) := by
            refine hid ?_
            rw [← List.take_append_getElem hkl, matsT_snoc]
            by_cases e : k = 0
            · subst e
              simp
            · rw [if_neg e, if_neg]
              intro e2
              have h5 := congrArg List.length e2
              rw [List.length_take, List.length_nil] at h5
              omega
          clear hQ kr
          generalize l[k]'hkl = x at x1 y1 z1 hmo HT
          obtain ⟨N, X, Y⟩ := x
          simp only at x1 y1 z1 hmo
          obtain ⟨hN1, hN4, hnX, hvY⟩ := hmo
          have hX : X.size ≤ 64 := by
            simp only [nameOk, Bool.and_eq_true, decide_eq_true_eq] at hnX
            exact hnX.1.1.2
          have hY : Y.size ≤ 64 := by
            have : roomN N ≤ 64 := by unfold roomN; split <;> omega
            omega
          have HQu := hid (fun W => rquote_any W Y (by omega))
          have hql := quote_len Y.data.toList
          rw [← Lib.size_eq] at hql
          generalize hR : mkB (34 :: (quoteL Y.data.toList ++ [34])) = R at HQu
          have hRs : R.size ≤ 200 := by rw [← hR, mkB_size]; simp; omega
          have HRd : Hid (R.data.toList = 34 :: (quoteL Y.data.toList ++ [34])) := by refine hid ?_; rw [← hR]
          clear hR hnX hvY hql
          obtain ⟨Q2, hQ2⟩ : ∃ Q2, Q2 = (if k = 0 then Q else Q ++ ⟨#[44]⟩) := ⟨_, rfl⟩
          have hQ2d : Q2.data.toList = matsT (l.take k) ++ (if k = 0 then [] else [44]) := by
            rw [hQ2]
            split
            · rw [List.append_nil]; exact HQ.out
            · rw [ByteArray.data_append, Array.toList_append, HQ.out]
          have hQ2s : Q2.size ≤ 5001 := by
            rw [hQ2]
            split
            · omega
            · rw [ByteArray.size_append]; show Q.size + 1 ≤ _; omega
          have HT4 : Hid (N = 4 → (Q2 ++ X).data.toList = matsT (l.take (k + 1))) := fun e => by
            subst e
            rw [HT.out, ByteArray.data_append, Array.toList_append, hQ2d]
            unfold matT valT
            rw [if_neg (show ¬ (4 : Int) < 4 by decide)]
            simp
          have HT3 : Hid (N < 4 → ∀ MK : ByteArray, MK.data.toList = markB N → (Q2 ++ X ++ MK ++ R).data.toList = matsT (l.take (k + 1))) := fun e MK hMK => by
            rw [HT.out, ByteArray.data_append, ByteArray.data_append, ByteArray.data_append, Array.toList_append, Array.toList_append, Array.toList_append, HRd.out, hQ2d, hMK]
            unfold matT valT
            rw [if_pos (show (N, X, Y).1 < 4 from e)]
            simp
          have s0 : Q.size + 1 ≤ 9223372036854775807 := by omega
          have s0' : ¬ ((9223372036854775807 : Int) < (Q.size : Int) + 1) := by omega
          have s1 : Q2.size + X.size ≤ 9223372036854775807 := by omega
          have s1' : ¬ ((9223372036854775807 : Int) < (Q2.size : Int) + (X.size : Int)) := by omega
          clear hQ2d HT
          have hN : N = 1 ∨ N = 2 ∨ N = 3 ∨ N = 4 := by omega
          clear hN1 hN4
          by_cases hk0 : k = 0
          · rw [if_pos hk0] at hQ2
            have hkz : ¬ ((0 : Int) < (k : Int)) := by omega
            have HK0 := hid hk0
            subst hQ2
            clear hk0
            rcases hN with rfl | rfl | rfl | rfl
            · have HF := hid (HT3.out (by decide) ⟨#[61]⟩ rfl)
              clear HT4 HT3
              have m1 : (⟨#[61]⟩ : ByteArray).size = 1 := rfl
              have s2 : Q2.size + X.size + 1 ≤ 9223372036854775807 := by omega
              have s2' : ¬ ((9223372036854775807 : Int) < (Q2.size : Int) + (X.size : Int) + 1) := by omega
              have s3 : Q2.size + X.size + 1 + R.size ≤ 9223372036854775807 := by omega
              have s3' : ¬ ((9223372036854775807 : Int) < (Q2.size : Int) + (X.size : Int) + 1 + (R.size : Int)) := by omega
              have s2n : ¬ (9223372036854775807 < Q2.size + X.size + 1) := by omega
              have s3n : ¬ (9223372036854775807 < Q2.size + X.size + 1 + R.size) := by omega
              have HSt : Hid (∀ W', Kept wr W' → W'.cell? ⟨b1, o1 + k * 3, none⟩ = some (.int .i64 1) ∧ W'.cell? ⟨b1, o1 + k * 3 + 2, none⟩ = some (.string Y)) := fun W' kW => ⟨by
                rw [World.cell?_of_block (w := wr) (w' := W') (kW.block _ (World.block_lt_of_cell? wr _ x1) (fun f => f))]; exact x1, by
                rw [World.cell?_of_block (w := wr) (w' := W') (kW.block _ (World.block_lt_of_cell? wr _ z1) (fun f => f))]; exact z1⟩
              go_wp2_with fail
              refine wp_region_noPanic ?_
              refine wp_region_last (L := 1000) (S := fun w' => w'.cell? ⟨b1, o1 + k * 3, none⟩ = some (.int .i64 1) ∧ w'.cell? ⟨b1, o1 + k * 3 + 2, none⟩ = some (.string Y)) (by kernel_rfl) ?_
              have hS : (fun w' : World => w'.cell? ⟨b1, o1 + k * 3, none⟩ = some (.int .i64 1) ∧ w'.cell? ⟨b1, o1 + k * 3 + 2, none⟩ = some (.string Y)) wr.drew := ⟨x1, z1⟩
              clear x1 z1 y1
              refine wpAnyN_take (i := 0) (v := .string (Q2 ++ X)) rfl (by kernel_rfl) (by kernel_rfl) (by kernel_rfl) (by decide) (by kernel_rfl) (fun _ _ _ h => h) (Or.inl ⟨by rfl, ?_⟩) hS ?_
              · (intro w' hSw; obtain ⟨q0, q2⟩ := hSw; go_simp)
              go_frame
              refine wpAnyN_take (i := 2) (v := .slice (some ⟨b1, o1, none⟩) L c1) rfl (by kernel_rfl) (by kernel_rfl) (by kernel_rfl) (by decide) (by kernel_rfl) (fun _ _ _ h => h) (Or.inl ⟨by rfl, ?_⟩) hS ?_
              · (intro w' hSw; obtain ⟨q0, q2⟩ := hSw; go_simp)
              go_frame
              refine wpAnyN_take (i := 3) (v := .int .i64 (k : Int)) rfl (by kernel_rfl) (by kernel_rfl) (by kernel_rfl) (by decide) (by kernel_rfl) (fun _ _ _ h => h) (Or.inl ⟨by rfl, ?_⟩) hS ?_
              · (intro w' hSw; obtain ⟨q0, q2⟩ := hSw; go_simp)
              go_frame
              refine wpAnyN_take (i := 4) (v := .pointer (some ⟨b1, o1 + k * 3, none⟩)) rfl (by kernel_rfl) (by kernel_rfl) (by kernel_rfl) (by decide) (by kernel_rfl) (fun _ _ _ h => h) (Or.inl ⟨by rfl, ?_⟩) hS ?_
              · (intro w' hSw; obtain ⟨q0, q2⟩ := hSw; go_simp)
              go_frame
              refine wpAnyN_take (i := 5) (v := .pointer (some ⟨b1, o1 + k * 3, none⟩)) rfl (by kernel_rfl) (by kernel_rfl) (by kernel_rfl) (by decide) (by kernel_rfl) (fun _ _ _ h => h) (Or.inl ⟨by rfl, ?_⟩) hS ?_
              · (intro w' hSw; obtain ⟨q0, q2⟩ := hSw; go_simp)
              go_frame
              refine wpAnyN_take (i := 6) (v := .int .i64 1) rfl (by kernel_rfl) (by kernel_rfl) (by kernel_rfl) (by decide) (by kernel_rfl) (fun _ _ _ h => h) (Or.inl ⟨by rfl, ?_⟩) hS ?_
              · (intro w' hSw; obtain ⟨q0, q2⟩ := hSw; go_simp)
              go_frame
              refine wpAnyN_take (i := 10) (v := .slice (some ⟨b1, o1, none⟩) L c1) rfl (by kernel_rfl) (by kernel_rfl) (by kernel_rfl) (by decide) (by kernel_rfl) (fun _ _ _ h => h) (Or.inl ⟨by rfl, ?_⟩) hS ?_
              · (intro w' hSw; obtain ⟨q0, q2⟩ := hSw; go_simp)
              go_frame
              refine wpAnyN_take (i := 11) (v := .int .i64 (k : Int)) rfl (by kernel_rfl) (by kernel_rfl) (by kernel_rfl) (by decide) (by kernel_rfl) (fun _ _ _ h => h) (Or.inl ⟨by rfl, ?_⟩) hS ?_
              · (intro w' hSw; obtain ⟨q0, q2⟩ := hSw; go_simp)
              go_frame
              refine wpAnyN_take (i := 12) (v := .pointer (some ⟨b1, o1 + k * 3, none⟩)) rfl (by kernel_rfl) (by kernel_rfl) (by kernel_rfl) (by decide) (by kernel_rfl) (fun _ _ _ h => h) (Or.inl ⟨by rfl, ?_⟩) hS ?_
              · (intro w' hSw; obtain ⟨q0, q2⟩ := hSw; go_simp)
              go_frame
              refine wpAnyN_take (i := 13) (v := .pointer (some ⟨b1, o1 + k * 3 + 2, none⟩)) rfl (by kernel_rfl) (by kernel_rfl) (by kernel_rfl) (by decide) (by kernel_rfl) (fun _ _ _ h => h) (Or.inl ⟨by rfl, ?_⟩) hS ?_
              · (intro w' hSw; obtain ⟨q0, q2⟩ := hSw; go_simp)
              go_frame
              refine wpAnyN_take (i := 14) (v := .string Y) rfl (by kernel_rfl) (by kernel_rfl) (by kernel_rfl) (by decide) (by kernel_rfl) (fun _ _ _ h => h) (Or.inl ⟨by rfl, ?_⟩) hS ?_
              · (intro w' hSw; obtain ⟨q0, q2⟩ := hSw; go_simp)
              go_frame
              have kd : Kept wr wr.drew := (Only.refl (fun _ => False) wr).drew
              generalize wr.drew = wd at hS kd ⊢
              refine wpAnyL_pair (i := 1) (j := 15) (by kernel_rfl) rfl rfl rfl rfl ?_ ?_
              · go_simp
                have ka : Kept wr (wd.alloc (.cells #[.string ⟨#[]⟩, .string ⟨#[61]⟩, .string ⟨#[33, 61]⟩, .string ⟨#[94, 61]⟩] 9)) := kd.alloc _
                have hbl := Blk.new wd [.string ⟨#[]⟩, .string ⟨#[61]⟩, .string ⟨#[33, 61]⟩, .string ⟨#[94, 61]⟩] 9
                refine ⟨HSt.out _ ka, ?_⟩
                (try go_frame)
                generalize wd.alloc (.cells #[.string ⟨#[]⟩, .string ⟨#[61]⟩, .string ⟨#[33, 61]⟩, .string ⟨#[94, 61]⟩] 9) = wa at ka hbl ⊢
                generalize wd.heap.size = lb at hbl ⊢
                have hl := hbl.cell 1 rfl
                refine wpAnyN_take (i := 7) (v := .pointer (some ⟨lb, 1, none⟩)) rfl (by kernel_rfl) (by kernel_rfl) (by kernel_rfl) (by decide) (by kernel_rfl) (fun _ _ _ h => h) (Or.inl ⟨by rfl, ?_⟩) (HSt.out _ ka) ?_
                · (intro w' hSw; go_simp)
                go_frame
                refine wpAnyL_pair (i := 8) (j := 15) (by kernel_rfl) rfl rfl rfl rfl ?_ ?_
                · go_simp
                  refine ⟨HSt.out _ ka, ?_⟩
                  (try go_frame)
                  refine wpAnyN_take (i := 9) (v := .string (Q2 ++ X ++ ⟨#[61]⟩)) rfl (by kernel_rfl) (by kernel_rfl) (by kernel_rfl) (by decide) (by kernel_rfl) (fun _ _ _ h => h) (Or.inl ⟨by rfl, ?_⟩) (HSt.out _ ka) ?_
                  · (intro w' hSw; go_simp)
                  go_frame
                  refine wpAnyL_one (i := 15) (by kernel_rfl) rfl rfl ?_
                  go_simp
                  refine (HQu.out _).mono ?_
                  rintro e wb ⟨rfl, kb'⟩
                  have kb : Kept wr wb := ka.trans kb' (fun _ _ f => f)
                  refine ⟨HSt.out _ kb, ?_⟩
                  (try go_frame)
                  refine wpAnyL_one (i := 16) (by kernel_rfl) rfl rfl ?_
                  go_simp
                  refine ⟨HSt.out _ kb, ?_⟩
                  refine wpAnyL_one (i := 17) (by kernel_rfl) rfl rfl ?_
                  go_simp
                  refine ⟨HSt.out _ kb, ?_⟩
                  refine wpAnyN_done (by kernel_rfl) ?_
                  refine NoPanic.normal ?_
                  clear hS
                  go_wp2_with fail
                  go_roundw
                  case rel => exact ⟨k + 1, _, by omega, by go_num, rfl, HF.out, HKr.out.trans kb (fun _ _ f => f)⟩
                  case measure => simp [intOf]; omega
                · go_simp
                  refine (HQu.out _).mono ?_
                  rintro e wb ⟨rfl, kb'⟩
                  have kb : Kept wr wb := ka.trans kb' (fun _ _ f => f)
                  have hl2 := (Only.blk kb' hbl (fun f => f)).cell 1 rfl
                  refine ⟨HSt.out _ kb, ?_⟩
                  (try go_frame)
                  refine wpAnyL_one (i := 8) (by kernel_rfl) rfl rfl ?_
                  go_simp
                  refine ⟨HSt.out _ kb, ?_⟩
                  (try go_frame)
                  refine wpAnyL_one (i := 9) (by kernel_rfl) rfl rfl ?_
                  go_simp
                  refine ⟨HSt.out _ kb, ?_⟩
                  (try go_frame)
                  refine wpAnyL_one (i := 16) (by kernel_rfl) rfl rfl ?_
                  go_simp
                  refine ⟨HSt.out _ kb, ?_⟩
                  refine wpAnyL_one (i := 17) (by kernel_rfl) rfl rfl ?_
                  go_simp
                  refine ⟨HSt.out _ kb, ?_⟩
                  refine wpAnyN_done (by kernel_rfl) ?_
                  refine NoPanic.normal ?_
                  clear hS
                  go_wp2_with fail
                  go_roundw
                  case rel => exact ⟨k + 1, _, by omega, by go_num, rfl, HF.out, HKr.out.trans kb (fun _ _ f => f)⟩
                  case measure => simp [intOf]; omega
              · go_simp
                refine (HQu.out _).mono ?_
                rintro e wb ⟨rfl, kb'⟩
                have kb : Kept wr wb := kd.trans kb' (fun _ _ f => f)
                refine ⟨HSt.out _ kb, ?_⟩
                (try go_frame)
                refine wpAnyL_one (i := 1) (by kernel_rfl) rfl rfl ?_
                go_simp
                have kc : Kept wr (wb.alloc (.cells #[.string ⟨#[]⟩, .string ⟨#[61]⟩, .string ⟨#[33, 61]⟩, .string ⟨#[94, 61]⟩] 9)) := kb.alloc _
                have hbl := Blk.new wb [.string ⟨#[]⟩, .string ⟨#[61]⟩, .string ⟨#[33, 61]⟩, .string ⟨#[94, 61]⟩] 9
                refine ⟨HSt.out _ kc, ?_⟩
                (try go_frame)
                generalize wb.alloc (.cells #[.string ⟨#[]⟩, .string ⟨#[61]⟩, .string ⟨#[33, 61]⟩, .string ⟨#[94, 61]⟩] 9) = wc at kc hbl ⊢
                generalize wb.heap.size = lb at hbl ⊢
                have hl := hbl.cell 1 rfl
                refine wpAnyL_one (i := 7) (by kernel_rfl) rfl rfl ?_
                go_simp
                refine ⟨HSt.out _ kc, ?_⟩
                (try go_frame)
                refine wpAnyL_one (i := 8) (by kernel_rfl) rfl rfl ?_
                go_simp
                refine ⟨HSt.out _ kc, ?_⟩
                (try go_frame)
                refine wpAnyL_one (i := 9) (by kernel_rfl) rfl rfl ?_
                go_simp
                refine ⟨HSt.out _ kc, ?_⟩
                (try go_frame)
                refine wpAnyL_one (i := 16) (by kernel_rfl) rfl rfl ?_
                go_simp
                refine ⟨HSt.out _ kc, ?_⟩
                refine wpAnyL_one (i := 17) (by kernel_rfl) rfl rfl ?_
                go_simp
                refine ⟨HSt.out _ kc, ?_⟩
                refine wpAnyN_done (by kernel_rfl) ?_
                refine NoPanic.normal ?_
                clear hS
                go_wp2_with fail
                go_roundw
                case rel => exact ⟨k + 1, _, by omega, by go_num, rfl, HF.out, HKr.out.trans kc (fun _ _ f => f)⟩
                case measure => simp [intOf]; omega
            · have HF := hid (HT3.out (by decide) ⟨#[33, 61]⟩ rfl)
              clear HT4 HT3
              have m1 : (⟨#[33, 61]⟩ : ByteArray).size = 2 := rfl
              have s2 : Q2.size + X.size + 2 ≤ 9223372036854775807 := by omega
              have s2' : ¬ ((9223372036854775807 : Int) < (Q2.size : Int) + (X.size : Int) + 2) := by omega
              have s3 : Q2.size + X.size + 2 + R.size ≤ 9223372036854775807 := by omega
              have s3' : ¬ ((9223372036854775807 : Int) < (Q2.size : Int) + (X.size : Int) + 2 + (R.size : Int)) := by omega
              have s2n : ¬ (9223372036854775807 < Q2.size + X.size + 2) := by omega
              have s3n : ¬ (9223372036854775807 < Q2.size + X.size + 2 + R.size) := by omega
              have HSt : Hid (∀ W', Kept wr W' → W'.cell? ⟨b1, o1 + k * 3, none⟩ = some (.int .i64 2) ∧ W'.cell? ⟨b1, o1 + k * 3 + 2, none⟩ = some (.string Y)) := fun W' kW => ⟨by
                rw [World.cell?_of_block (w := wr) (w' := W') (kW.block _ (World.block_lt_of_cell? wr _ x1) (fun f => f))]; exact x1, by
                rw [World.cell?_of_block (w := wr) (w' := W') (kW.block _ (World.block_lt_of_cell? wr _ z1) (fun f => f))]; exact z1⟩
              go_wp2_with fail
              refine wp_region_noPanic ?_
              refine wp_region_last (L := 1000) (S := fun w' => w'.cell? ⟨b1, o1 + k * 3, none⟩ = some (.int .i64 2) ∧ w'.cell? ⟨b1, o1 + k * 3 + 2, none⟩ = some (.string Y)) (by kernel_rfl) ?_
              have hS : (fun w' : World => w'.cell? ⟨b1, o1 + k * 3, none⟩ = some (.int .i64 2) ∧ w'.cell? ⟨b1, o1 + k * 3 + 2, none⟩ = some (.string Y)) wr.drew := ⟨x1, z1⟩
              clear x1 z1 y1
              refine wpAnyN_take (i := 0) (v := .string (Q2 ++ X)) rfl (by kernel_rfl) (by kernel_rfl) (by kernel_rfl) (by decide) (by kernel_rfl) (fun _ _ _ h => h) (Or.inl ⟨by rfl, ?_⟩) hS ?_
              · (intro w' hSw; obtain ⟨q0, q2⟩ := hSw; go_simp)
              go_frame
              refine wpAnyN_take (i := 2) (v := .slice (some ⟨b1, o1, none⟩) L c1) rfl (by kernel_rfl) (by kernel_rfl) (by kernel_rfl) (by decide) (by kernel_rfl) (fun _ _ _ h => h) (Or.inl ⟨by rfl, ?_⟩) hS ?_
              · (intro w' hSw; obtain ⟨q0, q2⟩ := hSw; go_simp)
              go_frame
              refine wpAnyN_take (i := 3) (v := .int .i64 (k : Int)) rfl (by kernel_rfl) (by kernel_rfl) (by kernel_rfl) (by decide) (by kernel_rfl) (fun _ _ _ h => h) (Or.inl ⟨by rfl, ?_⟩) hS ?_
              · (intro w' hSw; obtain ⟨q0, q2⟩ := hSw; go_simp)
              go_frame
              refine wpAnyN_take (i := 4) (v := .pointer (some ⟨b1, o1 + k * 3, none⟩)) rfl (by kernel_rfl) (by kernel_rfl) (by kernel_rfl) (by decide) (by kernel_rfl) (fun _ _ _ h => h) (Or.inl ⟨by rfl, ?_⟩) hS ?_
              · (intro w' hSw; obtain ⟨q0, q2⟩ := hSw; go_simp)
              go_frame
              refine wpAnyN_take (i := 5) (v := .pointer (some ⟨b1, o1 + k * 3, none⟩)) rfl (by kernel_rfl) (by kernel_rfl) (by kernel_rfl) (by decide) (by kernel_rfl) (fun _ _ _ h => h) (Or.inl ⟨by rfl, ?_⟩) hS ?_
              · (intro w' hSw; obtain ⟨q0, q2⟩ := hSw; go_simp)
              go_frame
              refine wpAnyN_take (i := 6) (v := .int .i64 2) rfl (by kernel_rfl) (by kernel_rfl) (by kernel_rfl) (by decide) (by kernel_rfl) (fun _ _ _ h => h) (Or.inl ⟨by rfl, ?_⟩) hS ?_
              · (intro w' hSw; obtain ⟨q0, q2⟩ := hSw; go_simp)
              go_frame
              refine wpAnyN_take (i := 10) (v := .slice (some ⟨b1, o1, none⟩) L c1) rfl (by kernel_rfl) (by kernel_rfl) (by kernel_rfl) (by decide) (by kernel_rfl) (fun _ _ _ h => h) (Or.inl ⟨by rfl, ?_⟩) hS ?_
              · (intro w' hSw; obtain ⟨q0, q2⟩ := hSw; go_simp)
              go_frame
              refine wpAnyN_take (i := 11) (v := .int .i64 (k : Int)) rfl (by kernel_rfl) (by kernel_rfl) (by kernel_rfl) (by decide) (by kernel_rfl) (fun _ _ _ h => h) (Or.inl ⟨by rfl, ?_⟩) hS ?_
              · (intro w' hSw; obtain ⟨q0, q2⟩ := hSw; go_simp)
              go_frame
              refine wpAnyN_take (i := 12) (v := .pointer (some ⟨b1, o1 + k * 3, none⟩)) rfl (by kernel_rfl) (by kernel_rfl) (by kernel_rfl) (by decide) (by kernel_rfl) (fun _ _ _ h => h) (Or.inl ⟨by rfl, ?_⟩) hS ?_
              · (intro w' hSw; obtain ⟨q0, q2⟩ := hSw; go_simp)
              go_frame
              refine wpAnyN_take (i := 13) (v := .pointer (some ⟨b1, o1 + k * 3 + 2, none⟩)) rfl (by kernel_rfl) (by kernel_rfl) (by kernel_rfl) (by decide) (by kernel_rfl) (fun _ _ _ h => h) (Or.inl ⟨by rfl, ?_⟩) hS ?_
              · (intro w' hSw; obtain ⟨q0, q2⟩ := hSw; go_simp)
              go_frame
              refine wpAnyN_take (i := 14) (v := .string Y) rfl (by kernel_rfl) (by kernel_rfl) (by kernel_rfl) (by decide) (by kernel_rfl) (fun _ _ _ h => h) (Or.inl ⟨by rfl, ?_⟩) hS ?_
              · (intro w' hSw; obtain ⟨q0, q2⟩ := hSw; go_simp)
              go_frame
              have kd : Kept wr wr.drew := (Only.refl (fun _ => False) wr).drew
              generalize wr.drew = wd at hS kd ⊢
              refine wpAnyL_pair (i := 1) (j := 15) (by kernel_rfl) rfl rfl rfl rfl ?_ ?_
              · go_simp
                have ka : Kept wr (wd.alloc (.cells #[.string ⟨#[]⟩, .string ⟨#[61]⟩, .string ⟨#[33, 61]⟩, .string ⟨#[94, 61]⟩] 9)) := kd.alloc _
                have hbl := Blk.new wd [.string ⟨#[]⟩, .string ⟨#[61]⟩, .string ⟨#[33, 61]⟩, .string ⟨#[94, 61]⟩] 9
                refine ⟨HSt.out _ ka, ?_⟩
                (try go_frame)
                generalize wd.alloc (.cells #[.string ⟨#[]⟩, .string ⟨#[61]⟩, .string ⟨#[33, 61]⟩, .string ⟨#[94, 61]⟩] 9) = wa at ka hbl ⊢
                generalize wd.heap.size = lb at hbl ⊢
                have hl := hbl.cell 2 rfl
                refine wpAnyN_take (i := 7) (v := .pointer (some ⟨lb, 2, none⟩)) rfl (by kernel_rfl) (by kernel_rfl) (by kernel_rfl) (by decide) (by kernel_rfl) (fun _ _ _ h => h) (Or.inl ⟨by rfl, ?_⟩) (HSt.out _ ka) ?_
                · (intro w' hSw; go_simp)
                go_frame
                refine wpAnyL_pair (i := 8) (j := 15) (by kernel_rfl) rfl rfl rfl rfl ?_ ?_
                · go_simp
                  refine ⟨HSt.out _ ka, ?_⟩
                  (try go_frame)
                  refine wpAnyN_take (i := 9) (v := .string (Q2 ++ X ++ ⟨#[33, 61]⟩)) rfl (by kernel_rfl) (by kernel_rfl) (by kernel_rfl) (by decide) (by kernel_rfl) (fun _ _ _ h => h) (Or.inl ⟨by rfl, ?_⟩) (HSt.out _ ka) ?_
                  · (intro w' hSw; go_simp)
                  go_frame
                  refine wpAnyL_one (i := 15) (by kernel_rfl) rfl rfl ?_
                  go_simp
                  refine (HQu.out _).mono ?_
                  rintro e wb ⟨rfl, kb'⟩
                  have kb : Kept wr wb := ka.trans kb' (fun _ _ f => f)
                  refine ⟨HSt.out _ kb, ?_⟩
                  (try go_frame)
                  refine wpAnyL_one (i := 16) (by kernel_rfl) rfl rfl ?_
                  go_simp
                  refine ⟨HSt.out _ kb, ?_⟩
                  refine wpAnyL_one (i := 17) (by kernel_rfl) rfl rfl ?_
                  go_simp
                  refine ⟨HSt.out _ kb, ?_⟩
                  refine wpAnyN_done (by kernel_rfl) ?_
                  refine NoPanic.normal ?_
                  clear hS
                  go_wp2_with fail
                  go_roundw
                  case rel => exact ⟨k + 1, _, by omega, by go_num, rfl, HF.out, HKr.out.trans kb (fun _ _ f => f)⟩
                  case measure => simp [intOf]; omega
                · go_simp
                  refine (HQu.out _).mono ?_
                  rintro e wb ⟨rfl, kb'⟩
                  have kb : Kept wr wb := ka.trans kb' (fun _ _ f => f)
                  have hl2 := (Only.blk kb' hbl (fun f => f)).cell 2 rfl
                  refine ⟨HSt.out _ kb, ?_⟩
                  (try go_frame)
                  refine wpAnyL_one (i := 8) (by kernel_rfl) rfl rfl ?_
                  go_simp
                  refine ⟨HSt.out _ kb, ?_⟩
                  (try go_frame)
                  refine wpAnyL_one (i := 9) (by kernel_rfl) rfl rfl ?_
                  go_simp
                  refine ⟨HSt.out _ kb, ?_⟩
                  (try go_frame)
                  refine wpAnyL_one (i := 16) (by kernel_rfl) rfl rfl ?_
                  go_simp
                  refine ⟨HSt.out _ kb, ?_⟩
                  refine wpAnyL_one (i := 17) (by kernel_rfl) rfl rfl ?_
                  go_simp
                  refine ⟨HSt.out _ kb, ?_⟩
                  refine wpAnyN_done (by kernel_rfl) ?_
                  refine NoPanic.normal ?_
                  clear hS
                  go_wp2_with fail
                  go_roundw
                  case rel => exact ⟨k + 1, _, by omega, by go_num, rfl, HF.out, HKr.out.trans kb (fun _ _ f => f)⟩
                  case measure => simp [intOf]; omega
              · go_simp
                refine (HQu.out _).mono ?_
                rintro e wb ⟨rfl, kb'⟩
                have kb : Kept wr wb := kd.trans kb' (fun _ _ f => f)
                refine ⟨HSt.out _ kb, ?_⟩
                (try go_frame)
                refine wpAnyL_one (i := 1) (by kernel_rfl) rfl rfl ?_
                go_simp
                have kc : Kept wr (wb.alloc (.cells #[.string ⟨#[]⟩, .string ⟨#[61]⟩, .string ⟨#[33, 61]⟩, .string ⟨#[94, 61]⟩] 9)) := kb.alloc _
                have hbl := Blk.new wb [.string ⟨#[]⟩, .string ⟨#[61]⟩, .string ⟨#[33, 61]⟩, .string ⟨#[94, 61]⟩] 9
                refine ⟨HSt.out _ kc, ?_⟩
                (try go_frame)
                generalize wb.alloc (.cells #[.string ⟨#[]⟩, .string ⟨#[61]⟩, .string ⟨#[33, 61]⟩, .string ⟨#[94, 61]⟩] 9) = wc at kc hbl ⊢
                generalize wb.heap.size = lb at hbl ⊢
                have hl := hbl.cell 2 rfl
                refine wpAnyL_one (i := 7) (by kernel_rfl) rfl rfl ?_
                go_simp
                refine ⟨HSt.out _ kc, ?_⟩
                (try go_frame)
                refine wpAnyL_one (i := 8) (by kernel_rfl) rfl rfl ?_
                go_simp
                refine ⟨HSt.out _ kc, ?_⟩
                (try go_frame)
                refine wpAnyL_one (i := 9) (by kernel_rfl) rfl rfl ?_
                go_simp
                refine ⟨HSt.out _ kc, ?_⟩
                (try go_frame)
                refine wpAnyL_one (i := 16) (by kernel_rfl) rfl rfl ?_
                go_simp
                refine ⟨HSt.out _ kc, ?_⟩
                refine wpAnyL_one (i := 17) (by kernel_rfl) rfl rfl ?_
                go_simp
                refine ⟨HSt.out _ kc, ?_⟩
                refine wpAnyN_done (by kernel_rfl) ?_
                refine NoPanic.normal ?_
                clear hS
                go_wp2_with fail
                go_roundw
                case rel => exact ⟨k + 1, _, by omega, by go_num, rfl, HF.out, HKr.out.trans kc (fun _ _ f => f)⟩
                case measure => simp [intOf]; omega
            · have HF := hid (HT3.out (by decide) ⟨#[94, 61]⟩ rfl)
              clear HT4 HT3
              have m1 : (⟨#[94, 61]⟩ : ByteArray).size = 2 := rfl
              have s2 : Q2.size + X.size + 2 ≤ 9223372036854775807 := by omega
              have s2' : ¬ ((9223372036854775807 : Int) < (Q2.size : Int) + (X.size : Int) + 2) := by omega
              have s3 : Q2.size + X.size + 2 + R.size ≤ 9223372036854775807 := by omega
              have s3' : ¬ ((9223372036854775807 : Int) < (Q2.size : Int) + (X.size : Int) + 2 + (R.size : Int)) := by omega
              have s2n : ¬ (9223372036854775807 < Q2.size + X.size + 2) := by omega
              have s3n : ¬ (9223372036854775807 < Q2.size + X.size + 2 + R.size) := by omega
              have HSt : Hid (∀ W', Kept wr W' → W'.cell? ⟨b1, o1 + k * 3, none⟩ = some (.int .i64 3) ∧ W'.cell? ⟨b1, o1 + k * 3 + 2, none⟩ = some (.string Y)) := fun W' kW => ⟨by
                rw [World.cell?_of_block (w := wr) (w' := W') (kW.block _ (World.block_lt_of_cell? wr _ x1) (fun f => f))]; exact x1, by
                rw [World.cell?_of_block (w := wr) (w' := W') (kW.block _ (World.block_lt_of_cell? wr _ z1) (fun f => f))]; exact z1⟩
              go_wp2_with fail
              refine wp_region_noPanic ?_
              refine wp_region_last (L := 1000) (S := fun w' => w'.cell? ⟨b1, o1 + k * 3, none⟩ = some (.int .i64 3) ∧ w'.cell? ⟨b1, o1 + k * 3 + 2, none⟩ = some (.string Y)) (by kernel_rfl) ?_
              have hS : (fun w' : World => w'.cell? ⟨b1, o1 + k * 3, none⟩ = some (.int .i64 3) ∧ w'.cell? ⟨b1, o1 + k * 3 + 2, none⟩ = some (.string Y)) wr.drew := ⟨x1, z1⟩
              clear x1 z1 y1
              refine wpAnyN_take (i := 0) (v := .string (Q2 ++ X)) rfl (by kernel_rfl) (by kernel_rfl) (by kernel_rfl) (by decide) (by kernel_rfl) (fun _ _ _ h => h) (Or.inl ⟨by rfl, ?_⟩) hS ?_
              · (intro w' hSw; obtain ⟨q0, q2⟩ := hSw; go_simp)
              go_frame
              refine wpAnyN_take (i := 2) (v := .slice (some ⟨b1, o1, none⟩) L c1) rfl (by kernel_rfl) (by kernel_rfl) (by kernel_rfl) (by decide) (by kernel_rfl) (fun _ _ _ h => h) (Or.inl ⟨by rfl, ?_⟩) hS ?_
              · (intro w' hSw; obtain ⟨q0, q2⟩ := hSw; go_simp)
              go_frame
              refine wpAnyN_take (i := 3) (v := .int .i64 (k : Int)) rfl (by kernel_rfl) (by kernel_rfl) (by kernel_rfl) (by decide) (by kernel_rfl) (fun _ _ _ h => h) (Or.inl ⟨by rfl, ?_⟩) hS ?_
              · (intro w' hSw; obtain ⟨q0, q2⟩ := hSw; go_simp)
              go_frame
              refine wpAnyN_take (i := 4) (v := .pointer (some ⟨b1, o1 + k * 3, none⟩)) rfl (by kernel_rfl) (by kernel_rfl) (by kernel_rfl) (by decide) (by kernel_rfl) (fun _ _ _ h => h) (Or.inl ⟨by rfl, ?_⟩) hS ?_
              · (intro w' hSw; obtain ⟨q0, q2⟩ := hSw; go_simp)
              go_frame
              refine wpAnyN_take (i := 5) (v := .pointer (some ⟨b1, o1 + k * 3, none⟩)) rfl (by kernel_rfl) (by kernel_rfl) (by kernel_rfl) (by decide) (by kernel_rfl) (fun _ _ _ h => h) (Or.inl ⟨by rfl, ?_⟩) hS ?_
              · (intro w' hSw; obtain ⟨q0, q2⟩ := hSw; go_simp)
              go_frame
              refine wpAnyN_take (i := 6) (v := .int .i64 3) rfl (by kernel_rfl) (by kernel_rfl) (by kernel_rfl) (by decide) (by kernel_rfl) (fun _ _ _ h => h) (Or.inl ⟨by rfl, ?_⟩) hS ?_
              · (intro w' hSw; obtain ⟨q0, q2⟩ := hSw; go_simp)
              go_frame
              refine wpAnyN_take (i := 10) (v := .slice (some ⟨b1, o1, none⟩) L c1) rfl (by kernel_rfl) (by kernel_rfl) (by kernel_rfl) (by decide) (by kernel_rfl) (fun _ _ _ h => h) (Or.inl ⟨by rfl, ?_⟩) hS ?_
              · (intro w' hSw; obtain ⟨q0, q2⟩ := hSw; go_simp)
              go_frame
              refine wpAnyN_take (i := 11) (v := .int .i64 (k : Int)) rfl (by kernel_rfl) (by kernel_rfl) (by kernel_rfl) (by decide) (by kernel_rfl) (fun _ _ _ h => h) (Or.inl ⟨by rfl, ?_⟩) hS ?_
              · (intro w' hSw; obtain ⟨q0, q2⟩ := hSw; go_simp)
              go_frame
              refine wpAnyN_take (i := 12) (v := .pointer (some ⟨b1, o1 + k * 3, none⟩)) rfl (by kernel_rfl) (by kernel_rfl) (by kernel_rfl) (by decide) (by kernel_rfl) (fun _ _ _ h => h) (Or.inl ⟨by rfl, ?_⟩) hS ?_
              · (intro w' hSw; obtain ⟨q0, q2⟩ := hSw; go_simp)
              go_frame
              refine wpAnyN_take (i := 13) (v := .pointer (some ⟨b1, o1 + k * 3 + 2, none⟩)) rfl (by kernel_rfl) (by kernel_rfl) (by kernel_rfl) (by decide) (by kernel_rfl) (fun _ _ _ h => h) (Or.inl ⟨by rfl, ?_⟩) hS ?_
              · (intro w' hSw; obtain ⟨q0, q2⟩ := hSw; go_simp)
              go_frame
              refine wpAnyN_take (i := 14) (v := .string Y) rfl (by kernel_rfl) (by kernel_rfl) (by kernel_rfl) (by decide) (by kernel_rfl) (fun _ _ _ h => h) (Or.inl ⟨by rfl, ?_⟩) hS ?_
              · (intro w' hSw; obtain ⟨q0, q2⟩ := hSw; go_simp)
              go_frame
              have kd : Kept wr wr.drew := (Only.refl (fun _ => False) wr).drew
              generalize wr.drew = wd at hS kd ⊢
              refine wpAnyL_pair (i := 1) (j := 15) (by kernel_rfl) rfl rfl rfl rfl ?_ ?_
              · go_simp
                have ka : Kept wr (wd.alloc (.cells #[.string ⟨#[]⟩, .string ⟨#[61]⟩, .string ⟨#[33, 61]⟩, .string ⟨#[94, 61]⟩] 9)) := kd.alloc _
                have hbl := Blk.new wd [.string ⟨#[]⟩, .string ⟨#[61]⟩, .string ⟨#[33, 61]⟩, .string ⟨#[94, 61]⟩] 9
                refine ⟨HSt.out _ ka, ?_⟩
                (try go_frame)
                generalize wd.alloc (.cells #[.string ⟨#[]⟩, .string ⟨#[61]⟩, .string ⟨#[33, 61]⟩, .string ⟨#[94, 61]⟩] 9) = wa at ka hbl ⊢
                generalize wd.heap.size = lb at hbl ⊢
                have hl := hbl.cell 3 rfl
                refine wpAnyN_take (i := 7) (v := .pointer (some ⟨lb, 3, none⟩)) rfl (by kernel_rfl) (by kernel_rfl) (by kernel_rfl) (by decide) (by kernel_rfl) (fun _ _ _ h => h) (Or.inl ⟨by rfl, ?_⟩) (HSt.out _ ka) ?_
                · (intro w' hSw; go_simp)
                go_frame
                refine wpAnyL_pair (i := 8) (j := 15) (by kernel_rfl) rfl rfl rfl rfl ?_ ?_
                · go_simp
                  refine ⟨HSt.out _ ka, ?_⟩
                  (try go_frame)
                  refine wpAnyN_take (i := 9) (v := .string (Q2 ++ X ++ ⟨#[94, 61]⟩)) rfl (by kernel_rfl) (by kernel_rfl) (by kernel_rfl) (by decide) (by kernel_rfl) (fun _ _ _ h => h) (Or.inl ⟨by rfl, ?_⟩) (HSt.out _ ka) ?_
                  · (intro w' hSw; go_simp)
                  go_frame
                  refine wpAnyL_one (i := 15) (by kernel_rfl) rfl rfl ?_
                  go_simp
                  refine (HQu.out _).mono ?_
                  rintro e wb ⟨rfl, kb'⟩
                  have kb : Kept wr wb := ka.trans kb' (fun _ _ f => f)
                  refine ⟨HSt.out _ kb, ?_⟩
                  (try go_frame)
                  refine wpAnyL_one (i := 16) (by kernel_rfl) rfl rfl ?_
                  go_simp
                  refine ⟨HSt.out _ kb, ?_⟩
                  refine wpAnyL_one (i := 17) (by kernel_rfl) rfl rfl ?_
                  go_simp
                  refine ⟨HSt.out _ kb, ?_⟩
                  refine wpAnyN_done (by kernel_rfl) ?_
                  refine NoPanic.normal ?_
                  clear hS
                  go_wp2_with fail
                  go_roundw
                  case rel => exact ⟨k + 1, _, by omega, by go_num, rfl, HF.out, HKr.out.trans kb (fun _ _ f => f)⟩
                  case measure => simp [intOf]; omega
                · go_simp
                  refine (HQu.out _).mono ?_
                  rintro e wb ⟨rfl, kb'⟩
                  have kb : Kept wr wb := ka.trans kb' (fun _ _ f => f)
                  have hl2 := (Only.blk kb' hbl (fun f => f)).cell 3 rfl
                  refine ⟨HSt.out _ kb, ?_⟩
                  (try go_frame)
                  refine wpAnyL_one (i := 8) (by kernel_rfl) rfl rfl ?_
                  go_simp
                  refine ⟨HSt.out _ kb, ?_⟩
                  (try go_frame)
                  refine wpAnyL_one (i := 9) (by kernel_rfl) rfl rfl ?_
                  go_simp
                  refine ⟨HSt.out _ kb, ?_⟩
                  (try go_frame)
                  refine wpAnyL_one (i := 16) (by kernel_rfl) rfl rfl ?_
                  go_simp
                  refine ⟨HSt.out _ kb, ?_⟩
                  refine wpAnyL_one (i := 17) (by kernel_rfl) rfl rfl ?_
                  go_simp
                  refine ⟨HSt.out _ kb, ?_⟩
                  refine wpAnyN_done (by kernel_rfl) ?_
                  refine NoPanic.normal ?_
                  clear hS
                  go_wp2_with fail
                  go_roundw
                  case rel => exact ⟨k + 1, _, by omega, by go_num, rfl, HF.out, HKr.out.trans kb (fun _ _ f => f)⟩
                  case measure => simp [intOf]; omega
              · go_simp
                refine (HQu.out _).mono ?_
                rintro e wb ⟨rfl, kb'⟩
                have kb : Kept wr wb := kd.trans kb' (fun _ _ f => f)
                refine ⟨HSt.out _ kb, ?_⟩
                (try go_frame)
                refine wpAnyL_one (i := 1) (by kernel_rfl) rfl rfl ?_
                go_simp
                have kc : Kept wr (wb.alloc (.cells #[.string ⟨#[]⟩, .string ⟨#[61]⟩, .string ⟨#[33, 61]⟩, .string ⟨#[94, 61]⟩] 9)) := kb.alloc _
                have hbl := Blk.new wb [.string ⟨#[]⟩, .string ⟨#[61]⟩, .string ⟨#[33, 61]⟩, .string ⟨#[94, 61]⟩] 9
                refine ⟨HSt.out _ kc, ?_⟩
                (try go_frame)
                generalize wb.alloc (.cells #[.string ⟨#[]⟩, .string ⟨#[61]⟩, .string ⟨#[33, 61]⟩, .string ⟨#[94, 61]⟩] 9) = wc at kc hbl ⊢
                generalize wb.heap.size = lb at hbl ⊢
                have hl := hbl.cell 3 rfl
                refine wpAnyL_one (i := 7) (by kernel_rfl) rfl rfl ?_
                go_simp
                refine ⟨HSt.out _ kc, ?_⟩
                (try go_frame)
                refine wpAnyL_one (i := 8) (by kernel_rfl) rfl rfl ?_
                go_simp
                refine ⟨HSt.out _ kc, ?_⟩
                (try go_frame)
                refine wpAnyL_one (i := 9) (by kernel_rfl) rfl rfl ?_
                go_simp
                refine ⟨HSt.out _ kc, ?_⟩
                (try go_frame)
                refine wpAnyL_one (i := 16) (by kernel_rfl) rfl rfl ?_
                go_simp
                refine ⟨HSt.out _ kc, ?_⟩
                refine wpAnyL_one (i := 17) (by kernel_rfl) rfl rfl ?_
                go_simp
                refine ⟨HSt.out _ kc, ?_⟩
                refine wpAnyN_done (by kernel_rfl) ?_
                refine NoPanic.normal ?_
                clear hS
                go_wp2_with fail
                go_roundw
                case rel => exact ⟨k + 1, _, by omega, by go_num, rfl, HF.out, HKr.out.trans kc (fun _ _ f => f)⟩
                case measure => simp [intOf]; omega
            · have HF := hid (HT4.out rfl)
              clear HT4 HT3
              go_wp2_with fail
              go_roundw
              case rel => exact ⟨k + 1, _, by omega, by go_num, rfl, HF.out, HKr.out⟩
              case measure => simp [intOf]; omega
          · rw [if_neg hk0] at hQ2
            have hkz : (0 : Int) < (k : Int) := by omega
            have HK0 := hid hk0
            have HQ2 := hid hQ2
            clear hk0 hQ2
            rcases hN with rfl | rfl | rfl | rfl
            · have HF := hid (HT3.out (by decide) ⟨#[61]⟩ rfl)
              clear HT4 HT3
              have m1 : (⟨#[61]⟩ : ByteArray).size = 1 := rfl
              have s2 : Q2.size + X.size + 1 ≤ 9223372036854775807 := by omega
              have s2' : ¬ ((9223372036854775807 : Int) < (Q2.size : Int) + (X.size : Int) + 1) := by omega
              have s3 : Q2.size + X.size + 1 + R.size ≤ 9223372036854775807 := by omega
              have s3' : ¬ ((9223372036854775807 : Int) < (Q2.size : Int) + (X.size : Int) + 1 + (R.size : Int)) := by omega
              have s2n : ¬ (9223372036854775807 < Q2.size + X.size + 1) := by omega
              have s3n : ¬ (9223372036854775807 < Q2.size + X.size + 1 + R.size) := by omega
              have HSt : Hid (∀ W', Kept wr W' → W'.cell? ⟨b1, o1 + k * 3, none⟩ = some (.int .i64 1) ∧ W'.cell? ⟨b1, o1 + k * 3 + 2, none⟩ = some (.string Y)) := fun W' kW => ⟨by
                rw [World.cell?_of_block (w := wr) (w' := W') (kW.block _ (World.block_lt_of_cell? wr _ x1) (fun f => f))]; exact x1, by
                rw [World.cell?_of_block (w := wr) (w' := W') (kW.block _ (World.block_lt_of_cell? wr _ z1) (fun f => f))]; exact z1⟩
              have s1q : Q.size + 1 + X.size ≤ 9223372036854775807 := by omega
              have s1q' : ¬ ((9223372036854775807 : Int) < (Q.size : Int) + 1 + (X.size : Int)) := by omega
              go_wp2_with fail
              rw [← HQ2.out]
              refine wp_region_noPanic ?_
              refine wp_region_last (L := 1000) (S := fun w' => w'.cell? ⟨b1, o1 + k * 3, none⟩ = some (.int .i64 1) ∧ w'.cell? ⟨b1, o1 + k * 3 + 2, none⟩ = some (.string Y)) (by kernel_rfl) ?_
              have hS : (fun w' : World => w'.cell? ⟨b1, o1 + k * 3, none⟩ = some (.int .i64 1) ∧ w'.cell? ⟨b1, o1 + k * 3 + 2, none⟩ = some (.string Y)) wr.drew := ⟨x1, z1⟩
              clear x1 z1 y1
              refine wpAnyN_take (i := 0) (v := .string (Q2 ++ X)) rfl (by kernel_rfl) (by kernel_rfl) (by kernel_rfl) (by decide) (by kernel_rfl) (fun _ _ _ h => h) (Or.inl ⟨by rfl, ?_⟩) hS ?_
              · (intro w' hSw; obtain ⟨q0, q2⟩ := hSw; go_simp)
              go_frame
              refine wpAnyN_take (i := 2) (v := .slice (some ⟨b1, o1, none⟩) L c1) rfl (by kernel_rfl) (by kernel_rfl) (by kernel_rfl) (by decide) (by kernel_rfl) (fun _ _ _ h => h) (Or.inl ⟨by rfl, ?_⟩) hS ?_
              · (intro w' hSw; obtain ⟨q0, q2⟩ := hSw; go_simp)
              go_frame
              refine wpAnyN_take (i := 3) (v := .int .i64 (k : Int)) rfl (by kernel_rfl) (by kernel_rfl) (by kernel_rfl) (by decide) (by kernel_rfl) (fun _ _ _ h => h) (Or.inl ⟨by rfl, ?_⟩) hS ?_
              · (intro w' hSw; obtain ⟨q0, q2⟩ := hSw; go_simp)
              go_frame
              refine wpAnyN_take (i := 4) (v := .pointer (some ⟨b1, o1 + k * 3, none⟩)) rfl (by kernel_rfl) (by kernel_rfl) (by kernel_rfl) (by decide) (by kernel_rfl) (fun _ _ _ h => h) (Or.inl ⟨by rfl, ?_⟩) hS ?_
              · (intro w' hSw; obtain ⟨q0, q2⟩ := hSw; go_simp)
              go_frame
              refine wpAnyN_take (i := 5) (v := .pointer (some ⟨b1, o1 + k * 3, none⟩)) rfl (by kernel_rfl) (by kernel_rfl) (by kernel_rfl) (by decide) (by kernel_rfl) (fun _ _ _ h => h) (Or.inl ⟨by rfl, ?_⟩) hS ?_
              · (intro w' hSw; obtain ⟨q0, q2⟩ := hSw; go_simp)
              go_frame
              refine wpAnyN_take (i := 6) (v := .int .i64 1) rfl (by kernel_rfl) (by kernel_rfl) (by kernel_rfl) (by decide) (by kernel_rfl) (fun _ _ _ h => h) (Or.inl ⟨by rfl, ?_⟩) hS ?_
              · (intro w' hSw; obtain ⟨q0, q2⟩ := hSw; go_simp)
              go_frame
              refine wpAnyN_take (i := 10) (v := .slice (some ⟨b1, o1, none⟩) L c1) rfl (by kernel_rfl) (by kernel_rfl) (by kernel_rfl) (by decide) (by kernel_rfl) (fun _ _ _ h => h) (Or.inl ⟨by rfl, ?_⟩) hS ?_
              · (intro w' hSw; obtain ⟨q0, q2⟩ := hSw; go_simp)
              go_frame
              refine wpAnyN_take (i := 11) (v := .int .i64 (k : Int)) rfl (by kernel_rfl) (by kernel_rfl) (by kernel_rfl) (by decide) (by kernel_rfl) (fun _ _ _ h => h) (Or.inl ⟨by rfl, ?_⟩) hS ?_
              · (intro w' hSw; obtain ⟨q0, q2⟩ := hSw; go_simp)
              go_frame
              refine wpAnyN_take (i := 12) (v := .pointer (some ⟨b1, o1 + k * 3, none⟩)) rfl (by kernel_rfl) (by kernel_rfl) (by kernel_rfl) (by decide) (by kernel_rfl) (fun _ _ _ h => h) (Or.inl ⟨by rfl, ?_⟩) hS ?_
              · (intro w' hSw; obtain ⟨q0, q2⟩ := hSw; go_simp)
              go_frame
              refine wpAnyN_take (i := 13) (v := .pointer (some ⟨b1, o1 + k * 3 + 2, none⟩)) rfl (by kernel_rfl) (by kernel_rfl) (by kernel_rfl) (by decide) (by kernel_rfl) (fun _ _ _ h => h) (Or.inl ⟨by rfl, ?_⟩) hS ?_
              · (intro w' hSw; obtain ⟨q0, q2⟩ := hSw; go_simp)
              go_frame
              refine wpAnyN_take (i := 14) (v := .string Y) rfl (by kernel_rfl) (by kernel_rfl) (by kernel_rfl) (by decide) (by kernel_rfl) (fun _ _ _ h => h) (Or.inl ⟨by rfl, ?_⟩) hS ?_
              · (intro w' hSw; obtain ⟨q0, q2⟩ := hSw; go_simp)
              go_frame
              have kd : Kept wr wr.drew := (Only.refl (fun _ => False) wr).drew
              generalize wr.drew = wd at hS kd ⊢
              refine wpAnyL_pair (i := 1) (j := 15) (by kernel_rfl) rfl rfl rfl rfl ?_ ?_
              · go_simp
                have ka : Kept wr (wd.alloc (.cells #[.string ⟨#[]⟩, .string ⟨#[61]⟩, .string ⟨#[33, 61]⟩, .string ⟨#[94, 61]⟩] 9)) := kd.alloc _
                have hbl := Blk.new wd [.string ⟨#[]⟩, .string ⟨#[61]⟩, .string ⟨#[33, 61]⟩, .string ⟨#[94, 61]⟩] 9
                refine ⟨HSt.out _ ka, ?_⟩
                (try go_frame)
                generalize wd.alloc (.cells #[.string ⟨#[]⟩, .string ⟨#[61]⟩, .string ⟨#[33, 61]⟩, .string ⟨#[94, 61]⟩] 9) = wa at ka hbl ⊢
                generalize wd.heap.size = lb at hbl ⊢
                have hl := hbl.cell 1 rfl
                refine wpAnyN_take (i := 7) (v := .pointer (some ⟨lb, 1, none⟩)) rfl (by kernel_rfl) (by kernel_rfl) (by kernel_rfl) (by decide) (by kernel_rfl) (fun _ _ _ h => h) (Or.inl ⟨by rfl, ?_⟩) (HSt.out _ ka) ?_
                · (intro w' hSw; go_simp)
                go_frame
                refine wpAnyL_pair (i := 8) (j := 15) (by kernel_rfl) rfl rfl rfl rfl ?_ ?_
                · go_simp
                  refine ⟨HSt.out _ ka, ?_⟩
                  (try go_frame)
                  refine wpAnyN_take (i := 9) (v := .string (Q2 ++ X ++ ⟨#[61]⟩)) rfl (by kernel_rfl) (by kernel_rfl) (by kernel_rfl) (by decide) (by kernel_rfl) (fun _ _ _ h => h) (Or.inl ⟨by rfl, ?_⟩) (HSt.out _ ka) ?_
                  · (intro w' hSw; go_simp)
                  go_frame
                  refine wpAnyL_one (i := 15) (by kernel_rfl) rfl rfl ?_
                  go_simp
                  refine (HQu.out _).mono ?_
                  rintro e wb ⟨rfl, kb'⟩
                  have kb : Kept wr wb := ka.trans kb' (fun _ _ f => f)
                  refine ⟨HSt.out _ kb, ?_⟩
                  (try go_frame)
                  refine wpAnyL_one (i := 16) (by kernel_rfl) rfl rfl ?_
                  go_simp
                  refine ⟨HSt.out _ kb, ?_⟩
                  refine wpAnyL_one (i := 17) (by kernel_rfl) rfl rfl ?_
                  go_simp
                  refine ⟨HSt.out _ kb, ?_⟩
                  refine wpAnyN_done (by kernel_rfl) ?_
                  refine NoPanic.normal ?_
                  clear hS
                  go_wp2_with fail
                  go_roundw
                  case rel => exact ⟨k + 1, _, by omega, by go_num, rfl, HF.out, HKr.out.trans kb (fun _ _ f => f)⟩
                  case measure => simp [intOf]; omega
                · go_simp
                  refine (HQu.out _).mono ?_
                  rintro e wb ⟨rfl, kb'⟩
                  have kb : Kept wr wb := ka.trans kb' (fun _ _ f => f)
                  have hl2 := (Only.blk kb' hbl (fun f => f)).cell 1 rfl
                  refine ⟨HSt.out _ kb, ?_⟩
                  (try go_frame)
                  refine wpAnyL_one (i := 8) (by kernel_rfl) rfl rfl ?_
                  go_simp
                  refine ⟨HSt.out _ kb, ?_⟩
                  (try go_frame)
                  refine wpAnyL_one (i := 9) (by kernel_rfl) rfl rfl ?_
                  go_simp
                  refine ⟨HSt.out _ kb, ?_⟩
                  (try go_frame)
                  refine wpAnyL_one (i := 16) (by kernel_rfl) rfl rfl ?_
                  go_simp
                  refine ⟨HSt.out _ kb, ?_⟩
                  refine wpAnyL_one (i := 17) (by kernel_rfl) rfl rfl ?_
                  go_simp
                  refine ⟨HSt.out _ kb, ?_⟩
                  refine wpAnyN_done (by kernel_rfl) ?_
                  refine NoPanic.normal ?_
                  clear hS
                  go_wp2_with fail
                  go_roundw
                  case rel => exact ⟨k + 1, _, by omega, by go_num, rfl, HF.out, HKr.out.trans kb (fun _ _ f => f)⟩
                  case measure => simp [intOf]; omega
              · go_simp
                refine (HQu.out _).mono ?_
                rintro e wb ⟨rfl, kb'⟩
                have kb : Kept wr wb := kd.trans kb' (fun _ _ f => f)
                refine ⟨HSt.out _ kb, ?_⟩
                (try go_frame)
                refine wpAnyL_one (i := 1) (by kernel_rfl) rfl rfl ?_
                go_simp
                have kc : Kept wr (wb.alloc (.cells #[.string ⟨#[]⟩, .string ⟨#[61]⟩, .string ⟨#[33, 61]⟩, .string ⟨#[94, 61]⟩] 9)) := kb.alloc _
                have hbl := Blk.new wb [.string ⟨#[]⟩, .string ⟨#[61]⟩, .string ⟨#[33, 61]⟩, .string ⟨#[94, 61]⟩] 9
                refine ⟨HSt.out _ kc, ?_⟩
                (try go_frame)
                generalize wb.alloc (.cells #[.string ⟨#[]⟩, .string ⟨#[61]⟩, .string ⟨#[33, 61]⟩, .string ⟨#[94, 61]⟩] 9) = wc at kc hbl ⊢
                generalize wb.heap.size = lb at hbl ⊢
                have hl := hbl.cell 1 rfl
                refine wpAnyL_one (i := 7) (by kernel_rfl) rfl rfl ?_
                go_simp
                refine ⟨HSt.out _ kc, ?_⟩
                (try go_frame)
                refine wpAnyL_one (i := 8) (by kernel_rfl) rfl rfl ?_
                go_simp
                refine ⟨HSt.out _ kc, ?_⟩
                (try go_frame)
                refine wpAnyL_one (i := 9) (by kernel_rfl) rfl rfl ?_
                go_simp
                refine ⟨HSt.out _ kc, ?_⟩
                (try go_frame)
                refine wpAnyL_one (i := 16) (by kernel_rfl) rfl rfl ?_
                go_simp
                refine ⟨HSt.out _ kc, ?_⟩
                refine wpAnyL_one (i := 17) (by kernel_rfl) rfl rfl ?_
                go_simp
                refine ⟨HSt.out _ kc, ?_⟩
                refine wpAnyN_done (by kernel_rfl) ?_
                refine NoPanic.normal ?_
                clear hS
                go_wp2_with fail
                go_roundw
                case rel => exact ⟨k + 1, _, by omega, by go_num, rfl, HF.out, HKr.out.trans kc (fun _ _ f => f)⟩
                case measure => simp [intOf]; omega
            · have HF := hid (HT3.out (by decide) ⟨#[33, 61]⟩ rfl)
              clear HT4 HT3
              have m1 : (⟨#[33, 61]⟩ : ByteArray).size = 2 := rfl
              have s2 : Q2.size + X.size + 2 ≤ 9223372036854775807 := by omega
              have s2' : ¬ ((9223372036854775807 : Int) < (Q2.size : Int) + (X.size : Int) + 2) := by omega
              have s3 : Q2.size + X.size + 2 + R.size ≤ 9223372036854775807 := by omega
              have s3' : ¬ ((9223372036854775807 : Int) < (Q2.size : Int) + (X.size : Int) + 2 + (R.size : Int)) := by omega
              have s2n : ¬ (9223372036854775807 < Q2.size + X.size + 2) := by omega
              have s3n : ¬ (9223372036854775807 < Q2.size + X.size + 2 + R.size) := by omega
              have HSt : Hid (∀ W', Kept wr W' → W'.cell? ⟨b1, o1 + k * 3, none⟩ = some (.int .i64 2) ∧ W'.cell? ⟨b1, o1 + k * 3 + 2, none⟩ = some (.string Y)) := fun W' kW => ⟨by
                rw [World.cell?_of_block (w := wr) (w' := W') (kW.block _ (World.block_lt_of_cell? wr _ x1) (fun f => f))]; exact x1, by
                rw [World.cell?_of_block (w := wr) (w' := W') (kW.block _ (World.block_lt_of_cell? wr _ z1) (fun f => f))]; exact z1⟩
              have s1q : Q.size + 1 + X.size ≤ 9223372036854775807 := by omega
              have s1q' : ¬ ((9223372036854775807 : Int) < (Q.size : Int) + 1 + (X.size : Int)) := by omega
              go_wp2_with fail
              rw [← HQ2.out]
              refine wp_region_noPanic ?_
              refine wp_region_last (L := 1000) (S := fun w' => w'.cell? ⟨b1, o1 + k * 3, none⟩ = some (.int .i64 2) ∧ w'.cell? ⟨b1, o1 + k * 3 + 2, none⟩ = some (.string Y)) (by kernel_rfl) ?_
              have hS : (fun w' : World => w'.cell? ⟨b1, o1 + k * 3, none⟩ = some (.int .i64 2) ∧ w'.cell? ⟨b1, o1 + k * 3 + 2, none⟩ = some (.string Y)) wr.drew := ⟨x1, z1⟩
              clear x1 z1 y1
              refine wpAnyN_take (i := 0) (v := .string (Q2 ++ X)) rfl (by kernel_rfl) (by kernel_rfl) (by kernel_rfl) (by decide) (by kernel_rfl) (fun _ _ _ h => h) (Or.inl ⟨by rfl, ?_⟩) hS ?_
              · (intro w' hSw; obtain ⟨q0, q2⟩ := hSw; go_simp)
              go_frame
              refine wpAnyN_take (i := 2) (v := .slice (some ⟨b1, o1, none⟩) L c1) rfl (by kernel_rfl) (by kernel_rfl) (by kernel_rfl) (by decide) (by kernel_rfl) (fun _ _ _ h => h) (Or.inl ⟨by rfl, ?_⟩) hS ?_
              · (intro w' hSw; obtain ⟨q0, q2⟩ := hSw; go_simp)
              go_frame
              refine wpAnyN_take (i := 3) (v := .int .i64 (k : Int)) rfl (by kernel_rfl) (by kernel_rfl) (by kernel_rfl) (by decide) (by kernel_rfl) (fun _ _ _ h => h) (Or.inl ⟨by rfl, ?_⟩) hS ?_
              · (intro w' hSw; obtain ⟨q0, q2⟩ := hSw; go_simp)
              go_frame
              refine wpAnyN_take (i := 4) (v := .pointer (some ⟨b1, o1 + k * 3, none⟩)) rfl (by kernel_rfl) (by kernel_rfl) (by kernel_rfl) (by decide) (by kernel_rfl) (fun _ _ _ h => h) (Or.inl ⟨by rfl, ?_⟩) hS ?_
              · (intro w' hSw; obtain ⟨q0, q2⟩ := hSw; go_simp)
              go_frame
              refine wpAnyN_take (i := 5) (v := .pointer (some ⟨b1, o1 + k * 3, none⟩)) rfl (by kernel_rfl) (by kernel_rfl) (by kernel_rfl) (by decide) (by kernel_rfl) (fun _ _ _ h => h) (Or.inl ⟨by rfl, ?_⟩) hS ?_
              · (intro w' hSw; obtain ⟨q0, q2⟩ := hSw; go_simp)
              go_frame
              refine wpAnyN_take (i := 6) (v := .int .i64 2) rfl (by kernel_rfl) (by kernel_rfl) (by kernel_rfl) (by decide) (by kernel_rfl) (fun _ _ _ h => h) (Or.inl ⟨by rfl, ?_⟩) hS ?_
              · (intro w' hSw; obtain ⟨q0, q2⟩ := hSw; go_simp)
              go_frame
              refine wpAnyN_take (i := 10) (v := .slice (some ⟨b1, o1, none⟩) L c1) rfl (by kernel_rfl) (by kernel_rfl) (by kernel_rfl) (by decide) (by kernel_rfl) (fun _ _ _ h => h) (Or.inl ⟨by rfl, ?_⟩) hS ?_
              · (intro w' hSw; obtain ⟨q0, q2⟩ := hSw; go_simp)
              go_frame
              refine wpAnyN_take (i := 11) (v := .int .i64 (k : Int)) rfl (by kernel_rfl) (by kernel_rfl) (by kernel_rfl) (by decide) (by kernel_rfl) (fun _ _ _ h => h) (Or.inl ⟨by rfl, ?_⟩) hS ?_
              · (intro w' hSw; obtain ⟨q0, q2⟩ := hSw; go_simp)
              go_frame
              refine wpAnyN_take (i := 12) (v := .pointer (some ⟨b1, o1 + k * 3, none⟩)) rfl (by kernel_rfl) (by kernel_rfl) (by kernel_rfl) (by decide) (by kernel_rfl) (fun _ _ _ h => h) (Or.inl ⟨by rfl, ?_⟩) hS ?_
              · (intro w' hSw; obtain ⟨q0, q2⟩ := hSw; go_simp)
              go_frame
              refine wpAnyN_take (i := 13) (v := .pointer (some ⟨b1, o1 + k * 3 + 2, none⟩)) rfl (by kernel_rfl) (by kernel_rfl) (by kernel_rfl) (by decide) (by kernel_rfl) (fun _ _ _ h => h) (Or.inl ⟨by rfl, ?_⟩) hS ?_
              · (intro w' hSw; obtain ⟨q0, q2⟩ := hSw; go_simp)
              go_frame
              refine wpAnyN_take (i := 14) (v := .string Y) rfl (by kernel_rfl) (by kernel_rfl) (by kernel_rfl) (by decide) (by kernel_rfl) (fun _ _ _ h => h) (Or.inl ⟨by rfl, ?_⟩) hS ?_
              · (intro w' hSw; obtain ⟨q0, q2⟩ := hSw; go_simp)
              go_frame
              have kd : Kept wr wr.drew := (Only.refl (fun _ => False) wr).drew
              generalize wr.drew = wd at hS kd ⊢
              refine wpAnyL_pair (i := 1) (j := 15) (by kernel_rfl) rfl rfl rfl rfl ?_ ?_
              · go_simp
                have ka : Kept wr (wd.alloc (.cells #[.string ⟨#[]⟩, .string ⟨#[61]⟩, .string ⟨#[33, 61]⟩, .string ⟨#[94, 61]⟩] 9)) := kd.alloc _
                have hbl := Blk.new wd [.string ⟨#[]⟩, .string ⟨#[61]⟩, .string ⟨#[33, 61]⟩, .string ⟨#[94, 61]⟩] 9
                refine ⟨HSt.out _ ka, ?_⟩
                (try go_frame)
                generalize wd.alloc (.cells #[.string ⟨#[]⟩, .string ⟨#[61]⟩, .string ⟨#[33, 61]⟩, .string ⟨#[94, 61]⟩] 9) = wa at ka hbl ⊢
                generalize wd.heap.size = lb at hbl ⊢
                have hl := hbl.cell 2 rfl
                refine wpAnyN_take (i := 7) (v := .pointer (some ⟨lb, 2, none⟩)) rfl (by kernel_rfl) (by kernel_rfl) (by kernel_rfl) (by decide) (by kernel_rfl) (fun _ _ _ h => h) (Or.inl ⟨by rfl, ?_⟩) (HSt.out _ ka) ?_
                · (intro w' hSw; go_simp)
                go_frame
                refine wpAnyL_pair (i := 8) (j := 15) (by kernel_rfl) rfl rfl rfl rfl ?_ ?_
                · go_simp
                  refine ⟨HSt.out _ ka, ?_⟩
                  (try go_frame)
                  refine wpAnyN_take (i := 9) (v := .string (Q2 ++ X ++ ⟨#[33, 61]⟩)) rfl (by kernel_rfl) (by kernel_rfl) (by kernel_rfl) (by decide) (by kernel_rfl) (fun _ _ _ h => h) (Or.inl ⟨by rfl, ?_⟩) (HSt.out _ ka) ?_
                  · (intro w' hSw; go_simp)
                  go_frame
                  refine wpAnyL_one (i := 15) (by kernel_rfl) rfl rfl ?_
                  go_simp
                  refine (HQu.out _).mono ?_
                  rintro e wb ⟨rfl, kb'⟩
                  have kb : Kept wr wb := ka.trans kb' (fun _ _ f => f)
                  refine ⟨HSt.out _ kb, ?_⟩
                  (try go_frame)
                  refine wpAnyL_one (i := 16) (by kernel_rfl) rfl rfl ?_
                  go_simp
                  refine ⟨HSt.out _ kb, ?_⟩
                  refine wpAnyL_one (i := 17) (by kernel_rfl) rfl rfl ?_
                  go_simp
                  refine ⟨HSt.out _ kb, ?_⟩
                  refine wpAnyN_done (by kernel_rfl) ?_
                  refine NoPanic.normal ?_
                  clear hS
                  go_wp2_with fail
                  go_roundw
                  case rel => exact ⟨k + 1, _, by omega, by go_num, rfl, HF.out, HKr.out.trans kb (fun _ _ f => f)⟩
                  case measure => simp [intOf]; omega
                · go_simp
                  refine (HQu.out _).mono ?_
                  rintro e wb ⟨rfl, kb'⟩
                  have kb : Kept wr wb := ka.trans kb' (fun _ _ f => f)
                  have hl2 := (Only.blk kb' hbl (fun f => f)).cell 2 rfl
                  refine ⟨HSt.out _ kb, ?_⟩
                  (try go_frame)
                  refine wpAnyL_one (i := 8) (by kernel_rfl) rfl rfl ?_
                  go_simp
                  refine ⟨HSt.out _ kb, ?_⟩
                  (try go_frame)
                  refine wpAnyL_one (i := 9) (by kernel_rfl) rfl rfl ?_
                  go_simp
                  refine ⟨HSt.out _ kb, ?_⟩
                  (try go_frame)
                  refine wpAnyL_one (i := 16) (by kernel_rfl) rfl rfl ?_
                  go_simp
                  refine ⟨HSt.out _ kb, ?_⟩
                  refine wpAnyL_one (i := 17) (by kernel_rfl) rfl rfl ?_
                  go_simp
                  refine ⟨HSt.out _ kb, ?_⟩
                  refine wpAnyN_done (by kernel_rfl) ?_
                  refine NoPanic.normal ?_
                  clear hS
                  go_wp2_with fail
                  go_roundw
                  case rel => exact ⟨k + 1, _, by omega, by go_num, rfl, HF.out, HKr.out.trans kb (fun _ _ f => f)⟩
                  case measure => simp [intOf]; omega
              · go_simp
                refine (HQu.out _).mono ?_
                rintro e wb ⟨rfl, kb'⟩
                have kb : Kept wr wb := kd.trans kb' (fun _ _ f => f)
                refine ⟨HSt.out _ kb, ?_⟩
                (try go_frame)
                refine wpAnyL_one (i := 1) (by kernel_rfl) rfl rfl ?_
                go_simp
                have kc : Kept wr (wb.alloc (.cells #[.string ⟨#[]⟩, .string ⟨#[61]⟩, .string ⟨#[33, 61]⟩, .string ⟨#[94, 61]⟩] 9)) := kb.alloc _
                have hbl := Blk.new wb [.string ⟨#[]⟩, .string ⟨#[61]⟩, .string ⟨#[33, 61]⟩, .string ⟨#[94, 61]⟩] 9
                refine ⟨HSt.out _ kc, ?_⟩
                (try go_frame)
                generalize wb.alloc (.cells #[.string ⟨#[]⟩, .string ⟨#[61]⟩, .string ⟨#[33, 61]⟩, .string ⟨#[94, 61]⟩] 9) = wc at kc hbl ⊢
                generalize wb.heap.size = lb at hbl ⊢
                have hl := hbl.cell 2 rfl
                refine wpAnyL_one (i := 7) (by kernel_rfl) rfl rfl ?_
                go_simp
                refine ⟨HSt.out _ kc, ?_⟩
                (try go_frame)
                refine wpAnyL_one (i := 8) (by kernel_rfl) rfl rfl ?_
                go_simp
                refine ⟨HSt.out _ kc, ?_⟩
                (try go_frame)
                refine wpAnyL_one (i := 9) (by kernel_rfl) rfl rfl ?_
                go_simp
                refine ⟨HSt.out _ kc, ?_⟩
                (try go_frame)
                refine wpAnyL_one (i := 16) (by kernel_rfl) rfl rfl ?_
                go_simp
                refine ⟨HSt.out _ kc, ?_⟩
                refine wpAnyL_one (i := 17) (by kernel_rfl) rfl rfl ?_
                go_simp
                refine ⟨HSt.out _ kc, ?_⟩
                refine wpAnyN_done (by kernel_rfl) ?_
                refine NoPanic.normal ?_
                clear hS
                go_wp2_with fail
                go_roundw
                case rel => exact ⟨k + 1, _, by omega, by go_num, rfl, HF.out, HKr.out.trans kc (fun _ _ f => f)⟩
                case measure => simp [intOf]; omega
            · have HF := hid (HT3.out (by decide) ⟨#[94, 61]⟩ rfl)
              clear HT4 HT3
              have m1 : (⟨#[94, 61]⟩ : ByteArray).size = 2 := rfl
              have s2 : Q2.size + X.size + 2 ≤ 9223372036854775807 := by omega
              have s2' : ¬ ((9223372036854775807 : Int) < (Q2.size : Int) + (X.size : Int) + 2) := by omega
              have s3 : Q2.size + X.size + 2 + R.size ≤ 9223372036854775807 := by omega
              have s3' : ¬ ((9223372036854775807 : Int) < (Q2.size : Int) + (X.size : Int) + 2 + (R.size : Int)) := by omega
              have s2n : ¬ (9223372036854775807 < Q2.size + X.size + 2) := by omega
              have s3n : ¬ (9223372036854775807 < Q2.size + X.size + 2 + R.size) := by omega
              have HSt : Hid (∀ W', Kept wr W' → W'.cell? ⟨b1, o1 + k * 3, none⟩ = some (.int .i64 3) ∧ W'.cell? ⟨b1, o1 + k * 3 + 2, none⟩ = some (.string Y)) := fun W' kW => ⟨by
                rw [World.cell?_of_block (w := wr) (w' := W') (kW.block _ (World.block_lt_of_cell? wr _ x1) (fun f => f))]; exact x1, by
                rw [World.cell?_of_block (w := wr) (w' := W') (kW.block _ (World.block_lt_of_cell? wr _ z1) (fun f => f))]; exact z1⟩
              have s1q : Q.size + 1 + X.size ≤ 9223372036854775807 := by omega
              have s1q' : ¬ ((9223372036854775807 : Int) < (Q.size : Int) + 1 + (X.size : Int)) := by omega
              go_wp2_with fail
              rw [← HQ2.out]
              refine wp_region_noPanic ?_
              refine wp_region_last (L := 1000) (S := fun w' => w'.cell? ⟨b1, o1 + k * 3, none⟩ = some (.int .i64 3) ∧ w'.cell? ⟨b1, o1 + k * 3 + 2, none⟩ = some (.string Y)) (by kernel_rfl) ?_
              have hS : (fun w' : World => w'.cell? ⟨b1, o1 + k * 3, none⟩ = some (.int .i64 3) ∧ w'.cell? ⟨b1, o1 + k * 3 + 2, none⟩ = some (.string Y)) wr.drew := ⟨x1, z1⟩
              clear x1 z1 y1
              refine wpAnyN_take (i := 0) (v := .string (Q2 ++ X)) rfl (by kernel_rfl) (by kernel_rfl) (by kernel_rfl) (by decide) (by kernel_rfl) (fun _ _ _ h => h) (Or.inl ⟨by rfl, ?_⟩) hS ?_
              · (intro w' hSw; obtain ⟨q0, q2⟩ := hSw; go_simp)
              go_frame
              refine wpAnyN_take (i := 2) (v := .slice (some ⟨b1, o1, none⟩) L c1) rfl (by kernel_rfl) (by kernel_rfl) (by kernel_rfl) (by decide) (by kernel_rfl) (fun _ _ _ h => h) (Or.inl ⟨by rfl, ?_⟩) hS ?_
              · (intro w' hSw; obtain ⟨q0, q2⟩ := hSw; go_simp)
              go_frame
              refine wpAnyN_take (i := 3) (v := .int .i64 (k : Int)) rfl (by kernel_rfl) (by kernel_rfl) (by kernel_rfl) (by decide) (by kernel_rfl) (fun _ _ _ h => h) (Or.inl ⟨by rfl, ?_⟩) hS ?_
              · (intro w' hSw; obtain ⟨q0, q2⟩ := hSw; go_simp)
              go_frame
              refine wpAnyN_take (i := 4) (v := .pointer (some ⟨b1, o1 + k * 3, none⟩)) rfl (by kernel_rfl) (by kernel_rfl) (by kernel_rfl) (by decide) (by kernel_rfl) (fun _ _ _ h => h) (Or.inl ⟨by rfl, ?_⟩) hS ?_
              · (intro w' hSw; obtain ⟨q0, q2⟩ := hSw; go_simp)
              go_frame
              refine wpAnyN_take (i := 5) (v := .pointer (some ⟨b1, o1 + k * 3, none⟩)) rfl (by kernel_rfl) (by kernel_rfl) (by kernel_rfl) (by decide) (by kernel_rfl) (fun _ _ _ h => h) (Or.inl ⟨by rfl, ?_⟩) hS ?_
              · (intro w' hSw; obtain ⟨q0, q2⟩ := hSw; go_simp)
              go_frame
              refine wpAnyN_take (i := 6) (v := .int .i64 3) rfl (by kernel_rfl) (by kernel_rfl) (by kernel_rfl) (by decide) (by kernel_rfl) (fun _ _ _ h => h) (Or.inl ⟨by rfl, ?_⟩) hS ?_
              · (intro w' hSw; obtain ⟨q0, q2⟩ := hSw; go_simp)
              go_frame
              refine wpAnyN_take (i := 10) (v := .slice (some ⟨b1, o1, none⟩) L c1) rfl (by kernel_rfl) (by kernel_rfl) (by kernel_rfl) (by decide) (by kernel_rfl) (fun _ _ _ h => h) (Or.inl ⟨by rfl, ?_⟩) hS ?_
              · (intro w' hSw; obtain ⟨q0, q2⟩ := hSw; go_simp)
              go_frame
              refine wpAnyN_take (i := 11) (v := .int .i64 (k : Int)) rfl (by kernel_rfl) (by kernel_rfl) (by kernel_rfl) (by decide) (by kernel_rfl) (fun _ _ _ h => h) (Or.inl ⟨by rfl, ?_⟩) hS ?_
              · (intro w' hSw; obtain ⟨q0, q2⟩ := hSw; go_simp)
              go_frame
              refine wpAnyN_take (i := 12) (v := .pointer (some ⟨b1, o1 + k * 3, none⟩)) rfl (by kernel_rfl) (by kernel_rfl) (by kernel_rfl) (by decide) (by kernel_rfl) (fun _ _ _ h => h) (Or.inl ⟨by rfl, ?_⟩) hS ?_
              · (intro w' hSw; obtain ⟨q0, q2⟩ := hSw; go_simp)
              go_frame
              refine wpAnyN_take (i := 13) (v := .pointer (some ⟨b1, o1 + k * 3 + 2, none⟩)) rfl (by kernel_rfl) (by kernel_rfl) (by kernel_rfl) (by decide) (by kernel_rfl) (fun _ _ _ h => h) (Or.inl ⟨by rfl, ?_⟩) hS ?_
              · (intro w' hSw; obtain ⟨q0, q2⟩ := hSw; go_simp)
              go_frame
              refine wpAnyN_take (i := 14) (v := .string Y) rfl (by kernel_rfl) (by kernel_rfl) (by kernel_rfl) (by decide) (by kernel_rfl) (fun _ _ _ h => h) (Or.inl ⟨by rfl, ?_⟩) hS ?_
              · (intro w' hSw; obtain ⟨q0, q2⟩ := hSw; go_simp)
              go_frame
              have kd : Kept wr wr.drew := (Only.refl (fun _ => False) wr).drew
              generalize wr.drew = wd at hS kd ⊢
              refine wpAnyL_pair (i := 1) (j := 15) (by kernel_rfl) rfl rfl rfl rfl ?_ ?_
              · go_simp
                have ka : Kept wr (wd.alloc (.cells #[.string ⟨#[]⟩, .string ⟨#[61]⟩, .string ⟨#[33, 61]⟩, .string ⟨#[94, 61]⟩] 9)) := kd.alloc _
                have hbl := Blk.new wd [.string ⟨#[]⟩, .string ⟨#[61]⟩, .string ⟨#[33, 61]⟩, .string ⟨#[94, 61]⟩] 9
                refine ⟨HSt.out _ ka, ?_⟩
                (try go_frame)
                generalize wd.alloc (.cells #[.string ⟨#[]⟩, .string ⟨#[61]⟩, .string ⟨#[33, 61]⟩, .string ⟨#[94, 61]⟩] 9) = wa at ka hbl ⊢
                generalize wd.heap.size = lb at hbl ⊢
                have hl := hbl.cell 3 rfl
                refine wpAnyN_take (i := 7) (v := .pointer (some ⟨lb, 3, none⟩)) rfl (by kernel_rfl) (by kernel_rfl) (by kernel_rfl) (by decide) (by kernel_rfl) (fun _ _ _ h => h) (Or.inl ⟨by rfl, ?_⟩) (HSt.out _ ka) ?_
                · (intro w' hSw; go_simp)
                go_frame
                refine wpAnyL_pair (i := 8) (j := 15) (by kernel_rfl) rfl rfl rfl rfl ?_ ?_
                · go_simp
                  refine ⟨HSt.out _ ka, ?_⟩
                  (try go_frame)
                  refine wpAnyN_take (i := 9) (v := .string (Q2 ++ X ++ ⟨#[94, 61]⟩)) rfl (by kernel_rfl) (by kernel_rfl) (by kernel_rfl) (by decide) (by kernel_rfl) (fun _ _ _ h => h) (Or.inl ⟨by rfl, ?_⟩) (HSt.out _ ka) ?_
                  · (intro w' hSw; go_simp)
                  go_frame
                  refine wpAnyL_one (i := 15) (by kernel_rfl) rfl rfl ?_
                  go_simp
                  refine (HQu.out _).mono ?_
                  rintro e wb ⟨rfl, kb'⟩
                  have kb : Kept wr wb := ka.trans kb' (fun _ _ f => f)
                  refine ⟨HSt.out _ kb, ?_⟩
                  (try go_frame)
                  refine wpAnyL_one (i := 16) (by kernel_rfl) rfl rfl ?_
                  go_simp
                  refine ⟨HSt.out _ kb, ?_⟩
                  refine wpAnyL_one (i := 17) (by kernel_rfl) rfl rfl ?_
                  go_simp
                  refine ⟨HSt.out _ kb, ?_⟩
                  refine wpAnyN_done (by kernel_rfl) ?_
                  refine NoPanic.normal ?_
                  clear hS
                  go_wp2_with fail
                  go_roundw
                  case rel => exact ⟨k + 1, _, by omega, by go_num, rfl, HF.out, HKr.out.trans kb (fun _ _ f => f)⟩
                  case measure => simp [intOf]; omega
                · go_simp
                  refine (HQu.out _).mono ?_
                  rintro e wb ⟨rfl, kb'⟩
                  have kb : Kept wr wb := ka.trans kb' (fun _ _ f => f)
                  have hl2 := (Only.blk kb' hbl (fun f => f)).cell 3 rfl
                  refine ⟨HSt.out _ kb, ?_⟩
                  (try go_frame)
                  refine wpAnyL_one (i := 8) (by kernel_rfl) rfl rfl ?_
                  go_simp
                  refine ⟨HSt.out _ kb, ?_⟩
                  (try go_frame)
                  refine wpAnyL_one (i := 9) (by kernel_rfl) rfl rfl ?_
                  go_simp
                  refine ⟨HSt.out _ kb, ?_⟩
                  (try go_frame)
                  refine wpAnyL_one (i := 16) (by kernel_rfl) rfl rfl ?_
                  go_simp
                  refine ⟨HSt.out _ kb, ?_⟩
                  refine wpAnyL_one (i := 17) (by kernel_rfl) rfl rfl ?_
                  go_simp
                  refine ⟨HSt.out _ kb, ?_⟩
                  refine wpAnyN_done (by kernel_rfl) ?_
                  refine NoPanic.normal ?_
                  clear hS
                  go_wp2_with fail
                  go_roundw
                  case rel => exact ⟨k + 1, _, by omega, by go_num, rfl, HF.out, HKr.out.trans kb (fun _ _ f => f)⟩
                  case measure => simp [intOf]; omega
              · go_simp
                refine (HQu.out _).mono ?_
                rintro e wb ⟨rfl, kb'⟩
                have kb : Kept wr wb := kd.trans kb' (fun _ _ f => f)
                refine ⟨HSt.out _ kb, ?_⟩
                (try go_frame)
                refine wpAnyL_one (i := 1) (by kernel_rfl) rfl rfl ?_
                go_simp
                have kc : Kept wr (wb.alloc (.cells #[.string ⟨#[]⟩, .string ⟨#[61]⟩, .string ⟨#[33, 61]⟩, .string ⟨#[94, 61]⟩] 9)) := kb.alloc _
                have hbl := Blk.new wb [.string ⟨#[]⟩, .string ⟨#[61]⟩, .string ⟨#[33, 61]⟩, .string ⟨#[94, 61]⟩] 9
                refine ⟨HSt.out _ kc, ?_⟩
                (try go_frame)
                generalize wb.alloc (.cells #[.string ⟨#[]⟩, .string ⟨#[61]⟩, .string ⟨#[33, 61]⟩, .string ⟨#[94, 61]⟩] 9) = wc at kc hbl ⊢
                generalize wb.heap.size = lb at hbl ⊢
                have hl := hbl.cell 3 rfl
                refine wpAnyL_one (i := 7) (by kernel_rfl) rfl rfl ?_
                go_simp
                refine ⟨HSt.out _ kc, ?_⟩
                (try go_frame)
                refine wpAnyL_one (i := 8) (by kernel_rfl) rfl rfl ?_
                go_simp
                refine ⟨HSt.out _ kc, ?_⟩
                (try go_frame)
                refine wpAnyL_one (i := 9) (by kernel_rfl) rfl rfl ?_
                go_simp
                refine ⟨HSt.out _ kc, ?_⟩
                (try go_frame)
                refine wpAnyL_one (i := 16) (by kernel_rfl) rfl rfl ?_
                go_simp
                refine ⟨HSt.out _ kc, ?_⟩
                refine wpAnyL_one (i := 17) (by kernel_rfl) rfl rfl ?_
                go_simp
                refine ⟨HSt.out _ kc, ?_⟩
                refine wpAnyN_done (by kernel_rfl) ?_
                refine NoPanic.normal ?_
                clear hS
                go_wp2_with fail
                go_roundw
                case rel => exact ⟨k + 1, _, by omega, by go_num, rfl, HF.out, HKr.out.trans kc (fun _ _ f => f)⟩
                case measure => simp [intOf]; omega
            · have HF := hid (HT4.out rfl)
              clear HT4 HT3
              go_wp2_with fail
              (try rw [← HQ2.out])
              go_roundw
              case rel => exact ⟨k + 1, _, by omega, by go_num, rfl, HF.out, HKr.out⟩
              case measure => simp [intOf]; omega
        · have e : k = L := by omega
          subst e
          go_wp2
          go_ret
          refine ⟨?_, kr⟩
          rw [Ht.out]
          have : l.take k = l := List.take_of_length_le (by have := HL.out; omega)
          rw [this] at HQ
          have e2 : Q = mkB (matsT l) := bytes_inj HQ.out
          rw [← e2]
          rfl
  · have Ht : Hid (mkB (mtxtL l) = ⟨#[]⟩) := by refine hid ?_; unfold mtxtL; rw [if_neg hck]
    generalize checkM l = C at HC hck
    have hC : (C != 0) = true := by simpa using hck
    go_enter Try.func16, Try.ntmps16
    go_wp2_with fail
    refine HC.out.mono ?_
    rintro e w1 ⟨rfl, hq⟩
    replace hq := hq.symm
    subst hq
    go_wp2
    go_ret
    exact ⟨by rw [Ht.out]; rfl, Only.refl _ _⟩
end Go.Proofs.Ytbdcaikcdhfdoaa.N
