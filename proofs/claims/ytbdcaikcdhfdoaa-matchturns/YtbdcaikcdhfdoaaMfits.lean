/-
  Fits: does every matcher fit?
-/
import Derived.Test.YtbdcaikcdhfdoaaMfind
import Derived.Test.YtbdcaikcdhfdoaaWlast
namespace Go.Proofs.Ytbdcaikcdhfdoaa.N
open Go.RowKit Go.Proofs.Lys
set_option linter.unusedVariables false
set_option linter.unusedSimpArgs false

theorem fits_bad {l : Mats} {of_ : Labs} {k : Nat} (hk : k < l.length) (h : fitB of_ l[k] = false) : fitsB l of_ = false := by
  unfold fitsB
  have : l.all (fitB of_) = false := by
    cases e : l.all (fitB of_) with
    | false => rfl
    | true =>
      have := List.all_eq_true.1 e _ (List.getElem_mem hk)
      rw [h] at this
      cases this
  rw [this]
  simp
theorem fits_good {l : Mats} {of_ : Labs} (hc : checkM l = 0) (h : ∀ k (hk : k < l.length), fitB of_ l[k] = true) : fitsB l of_ = true := by
  unfold fitsB
  rw [decide_eq_true hc, List.all_eq_true.2 (fun m hm => ?_)]
  · rfl
  · obtain ⟨k, hk, rfl⟩ := List.getElem_of_mem hm
    exact h k hk
theorem fits_no {l : Mats} {of_ : Labs} (hc : checkM l ≠ 0) : fitsB l of_ = false := by
  unfold fitsB
  rw [decide_eq_false hc]
  rfl

set_option maxRecDepth 100000 in
set_option maxHeartbeats 4000000 in
theorem fits_any (w : World) (v u : Value) (l : Mats) (of_ : Labs) (hs : MatSrc w v l) (hl : l.length ≤ 100000) (hB : SmallM l) (ho : LabSrc w u of_) (hol : of_.length ≤ 100000) :
    Calls Try.prog 13 #[v, u] w fun e w' => e = .returned (.bool (fitsB l of_)) ∧ Kept w w' := by
  have HC := hid (mcheck_any w v l hs hl hB)
  obtain ⟨a1, c1, rfl⟩ := hs.len
  obtain ⟨a2, c2, rfl⟩ := ho.len
  by_cases hck : checkM l = 0
  · have hck8 := (checkM_zero.1 hck).1
    have HOK := hid (checkM_zero.1 hck).2
    have HF1 : Hid (∀ k (hk : k < l.length), fitB of_ l[k] = false → fitsB l of_ = false) := fun k hk h => fits_bad hk h
    have HF2 : Hid ((∀ k (hk : k < l.length), fitB of_ l[k] = true) → fitsB l of_ = true) := fun h => fits_good hck h
    rw [hck] at HC
    generalize fitsB l of_ = R at HF1 HF2 ⊢
    obtain ⟨L, hL⟩ : ∃ L, l.length = L := ⟨_, rfl⟩
    obtain ⟨O, hO⟩ : ∃ O, of_.length = O := ⟨_, rfl⟩
    have HS := hid hs
    have HL := hid hL
    have HO := hid hO
    have HOf := hid ho
    rw [hL] at HS HC hl hck8 ⊢
    rw [hO] at HOf hol ⊢
    have q1 := nil_fun
    clear hs ho hL hO hck hB
    go_enter Try.func13, Try.ntmps13
    go_wp2_with fail
    refine HC.out.mono ?_
    rintro e w1 ⟨rfl, k1⟩
    have HK1 := hid k1
    clear k1 HC
    go_wp2_with fail
    refine (kinds_any w1).mono ?_
    rintro e w2 ⟨rfl, k2⟩
    have HK2 := hid (HK1.out.trans k2 (fun _ _ f => f))
    clear k2
    have hbT : Blk (w2.alloc (.cells tabK 49)) w2.heap.size tabK.toList 49 := Blk.new w2 tabK.toList 49
    have HBT := hid hbT
    have HK3 := hid (HK2.out.alloc (.cells tabK 49))
    clear hbT HK1 HK2
    go_wp2_with (refine wpList_store_row rfl 49 _ _ rfl w2.heap.size tabK rfl rfl 49 _ (heap_alloc_last w2 _) tabK_size rfl tabK_one ?_; rw [World.setRow_alloc_new]; generalize w2.alloc (.cells tabK 49) = w3 at HBT HK3 ⊢)
    generalize w2.heap.size = T at HBT ⊢
    go_loopw [14] (fun s wr => ∃ (k : Nat), k ≤ L ∧ s = .int .i64 (k : Int) ∧ (∀ i (hi : i < l.length), i < k → fitB of_ l[i] = true) ∧ Kept w3 wr) (fun s _ => L - (intOf s).toNat)
    case atStart => exact ⟨0, by omega, rfl, fun i _ h => absurd h (by omega), Only.refl _ _⟩
    case round =>
      obtain ⟨k, hk, rfl, hok, kr⟩ := hrel
      have HA := hid hok
      have HK := hid kr
      by_cases hlt : k < L
      · have hkl : k < l.length := by have := HL.out; omega
        obtain ⟨b1, o1, rfl, x1, y1, z1⟩ := (HS.out.stay (HK3.out.trans kr (fun _ _ f => f))).cell HL.out k hlt
        have hmo := matOk_parts (HOK.out _ (List.getElem_mem hkl))
        have HF := hid (fun h => HF1.out k hkl h)
        have HT : Hid (fitB of_ (l[k]'hkl) = true → ∀ i (hi : i < l.length), i < k + 1 → fitB of_ l[i] = true) := fun h i hi hik => by
          by_cases e : i < k
          · exact HA.out i hi e
          · have : i = k := by omega
            subst this
            exact h
        have HBr := hid (Only.blk kr HBT.out (fun f => f))
        have HOr := hid (HOf.out.stay (HK3.out.trans kr (fun _ _ f => f)))
        clear hok kr
        generalize l[k]'hkl = x at x1 y1 z1 HF HT hmo
        obtain ⟨N, X, Y⟩ := x
        simp only at x1 y1 z1 hmo
        have hN : N = 1 ∨ N = 2 ∨ N = 3 ∨ N = 4 := by omega
        have e : fitB of_ (N, X, Y) = fitV N (foundV of_ X) Y := rfl
        rw [e] at HF HT
        clear e
        have HFi := hid (fun W (hn : 1 ≤ N ∧ N ≤ 4) => fit_any W N hn (foundV of_ X) Y)
        have HFd := hid (fun W (h : LabSrc W (.slice a2 O c2) of_) => find_any W _ of_ X h (by have := HO.out; omega))
        clear hmo
        generalize hff : foundV of_ X = ff at HF HT HFi HFd
        obtain ⟨fX, fb⟩ := ff
        clear hff
        have hbm := Blk.new wr [.int .i64 N, .string X, .string Y] 40
        have hbt := Only.blk ((Only.refl (fun _ => False) wr).alloc (.cells #[.int .i64 N, .string X, .string Y] 40)) HBr.out (fun f => f)
        have HOw := hid (HOr.out.stay ((Only.refl (fun _ => False) wr).alloc (.cells #[.int .i64 N, .string X, .string Y] 40)))
        have HKw := hid (HK.out.alloc (.cells #[.int .i64 N, .string X, .string Y] 40))
        rcases hN with rfl | rfl | rfl | rfl
        · have i0 := hbm.cell 0 rfl
          have i1 := hbm.cell 1 rfl
          have i2 := hbm.cell 2 rfl
          have i3 := hbt.cell 5 rfl
          have eg : ∀ args w, (callFunc 34 args).run Try.prog w = .ok (.enter 34 args) w := enters_of Try.func34 (by kernel_rfl) rfl
          go_wp2_with fail
          generalize wr.alloc (.cells #[.int .i64 1, .string X, .string Y] 40) = w4 at hbm hbt HOw HKw i0 i1 i2 i3 ⊢
          generalize wr.heap.size = M at hbm i0 i1 i2 ⊢
          refine wp_region_noPanic ?_
          refine wp_region_last (L := 1000) (S := fun w' => w'.cell? ⟨M, 0, none⟩ = some (.int .i64 1) ∧ w'.cell? ⟨M, 1, none⟩ = some (.string X) ∧ w'.cell? ⟨M, 2, none⟩ = some (.string Y) ∧ w'.cell? ⟨T, 5, none⟩ = some (.func (.func 34) #[] #[])) (by kernel_rfl) ?_
          have hS : (fun w' : World => w'.cell? ⟨M, 0, none⟩ = some (.int .i64 1) ∧ w'.cell? ⟨M, 1, none⟩ = some (.string X) ∧ w'.cell? ⟨M, 2, none⟩ = some (.string Y) ∧ w'.cell? ⟨T, 5, none⟩ = some (.func (.func 34) #[] #[])) w4.drew := ⟨i0, i1, i2, i3⟩
          refine wpAnyN_take (i := 0) (v := .pointer (some ⟨M, 0, none⟩)) rfl (by kernel_rfl) (by kernel_rfl) (by kernel_rfl) (by decide) (by kernel_rfl) (fun _ _ _ h => h) (Or.inl ⟨by rfl, ?_⟩) hS ?_
          · (intro w' hSw; go_simp)
          go_frame
          refine wpAnyN_take (i := 1) (v := .int .i64 1) rfl (by kernel_rfl) (by kernel_rfl) (by kernel_rfl) (by decide) (by kernel_rfl) (fun _ _ _ h => h) (Or.inl ⟨by rfl, ?_⟩) hS ?_
          · (intro w' hSw; go_simp)
          go_frame
          refine wpAnyN_take (i := 2) (v := .pointer (some ⟨T, 3, none⟩)) rfl (by kernel_rfl) (by kernel_rfl) (by kernel_rfl) (by decide) (by kernel_rfl) (fun _ _ _ h => h) (Or.inl ⟨by rfl, ?_⟩) hS ?_
          · (intro w' hSw; go_simp)
          go_frame
          refine wpAnyN_take (i := 3) (v := .pointer (some ⟨T, 5, none⟩)) rfl (by kernel_rfl) (by kernel_rfl) (by kernel_rfl) (by decide) (by kernel_rfl) (fun _ _ _ h => h) (Or.inl ⟨by rfl, ?_⟩) hS ?_
          · (intro w' hSw; go_simp)
          go_frame
          refine wpAnyN_take (i := 4) (v := .func (.func 34) #[] #[]) rfl (by kernel_rfl) (by kernel_rfl) (by kernel_rfl) (by decide) (by kernel_rfl) (fun _ _ _ h => h) (Or.inl ⟨by rfl, ?_⟩) hS ?_
          · (intro w' hSw; go_simp)
          go_frame
          refine wpAnyN_take (i := 5) (v := .slice a2 O c2) rfl (by kernel_rfl) (by kernel_rfl) (by kernel_rfl) (by decide) (by kernel_rfl) (fun _ _ _ h => h) (Or.inl ⟨by rfl, ?_⟩) hS ?_
          · (intro w' hSw; go_simp)
          go_frame
          refine wpAnyN_take (i := 6) (v := .pointer (some ⟨M, 1, none⟩)) rfl (by kernel_rfl) (by kernel_rfl) (by kernel_rfl) (by decide) (by kernel_rfl) (fun _ _ _ h => h) (Or.inl ⟨by rfl, ?_⟩) hS ?_
          · (intro w' hSw; go_simp)
          go_frame
          refine wpAnyN_take (i := 7) (v := .string X) rfl (by kernel_rfl) (by kernel_rfl) (by kernel_rfl) (by decide) (by kernel_rfl) (fun _ _ _ h => h) (Or.inl ⟨by rfl, ?_⟩) hS ?_
          · (intro w' hSw; go_simp)
          go_frame
          refine wpAnyN_take (i := 9) (v := .pointer (some ⟨M, 2, none⟩)) rfl (by kernel_rfl) (by kernel_rfl) (by kernel_rfl) (by decide) (by kernel_rfl) (fun _ _ _ h => h) (Or.inl ⟨by rfl, ?_⟩) hS ?_
          · (intro w' hSw; go_simp)
          go_frame
          refine wpAnyN_take (i := 10) (v := .string Y) rfl (by kernel_rfl) (by kernel_rfl) (by kernel_rfl) (by decide) (by kernel_rfl) (fun _ _ _ h => h) (Or.inl ⟨by rfl, ?_⟩) hS ?_
          · (intro w' hSw; go_simp)
          go_frame
          refine wpAnyL_one (i := 8) (by kernel_rfl) rfl rfl ?_
          go_simp
          refine (HFd.out _ (HOw.out.stay (Only.refl (fun _ => False) _).drew)).mono ?_
          rintro e w5 ⟨rfl, k5⟩
          have k5' := ((Only.refl (fun _ => False) w4).drew).trans k5 (fun _ _ f => f)
          have g1 := Only.blk k5' hbm (fun f => f)
          have g2 := Only.blk k5' hbt (fun f => f)
          refine ⟨⟨g1.cell 0 rfl, g1.cell 1 rfl, g1.cell 2 rfl, g2.cell 5 rfl⟩, ?_⟩
          refine wpAnyL_one (i := 11) (by kernel_rfl) rfl rfl ?_
          go_simp
          refine (HFi.out w5 (by omega)).mono ?_
          rintro e w6 ⟨rfl, k6⟩
          have g3 := Only.blk k6 g1 (fun f => f)
          have g4 := Only.blk k6 g2 (fun f => f)
          refine ⟨⟨g3.cell 0 rfl, g3.cell 1 rfl, g3.cell 2 rfl, g4.cell 5 rfl⟩, ?_⟩
          have HK6 := hid (HK3.out.trans ((HKw.out.trans k5' (fun _ _ f => f)).trans k6 (fun _ _ f => f)) (fun _ _ f => f))
          have HK6b := hid ((HKw.out.trans k5' (fun _ _ f => f)).trans k6 (fun _ _ f => f))
          have s6 : (fun w' : World => w'.cell? ⟨M, 0, none⟩ = some (.int .i64 1) ∧ w'.cell? ⟨M, 1, none⟩ = some (.string X) ∧ w'.cell? ⟨M, 2, none⟩ = some (.string Y) ∧ w'.cell? ⟨T, 5, none⟩ = some (.func (.func 34) #[] #[])) w6 := ⟨g3.cell 0 rfl, g3.cell 1 rfl, g3.cell 2 rfl, g4.cell 5 rfl⟩
          clear k5 k5' k6 g1 g2 g3 g4
          refine wpAnyL_one (i := 12) (by kernel_rfl) rfl rfl ?_
          go_simp
          refine wpAnyN_done (by kernel_rfl) ?_
          refine NoPanic.normal ?_
          clear hS
          cases hb : fitV 1 (fX, fb) Y with
          | false =>
            rw [hb] at HF
            have hmk := hid (HF.out rfl)
            go_wp2
            go_ret
            exact ⟨by rw [hmk.out]; rfl, HK6.out⟩
          | true =>
            rw [hb] at HT
            have HT2 := hid (HT.out rfl)
            go_wp2_with fail
            go_roundw
            case rel => exact ⟨k + 1, by omega, by go_num, HT2.out, HK6b.out⟩
            case measure => simp [intOf]; omega
        · have i0 := hbm.cell 0 rfl
          have i1 := hbm.cell 1 rfl
          have i2 := hbm.cell 2 rfl
          have i3 := hbt.cell 8 rfl
          have eg : ∀ args w, (callFunc 35 args).run Try.prog w = .ok (.enter 35 args) w := enters_of Try.func35 (by kernel_rfl) rfl
          go_wp2_with fail
          generalize wr.alloc (.cells #[.int .i64 2, .string X, .string Y] 40) = w4 at hbm hbt HOw HKw i0 i1 i2 i3 ⊢
          generalize wr.heap.size = M at hbm i0 i1 i2 ⊢
          refine wp_region_noPanic ?_
          refine wp_region_last (L := 1000) (S := fun w' => w'.cell? ⟨M, 0, none⟩ = some (.int .i64 2) ∧ w'.cell? ⟨M, 1, none⟩ = some (.string X) ∧ w'.cell? ⟨M, 2, none⟩ = some (.string Y) ∧ w'.cell? ⟨T, 8, none⟩ = some (.func (.func 35) #[] #[])) (by kernel_rfl) ?_
          have hS : (fun w' : World => w'.cell? ⟨M, 0, none⟩ = some (.int .i64 2) ∧ w'.cell? ⟨M, 1, none⟩ = some (.string X) ∧ w'.cell? ⟨M, 2, none⟩ = some (.string Y) ∧ w'.cell? ⟨T, 8, none⟩ = some (.func (.func 35) #[] #[])) w4.drew := ⟨i0, i1, i2, i3⟩
          refine wpAnyN_take (i := 0) (v := .pointer (some ⟨M, 0, none⟩)) rfl (by kernel_rfl) (by kernel_rfl) (by kernel_rfl) (by decide) (by kernel_rfl) (fun _ _ _ h => h) (Or.inl ⟨by rfl, ?_⟩) hS ?_
          · (intro w' hSw; go_simp)
          go_frame
          refine wpAnyN_take (i := 1) (v := .int .i64 2) rfl (by kernel_rfl) (by kernel_rfl) (by kernel_rfl) (by decide) (by kernel_rfl) (fun _ _ _ h => h) (Or.inl ⟨by rfl, ?_⟩) hS ?_
          · (intro w' hSw; go_simp)
          go_frame
          refine wpAnyN_take (i := 2) (v := .pointer (some ⟨T, 6, none⟩)) rfl (by kernel_rfl) (by kernel_rfl) (by kernel_rfl) (by decide) (by kernel_rfl) (fun _ _ _ h => h) (Or.inl ⟨by rfl, ?_⟩) hS ?_
          · (intro w' hSw; go_simp)
          go_frame
          refine wpAnyN_take (i := 3) (v := .pointer (some ⟨T, 8, none⟩)) rfl (by kernel_rfl) (by kernel_rfl) (by kernel_rfl) (by decide) (by kernel_rfl) (fun _ _ _ h => h) (Or.inl ⟨by rfl, ?_⟩) hS ?_
          · (intro w' hSw; go_simp)
          go_frame
          refine wpAnyN_take (i := 4) (v := .func (.func 35) #[] #[]) rfl (by kernel_rfl) (by kernel_rfl) (by kernel_rfl) (by decide) (by kernel_rfl) (fun _ _ _ h => h) (Or.inl ⟨by rfl, ?_⟩) hS ?_
          · (intro w' hSw; go_simp)
          go_frame
          refine wpAnyN_take (i := 5) (v := .slice a2 O c2) rfl (by kernel_rfl) (by kernel_rfl) (by kernel_rfl) (by decide) (by kernel_rfl) (fun _ _ _ h => h) (Or.inl ⟨by rfl, ?_⟩) hS ?_
          · (intro w' hSw; go_simp)
          go_frame
          refine wpAnyN_take (i := 6) (v := .pointer (some ⟨M, 1, none⟩)) rfl (by kernel_rfl) (by kernel_rfl) (by kernel_rfl) (by decide) (by kernel_rfl) (fun _ _ _ h => h) (Or.inl ⟨by rfl, ?_⟩) hS ?_
          · (intro w' hSw; go_simp)
          go_frame
          refine wpAnyN_take (i := 7) (v := .string X) rfl (by kernel_rfl) (by kernel_rfl) (by kernel_rfl) (by decide) (by kernel_rfl) (fun _ _ _ h => h) (Or.inl ⟨by rfl, ?_⟩) hS ?_
          · (intro w' hSw; go_simp)
          go_frame
          refine wpAnyN_take (i := 9) (v := .pointer (some ⟨M, 2, none⟩)) rfl (by kernel_rfl) (by kernel_rfl) (by kernel_rfl) (by decide) (by kernel_rfl) (fun _ _ _ h => h) (Or.inl ⟨by rfl, ?_⟩) hS ?_
          · (intro w' hSw; go_simp)
          go_frame
          refine wpAnyN_take (i := 10) (v := .string Y) rfl (by kernel_rfl) (by kernel_rfl) (by kernel_rfl) (by decide) (by kernel_rfl) (fun _ _ _ h => h) (Or.inl ⟨by rfl, ?_⟩) hS ?_
          · (intro w' hSw; go_simp)
          go_frame
          refine wpAnyL_one (i := 8) (by kernel_rfl) rfl rfl ?_
          go_simp
          refine (HFd.out _ (HOw.out.stay (Only.refl (fun _ => False) _).drew)).mono ?_
          rintro e w5 ⟨rfl, k5⟩
          have k5' := ((Only.refl (fun _ => False) w4).drew).trans k5 (fun _ _ f => f)
          have g1 := Only.blk k5' hbm (fun f => f)
          have g2 := Only.blk k5' hbt (fun f => f)
          refine ⟨⟨g1.cell 0 rfl, g1.cell 1 rfl, g1.cell 2 rfl, g2.cell 8 rfl⟩, ?_⟩
          refine wpAnyL_one (i := 11) (by kernel_rfl) rfl rfl ?_
          go_simp
          refine (HFi.out w5 (by omega)).mono ?_
          rintro e w6 ⟨rfl, k6⟩
          have g3 := Only.blk k6 g1 (fun f => f)
          have g4 := Only.blk k6 g2 (fun f => f)
          refine ⟨⟨g3.cell 0 rfl, g3.cell 1 rfl, g3.cell 2 rfl, g4.cell 8 rfl⟩, ?_⟩
          have HK6 := hid (HK3.out.trans ((HKw.out.trans k5' (fun _ _ f => f)).trans k6 (fun _ _ f => f)) (fun _ _ f => f))
          have HK6b := hid ((HKw.out.trans k5' (fun _ _ f => f)).trans k6 (fun _ _ f => f))
          have s6 : (fun w' : World => w'.cell? ⟨M, 0, none⟩ = some (.int .i64 2) ∧ w'.cell? ⟨M, 1, none⟩ = some (.string X) ∧ w'.cell? ⟨M, 2, none⟩ = some (.string Y) ∧ w'.cell? ⟨T, 8, none⟩ = some (.func (.func 35) #[] #[])) w6 := ⟨g3.cell 0 rfl, g3.cell 1 rfl, g3.cell 2 rfl, g4.cell 8 rfl⟩
          clear k5 k5' k6 g1 g2 g3 g4
          refine wpAnyL_one (i := 12) (by kernel_rfl) rfl rfl ?_
          go_simp
          refine wpAnyN_done (by kernel_rfl) ?_
          refine NoPanic.normal ?_
          clear hS
          cases hb : fitV 2 (fX, fb) Y with
          | false =>
            rw [hb] at HF
            have hmk := hid (HF.out rfl)
            go_wp2
            go_ret
            exact ⟨by rw [hmk.out]; rfl, HK6.out⟩
          | true =>
            rw [hb] at HT
            have HT2 := hid (HT.out rfl)
            go_wp2_with fail
            go_roundw
            case rel => exact ⟨k + 1, by omega, by go_num, HT2.out, HK6b.out⟩
            case measure => simp [intOf]; omega
        · have i0 := hbm.cell 0 rfl
          have i1 := hbm.cell 1 rfl
          have i2 := hbm.cell 2 rfl
          have i3 := hbt.cell 11 rfl
          have eg : ∀ args w, (callFunc 36 args).run Try.prog w = .ok (.enter 36 args) w := enters_of Try.func36 (by kernel_rfl) rfl
          go_wp2_with fail
          generalize wr.alloc (.cells #[.int .i64 3, .string X, .string Y] 40) = w4 at hbm hbt HOw HKw i0 i1 i2 i3 ⊢
          generalize wr.heap.size = M at hbm i0 i1 i2 ⊢
          refine wp_region_noPanic ?_
          refine wp_region_last (L := 1000) (S := fun w' => w'.cell? ⟨M, 0, none⟩ = some (.int .i64 3) ∧ w'.cell? ⟨M, 1, none⟩ = some (.string X) ∧ w'.cell? ⟨M, 2, none⟩ = some (.string Y) ∧ w'.cell? ⟨T, 11, none⟩ = some (.func (.func 36) #[] #[])) (by kernel_rfl) ?_
          have hS : (fun w' : World => w'.cell? ⟨M, 0, none⟩ = some (.int .i64 3) ∧ w'.cell? ⟨M, 1, none⟩ = some (.string X) ∧ w'.cell? ⟨M, 2, none⟩ = some (.string Y) ∧ w'.cell? ⟨T, 11, none⟩ = some (.func (.func 36) #[] #[])) w4.drew := ⟨i0, i1, i2, i3⟩
          refine wpAnyN_take (i := 0) (v := .pointer (some ⟨M, 0, none⟩)) rfl (by kernel_rfl) (by kernel_rfl) (by kernel_rfl) (by decide) (by kernel_rfl) (fun _ _ _ h => h) (Or.inl ⟨by rfl, ?_⟩) hS ?_
          · (intro w' hSw; go_simp)
          go_frame
          refine wpAnyN_take (i := 1) (v := .int .i64 3) rfl (by kernel_rfl) (by kernel_rfl) (by kernel_rfl) (by decide) (by kernel_rfl) (fun _ _ _ h => h) (Or.inl ⟨by rfl, ?_⟩) hS ?_
          · (intro w' hSw; go_simp)
          go_frame
          refine wpAnyN_take (i := 2) (v := .pointer (some ⟨T, 9, none⟩)) rfl (by kernel_rfl) (by kernel_rfl) (by kernel_rfl) (by decide) (by kernel_rfl) (fun _ _ _ h => h) (Or.inl ⟨by rfl, ?_⟩) hS ?_
          · (intro w' hSw; go_simp)
          go_frame
          refine wpAnyN_take (i := 3) (v := .pointer (some ⟨T, 11, none⟩)) rfl (by kernel_rfl) (by kernel_rfl) (by kernel_rfl) (by decide) (by kernel_rfl) (fun _ _ _ h => h) (Or.inl ⟨by rfl, ?_⟩) hS ?_
          · (intro w' hSw; go_simp)
          go_frame
          refine wpAnyN_take (i := 4) (v := .func (.func 36) #[] #[]) rfl (by kernel_rfl) (by kernel_rfl) (by kernel_rfl) (by decide) (by kernel_rfl) (fun _ _ _ h => h) (Or.inl ⟨by rfl, ?_⟩) hS ?_
          · (intro w' hSw; go_simp)
          go_frame
          refine wpAnyN_take (i := 5) (v := .slice a2 O c2) rfl (by kernel_rfl) (by kernel_rfl) (by kernel_rfl) (by decide) (by kernel_rfl) (fun _ _ _ h => h) (Or.inl ⟨by rfl, ?_⟩) hS ?_
          · (intro w' hSw; go_simp)
          go_frame
          refine wpAnyN_take (i := 6) (v := .pointer (some ⟨M, 1, none⟩)) rfl (by kernel_rfl) (by kernel_rfl) (by kernel_rfl) (by decide) (by kernel_rfl) (fun _ _ _ h => h) (Or.inl ⟨by rfl, ?_⟩) hS ?_
          · (intro w' hSw; go_simp)
          go_frame
          refine wpAnyN_take (i := 7) (v := .string X) rfl (by kernel_rfl) (by kernel_rfl) (by kernel_rfl) (by decide) (by kernel_rfl) (fun _ _ _ h => h) (Or.inl ⟨by rfl, ?_⟩) hS ?_
          · (intro w' hSw; go_simp)
          go_frame
          refine wpAnyN_take (i := 9) (v := .pointer (some ⟨M, 2, none⟩)) rfl (by kernel_rfl) (by kernel_rfl) (by kernel_rfl) (by decide) (by kernel_rfl) (fun _ _ _ h => h) (Or.inl ⟨by rfl, ?_⟩) hS ?_
          · (intro w' hSw; go_simp)
          go_frame
          refine wpAnyN_take (i := 10) (v := .string Y) rfl (by kernel_rfl) (by kernel_rfl) (by kernel_rfl) (by decide) (by kernel_rfl) (fun _ _ _ h => h) (Or.inl ⟨by rfl, ?_⟩) hS ?_
          · (intro w' hSw; go_simp)
          go_frame
          refine wpAnyL_one (i := 8) (by kernel_rfl) rfl rfl ?_
          go_simp
          refine (HFd.out _ (HOw.out.stay (Only.refl (fun _ => False) _).drew)).mono ?_
          rintro e w5 ⟨rfl, k5⟩
          have k5' := ((Only.refl (fun _ => False) w4).drew).trans k5 (fun _ _ f => f)
          have g1 := Only.blk k5' hbm (fun f => f)
          have g2 := Only.blk k5' hbt (fun f => f)
          refine ⟨⟨g1.cell 0 rfl, g1.cell 1 rfl, g1.cell 2 rfl, g2.cell 11 rfl⟩, ?_⟩
          refine wpAnyL_one (i := 11) (by kernel_rfl) rfl rfl ?_
          go_simp
          refine (HFi.out w5 (by omega)).mono ?_
          rintro e w6 ⟨rfl, k6⟩
          have g3 := Only.blk k6 g1 (fun f => f)
          have g4 := Only.blk k6 g2 (fun f => f)
          refine ⟨⟨g3.cell 0 rfl, g3.cell 1 rfl, g3.cell 2 rfl, g4.cell 11 rfl⟩, ?_⟩
          have HK6 := hid (HK3.out.trans ((HKw.out.trans k5' (fun _ _ f => f)).trans k6 (fun _ _ f => f)) (fun _ _ f => f))
          have HK6b := hid ((HKw.out.trans k5' (fun _ _ f => f)).trans k6 (fun _ _ f => f))
          have s6 : (fun w' : World => w'.cell? ⟨M, 0, none⟩ = some (.int .i64 3) ∧ w'.cell? ⟨M, 1, none⟩ = some (.string X) ∧ w'.cell? ⟨M, 2, none⟩ = some (.string Y) ∧ w'.cell? ⟨T, 11, none⟩ = some (.func (.func 36) #[] #[])) w6 := ⟨g3.cell 0 rfl, g3.cell 1 rfl, g3.cell 2 rfl, g4.cell 11 rfl⟩
          clear k5 k5' k6 g1 g2 g3 g4
          refine wpAnyL_one (i := 12) (by kernel_rfl) rfl rfl ?_
          go_simp
          refine wpAnyN_done (by kernel_rfl) ?_
          refine NoPanic.normal ?_
          clear hS
          cases hb : fitV 3 (fX, fb) Y with
          | false =>
            rw [hb] at HF
            have hmk := hid (HF.out rfl)
            go_wp2
            go_ret
            exact ⟨by rw [hmk.out]; rfl, HK6.out⟩
          | true =>
            rw [hb] at HT
            have HT2 := hid (HT.out rfl)
            go_wp2_with fail
            go_roundw
            case rel => exact ⟨k + 1, by omega, by go_num, HT2.out, HK6b.out⟩
            case measure => simp [intOf]; omega
        · have i0 := hbm.cell 0 rfl
          have i1 := hbm.cell 1 rfl
          have i2 := hbm.cell 2 rfl
          have i3 := hbt.cell 14 rfl
          have eg : ∀ args w, (callFunc 37 args).run Try.prog w = .ok (.enter 37 args) w := enters_of Try.func37 (by kernel_rfl) rfl
          go_wp2_with fail
          generalize wr.alloc (.cells #[.int .i64 4, .string X, .string Y] 40) = w4 at hbm hbt HOw HKw i0 i1 i2 i3 ⊢
          generalize wr.heap.size = M at hbm i0 i1 i2 ⊢
          refine wp_region_noPanic ?_
          refine wp_region_last (L := 1000) (S := fun w' => w'.cell? ⟨M, 0, none⟩ = some (.int .i64 4) ∧ w'.cell? ⟨M, 1, none⟩ = some (.string X) ∧ w'.cell? ⟨M, 2, none⟩ = some (.string Y) ∧ w'.cell? ⟨T, 14, none⟩ = some (.func (.func 37) #[] #[])) (by kernel_rfl) ?_
          have hS : (fun w' : World => w'.cell? ⟨M, 0, none⟩ = some (.int .i64 4) ∧ w'.cell? ⟨M, 1, none⟩ = some (.string X) ∧ w'.cell? ⟨M, 2, none⟩ = some (.string Y) ∧ w'.cell? ⟨T, 14, none⟩ = some (.func (.func 37) #[] #[])) w4.drew := ⟨i0, i1, i2, i3⟩
          refine wpAnyN_take (i := 0) (v := .pointer (some ⟨M, 0, none⟩)) rfl (by kernel_rfl) (by kernel_rfl) (by kernel_rfl) (by decide) (by kernel_rfl) (fun _ _ _ h => h) (Or.inl ⟨by rfl, ?_⟩) hS ?_
          · (intro w' hSw; go_simp)
          go_frame
          refine wpAnyN_take (i := 1) (v := .int .i64 4) rfl (by kernel_rfl) (by kernel_rfl) (by kernel_rfl) (by decide) (by kernel_rfl) (fun _ _ _ h => h) (Or.inl ⟨by rfl, ?_⟩) hS ?_
          · (intro w' hSw; go_simp)
          go_frame
          refine wpAnyN_take (i := 2) (v := .pointer (some ⟨T, 12, none⟩)) rfl (by kernel_rfl) (by kernel_rfl) (by kernel_rfl) (by decide) (by kernel_rfl) (fun _ _ _ h => h) (Or.inl ⟨by rfl, ?_⟩) hS ?_
          · (intro w' hSw; go_simp)
          go_frame
          refine wpAnyN_take (i := 3) (v := .pointer (some ⟨T, 14, none⟩)) rfl (by kernel_rfl) (by kernel_rfl) (by kernel_rfl) (by decide) (by kernel_rfl) (fun _ _ _ h => h) (Or.inl ⟨by rfl, ?_⟩) hS ?_
          · (intro w' hSw; go_simp)
          go_frame
          refine wpAnyN_take (i := 4) (v := .func (.func 37) #[] #[]) rfl (by kernel_rfl) (by kernel_rfl) (by kernel_rfl) (by decide) (by kernel_rfl) (fun _ _ _ h => h) (Or.inl ⟨by rfl, ?_⟩) hS ?_
          · (intro w' hSw; go_simp)
          go_frame
          refine wpAnyN_take (i := 5) (v := .slice a2 O c2) rfl (by kernel_rfl) (by kernel_rfl) (by kernel_rfl) (by decide) (by kernel_rfl) (fun _ _ _ h => h) (Or.inl ⟨by rfl, ?_⟩) hS ?_
          · (intro w' hSw; go_simp)
          go_frame
          refine wpAnyN_take (i := 6) (v := .pointer (some ⟨M, 1, none⟩)) rfl (by kernel_rfl) (by kernel_rfl) (by kernel_rfl) (by decide) (by kernel_rfl) (fun _ _ _ h => h) (Or.inl ⟨by rfl, ?_⟩) hS ?_
          · (intro w' hSw; go_simp)
          go_frame
          refine wpAnyN_take (i := 7) (v := .string X) rfl (by kernel_rfl) (by kernel_rfl) (by kernel_rfl) (by decide) (by kernel_rfl) (fun _ _ _ h => h) (Or.inl ⟨by rfl, ?_⟩) hS ?_
          · (intro w' hSw; go_simp)
          go_frame
          refine wpAnyN_take (i := 9) (v := .pointer (some ⟨M, 2, none⟩)) rfl (by kernel_rfl) (by kernel_rfl) (by kernel_rfl) (by decide) (by kernel_rfl) (fun _ _ _ h => h) (Or.inl ⟨by rfl, ?_⟩) hS ?_
          · (intro w' hSw; go_simp)
          go_frame
          refine wpAnyN_take (i := 10) (v := .string Y) rfl (by kernel_rfl) (by kernel_rfl) (by kernel_rfl) (by decide) (by kernel_rfl) (fun _ _ _ h => h) (Or.inl ⟨by rfl, ?_⟩) hS ?_
          · (intro w' hSw; go_simp)
          go_frame
          refine wpAnyL_one (i := 8) (by kernel_rfl) rfl rfl ?_
          go_simp
          refine (HFd.out _ (HOw.out.stay (Only.refl (fun _ => False) _).drew)).mono ?_
          rintro e w5 ⟨rfl, k5⟩
          have k5' := ((Only.refl (fun _ => False) w4).drew).trans k5 (fun _ _ f => f)
          have g1 := Only.blk k5' hbm (fun f => f)
          have g2 := Only.blk k5' hbt (fun f => f)
          refine ⟨⟨g1.cell 0 rfl, g1.cell 1 rfl, g1.cell 2 rfl, g2.cell 14 rfl⟩, ?_⟩
          refine wpAnyL_one (i := 11) (by kernel_rfl) rfl rfl ?_
          go_simp
          refine (HFi.out w5 (by omega)).mono ?_
          rintro e w6 ⟨rfl, k6⟩
          have g3 := Only.blk k6 g1 (fun f => f)
          have g4 := Only.blk k6 g2 (fun f => f)
          refine ⟨⟨g3.cell 0 rfl, g3.cell 1 rfl, g3.cell 2 rfl, g4.cell 14 rfl⟩, ?_⟩
          have HK6 := hid (HK3.out.trans ((HKw.out.trans k5' (fun _ _ f => f)).trans k6 (fun _ _ f => f)) (fun _ _ f => f))
          have HK6b := hid ((HKw.out.trans k5' (fun _ _ f => f)).trans k6 (fun _ _ f => f))
          have s6 : (fun w' : World => w'.cell? ⟨M, 0, none⟩ = some (.int .i64 4) ∧ w'.cell? ⟨M, 1, none⟩ = some (.string X) ∧ w'.cell? ⟨M, 2, none⟩ = some (.string Y) ∧ w'.cell? ⟨T, 14, none⟩ = some (.func (.func 37) #[] #[])) w6 := ⟨g3.cell 0 rfl, g3.cell 1 rfl, g3.cell 2 rfl, g4.cell 14 rfl⟩
          clear k5 k5' k6 g1 g2 g3 g4
          refine wpAnyL_one (i := 12) (by kernel_rfl) rfl rfl ?_
          go_simp
          refine wpAnyN_done (by kernel_rfl) ?_
          refine NoPanic.normal ?_
          clear hS
          cases hb : fitV 4 (fX, fb) Y with
          | false =>
            rw [hb] at HF
            have hmk := hid (HF.out rfl)
            go_wp2
            go_ret
            exact ⟨by rw [hmk.out]; rfl, HK6.out⟩
          | true =>
            rw [hb] at HT
            have HT2 := hid (HT.out rfl)
            go_wp2_with fail
            go_roundw
            case rel => exact ⟨k + 1, by omega, by go_num, HT2.out, HK6b.out⟩
            case measure => simp [intOf]; omega
      · have e : k = L := by omega
        subst e
        have hmk := hid (HF2.out (fun i hi => HA.out i hi (by have := HL.out; omega)))
        go_wp2
        go_ret
        exact ⟨by rw [hmk.out]; rfl, HK3.out.trans kr (fun _ _ f => f)⟩
  · have hmk := hid (fits_no (l := l) (of_ := of_) hck)
    generalize checkM l = C at HC hck
    have hC : (C != 0) = true := by simpa using hck
    go_enter Try.func13, Try.ntmps13
    go_wp2_with fail
    refine HC.out.mono ?_
    rintro e w1 ⟨rfl, k1⟩
    go_wp2
    go_ret
    exact ⟨by rw [hmk.out]; rfl, k1⟩
end Go.Proofs.Ytbdcaikcdhfdoaa.N
