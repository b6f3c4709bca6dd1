/-
  Cmp of labels: the world only grows.
-/
import Derived.Test.YtnbfbnhiikliaaaGreatHclone
import Derived.Test.YtnbfbnhiikliaaaGreatNcmp
import Derived.Sort.Grow
namespace Go.Proofs.YtnbfbnhiikliaaaGreat.Hd
open Go.RowKit Go.Proofs.Lys Go.Sort Go.Proofs.YtnbfbnhiikliaaaGreat.N
set_option linter.unusedVariables false
set_option linter.unusedSimpArgs false

/-- Something was drawn, and blocks were laid: nothing else. -/
def Grew (w w' : World) : Prop := ∃ q os, w' = grow (w.drewN q) os
theorem grow_drewN (w : World) (os : Array Obj) (n : Nat) : (grow w os).drewN n = grow (w.drewN n) os := rfl
theorem Grew.refl (w : World) : Grew w w := ⟨0, #[], by rw [grow_empty]; rfl⟩
theorem Grew.trans {a b c : World} (h : Grew a b) (k : Grew b c) : Grew a c := by
  obtain ⟨q, os, rfl⟩ := h
  obtain ⟨q', os', rfl⟩ := k
  exact ⟨q + q', os ++ os', by rw [grow_drewN, grow_grow, World.drewN_drewN]⟩
theorem Grew.alloc {a b : World} (h : Grew a b) (o : Obj) : Grew a (b.alloc o) := h.trans ⟨0, #[o], by rw [alloc_eq_grow]; rfl⟩
theorem Grew.drew {a b : World} (h : Grew a b) : Grew a b.drew := h.trans ⟨1, #[], by rw [grow_empty]; rfl⟩
theorem Grew.kept {a b : World} (h : Grew a b) : Kept a b := by
  obtain ⟨q, os, rfl⟩ := h
  refine ⟨rfl, rfl, rfl, by simp [grow], fun k hk _ => ?_⟩
  show (a.heap ++ os)[k]? = _
  exact Array.getElem?_append_left hk

set_option maxRecDepth 20000 in
set_option maxHeartbeats 2000000 in
theorem clos_any (x y : Lab) (w : World) : Calls Tryz.prog 83 #[.agg #[.string x.1, .string x.2], .agg #[.string y.1, .string y.2]] w fun e w' => e = .returned (.int .i64 (labC x y)) ∧ Grew w w' := by
  have h1 := fun W => Tryz.strings_Compare x.1 y.1 W
  have h2 := fun W => Tryz.strings_Compare x.2 y.2 W
  have hf : labC x y = if Lib.compareBytes x.1.data.toList y.1.data.toList ≠ 0 then Lib.compareBytes x.1.data.toList y.1.data.toList else Lib.compareBytes x.2.data.toList y.2.data.toList := rfl
  generalize labC x y = r at hf ⊢
  generalize Lib.compareBytes x.1.data.toList y.1.data.toList = P1 at h1 hf
  generalize Lib.compareBytes x.2.data.toList y.2.data.toList = P2 at h2 hf
  generalize x.1 = a1 at *
  generalize x.2 = a2 at *
  generalize y.1 = b1 at *
  generalize y.2 = b2 at *
  have HO := hid (fun (W : World) (b : Nat) (c0 : W.cell? ⟨b, 0, none⟩ = some (.int .i64 P1)) (c1 : W.cell? ⟨b, 1, none⟩ = some (.int .i64 P2)) => or_any W b P1 P2 c0 c1)
  rw [← hf] at HO
  clear hf
  have H1 := hid h1
  have H2 := hid h2
  clear h1 h2
  have hb1 := (Blk.new w [.string a1, .string a2] 46).alloc (.cells #[.string b1, .string b2] 46)
  have hb2 := Blk.new (w.alloc (.cells #[.string a1, .string a2] 46)) [.string b1, .string b2] 46
  simp only [World.size_alloc] at hb2
  obtain ⟨w2, hw2⟩ : ∃ w2, w2 = (w.alloc (.cells #[.string a1, .string a2] 46)).alloc (.cells #[.string b1, .string b2] 46) := ⟨_, rfl⟩
  have hb1' : Blk w2 w.heap.size [.string a1, .string a2] 46 := by rw [hw2]; exact hb1
  have hb2' : Blk w2 (w.heap.size + 1) [.string b1, .string b2] 46 := by rw [hw2]; exact hb2
  have HS := hid (show CmpS w.heap.size a1 a2 b1 b2 w2.drew from ⟨hb1'.drew, hb2'.drew⟩)
  have hw2' := hid hw2
  clear hb1 hb2 hw2 hb1' hb2'
  go_enter Tryz.func83, Tryz.ntmps83
  go_wp2_with fail
  refine wp_region_noPanic ?_
  refine wp_region_last (L := 1000) (S := CmpS w.heap.size a1 a2 b1 b2) (by kernel_rfl) ?_
  rw [← hw2'.out]
  have hS : CmpS w.heap.size a1 a2 b1 b2 w2.drew := HS.out
  refine wpAnyN_take (i := 0) (v := .pointer (some ⟨w.heap.size, 0, none⟩)) rfl (by kernel_rfl) (by kernel_rfl) (by kernel_rfl) (by decide) (by kernel_rfl) (fun _ _ _ h => h) (Or.inl ⟨by rfl, ?_⟩) hS ?_
  · (intro w' hSw; have s0 := hSw.x.cell 0 rfl; have s1 := hSw.x.cell 1 rfl; have s2 := hSw.y.cell 0 rfl; have s3 := hSw.y.cell 1 rfl; clear hSw; go_simp)
  go_frame
  refine wpAnyN_take (i := 1) (v := .string a1) rfl (by kernel_rfl) (by kernel_rfl) (by kernel_rfl) (by decide) (by kernel_rfl) (fun _ _ _ h => h) (Or.inl ⟨by rfl, ?_⟩) hS ?_
  · (intro w' hSw; have s0 := hSw.x.cell 0 rfl; have s1 := hSw.x.cell 1 rfl; have s2 := hSw.y.cell 0 rfl; have s3 := hSw.y.cell 1 rfl; clear hSw; go_simp)
  go_frame
  refine wpAnyN_take (i := 2) (v := .pointer (some ⟨w.heap.size + 1, 0, none⟩)) rfl (by kernel_rfl) (by kernel_rfl) (by kernel_rfl) (by decide) (by kernel_rfl) (fun _ _ _ h => h) (Or.inl ⟨by rfl, ?_⟩) hS ?_
  · (intro w' hSw; have s0 := hSw.x.cell 0 rfl; have s1 := hSw.x.cell 1 rfl; have s2 := hSw.y.cell 0 rfl; have s3 := hSw.y.cell 1 rfl; clear hSw; go_simp)
  go_frame
  refine wpAnyN_take (i := 3) (v := .string b1) rfl (by kernel_rfl) (by kernel_rfl) (by kernel_rfl) (by decide) (by kernel_rfl) (fun _ _ _ h => h) (Or.inl ⟨by rfl, ?_⟩) hS ?_
  · (intro w' hSw; have s0 := hSw.x.cell 0 rfl; have s1 := hSw.x.cell 1 rfl; have s2 := hSw.y.cell 0 rfl; have s3 := hSw.y.cell 1 rfl; clear hSw; go_simp)
  go_frame
  refine wpAnyN_take (i := 5) (v := .pointer (some ⟨w.heap.size, 1, none⟩)) rfl (by kernel_rfl) (by kernel_rfl) (by kernel_rfl) (by decide) (by kernel_rfl) (fun _ _ _ h => h) (Or.inl ⟨by rfl, ?_⟩) hS ?_
  · (intro w' hSw; have s0 := hSw.x.cell 0 rfl; have s1 := hSw.x.cell 1 rfl; have s2 := hSw.y.cell 0 rfl; have s3 := hSw.y.cell 1 rfl; clear hSw; go_simp)
  go_frame
  refine wpAnyN_take (i := 6) (v := .string a2) rfl (by kernel_rfl) (by kernel_rfl) (by kernel_rfl) (by decide) (by kernel_rfl) (fun _ _ _ h => h) (Or.inl ⟨by rfl, ?_⟩) hS ?_
  · (intro w' hSw; have s0 := hSw.x.cell 0 rfl; have s1 := hSw.x.cell 1 rfl; have s2 := hSw.y.cell 0 rfl; have s3 := hSw.y.cell 1 rfl; clear hSw; go_simp)
  go_frame
  refine wpAnyN_take (i := 7) (v := .pointer (some ⟨w.heap.size + 1, 1, none⟩)) rfl (by kernel_rfl) (by kernel_rfl) (by kernel_rfl) (by decide) (by kernel_rfl) (fun _ _ _ h => h) (Or.inl ⟨by rfl, ?_⟩) hS ?_
  · (intro w' hSw; have s0 := hSw.x.cell 0 rfl; have s1 := hSw.x.cell 1 rfl; have s2 := hSw.y.cell 0 rfl; have s3 := hSw.y.cell 1 rfl; clear hSw; go_simp)
  go_frame
  refine wpAnyN_take (i := 8) (v := .string b2) rfl (by kernel_rfl) (by kernel_rfl) (by kernel_rfl) (by decide) (by kernel_rfl) (fun _ _ _ h => h) (Or.inl ⟨by rfl, ?_⟩) hS ?_
  · (intro w' hSw; have s0 := hSw.x.cell 0 rfl; have s1 := hSw.x.cell 1 rfl; have s2 := hSw.y.cell 0 rfl; have s3 := hSw.y.cell 1 rfl; clear hSw; go_simp)
  go_frame
  refine wpAnyL_one (i := 4) (by kernel_rfl) rfl rfl ?_
  go_simp
  refine (H1.out _).mono ?_
  rintro e w' ⟨rfl, hw⟩
  replace hw := hw.symm
  subst hw
  refine ⟨hS, ?_⟩
  (try go_frame)
  refine wpAnyL_one (i := 9) (by kernel_rfl) rfl rfl ?_
  go_simp
  refine (H2.out _).mono ?_
  rintro e w' ⟨rfl, hw⟩
  replace hw := hw.symm
  subst hw
  refine ⟨hS, ?_⟩
  (try go_frame)
  refine wpAnyL_one (i := 10) (by kernel_rfl) rfl rfl ?_
  go_simp
  have hS3 : CmpS w.heap.size a1 a2 b1 b2 (w2.alloc (.cells #[.int .i64 P1, .int .i64 P2] 3)).drew := hS.alloc _
  have hbb := (Blk.new w2 [.int .i64 P1, .int .i64 P2] 3).drew
  refine ⟨hS3, ?_⟩
  (try go_frame)
  refine wpAnyL_one (i := 11) (by kernel_rfl) rfl rfl ?_
  go_simp
  refine (HO.out _ _ (hbb.cell 0 rfl) (hbb.cell 1 rfl)).mono ?_
  rintro e w' ⟨rfl, hw⟩
  replace hw := hw.symm
  subst hw
  refine ⟨hS3, ?_⟩
  (try go_frame)
  refine wpAnyL_one (i := 12) (by kernel_rfl) rfl rfl ?_
  go_simp
  refine ⟨by kernel_rfl, ?_⟩
  refine NoPanic.normal ?_
  clear hS hS3 hbb
  go_wp2_with fail
  go_ret
  refine ⟨rfl, ?_⟩
  rw [hw2'.out]
  exact ((((Grew.refl w).alloc _).alloc _).alloc _).drew
set_option maxRecDepth 100000 in
set_option maxHeartbeats 1600000 in
theorem compare_any (w : World) (va vb : Value) (a b : Labs) (ha : LabSrc w va a) (hb : LabSrc w vb b) (hla : a.length ≤ 1000000) (hlb : b.length ≤ 1000000) :
    Calls Tryz.prog 82 #[va, vb, .func (.func 83) #[] #[]] w fun e w' => e = .returned (.int .i64 (cmpL a b)) ∧ Grew w w' := by
  obtain ⟨a1, c1, rfl⟩ := ha.len
  obtain ⟨a2, c2, rfl⟩ := hb.len
  obtain ⟨L, hL⟩ : ∃ L, a.length = L := ⟨_, rfl⟩
  obtain ⟨M, hM⟩ : ∃ M, b.length = M := ⟨_, rfl⟩
  rw [hL] at ha hla ⊢
  rw [hM] at hb hlb ⊢
  have HA := hid ha
  have HB := hid hb
  have HL := hid hL
  have HM := hid hM
  clear ha hb hL hM
  go_enter Tryz.func82, Tryz.ntmps82
  go_wp2
  go_loopw [13] (fun s wr => ∃ (k : Nat), k ≤ L ∧ k ≤ M ∧ s = .int .i64 (k : Int) ∧ SameTo a b k ∧ Grew w wr) (fun s _ => L - (intOf s).toNat)
  case atStart => exact ⟨0, by omega, by omega, rfl, rfl, Grew.refl _⟩
  case round =>
    obtain ⟨k, hk, hkm, rfl, hS, kr⟩ := hrel
    have HS := hid hS
    have HK := hid kr
    clear hS
    by_cases hlt : k < L
    · have hka : k < a.length := by have := HL.out; omega
      obtain ⟨b1, o1, rfl, x1, y1⟩ := (HA.out.stay kr.kept).cell HL.out k hlt
      by_cases hm : k < M
      · have hkb : k < b.length := by have := HM.out; omega
        obtain ⟨b2, o2, rfl, x2, y2⟩ := (HB.out.stay kr.kept).cell HM.out k hm
        have HN := hid (fun h => same_ne HS.out hka hkb h)
        have HT := hid (fun h => same_step HS.out hka hkb h)
        clear kr
        generalize a[k]'hka = x at x1 y1 HN HT
        generalize b[k]'hkb = y at x2 y2 HN HT
        obtain ⟨X1, Y1⟩ := x
        obtain ⟨X2, Y2⟩ := y
        simp only at x1 y1 x2 y2
        have HX := hid (fun W => clos_any (X1, Y1) (X2, Y2) W)
        have bl1 := World.block_lt_of_cell? _ _ x2
        have x2' : (wr.alloc (.cells #[.string X1, .string Y1] 46)).cell? ⟨b2, o2 + k * 2, none⟩ = some (.string X2) := by
          rw [World.cell?_of_block (w := wr) (Below.heap_alloc wr _ b2 bl1)]; exact x2
        have y2' : (wr.alloc (.cells #[.string X1, .string Y1] 46)).cell? ⟨b2, o2 + k * 2 + 1, none⟩ = some (.string Y2) := by
          rw [World.cell?_of_block (w := wr) (Below.heap_alloc wr _ b2 bl1)]; exact y2
        go_wp2_with fail
        refine (HX.out _).mono ?_
        rintro e w2 ⟨rfl, k2⟩
        have HK2 := hid (((HK.out.alloc _).alloc _).trans k2)
        clear k2 x2' y2'
        generalize hr : labC (X1, Y1) (X2, Y2) = r at HN HT ⊢
        by_cases h0 : r = 0
        · subst h0
          have HT2 := hid (HT.out rfl)
          go_wp2
          refine ⟨⟨k + 1, by omega, by omega, by go_num, HT2.out, HK2.out⟩, ?_⟩
          simp [intOf]
          omega
        · have HN2 := hid (HN.out h0)
          go_wp2
          go_ret
          exact ⟨by rw [HN2.out]; rfl, HK2.out⟩
      · have HE := hid (same_long HS.out hka (by have := HM.out; omega))
        go_wp2
        go_ret
        exact ⟨by rw [HE.out]; rfl, kr.alloc _⟩
    · have e : k = L := by omega
      subst e
      by_cases hm : k < M
      · have HE := hid (same_short HS.out (by have := HL.out; omega) (by have := HM.out; omega))
        go_wp2
        go_ret
        exact ⟨by rw [HE.out]; rfl, kr⟩
      · have HE := hid (same_end HS.out (by have := HL.out; omega) (by have := HM.out; omega))
        go_wp2
        go_ret
        exact ⟨by rw [HE.out]; rfl, kr⟩

theorem cmp_any (w : World) (va vb : Value) (a b : Labs) (ha : LabSrc w va a) (hb : LabSrc w vb b) (hla : a.length ≤ 1000000) (hlb : b.length ≤ 1000000) :
    Calls Tryz.prog 64 #[va, vb] w fun e w' => e = .returned (.int .i64 (cmpL a b)) ∧ Grew w w' := by
  have HC := hid (compare_any w va vb a b ha hb hla hlb)
  obtain ⟨a1, c1, rfl⟩ := ha.len
  obtain ⟨a2, c2, rfl⟩ := hb.len
  clear ha hb
  go_enter Tryz.func64, Tryz.ntmps64
  go_wp2_with (go_at_call 82; refine HC.out.mono ?_)
  rintro e w1 ⟨rfl, k1⟩
  go_wp2
  go_ret
  exact ⟨rfl, k1⟩

end Go.Proofs.YtnbfbnhiikliaaaGreat.Hd
