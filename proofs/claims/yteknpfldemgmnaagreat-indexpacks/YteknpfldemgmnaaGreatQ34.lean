/-
  Xsrt, Xposts, Xref1.
-/
import Derived.Test.YteknpfldemgmnaaGreatQ30
import Derived.Test.YteknpfldemgmnaaGreatQ31
import Derived.Test.YteknpfldemgmnaaGreatQ32
import Derived.Sort.Grow
import Derived.Test.YteknpfldemgmnaaGreatQ33

/-
  The pairs, sorted: slices.SortFunc, slices.SortedFunc, pairs.
-/
namespace Go.Proofs.YteknpfldemgmnaaGreat.X
open Go.RowKit Go.Proofs.Lys Go.Sort Go.Shelf Go.Maps Go.Proofs.YteknpfldemgmnaaGreat.N
set_option linter.unusedVariables false
set_option linter.unusedSimpArgs false

/-- Something was drawn, and blocks were laid: nothing else. -/
def Grew (w w' : World) : Prop := ∃ q os, w' = grow (w.drewN q) os
theorem grow_drewN (w : World) (os : Array Obj) (n : Nat) : (grow w os).drewN n = grow (w.drewN n) os := rfl
theorem Grew.refl (w : World) : Grew w w := ⟨0, #[], by rw [grow_empty]; rfl⟩
theorem Grew.trans {a b c : World} (h : Grew a b) (k : Grew b c) : Grew a c := by
  obtain ⟨q, os, rfl⟩ := h
  obtain ⟨q', os', rfl⟩ := k
  exact ⟨q + q', os ++ os', by rw [grow_drewN, grow_grow, World.drewN_drewN]⟩
theorem Grew.alloc {a b : World} (h : Grew a b) (o : Obj) : Grew a (b.alloc o) := h.trans ⟨0, #[o], by rw [alloc_eq_grow]; rfl⟩
theorem Grew.drew {a b : World} (h : Grew a b) : Grew a b.drew := h.trans ⟨1, #[], by rw [grow_empty]; rfl⟩

set_option maxRecDepth 20000 in
set_option maxHeartbeats 2000000 in
theorem clos_pair (x y : Lab) (w : World) : Calls Tryz.prog 59 #[.agg #[.string x.1, .string x.2], .agg #[.string y.1, .string y.2]] w fun e w' => e = .returned (.int .i64 (labC x y)) ∧ Grew w w' := by
  have h1 := fun W => Tryz.strings_Compare x.1 y.1 W
  have h2 := fun W => Tryz.strings_Compare x.2 y.2 W
  have hf : labC x y = if Lib.compareBytes x.1.data.toList y.1.data.toList ≠ 0 then Lib.compareBytes x.1.data.toList y.1.data.toList else Lib.compareBytes x.2.data.toList y.2.data.toList := rfl
  generalize labC x y = r at hf ⊢
  generalize Lib.compareBytes x.1.data.toList y.1.data.toList = P1 at h1 hf
  generalize Lib.compareBytes x.2.data.toList y.2.data.toList = P2 at h2 hf
  generalize x.1 = a1 at *
  generalize x.2 = a2 at *
  generalize y.1 = b1 at *
  generalize y.2 = b2 at *
  have HO := hid (fun (W : World) (b : Nat) (c0 : W.cell? ⟨b, 0, none⟩ = some (.int .i64 P1)) (c1 : W.cell? ⟨b, 1, none⟩ = some (.int .i64 P2)) => or_any W b P1 P2 c0 c1)
  rw [← hf] at HO
  clear hf
  have H1 := hid h1
  have H2 := hid h2
  clear h1 h2
  have hb1 := (Blk.new w [.string a1, .string a2] 43).alloc (.cells #[.string b1, .string b2] 43)
  have hb2 := Blk.new (w.alloc (.cells #[.string a1, .string a2] 43)) [.string b1, .string b2] 43
  simp only [World.size_alloc] at hb2
  obtain ⟨w2, hw2⟩ : ∃ w2, w2 = (w.alloc (.cells #[.string a1, .string a2] 43)).alloc (.cells #[.string b1, .string b2] 43) := ⟨_, rfl⟩
  have hb1' : Blk w2 w.heap.size [.string a1, .string a2] 43 := by rw [hw2]; exact hb1
  have hb2' : Blk w2 (w.heap.size + 1) [.string b1, .string b2] 43 := by rw [hw2]; exact hb2
  have HS := hid (show CmpS w.heap.size a1 a2 b1 b2 w2.drew from ⟨hb1'.drew, hb2'.drew⟩)
  have hw2' := hid hw2
  clear hb1 hb2 hw2 hb1' hb2'
  go_enter Tryz.func59, Tryz.ntmps59
  go_wp2_with fail
  refine wp_region_noPanic ?_
  refine wp_region_last (L := 1000) (S := CmpS w.heap.size a1 a2 b1 b2) (by kernel_rfl) ?_
  rw [← hw2'.out]
  have hS : CmpS w.heap.size a1 a2 b1 b2 w2.drew := HS.out
  refine wpAnyN_take (i := 0) (v := .pointer (some ⟨w.heap.size, 0, none⟩)) rfl (by kernel_rfl) (by kernel_rfl) (by kernel_rfl) (by decide) (by kernel_rfl) (fun _ _ _ h => h) (Or.inl ⟨by rfl, ?_⟩) hS ?_
  · (intro w' hSw; have s0 := hSw.x.cell 0 rfl; have s1 := hSw.x.cell 1 rfl; have s2 := hSw.y.cell 0 rfl; have s3 := hSw.y.cell 1 rfl; clear hSw; go_simp)
  go_frame
  refine wpAnyN_take (i := 1) (v := .string a1) rfl (by kernel_rfl) (by kernel_rfl) (by kernel_rfl) (by decide) (by kernel_rfl) (fun _ _ _ h => h) (Or.inl ⟨by rfl, ?_⟩) hS ?_
  · (intro w' hSw; have s0 := hSw.x.cell 0 rfl; have s1 := hSw.x.cell 1 rfl; have s2 := hSw.y.cell 0 rfl; have s3 := hSw.y.cell 1 rfl; clear hSw; go_simp)
  go_frame
  refine wpAnyN_take (i := 2) (v := .pointer (some ⟨w.heap.size + 1, 0, none⟩)) rfl (by kernel_rfl) (by kernel_rfl) (by kernel_rfl) (by decide) (by kernel_rfl) (fun _ _ _ h => h) (Or.inl ⟨by rfl, ?_⟩) hS ?_
  · (intro w' hSw; have s0 := hSw.x.cell 0 rfl; have s1 := hSw.x.cell 1 rfl; have s2 := hSw.y.cell 0 rfl; have s3 := hSw.y.cell 1 rfl; clear hSw; go_simp)
  go_frame
  refine wpAnyN_take (i := 3) (v := .string b1) rfl (by kernel_rfl) (by kernel_rfl) (by kernel_rfl) (by decide) (by kernel_rfl) (fun _ _ _ h => h) (Or.inl ⟨by rfl, ?_⟩) hS ?_
  · (intro w' hSw; have s0 := hSw.x.cell 0 rfl; have s1 := hSw.x.cell 1 rfl; have s2 := hSw.y.cell 0 rfl; have s3 := hSw.y.cell 1 rfl; clear hSw; go_simp)
  go_frame
  refine wpAnyN_take (i := 5) (v := .pointer (some ⟨w.heap.size, 1, none⟩)) rfl (by kernel_rfl) (by kernel_rfl) (by kernel_rfl) (by decide) (by kernel_rfl) (fun _ _ _ h => h) (Or.inl ⟨by rfl, ?_⟩) hS ?_
  · (intro w' hSw; have s0 := hSw.x.cell 0 rfl; have s1 := hSw.x.cell 1 rfl; have s2 := hSw.y.cell 0 rfl; have s3 := hSw.y.cell 1 rfl; clear hSw; go_simp)
  go_frame
  refine wpAnyN_take (i := 6) (v := .string a2) rfl (by kernel_rfl) (by kernel_rfl) (by kernel_rfl) (by decide) (by kernel_rfl) (fun _ _ _ h => h) (Or.inl ⟨by rfl, ?_⟩) hS ?_
  · (intro w' hSw; have s0 := hSw.x.cell 0 rfl; have s1 := hSw.x.cell 1 rfl; have s2 := hSw.y.cell 0 rfl; have s3 := hSw.y.cell 1 rfl; clear hSw; go_simp)
  go_frame
  refine wpAnyN_take (i := 7) (v := .pointer (some ⟨w.heap.size + 1, 1, none⟩)) rfl (by kernel_rfl) (by kernel_rfl) (by kernel_rfl) (by decide) (by kernel_rfl) (fun _ _ _ h => h) (Or.inl ⟨by rfl, ?_⟩) hS ?_
  · (intro w' hSw; have s0 := hSw.x.cell 0 rfl; have s1 := hSw.x.cell 1 rfl; have s2 := hSw.y.cell 0 rfl; have s3 := hSw.y.cell 1 rfl; clear hSw; go_simp)
  go_frame
  refine wpAnyN_take (i := 8) (v := .string b2) rfl (by kernel_rfl) (by kernel_rfl) (by kernel_rfl) (by decide) (by kernel_rfl) (fun _ _ _ h => h) (Or.inl ⟨by rfl, ?_⟩) hS ?_
  · (intro w' hSw; have s0 := hSw.x.cell 0 rfl; have s1 := hSw.x.cell 1 rfl; have s2 := hSw.y.cell 0 rfl; have s3 := hSw.y.cell 1 rfl; clear hSw; go_simp)
  go_frame
  refine wpAnyL_one (i := 4) (by kernel_rfl) rfl rfl ?_
  go_simp
  refine (H1.out _).mono ?_
  rintro e w' ⟨rfl, hw⟩
  replace hw := hw.symm
  subst hw
  refine ⟨hS, ?_⟩
  (try go_frame)
  refine wpAnyL_one (i := 9) (by kernel_rfl) rfl rfl ?_
  go_simp
  refine (H2.out _).mono ?_
  rintro e w' ⟨rfl, hw⟩
  replace hw := hw.symm
  subst hw
  refine ⟨hS, ?_⟩
  (try go_frame)
  refine wpAnyL_one (i := 10) (by kernel_rfl) rfl rfl ?_
  go_simp
  have hS3 : CmpS w.heap.size a1 a2 b1 b2 (w2.alloc (.cells #[.int .i64 P1, .int .i64 P2] 3)).drew := hS.alloc _
  have hbb := (Blk.new w2 [.int .i64 P1, .int .i64 P2] 3).drew
  refine ⟨hS3, ?_⟩
  (try go_frame)
  refine wpAnyL_one (i := 11) (by kernel_rfl) rfl rfl ?_
  go_simp
  refine (HO.out _ _ (hbb.cell 0 rfl) (hbb.cell 1 rfl)).mono ?_
  rintro e w' ⟨rfl, hw⟩
  replace hw := hw.symm
  subst hw
  refine ⟨hS3, ?_⟩
  (try go_frame)
  refine wpAnyL_one (i := 12) (by kernel_rfl) rfl rfl ?_
  go_simp
  refine ⟨by kernel_rfl, ?_⟩
  refine NoPanic.normal ?_
  clear hS hS3 hbb
  go_wp2_with fail
  go_ret
  refine ⟨rfl, ?_⟩
  rw [hw2'.out]
  exact ((((Grew.refl w).alloc _).alloc _).alloc _).drew
theorem only_sortK {α : Type} [Inhabited α] (enc : α → List Value) (k : Nat) (w : World) (blk off m : Nat) (dk : Array α) (os : Array Obj) : Only (fun j => j = blk) w (sortWorldK enc k w blk off m dk os) := by
  refine ⟨rfl, rfl, rfl, ?_, fun j hj hn => ?_⟩
  · unfold sortWorldK
    rw [size_grow, size_putRowK]
    exact Nat.le_add_right _ _
  · unfold sortWorldK
    rw [heap_grow_old _ _ (by rw [size_putRowK]; exact hj)]
    show ((Go.Sort.ahead w m).heap.modify blk _)[j]? = _
    rw [Array.getElem?_modify, if_neg (fun e => hn e.symm)]
    rfl
def encP (x : Lab) : List Value := [.string x.1, .string x.2]
theorem ltP (x y : Lab) : ltOf labC x y = decide (labC x y = -1) := by
  unfold ltOf
  have := labC_good.rng x y
  rcases this with e | e | e <;> rw [e] <;> rfl
theorem swoP : SWO (ltOf labC) where
  irrefl x := by
    rw [ltP]
    have := labC_good.self x
    simp [this]
  trans x y z h1 h2 := by
    rw [ltP] at *
    simp only [decide_eq_true_eq] at *
    exact labC_good.trans _ _ _ h1 h2
  ntrans x y z h1 h2 := by
    rw [ltP] at *
    simp only [decide_eq_false_iff_not] at *
    have r1 := labC_good.rng x y
    have r2 := labC_good.rng y z
    have a1 := labC_good.anti x y
    have a2 := labC_good.anti y z
    have a3 := labC_good.anti x z
    have := labC_good.trans_le (x := z) (y := y) (z := x) (by omega) (by omega)
    omega

set_option maxRecDepth 100000 in
theorem sort_labs (w : World) (B : Nat) (v : Value) (xs : Labs) (h : LabAt w B v xs) (hd : xs.Nodup) (hlen : xs.length ≤ 1000000) :
    Calls Tryz.prog 84 #[v, .func (.func 59) #[] #[]] w fun e w' => e = .returned (.tuple #[]) ∧ Only (fun k => v.ownBlock = some k) w w' ∧ ∃ qs : Labs, qs.Perm xs ∧ (qs.Pairwise fun a b => labC a b = -1) ∧ LabAt w' B v qs := by
  rcases h.2 with ⟨rfl, h0⟩ | ⟨g, cap, cur, rfl, hb, hg, hnc, hcm, hcs, htake⟩
  · have hx0 : xs = [] := List.length_eq_zero_iff.1 h0
    subst hx0
    refine (AnyF.slices_SortFunc_none Tryz.sortP none 0 _ w).mono ?_
    rintro e w' ⟨rfl, rfl⟩
    exact ⟨rfl, Only.refl _ _, [], .refl _, .nil, h⟩
  · by_cases hx0 : xs.length = 0
    · have hx1 : xs = [] := List.length_eq_zero_iff.1 hx0
      subst hx1
      refine (AnyF.slices_SortFunc_none Tryz.sortP (some ⟨g, 0, none⟩) cap _ w).mono ?_
      rintro e w' ⟨rfl, rfl⟩
      exact ⟨rfl, Only.refl _ _, [], .refl _, .nil, h⟩
    have hinh : Inhabited Lab := ⟨xs[0]'(by omega)⟩
    have hsz : xs.toArray.size = xs.length := by simp
    have hglt := (Array.getElem?_eq_some_iff.1 hg).1
    have hcell : ∀ j u, (labL xs)[j]? = some u → cur[j]? = some u := fun j u hj => by
      have hj2 := (List.getElem?_eq_some_iff.1 hj).1
      rw [labL_len] at hj2
      rw [← htake, List.getElem?_take, if_pos (by omega)] at hj
      simpa using hj
    have hflat : ∀ (ys : Labs) (t : Nat) (ht : t < ys.length * 2), (encP (ys.toArray[t / 2]!))[t % 2]! = ((labL ys)[t]?).getD undef := fun ys t ht => by
      have hlt : t / 2 < ys.length := by omega
      have e1 : ys.toArray[t / 2]! = ys[t / 2] := by rw [getElem!_pos _ _ (by simpa using hlt)]; simp
      rw [e1]
      have h2 := labL_at ys (t / 2) hlt
      rcases (show t % 2 = 0 ∨ t % 2 = 1 by omega) with e | e
      · rw [e]
        have h3 := h2.1
        rw [show t / 2 * 2 = t by omega] at h3
        rw [h3]
        simp [encP]
      · rw [e]
        have h3 := h2.2
        rw [show t / 2 * 2 + 1 = t by omega] at h3
        rw [h3]
        simp [encP]
    have hH : HoldsK encP 2 w g 0 xs.toArray := by
      intro t ht
      rw [size_flatK, hsz] at ht
      refine ⟨?_, by simp [World.frozen?, hg]⟩
      rw [get_flatK encP 2 _ t (by rw [hsz]; exact ht)]
      have h3 := hflat xs t ht
      show w.cell? ⟨g, 0 + t, none⟩ = some (id _)
      rw [id, h3, Nat.zero_add]
      have h4 : t < (labL xs).length := by rw [labL_len]; exact ht
      have h5 := hcell t _ (List.getElem?_eq_getElem h4)
      simp only [World.cell?, hg]
      rw [List.getElem?_eq_getElem h4]
      simpa using h5
    have eg : ∀ args w, (callFunc 59 args).run Tryz.prog w = .ok (.enter 59 args) w := enters_of Tryz.func59 (by kernel_rfl) rfl
    have hcmp : CmpLays Tryz.prog 59 #[] encP 2 labC g 0 xs.toArray.size w := fun m os dk hdk x y => clos_pair x y _
    have hT : ∀ x y : Lab, (ltOf labC) x y = false → (ltOf labC) y x = false → x = y := fun x y h1 h2 => by
      rw [ltP] at h1 h2
      simp only [decide_eq_false_iff_not] at h1 h2
      have r1 := labC_good.rng x y
      have a1 := labC_good.anti x y
      exact labC_good.zero x y (by omega)
    have hcon := AnyQ.slices_SortFunc_total Tryz.sortP 2 (fun w => by kernel_rfl) (fun w => by kernel_rfl) encP (fun _ => rfl) (fun x u hu => by
        simp [encP] at hu
        rcases hu with rfl | rfl <;> rfl) labC swoP 59 #[] g 0 cap xs.toArray w eg hcmp hH hglt (by rw [hsz]; omega) hT
    rw [hsz] at hcon
    refine hcon.mono ?_
    rintro e w' ⟨rfl, n, os, rfl⟩
    generalize hys : (List.mergeSort xs.toArray.toList fun x y => !ltOf labC y x) = ys
    have hperm : ys.Perm xs := by
      rw [← hys]
      exact List.mergeSort_perm _ _
    have hsorted : ys.Pairwise (fun a b => (!ltOf labC b a) = true) := by
      rw [← hys]
      refine List.pairwise_mergeSort (fun a b c h1 h2 => ?_) (fun a b => ?_) _
      · rw [ltP] at *
        simp only [Bool.not_eq_true', decide_eq_false_iff_not] at *
        have a1 := labC_good.anti a b
        have a2 := labC_good.anti b c
        have a3 := labC_good.anti a c
        have r1 := labC_good.rng a b
        have r2 := labC_good.rng b c
        have := labC_good.trans_le (x := a) (y := b) (z := c) (by omega) (by omega)
        omega
      · rw [ltP, ltP]
        have a1 := labC_good.anti a b
        by_cases c1 : labC b a = -1
        · have : ¬ labC a b = -1 := by omega
          simp [this]
        · simp [c1]
    have hyl : ys.length = xs.length := hperm.length_eq
    have hqd : ys.Pairwise (fun a b => a ≠ b) := hperm.nodup_iff.2 hd
    have ko := only_sortK encP 2 w g 0 n ys.toArray os
    have hblk : (sortWorldK encP 2 w g 0 n ys.toArray os).heap[g]? = some (.cells (putCells id 0 (flatK encP 2 ys.toArray) cur) 43 (0, 0)) := by
      unfold sortWorldK
      rw [heap_grow_old _ _ (by rw [size_putRowK]; exact hglt)]
      show ((Go.Sort.ahead w n).heap.modify g _)[g]? = _
      rw [Array.getElem?_modify, if_pos rfl]
      show Option.map _ (w.heap[g]?) = _
      rw [hg]
      rfl
    refine ⟨rfl, ko.mono (fun k _ e => by rw [e]; rfl), ys, hperm, ?_, ⟨labL_len _, .inr ⟨g, cap, _, by rw [hyl], hb, hblk, by rw [hyl]; exact hnc, hcm, by simp only [putCells, Array.size_mapIdx]; exact hcs, ?_⟩⟩⟩
    · refine (hsorted.and hqd).imp ?_
      rintro a b ⟨h1, h2⟩
      rw [ltP] at h1
      simp only [Bool.not_eq_true', decide_eq_false_iff_not] at h1
      have a1 := labC_good.anti a b
      have r1 := labC_good.rng a b
      rcases r1 with e | e | e
      · exact e
      · exact absurd (labC_good.zero _ _ e) h2
      · omega
    · rw [hyl]
      refine List.ext_getElem? (fun j => ?_)
      have hys2 : (labL ys).length = xs.length * 2 := by rw [labL_len, hyl]
      by_cases hj : j < xs.length * 2
      · rw [List.getElem?_take, if_pos hj, Array.getElem?_toList]
        simp only [putCells, Array.getElem?_mapIdx]
        rw [Array.getElem?_eq_getElem (by omega)]
        simp only [Option.map_some]
        have hsy : ys.toArray.size = ys.length := by simp
        rw [if_pos ⟨by omega, by rw [size_flatK, hsy]; omega⟩, show j - 0 = j by omega, id, get_flatK encP 2 _ j (by rw [hsy]; omega), hflat ys j (by omega), List.getElem?_eq_getElem (show j < (labL ys).length by rw [hys2]; exact hj)]
        rfl
      · rw [List.getElem?_take, if_neg hj, List.getElem?_eq_none (by omega)]
theorem perm_sorted {P Q : Labs} (h : P.Perm Q) (hp : P.Pairwise (fun a b => labC a b = -1)) (hq : Q.Pairwise (fun a b => labC a b = -1)) : P = Q := by
  refine h.eq_of_pairwise (fun a b _ _ h1 h2 => ?_) hp hq
  have := labC_good.anti a b
  omega

set_option maxRecDepth 100000 in
set_option maxHeartbeats 800000 in
theorem sorted_any (w : World) (Bm : Nat) {x : IxC} {O : Nat → Prop} {P : Posts} (hA : IxAt w x O) (hI : Is x P) (hm : w.cell? ⟨Bm, 0, none⟩ = some (.map (some x.mb))) (hl : x.es.length ≤ 100000) :
    Calls Tryz.prog 57 #[.func (.func 85) #[] #[.pointer (some ⟨Bm, 0, none⟩)], .func (.func 59) #[] #[]] w fun e w' => ∃ v, e = .returned v ∧ LabAt w' w.heap.size v (P.map (·.1)) ∧ Kept w w' := by
  have H := hid (collect_any w Bm hA hI hm hl)
  have HPS : Hid (∀ ys qs : Labs, ys.Perm (x.es.map (·.lab)) → qs.Perm ys → qs.Pairwise (fun a b => labC a b = -1) → qs = P.map (·.1)) := fun ys qs h1 h2 h3 => by
    have h4 : (x.es.map (·.lab)).Perm (P.map (·.1)) := by
      have := hI.perm.map (·.1)
      rw [List.map_map] at this
      exact this
    refine perm_sorted (h2.trans (h1.trans h4)) h3 ?_
    rw [List.pairwise_map]
    exact hI.sort
  have HND := hid (fun (ys : Labs) (h : ys.Perm (x.es.map (·.lab))) => (show ys.Nodup from h.nodup_iff.2 (by unfold List.Nodup; rw [List.pairwise_map]; exact hA.labs)))
  have HLE := hid (fun (ys : Labs) (h : ys.Perm (x.es.map (·.lab))) => (show ys.length ≤ 1000000 from by have := h.length_eq; rw [List.length_map] at this; omega))
  clear hA hI hm
  go_enter Tryz.func57, Tryz.ntmps57
  go_wp2_with fail
  refine H.out.mono ?_
  rintro e w1 ⟨v, ys, rfl, h1, h2, k1⟩
  have HS := hid (sort_labs w1 _ v ys h1 (HND.out ys h2) (HLE.out ys h2))
  have HLOW := hid (fun j (hj : v.ownBlock = some j) => (ownN_lt h1 hj).1)
  have H2 := hid h2
  have K1 := hid k1
  obtain ⟨a, c, e⟩ := ownN_slice h1
  generalize hYN : ys.length = YN at e
  subst e
  clear h1 h2 k1 H
  go_wp2_with fail
  refine HS.out.mono ?_
  rintro e w2 ⟨rfl, ko, qs, hp, hpw, hat⟩
  have HAT := hid hat
  have HQ := hid (HPS.out ys qs H2.out hp hpw)
  have K2 := hid (show Kept w w2 from K1.out.trans ko (fun j hj e => by have := HLOW.out j e; omega))
  clear hat hp hpw ko HS
  go_wp2
  go_ret
  refine ⟨_, rfl, ?_, K2.out⟩
  rw [← HQ.out]
  exact HAT.out
set_option maxHeartbeats 800000 in
/-- pairs: those of the posts, in their order. -/
theorem pairs_any {w : World} {x : IxC} {O : Nat → Prop} {P : Posts} (hA : IxAt w x O) (hI : Is x P) (hl : x.es.length ≤ 100000) :
    Calls Tryz.prog 35 #[.pointer (some ⟨x.xb, 0, none⟩)] w fun e w' => ∃ v, e = .returned v ∧ LabAt w' w.heap.size v (P.map (·.1)) ∧ Kept w w' := by
  have kw : Kept w (w.alloc (.cells #[.map (some x.mb)] 57)) := (Only.refl _ w).alloc _
  have H := hid (sorted_any (w.alloc (.cells #[.map (some x.mb)] 57)) w.heap.size (hA.stay kw) hI ((Blk.new w [.map (some x.mb)] 57).cell 0 rfl) hl)
  have HK := hid kw
  have m1 := hA.blk.cell 1 rfl
  have HKE := hid (keysof_any w x.mb)
  clear hA hI kw
  generalize x.xb = XB at *
  generalize x.mb = MB at *
  go_enter Tryz.func35, Tryz.ntmps35
  go_wp2_with fail
  refine HKE.out.mono ?_
  rintro e w1 ⟨rfl, hw⟩
  replace hw := hw.symm
  subst hw
  go_wp2_with fail
  refine H.out.mono ?_
  rintro e w2 ⟨v, rfl, hat, k2⟩
  have HAT := hid (show LabAt w2 w.heap.size v (P.map (·.1)) from ownN_base hat (by simp))
  have K2 := hid (HK.out.trans k2 (fun _ _ f => f))
  obtain ⟨a, c, e⟩ := ownN_slice hat
  generalize hN : (P.map (·.1)).length = N at e
  subst e
  clear hat k2 H
  go_wp2
  go_ret
  exact ⟨_, rfl, HAT.out, K2.out⟩
end Go.Proofs.YteknpfldemgmnaaGreat.X

/-
  slices.Clone of numbers; Posts.
-/
namespace Go.Proofs.YteknpfldemgmnaaGreat.X
open Go.RowKit Go.Proofs.Lys Go.Maps Go.Proofs.YteknpfldemgmnaaGreat.N
set_option linter.unusedVariables false
set_option linter.unusedSimpArgs false

theorem iclone_any (w : World) (v : Value) (l : List Int) (hs : Po.ISrc w v l) (hl : l.length ≤ 100000) :
    Calls Tryz.prog 36 #[v] w fun e w' => ∃ v', e = .returned v' ∧ NumAt w' w.heap.size v' l ∧ Kept w w' := by
  have he : ∀ (x : Option Addr) (n k : Nat) (w : World), (Go.binOp .eql 45 (.slice x n k) (.slice none 0 0)).run Tryz.prog w = .ok (.bool x.isNone) w := fun x n k w => Lib.run_eql_slice_nil w _ _ x n k 0 0 Tryz.underlying45
  obtain ⟨hs1, a, c, rfl, _⟩ := hs
  cases a with
  | none =>
    have hl0 : l = [] := by
      rcases hs1.shape with ⟨h, _⟩ | ⟨_, b, o, c2, e, _⟩
      · exact List.map_eq_nil_iff.1 h
      · cases e
    subst hl0
    clear hs1
    go_enter Tryz.func36, Tryz.ntmps36
    go_wp2
    go_ret
    exact ⟨_, rfl, World.ownsRow_nil _ _ _ _, Only.refl _ _⟩
  | some a =>
    have hb : ∀ w : World, (Instr.buildSlice 45 0 #[]).run Tryz.prog w = .ok (.slice (some ⟨w.heap.size, 0, none⟩) 0 0) (w.alloc (.cells #[] 3)) := fun w => by kernel_rfl
    have h0 : NumAt (w.alloc (.cells #[] 3)) w.heap.size (.slice (some ⟨w.heap.size, 0, none⟩) 0 0) [] := World.ownsRow_lit w #[] 0 (Nat.le_refl _) (by decide) rfl
    have k0 : Kept w (w.alloc (.cells #[] 3)) := (Only.refl _ w).alloc _
    obtain ⟨v', w', hr, h1, h2, h3⟩ := append_src (P := Tryz.prog) (base := w.heap.size) Tryz.underlying45 Po.infoI6 rfl (by decide) h0 (hs1.stay k0) (Po.ints_one _) (by simp; omega) (by simp)
    have h1' : NumAt w' w.heap.size v' l := by simpa using h1
    have HR := hid hr
    have HF := hid (show NumAt w' w.heap.size v' l ∧ Kept w w' from ⟨h1', k0.grown h2 (fun j hj => by simp [Value.ownBlock] at hj; intro hlt; omega)⟩)
    clear hs1 h1 h2 h3 hr h0 k0 h1'
    generalize l.length = n at HR ⊢
    go_enter Tryz.func36, Tryz.ntmps36
    go_wp2_with (at_builtin; refine Lys.wpList_append_run rfl _ _ _ rfl rfl rfl HR ?_)
    go_ret
    exact ⟨_, rfl, HF.out⟩

/-- What Posts tells. -/
def PostsP (w : World) (P : Posts) (e : Ending) (w' : World) : Prop := ∃ v qs, e = .returned v ∧ PostAt w' w.heap.size v qs ∧ qs.map postV = P ∧ Kept w w'
theorem postV_take {P : Posts} {qs : List PV} {k : Nat} (h : qs.map postV = P.take k) (hk : k < P.length) {x : PV} (hx : postV x = P[k]) : (qs ++ [x]).map postV = P.take (k + 1) := by
  rw [List.map_append, h, List.take_succ_eq_append_getElem hk]
  simp [hx]
theorem Is.small {w : World} {x : IxC} {O : Nat → Prop} {P : Posts} (hA : IxAt w x O) (hI : Is x P) {p : Post} (hp : p ∈ P) : p.1.1.size ≤ 100000 ∧ p.1.2.size ≤ 100000 := by
  obtain ⟨e, he, h⟩ := List.mem_map.1 (hI.perm.mem_iff.2 hp)
  have := hA.small e he
  rw [← h]
  exact this

set_option maxRecDepth 100000 in
set_option maxHeartbeats 6400000 in
theorem posts_any {w : World} {x : IxC} {O : Nat → Prop} {P : Posts} (hA : IxAt w x O) (hI : Is x P) (hl : P.length ≤ 100000) (hll : ∀ p ∈ P, p.2.length ≤ 100000) :
    Calls Tryz.prog 14 #[.pointer (some ⟨x.xb, 0, none⟩)] w (PostsP w P) := by
  have HP := hid (pairs_any hA hI (by rw [hI.len]; exact hl))
  have HXW : Hid (∀ (W : World) (Q : Nat → Prop), Only Q w W → (∀ j, Q j → w.heap.size ≤ j) → ∀ p ∈ P, W.cell? ⟨x.xb, 1, none⟩ = some (.map (some x.mb)) ∧
      (Instr.lookup 57 (.map (some x.mb)) (.agg #[.string p.1.1, .string p.1.2]) false).run Tryz.prog W = .ok (slV (slOf x p.1)) W ∧ Po.ISrc W (slV (slOf x p.1)) p.2) := fun W Q k hQ p hp => by
    have h := hA.only k (fun j hj e => by have h1 := hA.lt j hj; have h2 := hQ j e; omega)
    have hsm := Is.small hA hI hp
    have h3 := (h.slice hI p.1 hsm).1
    rw [look_sorted hI.sort (x := p.1) (l := p.2) hp] at h3
    exact ⟨h.blk.cell 1 rfl, look_sl (x := p.1) h.map (small_max hsm).1 (small_max hsm).2, Po.own_isrc h3⟩
  have HLL := hid hll
  have HSV : Hid (∀ y, ∃ a n c, slV (slOf x y) = .slice a n c) := fun y => by
    cases slOf x y with
    | none => exact ⟨_, _, _, rfl⟩
    | some q => exact ⟨_, _, _, rfl⟩
  have HFIN : Hid (∀ v qs w', PostAt w' w.heap.size v qs → qs.map postV = P → Kept w w' → PostsP w P (.returned v) w') := fun v qs w' h1 h2 h3 => ⟨v, qs, rfl, h1, h2, h3⟩
  clear hA hI hll
  generalize x.xb = XB at *
  generalize x.mb = MB at *
  go_enter Tryz.func14, Tryz.ntmps14
  go_wp2_with fail
  refine HP.out.mono ?_
  rintro e w1 ⟨v1, rfl, hat1, k1⟩
  have HK1 := hid k1
  have HL1 := hid (LabAt.src hat1)
  obtain ⟨a1, c1, e1⟩ := ownN_slice hat1
  rw [List.length_map] at e1
  subst e1
  have hs1 := k1.size
  clear hat1 k1 HP
  obtain ⟨N, hN⟩ : ∃ N, P.length = N := ⟨_, rfl⟩
  rw [hN] at hl HL1 ⊢
  have HN := hid hN
  have HN2 : Hid ((P.map (·.1)).length = N) := by rw [List.length_map]; exact HN.out
  clear hN
  go_wp2_with fail
  go_loopw [3, 9] (fun s3 s9 wr => ∃ (k : Nat) (qs : List PV) (a : Option Addr) (n c : Nat), k ≤ N ∧ s9 = .int .i64 (k : Int) ∧ s3 = .slice a n c ∧ n = qs.length ∧ PostAt wr w1.heap.size (.slice a n c) qs ∧ Hid (qs.map postV = P.take k) ∧ Kept w1 wr) (fun _ s9 _ => N - (intOf s9).toNat)
  case atStart => exact ⟨0, [], none, 0, 0, by omega, rfl, rfl, rfl, PostAt.nil _ _, hid (by simp), Only.refl _ _⟩
  case round =>
    obtain ⟨k, qs, a3, n3, c3, hk, rfl, rfl, hn3, hpo, hqs, kr⟩ := hrel
    have HPO := hid hpo
    have HK := hid kr
    have hsr := kr.size
    by_cases hlt : k < N
    · have hkP : k < P.length := by have := HN.out; omega
      have hqk : qs.length = k := by
        have := congrArg List.length hqs.out
        rw [List.length_map, List.length_take] at this
        omega
      obtain ⟨b, o, rfl, y1, y2⟩ := (HL1.out.stay kr).cell HN2.out k hlt
      simp only [List.getElem_map] at y1 y2
      have hpm : P[k] ∈ P := List.getElem_mem hkP
      have HXP := hid (fun (W : World) (Q : Nat → Prop) (kq : Only Q w W) (hq : ∀ j, Q j → w.heap.size ≤ j) => HXW.out W Q kq hq P[k] hpm)
      have HLP := hid (HLL.out P[k] hpm)
      obtain ⟨sa, sn, sc, hsv⟩ := HSV.out P[k].1
      rw [hsv] at HXP
      have HTK : Hid (∀ u, (qs ++ [(⟨P[k].1, u, P[k].2⟩ : PV)]).map postV = P.take (k + 1)) := fun u => postV_take hqs.out hkP rfl
      have hlow : ∀ j, (Value.slice a3 n3 c3).ownBlock = some j → w1.heap.size ≤ j ∧ j < wr.heap.size := fun j hj => ownN_lt hpo.row hj
      have HLOW := hid hlow
      clear hpo hsv hqs
      clear hn3
      generalize P[k] = p at y1 y2 HXP HLP HTK
      obtain ⟨⟨Y1, Y2⟩, pl⟩ := p
      simp only at y1 y2 HXP HLP HTK
      have hbm := Blk.new wr [.string Y1, .string Y2] 43
      have ka : Kept wr (wr.alloc (.cells #[.string Y1, .string Y2] 43)) := (Only.refl _ wr).alloc _
      have HPa := hid (HPO.out.stay ka)
      have HKw := hid (HK.out.trans ka (fun _ _ f => f))
      have S0 := hid (fun (W : World) (kW : Only (fun j => (Value.slice a3 n3 c3).ownBlock = some j) (wr.alloc (.cells #[.string Y1, .string Y2] 43)) W) => (show (W.cell? ⟨wr.heap.size, 0, none⟩ = some (.string Y1) ∧ W.cell? ⟨wr.heap.size, 1, none⟩ = some (.string Y2)) ∧ (W.cell? ⟨XB, 1, none⟩ = some (.map (some MB)) ∧
          (Instr.lookup 57 (.map (some MB)) (.agg #[.string Y1, .string Y2]) false).run Tryz.prog W = .ok (.slice sa sn sc) W ∧ Po.ISrc W (.slice sa sn sc) pl) from by
        have hb := kW.blk hbm (fun e => by have := (HLOW.out _ e).2; omega)
        refine ⟨⟨hb.cell 0 rfl, hb.cell 1 rfl⟩, HXP.out W _ ((((HK1.out.trans HKw.out (fun _ _ f => f)).mono (O' := fun j => (Value.slice a3 n3 c3).ownBlock = some j) (fun _ _ f => f.elim))).trans kW (fun _ _ e => e)) (fun j hj => ?_)⟩
        have := (HLOW.out j hj).1
        omega))
      clear hbm ka hlow HXP
      have hsa : (wr.alloc (.cells #[.string Y1, .string Y2] 43)).heap.size = wr.heap.size + 1 := by simp
      go_wp2_with fail
      generalize wr.alloc (.cells #[.string Y1, .string Y2] 43) = w5 at S0 HPa HKw hsa ⊢
      generalize wr.heap.size = B5 at *
      refine wp_region_noPanic ?_
      refine wp_region_last (L := 1000) (S := fun w' => Only (fun j => (Value.slice a3 n3 c3).ownBlock = some j) w5 w') (by kernel_rfl) ?_
      have K0 := hid (show Only (fun j => (Value.slice a3 n3 c3).ownBlock = some j) w5 w5.drew from (Only.refl _ _).drew)
      have K0k := hid (show Kept w5 w5.drew from (Only.refl _ _).drew)
      refine wpAnyN_take (i := 0) (v := .slice a3 n3 c3) rfl (by kernel_rfl) (by kernel_rfl) (by kernel_rfl) (by decide) (by kernel_rfl) (fun _ _ _ h => h) (Or.inl ⟨by rfl, ?_⟩) K0.out ?_
      · (intro w' hSw; obtain ⟨⟨s0, s1⟩, s2, s3, _⟩ := S0.out w' hSw; clear hSw; go_simp)
      (try simp only [List.getElem_toArray, List.getElem_cons_succ, List.getElem_cons_zero])
      go_frame
      refine wpAnyN_take (i := 1) (v := .agg #[.string Y1, .string Y2]) rfl (by kernel_rfl) (by kernel_rfl) (by kernel_rfl) (by decide) (by kernel_rfl) (fun _ _ _ h => h) (Or.inl ⟨by rfl, ?_⟩) K0.out ?_
      · (intro w' hSw; obtain ⟨⟨s0, s1⟩, s2, s3, _⟩ := S0.out w' hSw; clear hSw; go_simp)
      (try simp only [List.getElem_toArray, List.getElem_cons_succ, List.getElem_cons_zero])
      go_frame
      refine wpAnyN_take (i := 2) (v := .pointer (some ⟨XB, 0, none⟩)) rfl (by kernel_rfl) (by kernel_rfl) (by kernel_rfl) (by decide) (by kernel_rfl) (fun _ _ _ h => h) (Or.inl ⟨by rfl, ?_⟩) K0.out ?_
      · (intro w' hSw; obtain ⟨⟨s0, s1⟩, s2, s3, _⟩ := S0.out w' hSw; clear hSw; go_simp)
      (try simp only [List.getElem_toArray, List.getElem_cons_succ, List.getElem_cons_zero])
      go_frame
      refine wpAnyN_take (i := 3) (v := .pointer (some ⟨XB, 0, none⟩)) rfl (by kernel_rfl) (by kernel_rfl) (by kernel_rfl) (by decide) (by kernel_rfl) (fun _ _ _ h => h) (Or.inl ⟨by rfl, ?_⟩) K0.out ?_
      · (intro w' hSw; obtain ⟨⟨s0, s1⟩, s2, s3, _⟩ := S0.out w' hSw; clear hSw; go_simp)
      (try simp only [List.getElem_toArray, List.getElem_cons_succ, List.getElem_cons_zero])
      go_frame
      refine wpAnyN_take (i := 4) (v := .pointer (some ⟨XB, 1, none⟩)) rfl (by kernel_rfl) (by kernel_rfl) (by kernel_rfl) (by decide) (by kernel_rfl) (fun _ _ _ h => h) (Or.inl ⟨by rfl, ?_⟩) K0.out ?_
      · (intro w' hSw; obtain ⟨⟨s0, s1⟩, s2, s3, _⟩ := S0.out w' hSw; clear hSw; go_simp)
      (try simp only [List.getElem_toArray, List.getElem_cons_succ, List.getElem_cons_zero])
      go_frame
      refine wpAnyN_take (i := 5) (v := .map (some MB)) rfl (by kernel_rfl) (by kernel_rfl) (by kernel_rfl) (by decide) (by kernel_rfl) (fun _ _ _ h => h) (Or.inl ⟨by rfl, ?_⟩) K0.out ?_
      · (intro w' hSw; obtain ⟨⟨s0, s1⟩, s2, s3, _⟩ := S0.out w' hSw; clear hSw; go_simp)
      (try simp only [List.getElem_toArray, List.getElem_cons_succ, List.getElem_cons_zero])
      go_frame
      refine wpAnyN_take (i := 6) (v := .agg #[.string Y1, .string Y2]) rfl (by kernel_rfl) (by kernel_rfl) (by kernel_rfl) (by decide) (by kernel_rfl) (fun _ _ _ h => h) (Or.inl ⟨by rfl, ?_⟩) K0.out ?_
      · (intro w' hSw; obtain ⟨⟨s0, s1⟩, s2, s3, _⟩ := S0.out w' hSw; clear hSw; go_simp)
      (try simp only [List.getElem_toArray, List.getElem_cons_succ, List.getElem_cons_zero])
      go_frame
      refine wpAnyN_take (i := 7) (v := .slice sa sn sc) rfl (by kernel_rfl) (by kernel_rfl) (by kernel_rfl) (by decide) (by kernel_rfl) (fun _ _ _ h => h) (Or.inl ⟨by rfl, ?_⟩) K0.out ?_
      · (intro w' hSw; obtain ⟨⟨s0, s1⟩, s2, s3, _⟩ := S0.out w' hSw; clear hSw; go_simp)
      (try simp only [List.getElem_toArray, List.getElem_cons_succ, List.getElem_cons_zero])
      go_frame
      refine wpAnyL_one (i := 8) (by kernel_rfl) rfl rfl ?_
      go_simp
      refine (iclone_any _ (.slice sa sn sc) pl (S0.out _ K0.out).2.2.2 HLP.out).mono ?_
      rintro e w6 ⟨u6, rfl, hu6, k6⟩
      have K6 := hid (show Kept w5 w6 from K0k.out.trans k6 (fun _ _ f => f))
      have K6o := hid (show Only (fun j => (Value.slice a3 n3 c3).ownBlock = some j) w5 w6 from K6.out.mono (fun _ _ f => f.elim))
      obtain ⟨a6, c6, e6⟩ := ownN_slice hu6
      generalize hn6 : pl.length = n6 at e6
      subst e6
      have K7 := hid (show Kept w5 (w6.alloc (.cells #[.string Y1, .string Y2, .slice a6 n6 c6] 65)) from K6.out.alloc _)
      have hlit : PvCells (w6.alloc (.cells #[.string Y1, .string Y2, .slice a6 n6 c6] 65)) (.slice (some ⟨w6.heap.size, 0, none⟩) 1 1) [⟨(Y1, Y2), .slice a6 n6 c6, pl⟩] := by
        have hb := Blk.new w6 [.string Y1, .string Y2, .slice a6 n6 c6] 65
        refine .inr ⟨w6.heap.size, 0, 1, rfl, fun i hi => ?_⟩
        have : i = 0 := by simpa using hi
        subst this
        exact ⟨hb.cell 0 rfl, hb.cell 1 rfl, hb.cell 2 rfl⟩
      have hpa : PvAt (w6.alloc (.cells #[.string Y1, .string Y2, .slice a6 n6 c6] 65)) w1.heap.size (.slice a3 n3 c3) qs := (HPa.out.stay K7.out).row
      obtain ⟨v7, w7, hr7, ho7, hg7, _⟩ := pv_append hpa hlit (fun q hq => by rw [List.mem_singleton.1 hq]; exact ⟨_, _, _, rfl⟩) (by simp; omega) (by have := K7.out.size; have := HKw.out.size; omega)
      have hO7 : Only (fun j => (Value.slice a3 n3 c3).ownBlock = some j) (w6.alloc (.cells #[.string Y1, .string Y2, .slice a6 n6 c6] 65)) w7 := (Only.refl _ _).grown hg7 (fun j e _ => e)
      have K7o := hid (show Only (fun j => (Value.slice a3 n3 c3).ownBlock = some j) w5 (w6.alloc (.cells #[.string Y1, .string Y2, .slice a6 n6 c6] 65)) from K7.out.mono (fun _ _ f => f.elim))
      have K8o := hid (show Only (fun j => (Value.slice a3 n3 c3).ownBlock = some j) w5 w7 from K7o.out.trans hO7 (fun _ _ e => e))
      have hu5 : NumAt (w6.alloc (.cells #[.string Y1, .string Y2, .slice a6 n6 c6] 65)) w5.heap.size (.slice a6 n6 c6) pl := by
        have h1 := ownN_stay hu6 ((Only.refl (fun _ => False) w6).alloc (.cells #[.string Y1, .string Y2, .slice a6 n6 c6] 65))
        exact h1
      have HM := hid (post_more (x := ⟨(Y1, Y2), .slice a6 n6 c6, pl⟩) HPa.out (by have := HKw.out.size; omega) K7.out hu5 ho7 hO7)
      have HRUN := hid hr7
      obtain ⟨a7, c7, e7⟩ := ownN_slice ho7
      generalize hn7 : (qs ++ [(⟨(Y1, Y2), .slice a6 n6 c6, pl⟩ : PV)]).length = n7 at e7
      subst e7
      have HN7 := hid hn7
      clear hu6 k6 hlit hpa hr7 ho7 hg7 hO7 hu5 hn7
      refine ⟨K6o.out, ?_⟩
      (try go_frame)
      refine wpAnyL_one (i := 9) (by kernel_rfl) rfl rfl ?_
      go_simp
      refine ⟨K6o.out, ?_⟩
      (try go_frame)
      refine wpAnyL_one (i := 10) (by kernel_rfl) rfl rfl ?_
      go_simp
      refine ⟨K7o.out, ?_⟩
      (try go_frame)
      refine wpAnyL_one (i := 11) (by kernel_rfl) rfl rfl (oper_appendH _ _ _ rfl rfl rfl HRUN ?_)
      refine ⟨K8o.out, ?_⟩
      (try go_frame)
      refine wpAnyL_one (i := 12) (by kernel_rfl) rfl rfl ?_
      go_simp
      refine ⟨K8o.out, ?_⟩
      (try go_frame)
      refine wpAnyN_done (by kernel_rfl) ?_
      refine NoPanic.normal ?_
      go_wp2_with fail
      go_roundw
      case rel =>
        refine ⟨k + 1, _, a7, n7, c7, by omega, by go_num, rfl, HN7.out.symm, HM.out.1, hid (HTK.out _), HKw.out.trans K8o.out (fun j hj e => ?_)⟩
        have := (HLOW.out j e).1
        omega
      case measure => simp [intOf]; omega
    · have e : k = N := by omega
      subst e
      have hq2 : qs.map postV = P := by
        rw [hqs.out, List.take_of_length_le (by have := HN.out; omega)]
      have HF := hid (HFIN.out (.slice a3 n3 c3) qs wr (hpo.base (by omega)) hq2 (HK1.out.trans kr (fun _ _ f => f)))
      clear hq2 hpo hqs
      go_wp2
      go_ret
      exact HF.out
end Go.Proofs.YteknpfldemgmnaaGreat.X

/-
  The document's own posts: what they are in plain words, and the rows that are laid.
-/
namespace Go.Proofs.YteknpfldemgmnaaGreat.X
open Go.RowKit Go.Proofs.Lys Go.Maps Go.Proofs.YteknpfldemgmnaaGreat.N
set_option linter.unusedVariables false
set_option linter.unusedSimpArgs false

theorem addP_at : ∀ (P : Posts) (k : Nat) (x : Lab) (i : Int) (hk : k < P.length), (∀ j (hj : j < k) (hj' : j < P.length), labC P[j].1 x = -1) → P[k].1 = x → addP x i P = P.set k (x, P[k].2 ++ [i]) := by
  intro P
  induction P with
  | nil => intro k x i hk; simp at hk
  | cons y r ih =>
    intro k x i hk hp he
    cases k with
    | zero =>
      have : y.1 = x := he
      rw [addP, if_pos this]
      rfl
    | succ k =>
      have h0 : labC y.1 x = -1 := hp 0 (by omega) (by simp)
      have h1 : ¬ y.1 = x := fun e => by rw [e] at h0; exact labC_irr x h0
      have h2 : ¬ labC x y.1 = -1 := fun e => labC_irr _ (labC_good.trans _ _ _ h0 e)
      rw [addP, if_neg h1, if_neg h2, ih k x i (by simpa using hk) (fun j hj hj' => by have := hp (j + 1) (by omega) (by simpa using hj'); simpa using this) (by simpa using he)]
      rfl
theorem addP_in : ∀ (P : Posts) (k : Nat) (x : Lab) (i : Int), k ≤ P.length → (∀ j (hj : j < k) (hj' : j < P.length), labC P[j].1 x = -1) → (∀ h : k < P.length, labC P[k].1 x = 1) → addP x i P = P.take k ++ (x, [i]) :: P.drop k := by
  intro P
  induction P with
  | nil => intro k x i hk _ _; simp [addP]
  | cons y r ih =>
    intro k x i hk hp he
    cases k with
    | zero =>
      have h0 : labC y.1 x = 1 := he (by simp)
      have h1 : ¬ y.1 = x := fun e => by rw [e] at h0; have := labC_good.self x; omega
      have h2 : labC x y.1 = -1 := by have := labC_good.anti x y.1; omega
      rw [addP, if_neg h1, if_pos h2]
      rfl
    | succ k =>
      have h0 : labC y.1 x = -1 := hp 0 (by omega) (by simp)
      have h1 : ¬ y.1 = x := fun e => by rw [e] at h0; exact labC_irr x h0
      have h2 : ¬ labC x y.1 = -1 := fun e => labC_irr _ (labC_good.trans _ _ _ h0 e)
      rw [addP, if_neg h1, if_neg h2, ih k x i (by simpa using hk) (fun j hj hj' => by have := hp (j + 1) (by omega) (by simpa using hj'); simpa using this) (fun h => by have := he (by simpa using h); simpa using this)]
      rfl
theorem cmpL_one (a b : Lab) : cmpL [a] [b] = labC a b := by
  show lexC labC [a] [b] = labC a b
  unfold lexC
  split
  · rfl
  · rename_i h
    simp only [ne_eq, Decidable.not_not] at h
    rw [h]
    rfl
theorem postV_set {P : Posts} {qs : List PV} (h : qs.map postV = P) {k : Nat} (hk : k < qs.length) (u : Value) (m : List Int) : (qs.set k ⟨qs[k].lab, u, m⟩).map postV = P.set k (qs[k].lab, m) := by
  rw [List.map_set, h]
  rfl
theorem pw_at {qs : List PV} (h : qs.Pairwise (fun a b => ∀ k, a.has k → ¬ b.has k)) {i j : Nat} (hi : i < qs.length) (hj : j < qs.length) (hne : i ≠ j) {k : Nat} (h1 : qs[i].has k) : ¬ qs[j].has k := by
  rw [List.pairwise_iff_getElem] at h
  rcases Nat.lt_or_ge i j with e | e
  · exact h i j hi hj e k h1
  · exact fun h2 => h j i hj hi (by omega) k h2 h1
/-- A number more in the list of a post. -/
theorem set_rows {W : World} {B g cap k : Nat} {qs : List PV} (h : PostAt W B (.slice (some ⟨g, 0, none⟩) qs.length cap) qs) (hB : B ≤ W.heap.size) (hk : k < qs.length) (hl : qs[k].l.length ≤ 100000) (i : Int) :
    ∃ la lc w2 v2, qs[k].lv = .slice la qs[k].l.length lc ∧ Hid ((Builtin.append_ #[45, 45] 0 #[.slice la qs[k].l.length lc, .slice (some ⟨W.heap.size, 0, none⟩) 1 1]).run Tryz.prog (W.alloc (.cells #[.int .i64 i] 3)) = .ok v2 w2) ∧ (∃ a n c, v2 = .slice a n c) ∧
      w2.frozen? ⟨g, k * 3 + 2, none⟩ = false ∧ (∃ u, w2.cell? ⟨g, k * 3 + 2, none⟩ = some u) ∧ Hid (PostAt (w2.setCell ⟨g, k * 3 + 2, none⟩ v2) B (.slice (some ⟨g, 0, none⟩) qs.length cap) (qs.set k ⟨qs[k].lab, v2, qs[k].l ++ [i]⟩) ∧ Only (fun j => B ≤ j) W (w2.setCell ⟨g, k * 3 + 2, none⟩ v2)) := by
  have hm : qs[k] ∈ qs := List.getElem_mem hk
  have hnum := h.num _ hm
  obtain ⟨la, lc, e⟩ := ownN_slice hnum
  have ka : Kept W (W.alloc (.cells #[.int .i64 i] 3)) := (Only.refl _ W).alloc _
  have hlit : SrcOf (W.alloc (.cells #[.int .i64 i] 3)) (.slice (some ⟨W.heap.size, 0, none⟩) 1 1) (([i] : List Int).map (Value.int .i64)) := by
    have hb := Blk.new W [.int .i64 i] 3
    refine .inr ⟨⟨W.heap.size, 0, none⟩, 1, rfl, fun j u hu => ?_⟩
    have : j = 0 := by have := (List.getElem?_eq_some_iff.1 hu).1; simpa using this
    subst this
    cases hu
    exact hb.cell 0 rfl
  have hna := ownN_stay hnum ka
  rw [e] at hna
  obtain ⟨v2, w2, hr, ho, hg, hloc⟩ := append_src (P := Tryz.prog) (base := B) Tryz.underlying45 Po.infoI6 rfl (by decide) hna hlit (Po.ints_one _) (by simp; omega) (Nat.le_trans hB ka.size)
  rw [List.length_map, ← List.map_append, ← List.length_append] at ho
  obtain ⟨a9, c9, e9⟩ := own_slice ho
  have k2 : Only (fun j => qs[k].has j) (W.alloc (.cells #[.int .i64 i] 3)) w2 := (Only.refl _ _).grown hg (fun j hj _ => by unfold PV.has; rw [e]; exact hj)
  have hrow2 : PvAt w2 B (.slice (some ⟨g, 0, none⟩) qs.length cap) qs := ownN_only (ownN_stay h.row ka) k2 (fun j hj hq => h.ne hm hq hj)
  obtain ⟨hf, hset⟩ := pv_set hrow2 hk v2 (qs[k].l ++ [i])
  have hS : Only (fun j => j = g) w2 (w2.setCell ⟨g, k * 3 + 2, none⟩ v2) := (Only.refl (fun j => j = g) w2).setCell (p := ⟨g, k * 3 + 2, none⟩) (fun _ => rfl) _
  have hgb : (Value.slice (some ⟨g, 0, none⟩) qs.length cap).ownBlock = some g := rfl
  have hBg := (ownN_lt h.row hgb).1
  have hc2 : ∃ u, w2.cell? ⟨g, k * 3 + 2, none⟩ = some u := by
    have := (pv_cells hrow2).cell rfl k hk
    obtain ⟨b, o, e2, _, _, h3⟩ := this
    cases e2
    rw [Nat.zero_add] at h3
    exact ⟨_, h3⟩
  have hv2g : v2.ownBlock ≠ some g := fun e2 => ((ownN_typed ho e2).ne (ownN_typed hrow2 hgb) (by decide)) rfl
  refine ⟨la, lc, w2, v2, e, hid hr, ⟨a9, _, c9, e9⟩, hf, hc2, hid (And.intro (PostAt.mk hset (fun y hy => ?_) ?_) ?_)⟩
  · obtain ⟨j, hj, rfl⟩ := List.getElem_of_mem hy
    rw [List.length_set] at hj
    rw [List.getElem_set]
    split
    · exact ownN_only ho hS (fun b hb e2 => hv2g (by rw [← e2]; exact hb))
    · rename_i hne
      refine ownN_only (ownN_only (ownN_stay (h.num _ (List.getElem_mem hj)) ka) k2 (fun b hb hq => pw_at h.apart hk hj (fun e2 => hne e2) hq hb)) hS (fun b hb e2 => ?_)
      exact h.ne (List.getElem_mem hj) hb (by rw [e2]; rfl)
  · rw [List.pairwise_iff_getElem]
    intro a b ha hb hab j h1 h2
    rw [List.length_set] at ha hb
    have hnew : ∀ (q : Nat) (hq : q < qs.length), q ≠ k → v2.ownBlock = some j → ¬ qs[q].has j := fun q hq hne hj hq2 => by
      rcases hloc with e2 | e2
      · rw [e2] at hj
        exact pw_at h.apart hk hq (fun e3 => hne e3.symm) (k := j) (by unfold PV.has; rw [e]; exact hj) hq2
      · rw [e2] at hj
        cases hj
        have h3 := (ownN_lt (h.num _ (List.getElem_mem hq)) hq2).2
        have := ka.size
        omega
    rw [List.getElem_set] at h1 h2
    split at h1
    · rename_i e1
      rw [if_neg (by omega)] at h2
      exact hnew b hb (by omega) h1 h2
    · rename_i e1
      split at h2
      · rename_i e2
        exact hnew a ha (by omega) h2 h1
      · exact pw_at h.apart ha hb (by omega) h1 h2
  · refine ((ka.mono (O' := fun j => B ≤ j) (fun _ _ f => f.elim)).trans k2 (fun j _ hq => (ownN_lt hnum hq).1)).trans hS (fun j _ e2 => by rw [e2]; exact hBg)
/-- A post more, in its place. -/
theorem ins_rows {W : World} {B : Nat} {v : Value} {qs : List PV} (h : PostAt W B v qs) (hB : B ≤ W.heap.size) (hl : qs.length ≤ 99000) (k : Nat) (hk : k ≤ qs.length) (y : Lab) (i : Int) :
    ∃ a1 a2 c2 a3 c3 w2 c4 w3 a5 c5 w4,
      Hid (∀ X, (Instr.sliceAt 36 v none (some (.int .i64 (k : Int))) (some (.int .i64 (k : Int)))).run Tryz.prog X = .ok (.slice a1 k k) X) ∧
      Hid (∀ X, (Instr.sliceAt 36 v (some (.int .i64 (k : Int))) none none).run Tryz.prog X = .ok (.slice a2 (qs.length - k) c2) X) ∧
      Hid ((Builtin.append_ #[36, 36] 0 #[.slice none 0 0, .slice a2 (qs.length - k) c2]).run Tryz.prog W = .ok (.slice a3 (qs.length - k) c3) w2) ∧
      Hid ((Builtin.append_ #[36, 36] 0 #[.slice a1 k k, .slice (some ⟨w2.heap.size + 1, 0, none⟩) 1 1]).run Tryz.prog ((w2.drew.alloc (.cells #[.int .i64 i] 3)).alloc (.cells #[.string y.1, .string y.2, .slice (some ⟨w2.heap.size, 0, none⟩) 1 1] 65)) = .ok (.slice (some ⟨w2.heap.size + 2, 0, none⟩) (k + 1) c4) w3) ∧
      Hid ((Builtin.append_ #[36, 36] 0 #[.slice (some ⟨w2.heap.size + 2, 0, none⟩) (k + 1) c4, .slice a3 (qs.length - k) c3]).run Tryz.prog w3 = .ok (.slice a5 (qs.length + 1) c5) w4) ∧
      Hid (PostAt w4 B (.slice a5 (qs.length + 1) c5) (qs.take k ++ ⟨y, .slice (some ⟨w2.heap.size, 0, none⟩) 1 1, [i]⟩ :: qs.drop k)) ∧ Hid (Kept W w4) ∧ Hid (Kept W w2) ∧ Hid (Kept w2 w3) ∧ Hid (Kept w2 w4) := by
  obtain ⟨a1, a2, c2, s1, e1, s2, e2⟩ := pv_cut h.row k hk
  have hlt : (qs.take k).length = k := by rw [List.length_take]; omega
  have hld : (qs.drop k).length = qs.length - k := List.length_drop
  have hpl : PvPlain (qs.drop k) := fun q hq => h.plain q (List.mem_of_mem_drop hq)
  obtain ⟨v3, w2, r3, o3, k2⟩ := pv_copy e2 hpl (by rw [hld]; omega)
  obtain ⟨a3, c3, e3⟩ := ownN_slice o3
  rw [hld] at e3
  subst e3
  obtain ⟨x, hx⟩ : ∃ x : PV, x = ⟨y, .slice (some ⟨w2.heap.size, 0, none⟩) 1 1, [i]⟩ := ⟨_, rfl⟩
  have hs1 : (w2.drew.alloc (.cells #[.int .i64 i] 3)).heap.size = w2.heap.size + 1 := by simp
  have hs2 : ((w2.drew.alloc (.cells #[.int .i64 i] 3)).alloc (.cells #[.string y.1, .string y.2, .slice (some ⟨w2.heap.size, 0, none⟩) 1 1] 65)).heap.size = w2.heap.size + 2 := by simp
  have ka : Kept w2 ((w2.drew.alloc (.cells #[.int .i64 i] 3)).alloc (.cells #[.string y.1, .string y.2, .slice (some ⟨w2.heap.size, 0, none⟩) 1 1] 65)) := (((Only.refl _ w2).drew).alloc _).alloc _
  have hnum : NumAt (w2.drew.alloc (.cells #[.int .i64 i] 3)) w2.heap.size x.lv x.l := by
    rw [hx]
    exact World.ownsRow_lit w2.drew #[.int .i64 i] 1 (Nat.le_refl _) (by decide) rfl
  have hnum2 := ownN_stay hnum ((Only.refl (fun _ => False) _).alloc (.cells #[.string y.1, .string y.2, .slice (some ⟨w2.heap.size, 0, none⟩) 1 1] 65))
  have hbx : Blk ((w2.drew.alloc (.cells #[.int .i64 i] 3)).alloc (.cells #[.string y.1, .string y.2, .slice (some ⟨w2.heap.size, 0, none⟩) 1 1] 65)) (w2.heap.size + 1) [.string x.lab.1, .string x.lab.2, x.lv] 65 := by
    rw [hx]
    have := Blk.new (w2.drew.alloc (.cells #[.int .i64 i] 3)) [.string y.1, .string y.2, .slice (some ⟨w2.heap.size, 0, none⟩) 1 1] 65
    rw [hs1] at this
    exact this
  obtain ⟨c4, w3, r4, o4, k4⟩ := pv_full ((e1.stay k2).stay ka) hlt (by omega) hbx
  rw [hs2] at r4 o4
  have h4 : (qs.take k ++ [x]).length = k + 1 := by rw [List.length_append, hlt]; rfl
  have k3 : Kept w2 w3 := ka.trans k4 (fun _ _ f => f)
  obtain ⟨v5, w4, r5, o5, g5, _⟩ := pv_append (q := qs.drop k) o4 ((pv_cells o3).stay k3) hpl (by rw [h4, hld]; omega) (by have := k4.size; omega)
  have h5 : (qs.take k ++ [x] ++ qs.drop k).length = qs.length + 1 := by rw [List.length_append, h4, hld]; omega
  have hO5 : Only (fun j => (Value.slice (some ⟨w2.heap.size + 2, 0, none⟩) (k + 1) c4).ownBlock = some j) w3 w4 := (Only.refl _ w3).grown g5 (fun j e _ => e)
  have h2o : ∀ j, (Value.slice (some ⟨w2.heap.size + 2, 0, none⟩) (k + 1) c4).ownBlock = some j → j = w2.heap.size + 2 := fun j hj => by simpa [Value.ownBlock] using hj.symm
  have k5 : Kept w2 w4 := k3.trans hO5 (fun j hj e => by have := h2o j e; omega)
  have hkW : Kept W w4 := k2.trans k5 (fun _ _ f => f)
  obtain ⟨a5, c5, e5⟩ := ownN_slice o5
  rw [h5] at e5
  subst e5
  have eqs : qs.take k ++ [x] ++ qs.drop k = qs.take k ++ x :: qs.drop k := by simp
  rw [eqs] at o5
  have hnum4 : NumAt w4 w2.heap.size x.lv x.l := ownN_only (ownN_stay hnum2 k4) hO5 (fun j hj e => by
    have h6 := h2o j e
    have h7 := (ownN_lt hnum2 hj).2
    omega)
  refine ⟨a1, a2, c2, a3, c3, w2, c4, w3, a5, c5, w4, s1, s2, r3, r4, r5, ?_, hkW, k2, k3, k5⟩
  rw [← hx]
  have hmem : ∀ q, q ∈ qs.take k ++ x :: qs.drop k → q = x ∨ q ∈ qs := fun q hq => by
    rcases List.mem_append.1 hq with e | e
    · exact .inr (List.mem_of_mem_take e)
    · rcases List.mem_cons.1 e with e | e
      · exact .inl e
      · exact .inr (List.mem_of_mem_drop e)
  have hfar : ∀ q ∈ qs, ∀ j, q.has j → ¬ x.has j := fun q hq j h1 h2 => by
    have h3 := (ownN_lt (h.num q hq) h1).2
    have h4 := (ownN_lt hnum4 h2).1
    have := k2.size
    omega
  have hb2 : B ≤ w2.heap.size := Nat.le_trans hB k2.size
  refine ⟨ownN_base o5 (by omega), fun q hq => ?_, ?_⟩
  · rcases hmem q hq with e | e
    · rw [e]
      exact ownN_base hnum4 hb2
    · exact ownN_stay (h.num q e) hkW
  · have hap := h.apart
    rw [← List.take_append_drop k qs] at hap
    have hz := List.pairwise_append.1 hap
    refine List.pairwise_append.2 ⟨hz.1, List.pairwise_cons.2 ⟨fun b hb j h1 h2 => hfar b (List.mem_of_mem_drop hb) j h2 h1, hz.2.1⟩, fun a ha b hb j h1 h2 => ?_⟩
    rcases List.mem_cons.1 hb with e | e
    · rw [e] at h2
      exact hfar a (List.mem_of_mem_take ha) j h1 h2
    · exact hz.2.2 a ha b e j h1 h2
end Go.Proofs.YteknpfldemgmnaaGreat.X
