/-
  Xalive.
-/
import Derived.Test.YteknpfldemgmnaaGreatQ37
import Derived.Test.YteknpfldemgmnaaGreatQ44

/-
  The example of the document.
-/
namespace Go.Proofs.YteknpfldemgmnaaGreat.X
open Go.RowKit Go.Proofs.Lys Go.Maps Go.Proofs.YteknpfldemgmnaaGreat.N
set_option linter.unusedVariables false
set_option linter.unusedSimpArgs false

abbrev exL : List Labs := [[(⟨#[97]⟩, ⟨#[49]⟩)], [(⟨#[97]⟩, ⟨#[49]⟩), (⟨#[98]⟩, ⟨#[50]⟩)]]
abbrev exM1 : Mats := [(1, ⟨#[97]⟩, ⟨#[49]⟩)]
abbrev exM2 : Mats := [(2, ⟨#[98]⟩, ⟨#[50]⟩)]
theorem exL_ok : checkI exL = 0 := by decide +kernel
theorem exM1_ok : checkM exM1 = 0 := by decide +kernel
theorem exM2_ok : checkM exM2 = 0 := by decide +kernel
theorem exL_small : OkS exL := by
  intro l hl
  have : l = [(⟨#[97]⟩, ⟨#[49]⟩)] ∨ l = [(⟨#[97]⟩, ⟨#[49]⟩), (⟨#[98]⟩, ⟨#[50]⟩)] := by simpa using hl
  have sm : ∀ x : Lab, x ∈ ([(⟨#[97]⟩, ⟨#[49]⟩), (⟨#[98]⟩, ⟨#[50]⟩)] : Labs) → x.1.size ≤ 100000 ∧ x.2.size ≤ 100000 := by
    intro x hx
    have : x = (⟨#[97]⟩, ⟨#[49]⟩) ∨ x = (⟨#[98]⟩, ⟨#[50]⟩) := by simpa using hx
    rcases this with rfl | rfl <;> decide
  rcases this with rfl | rfl
  · exact ⟨by decide, fun x hx => sm x (by rw [List.mem_singleton.1 hx]; exact List.mem_cons_self ..)⟩
  · exact ⟨by decide, sm⟩
theorem exM1_small : SmallM exM1 := by
  intro x hx
  rw [List.mem_singleton.1 hx]
  decide
theorem exM2_small : SmallM exM2 := by
  intro x hx
  rw [List.mem_singleton.1 hx]
  decide
theorem ex1_sel : Sel [0, 1] (fun i => i < exL.length ∧ ∀ q ∈ exM1, FitI exL q i) := by
  refine ⟨by decide, fun i => ?_⟩
  match i with
  | 0 => exact ⟨fun _ => ⟨by decide, fun q hq => by rw [List.mem_singleton.1 hq]; exact ⟨_, rfl, by decide +kernel⟩⟩, fun _ => by simp⟩
  | 1 => exact ⟨fun _ => ⟨by decide, fun q hq => by rw [List.mem_singleton.1 hq]; exact ⟨_, rfl, by decide +kernel⟩⟩, fun _ => by simp⟩
  | n + 2 => exact ⟨fun h => by simp at h; omega, fun h => by have := h.1; simp at this; omega⟩
theorem ex2_sel : Sel [0] (fun i => i < exL.length ∧ ∀ q ∈ exM2, FitI exL q i) := by
  refine ⟨by decide, fun i => ?_⟩
  match i with
  | 0 => exact ⟨fun _ => ⟨by decide, fun q hq => by rw [List.mem_singleton.1 hq]; exact ⟨_, rfl, by decide +kernel⟩⟩, fun _ => by simp⟩
  | 1 =>
    refine ⟨fun h => by simp at h, fun h => ?_⟩
    obtain ⟨l, e, h2⟩ := h.2 _ (List.mem_singleton.2 rfl)
    cases e
    exact absurd h2 (by decide +kernel)
  | n + 2 => exact ⟨fun h => by simp at h; omega, fun h => by have := h.1; simp at this; omega⟩
theorem exL_src (w : World) : LSrc (((w.alloc (.cells #[.string ⟨#[97]⟩, .string ⟨#[49]⟩] 43)).alloc (.cells #[.string ⟨#[97]⟩, .string ⟨#[49]⟩, .string ⟨#[98]⟩, .string ⟨#[50]⟩] 43)).alloc (.cells #[.slice (some ⟨w.heap.size, 0, none⟩) 1 1, .slice (some ⟨w.heap.size + 1, 0, none⟩) 2 2] 44)) (.slice (some ⟨w.heap.size + 2, 0, none⟩) 2 2) exL := by
  have b1 := Blk.new w [.string ⟨#[97]⟩, .string ⟨#[49]⟩] 43
  have b2 := Blk.new (w.alloc (.cells #[.string ⟨#[97]⟩, .string ⟨#[49]⟩] 43)) [.string ⟨#[97]⟩, .string ⟨#[49]⟩, .string ⟨#[98]⟩, .string ⟨#[50]⟩] 43
  have b3 := Blk.new ((w.alloc (.cells #[.string ⟨#[97]⟩, .string ⟨#[49]⟩] 43)).alloc (.cells #[.string ⟨#[97]⟩, .string ⟨#[49]⟩, .string ⟨#[98]⟩, .string ⟨#[50]⟩] 43)) [.slice (some ⟨w.heap.size, 0, none⟩) 1 1, .slice (some ⟨w.heap.size + 1, 0, none⟩) 2 2] 44
  have s1 : (w.alloc (.cells #[.string ⟨#[97]⟩, .string ⟨#[49]⟩] 43)).heap.size = w.heap.size + 1 := by simp
  have s2 : ((w.alloc (.cells #[.string ⟨#[97]⟩, .string ⟨#[49]⟩] 43)).alloc (.cells #[.string ⟨#[97]⟩, .string ⟨#[49]⟩, .string ⟨#[98]⟩, .string ⟨#[50]⟩] 43)).heap.size = w.heap.size + 2 := by simp
  rw [s1] at b2
  rw [s2] at b3
  have c1 := (b1.alloc (.cells #[.string ⟨#[97]⟩, .string ⟨#[49]⟩, .string ⟨#[98]⟩, .string ⟨#[50]⟩] 43)).alloc (.cells #[.slice (some ⟨w.heap.size, 0, none⟩) 1 1, .slice (some ⟨w.heap.size + 1, 0, none⟩) 2 2] 44)
  have c2 := b2.alloc (.cells #[.slice (some ⟨w.heap.size, 0, none⟩) 1 1, .slice (some ⟨w.heap.size + 1, 0, none⟩) 2 2] 44)
  refine ⟨[.slice (some ⟨w.heap.size, 0, none⟩) 1 1, .slice (some ⟨w.heap.size + 1, 0, none⟩) 2 2], .inr ⟨⟨w.heap.size + 2, 0, none⟩, 2, rfl, fun j u hu => ?_⟩, rfl, fun i h1 h2 => ?_⟩
  · have : j = 0 ∨ j = 1 := by have := (List.getElem?_eq_some_iff.1 hu).1; simp at this; omega
    rcases this with rfl | rfl
    · cases hu
      exact b3.cell 0 rfl
    · cases hu
      exact b3.cell 1 rfl
  · have : i = 0 ∨ i = 1 := by simp at h1; omega
    rcases this with rfl | rfl
    · refine .inr ⟨Nat.zero_lt_succ _, w.heap.size, 0, 1, rfl, fun i hi => ?_⟩
      have : i = 0 := by simp at hi; omega
      subst this
      exact ⟨c1.cell 0 rfl, c1.cell 1 rfl⟩
    · refine .inr ⟨Nat.zero_lt_succ _, w.heap.size + 1, 0, 2, rfl, fun i hi => ?_⟩
      have : i = 0 ∨ i = 1 := by simp at hi; omega
      rcases this with rfl | rfl
      · exact ⟨c2.cell 0 rfl, c2.cell 1 rfl⟩
      · exact ⟨c2.cell 2 rfl, c2.cell 3 rfl⟩
theorem ints_lit2 (w : World) : SrcOf (w.alloc (.cells #[.int .i64 0, .int .i64 1] 3)) (.slice (some ⟨w.heap.size, 0, none⟩) 2 2) (([0, 1] : List Int).map (Value.int .i64)) := by
  have hb := Blk.new w [.int .i64 0, .int .i64 1] 3
  refine .inr ⟨⟨w.heap.size, 0, none⟩, 2, rfl, fun j u hu => ?_⟩
  have : j = 0 ∨ j = 1 := by have := (List.getElem?_eq_some_iff.1 hu).1; simp at this; omega
  rcases this with rfl | rfl
  · cases hu
    exact hb.cell 0 rfl
  · cases hu
    exact hb.cell 1 rfl
theorem ints_lit1 (w : World) : SrcOf (w.alloc (.cells #[.int .i64 0] 3)) (.slice (some ⟨w.heap.size, 0, none⟩) 1 1) (([0] : List Int).map (Value.int .i64)) := by
  have hb := Blk.new w [.int .i64 0] 3
  refine .inr ⟨⟨w.heap.size, 0, none⟩, 1, rfl, fun j u hu => ?_⟩
  have : j = 0 := by have := (List.getElem?_eq_some_iff.1 hu).1; simp at this; omega
  subst this
  cases hu
  exact hb.cell 0 rfl
theorem find_one {w w' : World} {L : List Labs} {m : Mats} {e : Ending} {l : List Int} (h : FindP w L m e w') (hc : checkM m = 0) (hs : Sel l (fun i => i < L.length ∧ ∀ q ∈ m, FitI L q i)) : ∃ u, e = .returned (.tuple #[u, .int .i64 0]) ∧ Po.ISrc w' u l ∧ Kept w w' := by
  obtain ⟨u, l', rfl, h1, _, h3, _, k⟩ := h
  rw [hc]
  have : l' = l := Sel.ext (h3 hc) hs (fun i => Iff.rfl)
  subst this
  exact ⟨u, rfl, h1, k⟩

set_option maxRecDepth 100000 in
set_option maxHeartbeats 3200000 in
theorem xalive_any (w : World) : Calls Tryz.prog 5 #[] w fun e w' => e = .returned (.bool true) ∧ Kept w w' := by
  have HM := hid (make_ix _ _ exL (exL_src w) (by decide) exL_small)
  have HK0 := hid (show Kept w (((w.alloc (.cells #[.string ⟨#[97]⟩, .string ⟨#[49]⟩] 43)).alloc (.cells #[.string ⟨#[97]⟩, .string ⟨#[49]⟩, .string ⟨#[98]⟩, .string ⟨#[50]⟩] 43)).alloc (.cells #[.slice (some ⟨w.heap.size, 0, none⟩) 1 1, .slice (some ⟨w.heap.size + 1, 0, none⟩) 2 2] 44)) from (((Only.refl (fun _ => False) w).alloc _).alloc _).alloc _)
  have HN := hid num15_any
  go_enter Tryz.func5, Tryz.ntmps5
  go_wp2_with fail
  generalize (((w.alloc (.cells #[.string ⟨#[97]⟩, .string ⟨#[49]⟩] 43)).alloc (.cells #[.string ⟨#[97]⟩, .string ⟨#[49]⟩, .string ⟨#[98]⟩, .string ⟨#[50]⟩] 43)).alloc (.cells #[.slice (some ⟨w.heap.size, 0, none⟩) 1 1, .slice (some ⟨w.heap.size + 1, 0, none⟩) 2 2] 44)) = w0 at HM HK0 ⊢
  refine HM.out.mono ?_
  intro e w1 h1
  obtain ⟨x, rfl, hmd, k1⟩ := make_ok h1 exL_ok
  have HX := hid (hmd.ixl exL_ok)
  have HK1 := hid (HK0.out.trans k1 (fun _ _ f => f))
  clear hmd k1 HM HK0 h1
  have HF1 := hid (find_ix (HX.out.stay ((Only.refl (fun _ => False) w1).alloc (.cells #[.int .i64 1, .string ⟨#[97]⟩, .string ⟨#[49]⟩] 49))) _ exM1 (mat_lit w1 (1, ⟨#[97]⟩, ⟨#[49]⟩)) (by decide) exM1_small)
  have HK2 := hid (HK1.out.alloc (.cells #[.int .i64 1, .string ⟨#[97]⟩, .string ⟨#[49]⟩] 49))
  have HX2 := hid (HX.out.stay ((Only.refl (fun _ => False) w1).alloc (.cells #[.int .i64 1, .string ⟨#[97]⟩, .string ⟨#[49]⟩] 49)))
  clear HX HK1
  generalize hXB : x.xb = XB at *
  have HXB := hid hXB
  clear hXB
  go_wp2_with fail
  refine (HN.out _ _).mono ?_
  rintro e w' ⟨rfl, hw⟩
  replace hw := hw.symm
  subst hw
  go_wp2_with fail
  generalize w1.alloc (.cells #[.int .i64 1, .string ⟨#[97]⟩, .string ⟨#[49]⟩] 49) = w2 at HF1 HK2 HX2 ⊢
  refine HF1.out.mono ?_
  intro e w3 h3
  obtain ⟨u3, rfl, hs3, k3⟩ := find_one h3 exM1_ok ex1_sel
  have HK3 := hid (HK2.out.trans k3 (fun _ _ f => f))
  have HX3 := hid (HX2.out.stay k3)
  obtain ⟨a3, c3, e3, _⟩ := hs3.2
  have e3' : u3 = .slice a3 2 c3 := e3
  clear e3
  subst e3'
  have HS3 := hid hs3
  clear h3 hs3 k3 HF1 HK2 HX2
  have HF2 := hid (find_ix (HX3.out.stay ((Only.refl (fun _ => False) w3).alloc (.cells #[.int .i64 2, .string ⟨#[98]⟩, .string ⟨#[50]⟩] 49))) _ exM2 (mat_lit w3 (2, ⟨#[98]⟩, ⟨#[50]⟩)) (by decide) exM2_small)
  rw [HXB.out] at HF2
  have HK4 := hid (HK3.out.alloc (.cells #[.int .i64 2, .string ⟨#[98]⟩, .string ⟨#[50]⟩] 49))
  have HS4 := hid (HS3.out.stay ((Only.refl (fun _ => False) w3).alloc (.cells #[.int .i64 2, .string ⟨#[98]⟩, .string ⟨#[50]⟩] 49)))
  clear HX3 HK3 HS3
  go_wp2_with fail
  generalize w3.alloc (.cells #[.int .i64 2, .string ⟨#[98]⟩, .string ⟨#[50]⟩] 49) = w4 at HF2 HK4 HS4 ⊢
  refine HF2.out.mono ?_
  intro e w5 h5
  obtain ⟨u5, rfl, hs5, k5⟩ := find_one h5 exM2_ok ex2_sel
  have HK5 := hid (HK4.out.trans k5 (fun _ _ f => f))
  have HS3 := hid (HS4.out.stay k5)
  obtain ⟨a5, c5, e5, _⟩ := hs5.2
  have e5' : u5 = .slice a5 1 c5 := e5
  clear e5
  subst e5'
  have HS5 := hid hs5
  clear h5 hs5 k5 HF2 HK4 HS4
  go_wp2_with fail
  refine (HN.out _ _).mono ?_
  rintro e w' ⟨rfl, hw⟩
  replace hw := hw.symm
  subst hw
  go_wp2_with fail
  refine (HN.out _ _).mono ?_
  rintro e w' ⟨rfl, hw⟩
  replace hw := hw.symm
  subst hw
  have HQ1 := hid (Po.same_any _ _ _ [0, 1] ((HS3.out.stay ((Only.refl (fun _ => False) w5).alloc (.cells #[.int .i64 0, .int .i64 1] 3))).1) (ints_lit2 w5) (by decide))
  have HK6 := hid (HK5.out.alloc (.cells #[.int .i64 0, .int .i64 1] 3))
  have HS6 := hid (HS5.out.stay ((Only.refl (fun _ => False) w5).alloc (.cells #[.int .i64 0, .int .i64 1] 3)))
  clear HS3 HS5 HK5
  go_wp2_with fail
  generalize w5.alloc (.cells #[.int .i64 0, .int .i64 1] 3) = w6 at HQ1 HK6 HS6 ⊢
  refine HQ1.out.mono ?_
  rintro e w7 ⟨rfl, k7⟩
  have HK7 := hid (HK6.out.trans k7 (fun _ _ f => f))
  have HQ2 := hid (Po.same_any _ _ _ [0] (((HS6.out.stay k7).stay ((Only.refl (fun _ => False) w7).alloc (.cells #[.int .i64 0] 3))).1) (ints_lit1 w7) (by decide))
  have HK8 := hid (HK7.out.alloc (.cells #[.int .i64 0] 3))
  clear k7 HQ1 HK6 HK7 HS6
  go_wp2_with fail
  generalize w7.alloc (.cells #[.int .i64 0] 3) = w8 at HQ2 HK8 ⊢
  refine HQ2.out.mono ?_
  rintro e w9 ⟨rfl, k9⟩
  have HK9 := hid (HK8.out.trans k9 (fun _ _ f => f))
  clear k9
  go_wp2
  go_ret
  exact ⟨rfl, HK9.out⟩
end Go.Proofs.YteknpfldemgmnaaGreat.X
