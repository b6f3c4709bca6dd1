/-
  The law's own code: rows, and the document's example.
-/
import Derived.Test.YtnbfbnhiikliaaaGreatHrange
namespace Go.Proofs.YtnbfbnhiikliaaaGreat.Hd
open Go.RowKit Go.Proofs.Lys Go.Maps Go.Proofs.YtnbfbnhiikliaaaGreat.N
set_option linter.unusedVariables false
set_option linter.unusedSimpArgs false

theorem num_any (w : World) (n : Int) : Calls Tryz.prog 11 #[.int .i64 n] w fun e w' => e = .returned (.int .i64 n) ∧ w' = w := by
  go_enter Tryz.func11, Tryz.ntmps11
  go_wp2
  go_ret
  exact ⟨rfl, rfl⟩

/-- The labels a=NAME. -/
abbrev labA (nm : ByteArray) : Labs := [(⟨#[97]⟩, nm)]
theorem row_any (w : World) (nm : ByteArray) (t v : Int) : Calls Tryz.prog 14 #[.string nm, .int .i64 t, .int .i64 v] w fun e w' =>
    e = .returned (.agg #[.slice (some ⟨w.heap.size + 1, 0, none⟩) 1 1, .int .i64 t, .int .i64 v]) ∧ LabSrc w' (.slice (some ⟨w.heap.size + 1, 0, none⟩) 1 1) (labA nm) ∧ Kept w w' := by
  go_enter Tryz.func14, Tryz.ntmps14
  go_wp2
  have hb := (Blk.new w [.slice (some ⟨w.heap.size + 1, 0, none⟩) 1 1, .int .i64 t, .int .i64 v] 40).alloc (.cells #[.string ⟨#[97]⟩, .string nm] 46)
  refine bodyPost_ret (v := .agg #[.slice (some ⟨w.heap.size + 1, 0, none⟩) 1 1, .int .i64 t, .int .i64 v]) (results_cell_row rfl _ _ w.heap.size 40 #[.slice (some ⟨w.heap.size + 1, 0, none⟩) 1 1, .int .i64 t, .int .i64 v] (0, 0) _ rfl hb Tryz.underlying40 rfl (by kernel_rfl)) rfl ⟨rfl, ?_, ((Only.refl _ w).alloc _).alloc _⟩
  have := lab_lit (w.alloc (.cells #[.slice (some ⟨w.heap.size + 1, 0, none⟩) 1 1, .int .i64 t, .int .i64 v] 40)) (⟨#[97]⟩, nm)
  simpa using this

/-- A head that a law has made. -/
structure HeadIn (w0 W : World) (h : HeadC) (O : Nat → Prop) (M : Mod) : Prop where
  at_ : HeadAt W h O
  is_ : Is h M
  new : ∀ k, O k → w0.heap.size ≤ k
  kept : Kept w0 W
theorem HeadIn.stay {w0 W W' : World} {h : HeadC} {O : Nat → Prop} {M : Mod} (hI : HeadIn w0 W h O M) (k : Kept W W') : HeadIn w0 W' h O M :=
  ⟨hI.at_.stay k, hI.is_, hI.new, hI.kept.trans k (fun _ _ f => f)⟩
theorem HeadIn.only {w0 W W' : World} {h : HeadC} {O O' : Nat → Prop} {M : Mod} (hI : HeadIn w0 W h O M) (k : Only O' W W') (hO : ∀ j, O j → ¬ O' j) (hn : ∀ j, O' j → w0.heap.size ≤ j) : HeadIn w0 W' h O M :=
  ⟨hI.at_.only k hO, hI.is_, hI.new, hI.kept.trans k (fun j hj e => by have := hn j e; omega)⟩
theorem new_in {w0 W : World} (k : Kept w0 W) (n : Int) : Calls Tryz.prog 7 #[.int .i64 n] W fun e w' => ∃ h O, e = .returned (.pointer (some ⟨h.hb, 0, none⟩)) ∧ HeadIn w0 w' h O [] ∧ h.win = min (max n 0) 9007199254740992 ∧ Kept W w' ∧ (∀ j, O j → W.heap.size ≤ j) := by
  refine (new_any W n).mono ?_
  rintro e w' ⟨rfl, hA, k'⟩
  exact ⟨_, _, rfl, ⟨hA, ⟨.refl _, ModOk.nil⟩, fun j e => by rw [e]; exact k.size, k.trans k' (fun _ _ f => f)⟩, rfl, k', fun j e => by rw [e]; exact Nat.le_refl _⟩
/-- What a Write leaves of a law's head. -/
structure WrIn (w0 W : World) (h : HeadC) (O : Nat → Prop) (M : Mod) (h' : HeadC) (O' : Nat → Prop) (w' : World) : Prop where
  in_ : HeadIn w0 w' h' O' M
  hb : h'.hb = h.hb
  win : h'.win = h.win
  only : Only O W w'
  old : ∀ k, O' k → O k ∨ W.heap.size ≤ k
theorem write_in {w0 W : World} {h : HeadC} {O : Nat → Prop} {M : Mod} (hMx : Mx w0) (hI : HeadIn w0 W h O M) (hc : countM M ≤ 90000) (v : Value) (rs : List Row) (hs : RowSrc W (fun j => ¬ O j) v rs) (hR : RowsOk rs) :
    Calls Tryz.prog 13 #[.pointer (some ⟨h.hb, 0, none⟩), v] W fun e w' => e = .returned (.int .i64 (errM (writeM h.win M rs))) ∧ ∃ h' O', WrIn w0 W h O (modM M (writeM h.win M rs)) h' O' w' := by
  obtain ⟨m, hm⟩ := hMx
  have hG0 : 0 < w0.heap.size := World.block_lt_of_cell? w0 _ hm
  have hz := hI.kept.size
  refine (write_any hI.at_ hI.is_ hc (Mx.stay ⟨m, hm⟩ hI.kept) ⟨fun e => by have := hI.new _ e; omega, by omega⟩ v rs hs hR).mono ?_
  rintro e w' ⟨rfl, h', hP⟩
  refine ⟨rfl, h', _, ⟨⟨hP.at_, hP.is_, fun k hk => ?_, hI.kept.trans hP.only (fun j hj e => by have := hI.new j e; omega)⟩, hP.hb, hP.win, hP.only, fun k hk => ?_⟩⟩
  · rcases hk with h1 | h1
    · exact hI.new k h1
    · omega
  · rcases hk with h1 | h1
    · exact .inl h1
    · exact .inr h1.1
/-- One row that was laid just now. -/
theorem lit_row {W : World} {Z : Nat → Prop} {lb : Nat} {t v : Int} {l : Labs} (hl : LabSrc W (.slice (some ⟨lb, 0, none⟩) l.length l.length) l) (hz : Z lb) (hz2 : Z W.heap.size) :
    RowSrc (W.alloc (.cells #[.slice (some ⟨lb, 0, none⟩) l.length l.length, .int .i64 t, .int .i64 v] 40)) Z (.slice (some ⟨W.heap.size, 0, none⟩) 1 1) [(l, (t, v))] := by
  have hb := Blk.new W [.slice (some ⟨lb, 0, none⟩) l.length l.length, .int .i64 t, .int .i64 v] 40
  refine .inr ⟨by simp, W.heap.size, 0, 1, rfl, hz2, fun i hi => ?_⟩
  have : i = 0 := by simpa using hi
  subst this
  exact ⟨_, hb.cell 0 rfl, hb.cell 1 rfl, hb.cell 2 rfl, hl.stay ((Only.refl _ W).alloc _), fun a n c e _ => by cases e; exact hz⟩
theorem lit_rows {W : World} {Z : Nat → Prop} {lb lb2 : Nat} {t v t2 v2 : Int} {l l2 : Labs} (hl : LabSrc W (.slice (some ⟨lb, 0, none⟩) l.length l.length) l) (hl2 : LabSrc W (.slice (some ⟨lb2, 0, none⟩) l2.length l2.length) l2) (hz : Z lb) (hz2 : Z W.heap.size) (hz3 : Z lb2) :
    RowSrc (W.alloc (.cells #[.slice (some ⟨lb, 0, none⟩) l.length l.length, .int .i64 t, .int .i64 v, .slice (some ⟨lb2, 0, none⟩) l2.length l2.length, .int .i64 t2, .int .i64 v2] 40)) Z (.slice (some ⟨W.heap.size, 0, none⟩) 2 2) [(l, (t, v)), (l2, (t2, v2))] := by
  have hb := Blk.new W [.slice (some ⟨lb, 0, none⟩) l.length l.length, .int .i64 t, .int .i64 v, .slice (some ⟨lb2, 0, none⟩) l2.length l2.length, .int .i64 t2, .int .i64 v2] 40
  refine .inr ⟨by simp, W.heap.size, 0, 2, rfl, hz2, fun i hi => ?_⟩
  have : i = 0 ∨ i = 1 := by simp at hi; omega
  rcases this with rfl | rfl
  · exact ⟨_, hb.cell 0 rfl, hb.cell 1 rfl, hb.cell 2 rfl, hl.stay ((Only.refl _ W).alloc _), fun a n c e _ => by cases e; exact hz⟩
  · exact ⟨_, hb.cell 3 rfl, hb.cell 4 rfl, hb.cell 5 rfl, hl2.stay ((Only.refl _ W).alloc _), fun a n c e _ => by cases e; exact hz3⟩
theorem rows_labA {rs : List Row} (hl : rs.length ≤ 1000) (h : ∀ r ∈ rs, ∃ nm : ByteArray, r.1 = labA nm ∧ nm.size ≤ 1000) : RowsOk rs := by
  refine ⟨by omega, fun r hr => ?_⟩
  obtain ⟨nm, e, hn⟩ := h r hr
  rw [e]
  refine ⟨by simp, fun x hx => ?_⟩
  have : x = (⟨#[97]⟩, nm) := by simpa using hx
  rw [this]
  exact ⟨by show (⟨#[97]⟩ : ByteArray).size ≤ 100000; decide, by show nm.size ≤ 100000; omega⟩

abbrev nmX : ByteArray := ⟨#[120]⟩
theorem ex1e : errM (writeM 10 [] [(labA nmX, (100, 1))]) = 0 := by decide +kernel
theorem ex1m : modM [] (writeM 10 [] [(labA nmX, (100, 1))]) = [(labA nmX, [(100, 1)])] := by decide +kernel
theorem ex2e : errM (writeM 10 [(labA nmX, [(100, 1)])] [(labA nmX, (95, 2)), (labA nmX, (89, 3))]) = 22 := by decide +kernel
theorem ex2m : modM [(labA nmX, [(100, 1)])] (writeM 10 [(labA nmX, [(100, 1)])] [(labA nmX, (95, 2)), (labA nmX, (89, 3))]) = [(labA nmX, [(100, 1)])] := by decide +kernel

theorem labA_len (nm : ByteArray) : (labA nm).length = 1 := rfl
set_option maxRecDepth 100000 in
set_option maxHeartbeats 2000000 in
/-- The document's example. -/
theorem alive_any (w : World) (hMx : Mx w) : Calls Tryz.prog 5 #[] w fun e w' => e = .returned (.bool true) ∧ Kept w w' := by
  have H0 := hid (new_in (Only.refl (fun _ => False) w) 10)
  have HR := hid (fun W t v => row_any W nmX t v)
  have HN := hid (fun W n => num_any W n)
  have HMX := hid hMx
  clear hMx
  go_enter Tryz.func5, Tryz.ntmps5
  go_wp2_with fail
  refine H0.out.mono ?_
  rintro e w1 ⟨h, O, rfl, hI, hwin, k1, hO⟩
  have hwin' : h.win = 10 := by rw [hwin]; decide
  have HI := hid hI
  have HW := hid hwin'
  have hlt := hI.at_.lt
  clear hI hwin hwin' k1 H0
  go_wp2_with fail
  refine (HR.out w1 100 1).mono ?_
  rintro e w2 ⟨rfl, hl2, k2⟩
  have hI2 := HI.out.stay k2
  have hrow := lit_row (Z := fun j => ¬ O j) (t := 100) (v := 1) (l := labA nmX) hl2 (fun e => by have := hlt _ e; omega) (fun e => by have := hI2.at_.lt _ e; omega)
  have k2a : Kept w2 (w2.alloc (.cells #[.slice (some ⟨w1.heap.size + 1, 0, none⟩) 1 1, .int .i64 100, .int .i64 1] 40)) := (Only.refl _ w2).alloc _
  have HWr := hid (write_in HMX.out (hI2.stay k2a) (by decide) _ _ hrow (rows_labA (by simp) (fun r hr => ⟨nmX, by rw [List.mem_singleton.1 hr], by decide⟩)))
  rw [HW.out, ex1e, ex1m] at HWr
  clear hl2 hI2 hrow k2a k2 HI
  go_wp2_with fail
  refine HWr.out.mono ?_
  rintro e w3 ⟨rfl, h3, O3, hP3⟩
  have HI3 := hid hP3.in_
  have hW3 := hid (hP3.win.trans HW.out)
  have hhb3 := hid hP3.hb
  have hlt3 := hP3.in_.at_.lt
  clear hP3 HWr hlt hO
  go_wp2_with fail
  refine (HR.out w3 95 2).mono ?_
  rintro e w4 ⟨rfl, hl4, k4⟩
  have HL4 := hid hl4
  have HK4 := hid k4
  clear hl4 k4
  go_wp2_with fail
  refine (HR.out w4 89 3).mono ?_
  rintro e w5 ⟨rfl, hl5, k5⟩
  have hz4 := HK4.out.size
  have hI5 := (HI3.out.stay HK4.out).stay k5
  have hrow := lit_rows (Z := fun j => ¬ O3 j) (t := 95) (v := 2) (t2 := 89) (v2 := 3) (l := labA nmX) (l2 := labA nmX) (HL4.out.stay k5) hl5 (fun e => by have := hlt3 _ e; omega) (fun e => by have := hI5.at_.lt _ e; omega) (fun e => by have := hlt3 _ e; omega)
  have k5a : Kept w5 (w5.alloc (.cells #[.slice (some ⟨w3.heap.size + 1, 0, none⟩) 1 1, .int .i64 95, .int .i64 2, .slice (some ⟨w4.heap.size + 1, 0, none⟩) 1 1, .int .i64 89, .int .i64 3] 40)) := (Only.refl _ w5).alloc _
  have HWr := hid (write_in HMX.out (hI5.stay k5a) (by decide) _ _ hrow (rows_labA (by simp) (fun r hr => ⟨nmX, by simp at hr; rcases hr with rfl | rfl <;> rfl, by decide⟩)))
  rw [hW3.out, ex2e, ex2m, hhb3.out] at HWr
  clear hl5 hI5 hrow k5a k5 HI3 HL4 HK4
  go_wp2_with fail
  refine HWr.out.mono ?_
  rintro e w6 ⟨rfl, h6, O6, hP6⟩
  have HI6 := hid hP6.in_
  have HC := hid (fun W (k : Kept w6 W) => count_any (hP6.in_.at_.stay k) hP6.in_.is_ (by decide))
  rw [hP6.hb, hhb3.out] at HC
  have hc1 : countM [(labA nmX, [((100 : Int), (1 : Int))])] = 1 := rfl
  rw [hc1] at HC
  clear hP6 HWr hc1
  go_wp2_with fail
  refine (HN.out _ _).mono ?_
  rintro e w7 ⟨rfl, hw⟩
  replace hw := hw.symm
  subst hw
  go_wp2_with fail
  refine (HN.out _ _).mono ?_
  rintro e w7 ⟨rfl, hw⟩
  replace hw := hw.symm
  subst hw
  go_wp2_with fail
  refine (HC.out _ (Only.refl _ _)).mono ?_
  rintro e w8 ⟨rfl, k8⟩
  have K8 := hid (HI6.out.kept.trans k8 (fun _ _ f => f))
  clear k8 HC
  go_wp2
  go_ret
  exact ⟨rfl, K8.out⟩
end Go.Proofs.YtnbfbnhiikliaaaGreat.Hd
