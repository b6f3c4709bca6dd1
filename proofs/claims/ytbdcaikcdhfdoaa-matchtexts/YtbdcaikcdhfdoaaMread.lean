/-
  A matcher at the beginning of a text.
-/
import Derived.Test.YtbdcaikcdhfdoaaMmark
import Derived.Test.YtbdcaikcdhfdoaaMidx
namespace Go.Proofs.Ytbdcaikcdhfdoaa.N
open Go.RowKit Go.Proofs.Lys
set_option linter.unusedVariables false
set_option linter.unusedSimpArgs false

theorem idx_spec : ∀ s : List UInt8, (Lib.indexAny s sgL = -1 ∧ s.takeWhile (!stopB ·) = s ∧ s.dropWhile (!stopB ·) = []) ∨ ∃ i : Nat, Lib.indexAny s sgL = (i : Int) ∧ i < s.length ∧ s.takeWhile (!stopB ·) = s.take i ∧ s.dropWhile (!stopB ·) = s.drop i ∧ ∃ c r, s.drop i = c :: r ∧ stopB c = true
  | [] => .inl ⟨rfl, rfl, rfl⟩
  | c :: r => by
    cases hc : stopB c with
    | true =>
      refine .inr ⟨0, ?_, by simp, by simp [hc], by simp [hc], c, r, rfl, hc⟩
      have hc' : sgL.contains c = true := hc
      rw [Lib.indexAny, if_pos hc']
      rfl
    | false =>
      have hc' : sgL.contains c = false := hc
      rcases idx_spec r with ⟨h1, h2, h3⟩ | ⟨i, h1, h2, h3, h4, h5⟩
      · refine .inl ⟨?_, by simp [hc, h2], by simp [hc, h3]⟩
        rw [Lib.indexAny, if_neg (by rw [hc']; decide), h1]
        rfl
      · refine .inr ⟨i + 1, ?_, by simp; omega, by simp [hc, h3], by simp [hc, h4], by simpa using h5⟩
        rw [Lib.indexAny, if_neg (by rw [hc']; decide), h1, if_neg (by intro e; have := beq_iff_eq.1 e; omega)]
        push_cast
        rfl
/-- What readMatch answers. -/
def ReadA (e : Ending) : Option (Mat × List UInt8) → Prop
  | some (m, r) => e = .returned (.tuple #[.agg #[.int .i64 m.1, .string m.2.1, .string m.2.2], .string (mkB r), .bool true])
  | none => ∃ N X Y R, e = .returned (.tuple #[.agg #[.int .i64 N, .string X, .string Y], .string R, .bool false])
theorem Try.sizeMat : (Try.prog.info? 40).map (·.size) = some 3 := by kernel_rfl

set_option maxRecDepth 100000 in
set_option maxHeartbeats 4000000 in
theorem readMatch_any (w : World) (s : ByteArray) (hM : Mx w) (hs : s.size ≤ 10000) : Calls Try.prog 29 #[.string s] w fun e w' => ReadA e (matR s.data.toList) ∧ Kept w w' := by
  have HMx := hid hM
  have hb0 := Blk.new w [.int .i64 0, .string ⟨#[]⟩, .string ⟨#[]⟩] 40
  have HK0 : Hid (Kept w (w.alloc (.cells #[.int .i64 0, .string ⟨#[]⟩, .string ⟨#[]⟩] 40))) := (Only.refl _ w).alloc _
  have H1 := hid (idxany_any (w.alloc (.cells #[.int .i64 0, .string ⟨#[]⟩, .string ⟨#[]⟩] 40)) s (by omega))
  have hl0 : w.heap.size < (w.alloc (.cells #[.int .i64 0, .string ⟨#[]⟩, .string ⟨#[]⟩] 40)).heap.size := by simp
  have HR : Hid (matR s.data.toList = if s.data.toList.dropWhile (!stopB ·) = [] ∨ (s.data.toList.dropWhile (!stopB ·)).head? = some 44 then some ((4, mkB (s.data.toList.takeWhile (!stopB ·)), mkB []), s.data.toList.dropWhile (!stopB ·)) else valM (s.data.toList.takeWhile (!stopB ·)) (s.data.toList.dropWhile (!stopB ·))) := rfl
  generalize matR s.data.toList = R at HR ⊢
  clear hM
  rcases idx_spec s.data.toList with ⟨h1, h2, h3⟩ | ⟨i, h1, hil, h3, h4, c, r, h5, hst⟩
  · rw [h2, h3] at HR
    rw [h1] at H1
    have HRn : Hid (R = some ((4, s, mkB []), [])) := by refine hid ?_; rw [HR.out, if_pos (.inl rfl)]
    clear HR h1 h2 h3
    have HCl := hid (fun W => clone_any W s (by omega))
    go_enter Try.func29, Try.ntmps29
    go_wp2_with fail
    generalize w.alloc (.cells #[.int .i64 0, .string ⟨#[]⟩, .string ⟨#[]⟩] 40) = w0 at hb0 HK0 H1 hl0 ⊢
    refine H1.out.mono ?_
    rintro e w1 ⟨rfl, k1⟩
    have hb1 := Only.blk k1 hb0 (fun f => f)
    have HK1 := hid (HK0.out.trans k1 (fun _ _ f => f))
    clear k1 hb0 H1 hl0
    go_wp2_with fail
    refine (HCl.out _).mono ?_
    rintro e w2 ⟨rfl, k2⟩
    have hb2 := Only.blk k2 hb1 (fun f => f)
    have HK2 := hid (HK1.out.trans k2 (fun _ _ f => f))
    clear k2 hb1
    have hlt := hb2.lt
    have HB := hid hb2
    have c0 := hb2.cell 0 rfl
    have c1 := hb2.cell 1 rfl
    have c2 := hb2.cell 2 rfl
    have f0 := hb2.frozen 0
    have f1 := hb2.frozen 1
    have f2 := hb2.frozen 2
    clear hb2
    go_wp2
    have hres := Only.blk ((Only.refl (fun _ => False) _).alloc (.cells #[.int .i64 4, .string s, .string ⟨#[]⟩] 40)) (((HB.out.set 0 (.int .i64 4)).set 1 (.string s)).set 2 (.string ⟨#[]⟩)) (fun f => f)
    refine bodyPost_ret (results_cell_tmp2 (fn := Try.f29) (p := 2) (u := 3) (v := 4) rfl _ _ w.heap.size 40 #[.int .i64 4, .string s, .string ⟨#[]⟩] (0, 0) _ rfl hres Try.underlying40 rfl Try.sizeMat) rfl ?_
    exact ⟨by rw [HRn.out]; rfl, (((HK2.out.setCell (fun hlt => absurd hlt (Nat.lt_irrefl _)) _).setCell (fun hlt => absurd hlt (Nat.lt_irrefl _)) _).setCell (fun hlt => absurd hlt (Nat.lt_irrefl _)) _).alloc _⟩
  · have his : i < s.size := by rw [Lib.size_eq]; exact hil
    have hnd : (s.extract 0 i).data.toList = s.data.toList.take i := by rw [sub_bytes, List.drop_zero]
    have hrd : (s.extract i s.size).data.toList = s.data.toList.drop i := by rw [sub_bytes, List.take_of_length_le (by rw [← Lib.size_eq]; omega)]
    have hrs : (s.extract i s.size).size = s.size - i := by rw [ByteArray.size_extract]; omega
    have hns : (s.extract 0 i).size = i := by rw [ByteArray.size_extract]; omega
    rw [h3, h4, ← hnd, ← hrd] at HR
    rw [h1] at H1
    rw [← hrd] at h5
    clear h1 h3 h4 hil hnd hrd
    have h0s : 0 < (s.extract i s.size).size := by omega
    have hc0 : (s.extract i s.size)[0]'h0s = c := by
      have := at_list (s.extract i s.size) 0 h0s
      rw [← this]
      simp only [h5, List.getElem_cons_zero]
    have hne := not_empty (s := s.extract i s.size) (by omega)
    have his' : (i : Int) ≤ (s.size : Int) := by omega
    have HD := hid h5
    have hrz : (s.extract i s.size).size ≤ 10000 := by omega
    clear h5 hrs
    go_enter Try.func29, Try.ntmps29
    go_wp2_with fail
    generalize w.alloc (.cells #[.int .i64 0, .string ⟨#[]⟩, .string ⟨#[]⟩] 40) = w0 at hb0 HK0 H1 hl0 ⊢
    refine H1.out.mono ?_
    rintro e w1 ⟨rfl, k1⟩
    have hb1 := Only.blk k1 hb0 (fun f => f)
    have HK1 := hid (HK0.out.trans k1 (fun _ _ f => f))
    clear k1 hb0 H1 hl0
    go_wp2_with fail
    go_quiet (fail)
    have hb1' := Only.blk (kept_drewN (Only.refl (fun _ => False) w1) nq) hb1 (fun f => f)
    have HK1' := hid (kept_drewN HK1.out nq)
    clear hb1 HK1
    generalize w1.drewN nq = w1' at hb1' HK1' ⊢
    generalize s.extract 0 i = nm at HR hns ⊢
    generalize s.extract i s.size = rs at HR h0s hc0 hne HD hrz ⊢
    have HCl := hid (fun W => clone_any W nm (by omega))
    go_wp2_with fail
    refine (HCl.out _).mono ?_
    rintro e w2 ⟨rfl, k2⟩
    have hb2 := Only.blk k2 hb1' (fun f => f)
    have HK2 := hid (HK1'.out.trans k2 (fun _ _ f => f))
    clear k2 hb1'
    have hlt := hb2.lt
    by_cases h44 : c.toNat = 44
    · have ec : c = 44 := UInt8.toNat_inj.1 h44
      have HRn : Hid (R = some ((4, nm, mkB []), rs.data.toList)) := by
        refine hid ?_
        rw [HR.out, if_pos (.inr (by rw [HD.out, ec]; rfl))]
      have hq44 : ((c.toNat : Int) == 44) = true := by simp; omega
      have HB := hid hb2
      have c0 := hb2.cell 0 rfl
      have c1 := hb2.cell 1 rfl
      have c2 := hb2.cell 2 rfl
      have f0 := hb2.frozen 0
      have f1 := hb2.frozen 1
      have f2 := hb2.frozen 2
      have H44 := hid h44
      have Hec := hid ec
      clear hb2 h44 ec HR
      go_wp2
      have hres := Only.blk ((Only.refl (fun _ => False) _).alloc (.cells #[.int .i64 4, .string nm, .string ⟨#[]⟩] 40)) (((HB.out.set 0 (.int .i64 4)).set 1 (.string nm)).set 2 (.string ⟨#[]⟩)) (fun f => f)
      refine bodyPost_ret (results_cell_tmp2 (fn := Try.f29) (p := 2) (u := 3) (v := 4) rfl _ _ w.heap.size 40 #[.int .i64 4, .string nm, .string ⟨#[]⟩] (0, 0) _ rfl hres Try.underlying40 rfl Try.sizeMat) rfl ?_
      exact ⟨by rw [HRn.out]; rfl, (((HK2.out.setCell (fun hlt => absurd hlt (Nat.lt_irrefl _)) _).setCell (fun hlt => absurd hlt (Nat.lt_irrefl _)) _).setCell (fun hlt => absurd hlt (Nat.lt_irrefl _)) _).alloc _⟩
    · have HRv : Hid (R = valM nm.data.toList rs.data.toList) := by
        refine hid ?_
        rw [HR.out, if_neg]
        rintro (e | e)
        · rw [HD.out] at e; cases e
        · rw [HD.out] at e
          simp at e
          exact h44 (by rw [e]; rfl)
      have hq44 : ((c.toNat : Int) == 44) = false := by simp; omega
      have HMk := hid (mark_any (w2.alloc (.cells #[.int .i64 4, .string nm, .string ⟨#[]⟩] 40)) rs)
      have hbm := Blk.new w2 [.int .i64 4, .string nm, .string ⟨#[]⟩] 40
      have hbr := Only.blk ((Only.refl (fun _ => False) w2).alloc (.cells #[.int .i64 4, .string nm, .string ⟨#[]⟩] 40)) hb2 (fun f => f)
      have HK3 := hid (HK2.out.alloc (.cells #[.int .i64 4, .string nm, .string ⟨#[]⟩] 40))
      have H44 := hid h44
      clear hb2 h44 HR HK2
      unfold valM at HRv
      go_wp2_with fail
      generalize w2.alloc (.cells #[.int .i64 4, .string nm, .string ⟨#[]⟩] 40) = w3 at HMk hbm hbr HK3 ⊢
      generalize w2.heap.size = mB at hbm hlt ⊢
      refine HMk.out.mono ?_
      rintro e w4 ⟨rfl, k4⟩
      have hbr4 := Only.blk k4 hbr (fun f => f)
      have hbm4 := Only.blk k4 hbm (fun f => f)
      have HK4 := hid (HK3.out.trans k4 (fun _ _ f => f))
      clear k4 hbr hbm HMk HK3
      cases hmr : markR rs.data.toList with
      | none =>
        rw [show MarkA none = .tuple #[.int .i64 0, .string ⟨#[]⟩, .bool false] from rfl]
        rw [hmr] at HRv
        have hmk : Hid (R = none) := HRv
        have HB := hid hbr4
        have c0 := hbr4.cell 0 rfl
        have c1 := hbr4.cell 1 rfl
        have c2 := hbr4.cell 2 rfl
        have f0 := hbr4.frozen 0
        have f1 := hbr4.frozen 1
        have f2 := hbr4.frozen 2
        clear hbr4 hbm4
        go_wp2
        have hres := ((HB.out.set 0 (.int .i64 0)).set 1 (.string ⟨#[]⟩)).set 2 (.string ⟨#[]⟩)
        refine bodyPost_ret (results_cell_tmp2 (fn := Try.f29) (p := 2) (u := 3) (v := 4) rfl _ _ w.heap.size 40 #[.int .i64 0, .string ⟨#[]⟩, .string ⟨#[]⟩] (0, 0) _ rfl hres Try.underlying40 rfl Try.sizeMat) rfl ?_
        refine ⟨?_, ((HK4.out.setCell (fun hlt => absurd hlt (Nat.lt_irrefl _)) _).setCell (fun hlt => absurd hlt (Nat.lt_irrefl _)) _).setCell (fun hlt => absurd hlt (Nat.lt_irrefl _)) _⟩
        rw [hmk.out]
        exact ⟨_, _, _, _, rfl⟩
      | some q =>
        obtain ⟨k, tt⟩ := q
        rw [show MarkA (some (k, tt)) = .tuple #[.int .i64 k, .string (mkB tt), .bool true] from rfl]
        have hkt := markR_some hmr
        have htl : tt.length ≤ 10000 := by
          have := congrArg List.length hkt.2.2
          rw [← Lib.size_eq, List.length_append, List.length_cons] at this
          omega
        rw [hmr] at HRv
        simp only at HRv
        have H5 := hid (cut_any w4 (mkB tt) ⟨#[34]⟩ (HMx.out.stay HK4.out) (by rw [mkB_size]; omega))
        have e2 : (⟨#[34]⟩ : ByteArray).data.toList = [34] := rfl
        have e3 : (mkB tt).data.toList = tt := rfl
        rw [e2, e3] at H5
        have hl2 := cut_len tt [34]
        clear e2 e3 hkt
        generalize Lib.cut tt [34] = C at H5 hl2 HRv
        obtain ⟨q, r2, b2⟩ := C
        simp only at H5 hl2 HRv
        go_wp2_with fail
        refine H5.out.mono ?_
        rintro e w5 ⟨rfl, k5⟩
        have hbr5 := Only.blk k5 hbr4 (fun f => f)
        have hbm5 := Only.blk k5 hbm4 (fun f => f)
        have HK5 := hid (HK4.out.trans k5 (fun _ _ f => f))
        clear k5 hbr4 hbm4 H5 HK4
        cases b2 with
        | false =>
          have hmk : Hid (R = none) := HRv
          have HB := hid hbr5
          have c0 := hbr5.cell 0 rfl
          have c1 := hbr5.cell 1 rfl
          have c2 := hbr5.cell 2 rfl
          have f0 := hbr5.frozen 0
          have f1 := hbr5.frozen 1
          have f2 := hbr5.frozen 2
          clear hbr5 hbm5
          go_wp2
          have hres := ((HB.out.set 0 (.int .i64 0)).set 1 (.string ⟨#[]⟩)).set 2 (.string ⟨#[]⟩)
          refine bodyPost_ret (results_cell_tmp2 (fn := Try.f29) (p := 2) (u := 3) (v := 4) rfl _ _ w.heap.size 40 #[.int .i64 0, .string ⟨#[]⟩, .string ⟨#[]⟩] (0, 0) _ rfl hres Try.underlying40 rfl Try.sizeMat) rfl ?_
          refine ⟨?_, ((HK5.out.setCell (fun hlt => absurd hlt (Nat.lt_irrefl _)) _).setCell (fun hlt => absurd hlt (Nat.lt_irrefl _)) _).setCell (fun hlt => absurd hlt (Nat.lt_irrefl _)) _⟩
          rw [hmk.out]
          exact ⟨_, _, _, _, rfl⟩
        | true =>
          have HRq : Hid (R = (unqM q).map (fun v => ((k, nm, mkB v), r2))) := HRv
          have HKs := hid (HK5.out.setCell (p := ⟨mB, 0, none⟩) (fun hh => absurd hh (by show ¬ mB < w.heap.size; omega)) (.int .i64 k))
          have H6 := hid (unquoted_any (w5.setCell ⟨mB, 0, none⟩ (.int .i64 k)) (mkB q) (HMx.out.stay HKs.out) (by rw [mkB_size]; omega))
          have e3 : (mkB q).data.toList = q := rfl
          rw [e3] at H6
          have hms := hbm5.set 0 (.int .i64 k)
          have m0 := hbm5.cell 0 rfl
          have g0 := hbm5.frozen 0
          have hbrs : Blk (w5.setCell ⟨mB, 0, none⟩ (.int .i64 k)) w.heap.size [.int .i64 0, .string ⟨#[]⟩, .string ⟨#[]⟩] 40 := Blk.other hbr5 (by show w.heap.size ≠ mB; omega) _
          clear e3 hbr5 hbm5 HK5 HRv
          go_wp2_with fail
          generalize w5.setCell ⟨mB, 0, none⟩ (.int .i64 k) = w6 at H6 HKs hms hbrs ⊢
          refine H6.out.mono ?_
          rintro e w7 ⟨rfl, k7⟩
          have hbr7 := Only.blk k7 hbrs (fun f => f)
          have hbm7 := Only.blk k7 hms (fun f => f)
          have HK7 := hid (HKs.out.trans k7 (fun _ _ f => f))
          clear k7 hbrs hms H6 HKs m0 g0
          obtain ⟨VV, bb, hU, hb1, hb2⟩ : ∃ VV bb, UnqA (unqM q) = .tuple #[.string VV, .bool bb] ∧ (bb = true → R = some ((k, nm, VV), r2)) ∧ (bb = false → R = none) := by
            rw [HRq.out]
            cases unqM q with
            | none => exact ⟨_, false, rfl, fun h => (by cases h), fun _ => rfl⟩
            | some z => exact ⟨_, true, rfl, fun _ => rfl, fun h => (by cases h)⟩
          rw [hU]
          have HB1 := hid hb1
          have HB2 := hid hb2
          have m0 := hbm7.cell 0 rfl
          have m1 := hbm7.cell 1 rfl
          have m2 := hbm7.cell 2 rfl
          have n2 := hbm7.frozen 2
          have hmn : ¬ w.heap.size = mB := by omega
          have hnm : ¬ mB = w.heap.size := by omega
          have c0 := hbr7.cell 0 rfl
          have c1 := hbr7.cell 1 rfl
          have c2 := hbr7.cell 2 rfl
          have f0 := hbr7.frozen 0
          have f1 := hbr7.frozen 1
          have f2 := hbr7.frozen 2
          have HBr := hid hbr7
          clear hbr7 hbm7 hU hb1 hb2
          go_wp2
          have hres := (((Blk.other HBr.out (a := ⟨mB, 2, none⟩) (by show w.heap.size ≠ mB; omega) (.string VV)).set 0 (.int .i64 k)).set 1 (.string nm)).set 2 (.string VV)
          refine bodyPost_ret (results_cell_tmp2 (fn := Try.f29) (p := 2) (u := 3) (v := 4) rfl _ _ w.heap.size 40 #[.int .i64 k, .string nm, .string VV] (0, 0) _ rfl hres Try.underlying40 rfl Try.sizeMat) rfl ?_
          refine ⟨?_, (((HK7.out.setCell (fun hh => absurd hh (by show ¬ mB < w.heap.size; omega)) _).setCell (fun hlt => absurd hlt (Nat.lt_irrefl _)) _).setCell (fun hlt => absurd hlt (Nat.lt_irrefl _)) _).setCell (fun hlt => absurd hlt (Nat.lt_irrefl _)) _⟩
          cases bb with
          | true =>
            rw [HB1.out rfl]
            rfl
          | false =>
            rw [HB2.out rfl]
            exact ⟨_, _, _, _, rfl⟩
end Go.Proofs.Ytbdcaikcdhfdoaa.N
