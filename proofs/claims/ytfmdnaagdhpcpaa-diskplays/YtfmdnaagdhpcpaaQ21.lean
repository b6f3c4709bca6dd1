/-
  Edone1.
-/
import Derived.Test.YtfmdnaagdhpcpaaQ20

/-
  The document's own disk: Do of kind 1, done.
-/
namespace Go.Proofs.Ytfmdnaagdhpcpaa
open Go.RowKit Go.Proofs.Lys Go.Maps Go.Shelf
set_option linter.unusedVariables false

section
variable {w : World} {c : RConc} {O : Nat → Prop} {m : DModel}

set_option maxRecDepth 100000 in
set_option maxHeartbeats 1600000 in
theorem rdone1 (h : RAt w c O m) (hd : m.dir.length ≤ 10000) (hnd : (m.dir.map (·.2)).Nodup) (n t bs : List UInt8) (ba : Option Addr) (bc : Nat) (hB : bs.length ≤ 1000000) (hsrc : SrcOf w (.slice ba bs.length bc) (bs.map bV)) (hoff : m.off = false) (hf : m.fuse ≠ some 0) (ho : m.own ⟨1, n, t, bs⟩ = 0) (hfa : m.fault ≠ some 0)
    (hst : m.steps ≤ 1000000000) (hac : m.acts.length ≤ 100000) (hfl : m.files.length ≤ 100000) (hap : ∀ a, ba = some a → 0 < bs.length → ¬ O a.block) (hfb : ∀ x, m.fuse = some x → x ≤ 9223372036854775807) (hab : ∀ x, m.fault = some x → x ≤ 9223372036854775807) : Calls Try.prog 12 #[.pointer (some ⟨c.d, 0, none⟩), .agg #[.int .i64 1, .string ⟨n.toArray⟩, .string ⟨t.toArray⟩, .slice ba bs.length bc]] w (RPost w c O m ⟨1, n, t, bs⟩) := by
  have H := Hid.mk h
  have k1 : Kept w (w.alloc (.cells #[.int .i64 1, .string ⟨n.toArray⟩, .string ⟨t.toArray⟩, .slice ba bs.length bc] 31)) := (Only.refl (fun _ => False) w).alloc _
  have hown := Hid.mk (rown_any (h.stay k1) hd hnd 1 n t bs ba bc (by decide) (by decide) hB)
  have HE : Hid (m.doOp ⟨1, n, t, bs⟩ = (0, m.count.done ⟨1, n, t, bs⟩)) := by show _ = _; rw [done_count]; exact do_done (m := m) (o := ⟨1, n, t, bs⟩) (show (0 : Int) ≤ 1 by decide) (show (1 : Int) ≤ 5 by decide) hoff hf ho hfa
  obtain ⟨B, hBl⟩ : ∃ B, bs.length = B := ⟨_, rfl⟩
  have HB := Hid.mk hBl
  have HO := Hid.mk ho
  have HD0 := Hid.mk hd
  have HSRC := Hid.mk hsrc
  rw [hBl, ho] at hown
  rw [hBl] at HSRC ⊢
  have x5 : w.cell? ⟨c.d, 5, none⟩ = some (.bool m.off) := h.cells.cell 5 rfl
  have x6 : w.cell? ⟨c.d, 6, none⟩ = some (.int .i64 (laidI m.fuse)) := h.cells.cell 6 rfl
  rw [hoff] at x5
  have d3 := fuse_ne m.fuse hf
  generalize hfz : laidI m.fuse = fz at x6 d3
  have hlt := h.cells.lt
  have hfz0 : ¬ fz = 0 := of_decide_eq_false d3
  have Hst := Hid.mk hst
  have HAC : Hid (m.count.acts.length ≤ 100000) := hac
  have HAP := Hid.mk hap
  have HFL : Hid (m.count.files.length ≤ 100000) := hfl
  clear h k1 hBl ho hd hnd hsrc hst hac hfl hap
  go_enter Try.func12, Try.ntmps12
  go_wp2_with fail
  refine hown.out.mono ?_
  rintro e w2 ⟨rfl, k2⟩
  obtain ⟨hk2, hop⟩ := own_behind H.out k2
  have h2 := H.out.stay hk2
  clear x5 x6 k2 hown d3 hfz0
  have x6 : w2.cell? ⟨c.d, 6, none⟩ = some (.int .i64 (laidI m.fuse)) := h2.cells.cell 6 rfl
  have x7 : w2.cell? ⟨c.d, 7, none⟩ = some (.int .i64 (laidI m.fault)) := h2.cells.cell 7 rfl
  have x8 : w2.cell? ⟨c.d, 8, none⟩ = some (.int .i64 (m.steps : Int)) := h2.cells.cell 8 rfl
  have f6 : w2.frozen? ⟨c.d, 6, none⟩ = false := h2.cells.frozen 6
  have f7 : w2.frozen? ⟨c.d, 7, none⟩ = false := h2.cells.frozen 7
  have f8 : w2.frozen? ⟨c.d, 8, none⟩ = false := h2.cells.frozen 8
  have hst := Hst.out
  cases hFa : m.fault with
  | none =>
    cases hFu : m.fuse with
    | none =>
      have MID := Hid.mk (mid_nn H.out hk2 hop hFa hFu)
      rw [hFa] at x7
      rw [hFu] at x6
      unfold laidI at x6 x7
      clear h2 hk2 hop
      go_wp2_with fail
      generalize w2.setCell ⟨c.d, 8, none⟩ (.int .i64 ((m.steps : Int) + 1)) = w3 at MID ⊢
      clear x6 x7 x8 f6 f7 f8
      have h3 := MID.out.at3
      obtain ⟨da, dc, hdv⟩ := ownN_slice h3.dir
      obtain ⟨M, hM⟩ : ∃ M, m.count.dir.length = M := ⟨_, rfl⟩
      rw [hM] at hdv
      have hMl : M ≤ 10000 := by rw [← hM]; exact HD0.out
      have x1 : w3.cell? ⟨c.d, 1, none⟩ = some (.slice da M dc) := by
        have := h3.cells.cell 1 rfl
        rw [hdv] at this
        exact this
      have y0 := MID.out.op.cell 0 rfl
      have y1 := MID.out.op.cell 1 rfl
      have hFind : Hid (∀ j, Calls Try.prog 36 #[.slice da M dc, .string ⟨n.toArray⟩] (w3.drewN j) fun e w' => e = .returned (.int .i64 (fidx m.count.dir n)) ∧ w' = w3.drewN j) := fun j => by
        have := rfind_any (h3.stay (Kept.drewN' (Only.refl _ _) j)).dir.src (show m.count.dir.length ≤ 1000000 by omega) n
        rw [hdv] at this
        exact this
      have HDV := Hid.mk hdv
      have HM := Hid.mk hM
      clear hdv hM
      go_quiet ((go_at_call 36; exact Calls.quiet_of_same (hFind.out _)))
      rcases fidx_look m.count.dir n with ⟨hl, hi⟩ | ⟨i, hi', hi, hl⟩
      · exfalso
        have h6 := HO.out
        have hl2 : DD.look m.dir n = none := hl
        change (match DD.look m.dir n with | none => 6 | some f => if 16777216 < (m.fileAt f).b.length + bs.length then 2 else if m.quota < m.used + bs.length then 11 else 0) = 0 at h6
        rw [hl2] at h6
        cases h6
      rw [hi]
      have hiM : i < M := by have := HM.out; omega
      have hes : EntSrc w3 (.slice da M dc) m.count.dir := by
        have := h3.dir.src
        rw [HDV.out] at this
        exact this
      obtain ⟨F, hF2⟩ : ∃ F, m.count.dir[i].2 = F := ⟨_, rfl⟩
      rw [hF2] at hl
      have hFl : F < m.count.files.length := by rw [← hF2]; exact h3.dirF _ (List.getElem_mem hi')
      have HLK := Hid.mk hl
      have HFl := Hid.mk hFl
      have hed : EntSrc (w3.drewN nq) (.slice da M dc) m.count.dir := hes.stay (Kept.drewN' (Only.refl _ w3) nq)
      obtain ⟨b1, o1, hda, e0, e1⟩ := hed.cell HM.out i hiM
      subst hda
      rw [hF2] at e1
      clear hes hed hF2 e0 hi hl hFl
      have N0 := Hid.mk ((Now.start H.out MID.out).stay (Kept.drewN' (Only.refl (fun _ => False) w3) nq))
      have hac : Hid (c.ac.length ≤ 100000) := by have := HAC.out; have e := congrArg List.length N0.out.at5.acm; rw [List.length_map] at e; show _ ≤ _; rw [e]; exact this
      clear h3 x1 y0 y1 hFind hlt
      generalize w3.drewN nq = wq at N0 e1 ⊢
      have hcd := N0.out.at5.cells
      have hop := N0.out.op
      have hl1 := hcd.lt
      have hl2 := hop.lt
      have x1 : wq.cell? ⟨c.d, 1, none⟩ = some (.slice (some ⟨b1, o1, none⟩) M dc) := by
        have := hcd.cell 1 rfl
        rw [HDV.out] at this
        exact this
      have y0 := hop.cell 0 rfl
      have y1 := hop.cell 1 rfl
      have y2 := hop.cell 2 rfl
      obtain ⟨fg, fcap, fa, fk, hfv, z0, zo, z2⟩ := N0.out.at5.bytesAt F HFl.out
      have hfnl : F < c.fs.length := by have := N0.out.at5.nf; have := HFl.out; omega
      have hfile := N0.out.at5.fileAt F hfnl
      have hlens := N0.out.at5.lens _ (List.getElem_mem hfnl)
      obtain ⟨FB, hFB⟩ : ∃ FB, (m.count.fileAt F).b = FB := ⟨_, rfl⟩
      obtain ⟨L, hL⟩ : ∃ L, FB.length = L := ⟨_, rfl⟩
      rw [hFB, hL] at z0 zo
      have hLs : Hid (c.fs[F].2.sure ≤ L) := by have := hlens.2; rw [← hfile, hFB, hL] at this; rw [← hfile]; exact this
      have hLB : Hid (L + B ≤ 16777216) := by
        have h6 := HO.out
        have hlk : DD.look m.dir n = some F := HLK.out
        change (match DD.look m.dir n with | none => 6 | some f => if 16777216 < (m.fileAt f).b.length + bs.length then 2 else if m.quota < m.used + bs.length then 11 else 0) = 0 at h6
        rw [hlk] at h6
        change (if 16777216 < (m.fileAt F).b.length + bs.length then 2 else _) = 0 at h6
        have hb2 := HB.out
        have hf2 : (m.fileAt F).b.length = L := by rw [← hL, ← hFB]; rfl
        rw [hb2, hf2] at h6
        show _ ≤ _
        by_cases hov : 16777216 < L + B
        · rw [if_pos hov] at h6
          cases h6
        · omega
      obtain ⟨NF, hNF⟩ : ∃ NF, c.fs.length = NF := ⟨_, rfl⟩
      rw [hNF] at hfv
      have x0 : wq.cell? ⟨c.d, 0, none⟩ = some (.slice (some ⟨fg, 0, none⟩) NF fcap) := by
        have h1 : wq.cell? ⟨c.d, 0, none⟩ = some c.fv := hcd.cell 0 rfl
        rw [hfv] at h1
        exact h1
      have hFN : F < NF := by omega
      have y3 := hop.cell 3 rfl
      have HFV := Hid.mk hfv
      have HFIL : Hid (wq.ownsRow 0 70 2 (.slice (some ⟨fg, 0, none⟩) NF fcap) NF (filL c.fs)) := by
        have := N0.out.at5.files
        rw [hfv, hNF] at this
        exact this
      have HFN := Hid.mk hFN
      have HFC : Hid ((filL c.fs)[F * 2]? = some (.slice fa L fk)) := by
        show _ = _
        rw [← HFIL.out.cellAt (F * 2) (by omega)]
        exact z0
      have hsq := SrcOf.apart2 HSRC.out N0.out.only HAP.out
      obtain ⟨ra, rcap, w4, R1, o4, k4⟩ := byte_copy (w := wq.drew) ((own_src zo).stay (Only.refl _ _).drew) (by rw [hL]; have := hLB.out; omega)
      rw [hL] at R1 o4
      have k4' : Kept wq w4 := (Only.refl (fun _ => False) wq).drew.trans k4 (fun _ _ f => f)
      have o4b := o4
      rw [← hL] at o4b
      obtain ⟨v5, w5, R2, o5, g5, _⟩ := byte_append (w := w4) (B := wq.heap.size) (l := FB) (q := bs) o4b (Lys.SrcOf.stay hsq k4') (by have := HB.out; have := hLB.out; omega) k4'.size
      rw [hL] at R2 g5
      have k5 : Kept wq w5 := k4'.trans ((Only.refl (fun k => (Value.slice ra L rcap).ownBlock = some k) w4).grown g5 (fun j hj _ => hj)) (fun j hj e => absurd hj (by have := (o4.lt j e).1; have h7 : wq.drew.heap.size = wq.heap.size := rfl; omega))
      have hbl : (FB ++ bs).length ≤ 16777216 := by rw [List.length_append, hL, HB.out]; exact hLB.out
      have N5 := Hid.mk (Now.bytes N0.out hfnl k5 o5 hbl (by rw [List.length_append, hL]; have := hLs.out; omega) (by rw [hfv, hNF]))
      have hlen5 : (FB ++ bs).length = L + B := by rw [List.length_append, hL, HB.out]
      obtain ⟨a5, cp5, e5⟩ := own_slice o5
      subst e5
      rw [hlen5] at R2 N5
      have N4 := N0.out.stay k4'
      have N05 := N0.out.stay k5
      have p0 : w4.cell? ⟨c.d, 0, none⟩ = some (.slice (some ⟨fg, 0, none⟩) NF fcap) := by
        have h1 : w4.cell? ⟨c.d, 0, none⟩ = some c.fv := N4.at5.cells.cell 0 rfl
        rw [HFV.out] at h1
        exact h1
      have p1 : w4.cell? ⟨fg, F * 2, none⟩ = some (.slice fa L fk) := by
        have h1 := ownN_only (ownN_base (HFIL.out) (Nat.zero_le _)) k4' (fun _ _ f => f)
        have h2 := h1.cellAt (F * 2) (by have := HFN.out; omega)
        rw [h2]
        exact HFC.out
      have p3 := N4.op.cell 3 rfl
      have r0 : w5.cell? ⟨c.d, 0, none⟩ = some (.slice (some ⟨fg, 0, none⟩) NF fcap) := by
        have h1 : w5.cell? ⟨c.d, 0, none⟩ = some c.fv := N05.at5.cells.cell 0 rfl
        rw [HFV.out] at h1
        exact h1
      have r1 : w5.cell? ⟨fg, F * 2, none⟩ = some (.slice fa L fk) := by
        have h1 := ownN_only (ownN_base (HFIL.out) (Nat.zero_le _)) k5 (fun _ _ f => f)
        have h2 := h1.cellAt (F * 2) (by have := HFN.out; omega)
        rw [h2]
        exact HFC.out
      have r3 := N05.op.cell 3 rfl
      have fz5 : w5.frozen? ⟨fg, F * 2, none⟩ = false := (ownN_only (ownN_base (HFIL.out) (Nat.zero_le _)) k5 (fun _ _ f => f)).frozenAt _
      have HMD : Hid (m.count.done ⟨1, n, t, bs⟩ = { m.count with files := m.count.files.set F ⟨FB ++ bs, c.fs[F].2.sure⟩ }) := by
        show ({ m.count with files := m.count.files.set ((DD.look m.count.dir n).getD 0) ⟨(m.count.fileAt ((DD.look m.count.dir n).getD 0)).b ++ bs, (m.count.fileAt ((DD.look m.count.dir n).getD 0)).sure⟩ } : DModel) = _
        rw [HLK.out]
        show ({ m.count with files := m.count.files.set F ⟨(m.count.fileAt F).b ++ bs, (m.count.fileAt F).sure⟩ } : DModel) = _
        rw [hFB, hfile]
      clear N4 N05 o5 g5 o4 o4b k4 k4' k5 hsq hbl zo z2 hlens hfile hFB hfv
      go_wp2_with fail
      refine wp_region_noPanic ?_
      refine wp_region_last (L := 19) (S := fun w' => w'.cell? ⟨c.d, 0, none⟩ = some (.slice (some ⟨fg, 0, none⟩) NF fcap) ∧ w'.cell? ⟨fg, F * 2, none⟩ = some (.slice fa L fk) ∧ w'.cell? ⟨w.heap.size, 3, none⟩ = some (.slice ba B bc)) (by kernel_rfl) ?_
      have hS : (fun w' : World => w'.cell? ⟨c.d, 0, none⟩ = some (.slice (some ⟨fg, 0, none⟩) NF fcap) ∧ w'.cell? ⟨fg, F * 2, none⟩ = some (.slice fa L fk) ∧ w'.cell? ⟨w.heap.size, 3, none⟩ = some (.slice ba B bc)) wq.drew := ⟨x0, z0, y3⟩
      refine wpAnyL_take (i := 0) (v := .pointer (some ⟨c.d, 0, none⟩)) rfl (by kernel_rfl) (by kernel_rfl) (by kernel_rfl) (by kernel_rfl) (by kernel_rfl) (fun _ _ _ h => h) (Or.inl ⟨by rfl, ?_⟩) hS ?_
      · (intro w' hSw; go_simp)
      go_frame
      refine wpAnyL_take (i := 1) (v := .pointer (some ⟨c.d, 0, none⟩)) rfl (by kernel_rfl) (by kernel_rfl) (by kernel_rfl) (by kernel_rfl) (by kernel_rfl) (fun _ _ _ h => h) (Or.inl ⟨by rfl, ?_⟩) hS ?_
      · (intro w' hSw; go_simp)
      go_frame
      refine wpAnyL_take (i := 2) (v := .pointer (some ⟨c.d, 0, none⟩)) rfl (by kernel_rfl) (by kernel_rfl) (by kernel_rfl) (by kernel_rfl) (by kernel_rfl) (fun _ _ _ h => h) (Or.inl ⟨by rfl, ?_⟩) hS ?_
      · (intro w' hSw; go_simp)
      go_frame
      refine wpAnyL_take (i := 3) (v := .slice (some ⟨fg, 0, none⟩) NF fcap) rfl (by kernel_rfl) (by kernel_rfl) (by kernel_rfl) (by kernel_rfl) (by kernel_rfl) (fun _ _ _ h => h) (Or.inl ⟨by rfl, ?_⟩) hS ?_
      · (intro w' hSw; go_simp)
      go_frame
      refine wpAnyL_take (i := 4) (v := .int .i64 (F : Int)) rfl (by kernel_rfl) (by kernel_rfl) (by kernel_rfl) (by kernel_rfl) (by kernel_rfl) (fun _ _ _ h => h) (Or.inl ⟨by rfl, ?_⟩) hS ?_
      · (intro w' hSw; go_simp)
      go_frame
      refine wpAnyL_take (i := 5) (v := .pointer (some ⟨c.d, 0, none⟩)) rfl (by kernel_rfl) (by kernel_rfl) (by kernel_rfl) (by kernel_rfl) (by kernel_rfl) (fun _ _ _ h => h) (Or.inl ⟨by rfl, ?_⟩) hS ?_
      · (intro w' hSw; go_simp)
      go_frame
      refine wpAnyL_take (i := 6) (v := .pointer (some ⟨c.d, 0, none⟩)) rfl (by kernel_rfl) (by kernel_rfl) (by kernel_rfl) (by kernel_rfl) (by kernel_rfl) (fun _ _ _ h => h) (Or.inl ⟨by rfl, ?_⟩) hS ?_
      · (intro w' hSw; go_simp)
      go_frame
      refine wpAnyL_take (i := 7) (v := .pointer (some ⟨c.d, 0, none⟩)) rfl (by kernel_rfl) (by kernel_rfl) (by kernel_rfl) (by kernel_rfl) (by kernel_rfl) (fun _ _ _ h => h) (Or.inl ⟨by rfl, ?_⟩) hS ?_
      · (intro w' hSw; go_simp)
      go_frame
      refine wpAnyL_take (i := 8) (v := .slice (some ⟨fg, 0, none⟩) NF fcap) rfl (by kernel_rfl) (by kernel_rfl) (by kernel_rfl) (by kernel_rfl) (by kernel_rfl) (fun _ _ _ h => h) (Or.inl ⟨by rfl, ?_⟩) hS ?_
      · (intro w' hSw; go_simp)
      go_frame
      refine wpAnyL_take (i := 9) (v := .int .i64 (F : Int)) rfl (by kernel_rfl) (by kernel_rfl) (by kernel_rfl) (by kernel_rfl) (by kernel_rfl) (fun _ _ _ h => h) (Or.inl ⟨by rfl, ?_⟩) hS ?_
      · (intro w' hSw; go_simp)
      go_frame
      refine wpAnyL_take (i := 10) (v := .pointer (some ⟨fg, F * 2, none⟩)) rfl (by kernel_rfl) (by kernel_rfl) (by kernel_rfl) (by kernel_rfl) (by kernel_rfl) (fun _ _ _ h => h) (Or.inl ⟨by rfl, ?_⟩) hS ?_
      · (intro w' hSw; go_simp)
      go_frame
      refine wpAnyL_take (i := 11) (v := .pointer (some ⟨fg, F * 2, none⟩)) rfl (by kernel_rfl) (by kernel_rfl) (by kernel_rfl) (by kernel_rfl) (by kernel_rfl) (fun _ _ _ h => h) (Or.inl ⟨by rfl, ?_⟩) hS ?_
      · (intro w' hSw; go_simp)
      go_frame
      refine wpAnyL_take (i := 12) (v := .slice fa L fk) rfl (by kernel_rfl) (by kernel_rfl) (by kernel_rfl) (by kernel_rfl) (by kernel_rfl) (fun _ _ _ h => h) (Or.inl ⟨by rfl, ?_⟩) hS ?_
      · (intro w' hSw; go_simp)
      go_frame
      refine wpAnyL_take (i := 14) (v := .pointer (some ⟨w.heap.size, 3, none⟩)) rfl (by kernel_rfl) (by kernel_rfl) (by kernel_rfl) (by kernel_rfl) (by kernel_rfl) (fun _ _ _ h => h) (Or.inl ⟨by rfl, ?_⟩) hS ?_
      · (intro w' hSw; go_simp)
      go_frame
      refine wpAnyL_take (i := 15) (v := .slice ba B bc) rfl (by kernel_rfl) (by kernel_rfl) (by kernel_rfl) (by kernel_rfl) (by kernel_rfl) (fun _ _ _ h => h) (Or.inl ⟨by rfl, ?_⟩) hS ?_
      · (intro w' hSw; go_simp)
      go_frame
      refine wpAnyL_one (i := 13) (by kernel_rfl) rfl rfl ?_
      simp only [Go.wp_at_succ, Go.wp_at_zero]
      refine wp_append_run (.const (.slice none 0 0)) (.tmp 149) 29 rfl (.slice none 0 0) (.slice fa L fk) rfl (by simp [Act.eval]) R1 ?_
      refine ⟨⟨p0, p1, p3⟩, ?_⟩
      go_frame
      refine wpAnyL_one (i := 16) (by kernel_rfl) rfl rfl ?_
      simp only [Go.wp_at_succ, Go.wp_at_zero]
      refine wp_append_run (.tmp 150) (.tmp 152) 29 rfl (.slice ra L rcap) (.slice ba B bc) (by simp [Act.eval]) (by simp [Act.eval]) R2 ?_
      refine ⟨⟨r0, r1, r3⟩, ?_⟩
      go_frame
      refine wpAnyL_one (i := 17) (by kernel_rfl) rfl rfl ?_
      go_simp
      refine wpAnyL_one (i := 18) (by kernel_rfl) rfl rfl ?_
      go_simp
      refine wpAnyL_last (by kernel_rfl) (by kernel_rfl) rfl rfl ?_
      go_simp
      refine NoPanic.normal ?_
      clear hS
      go_wp2_with fail
      go_ret
      exact Now.post N5.out HE.out HMD.out.symm
    | some b0 =>
      obtain ⟨b, rfl⟩ : ∃ b, b0 = b + 1 := ⟨b0 - 1, by have : b0 ≠ 0 := fun e => hf (by rw [hFu, e]); omega⟩
      have hbb := hfb _ hFu
      have MID := Hid.mk (mid_ns H.out hk2 hop hFa hFu)
      rw [hFa] at x7
      rw [hFu] at x6
      unfold laidI at x6 x7
      clear h2 hk2 hop
      go_wp2_with fail
      generalize (w2.setCell ⟨c.d, 6, none⟩ (.int .i64 (b : Int))).setCell ⟨c.d, 8, none⟩ (.int .i64 ((m.steps : Int) + 1)) = w3 at MID ⊢
      clear x6 x7 x8 f6 f7 f8
      have h3 := MID.out.at3
      obtain ⟨da, dc, hdv⟩ := ownN_slice h3.dir
      obtain ⟨M, hM⟩ : ∃ M, m.count.dir.length = M := ⟨_, rfl⟩
      rw [hM] at hdv
      have hMl : M ≤ 10000 := by rw [← hM]; exact HD0.out
      have x1 : w3.cell? ⟨c.d, 1, none⟩ = some (.slice da M dc) := by
        have := h3.cells.cell 1 rfl
        rw [hdv] at this
        exact this
      have y0 := MID.out.op.cell 0 rfl
      have y1 := MID.out.op.cell 1 rfl
      have hFind : Hid (∀ j, Calls Try.prog 36 #[.slice da M dc, .string ⟨n.toArray⟩] (w3.drewN j) fun e w' => e = .returned (.int .i64 (fidx m.count.dir n)) ∧ w' = w3.drewN j) := fun j => by
        have := rfind_any (h3.stay (Kept.drewN' (Only.refl _ _) j)).dir.src (show m.count.dir.length ≤ 1000000 by omega) n
        rw [hdv] at this
        exact this
      have HDV := Hid.mk hdv
      have HM := Hid.mk hM
      clear hdv hM
      go_quiet ((go_at_call 36; exact Calls.quiet_of_same (hFind.out _)))
      rcases fidx_look m.count.dir n with ⟨hl, hi⟩ | ⟨i, hi', hi, hl⟩
      · exfalso
        have h6 := HO.out
        have hl2 : DD.look m.dir n = none := hl
        change (match DD.look m.dir n with | none => 6 | some f => if 16777216 < (m.fileAt f).b.length + bs.length then 2 else if m.quota < m.used + bs.length then 11 else 0) = 0 at h6
        rw [hl2] at h6
        cases h6
      rw [hi]
      have hiM : i < M := by have := HM.out; omega
      have hes : EntSrc w3 (.slice da M dc) m.count.dir := by
        have := h3.dir.src
        rw [HDV.out] at this
        exact this
      obtain ⟨F, hF2⟩ : ∃ F, m.count.dir[i].2 = F := ⟨_, rfl⟩
      rw [hF2] at hl
      have hFl : F < m.count.files.length := by rw [← hF2]; exact h3.dirF _ (List.getElem_mem hi')
      have HLK := Hid.mk hl
      have HFl := Hid.mk hFl
      have hed : EntSrc (w3.drewN nq) (.slice da M dc) m.count.dir := hes.stay (Kept.drewN' (Only.refl _ w3) nq)
      obtain ⟨b1, o1, hda, e0, e1⟩ := hed.cell HM.out i hiM
      subst hda
      rw [hF2] at e1
      clear hes hed hF2 e0 hi hl hFl
      have N0 := Hid.mk ((Now.start H.out MID.out).stay (Kept.drewN' (Only.refl (fun _ => False) w3) nq))
      have hac : Hid (c.ac.length ≤ 100000) := by have := HAC.out; have e := congrArg List.length N0.out.at5.acm; rw [List.length_map] at e; show _ ≤ _; rw [e]; exact this
      clear h3 x1 y0 y1 hFind hlt
      generalize w3.drewN nq = wq at N0 e1 ⊢
      have hcd := N0.out.at5.cells
      have hop := N0.out.op
      have hl1 := hcd.lt
      have hl2 := hop.lt
      have x1 : wq.cell? ⟨c.d, 1, none⟩ = some (.slice (some ⟨b1, o1, none⟩) M dc) := by
        have := hcd.cell 1 rfl
        rw [HDV.out] at this
        exact this
      have y0 := hop.cell 0 rfl
      have y1 := hop.cell 1 rfl
      have y2 := hop.cell 2 rfl
      obtain ⟨fg, fcap, fa, fk, hfv, z0, zo, z2⟩ := N0.out.at5.bytesAt F HFl.out
      have hfnl : F < c.fs.length := by have := N0.out.at5.nf; have := HFl.out; omega
      have hfile := N0.out.at5.fileAt F hfnl
      have hlens := N0.out.at5.lens _ (List.getElem_mem hfnl)
      obtain ⟨FB, hFB⟩ : ∃ FB, (m.count.fileAt F).b = FB := ⟨_, rfl⟩
      obtain ⟨L, hL⟩ : ∃ L, FB.length = L := ⟨_, rfl⟩
      rw [hFB, hL] at z0 zo
      have hLs : Hid (c.fs[F].2.sure ≤ L) := by have := hlens.2; rw [← hfile, hFB, hL] at this; rw [← hfile]; exact this
      have hLB : Hid (L + B ≤ 16777216) := by
        have h6 := HO.out
        have hlk : DD.look m.dir n = some F := HLK.out
        change (match DD.look m.dir n with | none => 6 | some f => if 16777216 < (m.fileAt f).b.length + bs.length then 2 else if m.quota < m.used + bs.length then 11 else 0) = 0 at h6
        rw [hlk] at h6
        change (if 16777216 < (m.fileAt F).b.length + bs.length then 2 else _) = 0 at h6
        have hb2 := HB.out
        have hf2 : (m.fileAt F).b.length = L := by rw [← hL, ← hFB]; rfl
        rw [hb2, hf2] at h6
        show _ ≤ _
        by_cases hov : 16777216 < L + B
        · rw [if_pos hov] at h6
          cases h6
        · omega
      obtain ⟨NF, hNF⟩ : ∃ NF, c.fs.length = NF := ⟨_, rfl⟩
      rw [hNF] at hfv
      have x0 : wq.cell? ⟨c.d, 0, none⟩ = some (.slice (some ⟨fg, 0, none⟩) NF fcap) := by
        have h1 : wq.cell? ⟨c.d, 0, none⟩ = some c.fv := hcd.cell 0 rfl
        rw [hfv] at h1
        exact h1
      have hFN : F < NF := by omega
      have y3 := hop.cell 3 rfl
      have HFV := Hid.mk hfv
      have HFIL : Hid (wq.ownsRow 0 70 2 (.slice (some ⟨fg, 0, none⟩) NF fcap) NF (filL c.fs)) := by
        have := N0.out.at5.files
        rw [hfv, hNF] at this
        exact this
      have HFN := Hid.mk hFN
      have HFC : Hid ((filL c.fs)[F * 2]? = some (.slice fa L fk)) := by
        show _ = _
        rw [← HFIL.out.cellAt (F * 2) (by omega)]
        exact z0
      have hsq := SrcOf.apart2 HSRC.out N0.out.only HAP.out
      obtain ⟨ra, rcap, w4, R1, o4, k4⟩ := byte_copy (w := wq.drew) ((own_src zo).stay (Only.refl _ _).drew) (by rw [hL]; have := hLB.out; omega)
      rw [hL] at R1 o4
      have k4' : Kept wq w4 := (Only.refl (fun _ => False) wq).drew.trans k4 (fun _ _ f => f)
      have o4b := o4
      rw [← hL] at o4b
      obtain ⟨v5, w5, R2, o5, g5, _⟩ := byte_append (w := w4) (B := wq.heap.size) (l := FB) (q := bs) o4b (Lys.SrcOf.stay hsq k4') (by have := HB.out; have := hLB.out; omega) k4'.size
      rw [hL] at R2 g5
      have k5 : Kept wq w5 := k4'.trans ((Only.refl (fun k => (Value.slice ra L rcap).ownBlock = some k) w4).grown g5 (fun j hj _ => hj)) (fun j hj e => absurd hj (by have := (o4.lt j e).1; have h7 : wq.drew.heap.size = wq.heap.size := rfl; omega))
      have hbl : (FB ++ bs).length ≤ 16777216 := by rw [List.length_append, hL, HB.out]; exact hLB.out
      have N5 := Hid.mk (Now.bytes N0.out hfnl k5 o5 hbl (by rw [List.length_append, hL]; have := hLs.out; omega) (by rw [hfv, hNF]))
      have hlen5 : (FB ++ bs).length = L + B := by rw [List.length_append, hL, HB.out]
      obtain ⟨a5, cp5, e5⟩ := own_slice o5
      subst e5
      rw [hlen5] at R2 N5
      have N4 := N0.out.stay k4'
      have N05 := N0.out.stay k5
      have p0 : w4.cell? ⟨c.d, 0, none⟩ = some (.slice (some ⟨fg, 0, none⟩) NF fcap) := by
        have h1 : w4.cell? ⟨c.d, 0, none⟩ = some c.fv := N4.at5.cells.cell 0 rfl
        rw [HFV.out] at h1
        exact h1
      have p1 : w4.cell? ⟨fg, F * 2, none⟩ = some (.slice fa L fk) := by
        have h1 := ownN_only (ownN_base (HFIL.out) (Nat.zero_le _)) k4' (fun _ _ f => f)
        have h2 := h1.cellAt (F * 2) (by have := HFN.out; omega)
        rw [h2]
        exact HFC.out
      have p3 := N4.op.cell 3 rfl
      have r0 : w5.cell? ⟨c.d, 0, none⟩ = some (.slice (some ⟨fg, 0, none⟩) NF fcap) := by
        have h1 : w5.cell? ⟨c.d, 0, none⟩ = some c.fv := N05.at5.cells.cell 0 rfl
        rw [HFV.out] at h1
        exact h1
      have r1 : w5.cell? ⟨fg, F * 2, none⟩ = some (.slice fa L fk) := by
        have h1 := ownN_only (ownN_base (HFIL.out) (Nat.zero_le _)) k5 (fun _ _ f => f)
        have h2 := h1.cellAt (F * 2) (by have := HFN.out; omega)
        rw [h2]
        exact HFC.out
      have r3 := N05.op.cell 3 rfl
      have fz5 : w5.frozen? ⟨fg, F * 2, none⟩ = false := (ownN_only (ownN_base (HFIL.out) (Nat.zero_le _)) k5 (fun _ _ f => f)).frozenAt _
      have HMD : Hid (m.count.done ⟨1, n, t, bs⟩ = { m.count with files := m.count.files.set F ⟨FB ++ bs, c.fs[F].2.sure⟩ }) := by
        show ({ m.count with files := m.count.files.set ((DD.look m.count.dir n).getD 0) ⟨(m.count.fileAt ((DD.look m.count.dir n).getD 0)).b ++ bs, (m.count.fileAt ((DD.look m.count.dir n).getD 0)).sure⟩ } : DModel) = _
        rw [HLK.out]
        show ({ m.count with files := m.count.files.set F ⟨(m.count.fileAt F).b ++ bs, (m.count.fileAt F).sure⟩ } : DModel) = _
        rw [hFB, hfile]
      clear N4 N05 o5 g5 o4 o4b k4 k4' k5 hsq hbl zo z2 hlens hfile hFB hfv
      go_wp2_with fail
      refine wp_region_noPanic ?_
      refine wp_region_last (L := 19) (S := fun w' => w'.cell? ⟨c.d, 0, none⟩ = some (.slice (some ⟨fg, 0, none⟩) NF fcap) ∧ w'.cell? ⟨fg, F * 2, none⟩ = some (.slice fa L fk) ∧ w'.cell? ⟨w.heap.size, 3, none⟩ = some (.slice ba B bc)) (by kernel_rfl) ?_
      have hS : (fun w' : World => w'.cell? ⟨c.d, 0, none⟩ = some (.slice (some ⟨fg, 0, none⟩) NF fcap) ∧ w'.cell? ⟨fg, F * 2, none⟩ = some (.slice fa L fk) ∧ w'.cell? ⟨w.heap.size, 3, none⟩ = some (.slice ba B bc)) wq.drew := ⟨x0, z0, y3⟩
      refine wpAnyL_take (i := 0) (v := .pointer (some ⟨c.d, 0, none⟩)) rfl (by kernel_rfl) (by kernel_rfl) (by kernel_rfl) (by kernel_rfl) (by kernel_rfl) (fun _ _ _ h => h) (Or.inl ⟨by rfl, ?_⟩) hS ?_
      · (intro w' hSw; go_simp)
      go_frame
      refine wpAnyL_take (i := 1) (v := .pointer (some ⟨c.d, 0, none⟩)) rfl (by kernel_rfl) (by kernel_rfl) (by kernel_rfl) (by kernel_rfl) (by kernel_rfl) (fun _ _ _ h => h) (Or.inl ⟨by rfl, ?_⟩) hS ?_
      · (intro w' hSw; go_simp)
      go_frame
      refine wpAnyL_take (i := 2) (v := .pointer (some ⟨c.d, 0, none⟩)) rfl (by kernel_rfl) (by kernel_rfl) (by kernel_rfl) (by kernel_rfl) (by kernel_rfl) (fun _ _ _ h => h) (Or.inl ⟨by rfl, ?_⟩) hS ?_
      · (intro w' hSw; go_simp)
      go_frame
      refine wpAnyL_take (i := 3) (v := .slice (some ⟨fg, 0, none⟩) NF fcap) rfl (by kernel_rfl) (by kernel_rfl) (by kernel_rfl) (by kernel_rfl) (by kernel_rfl) (fun _ _ _ h => h) (Or.inl ⟨by rfl, ?_⟩) hS ?_
      · (intro w' hSw; go_simp)
      go_frame
      refine wpAnyL_take (i := 4) (v := .int .i64 (F : Int)) rfl (by kernel_rfl) (by kernel_rfl) (by kernel_rfl) (by kernel_rfl) (by kernel_rfl) (fun _ _ _ h => h) (Or.inl ⟨by rfl, ?_⟩) hS ?_
      · (intro w' hSw; go_simp)
      go_frame
      refine wpAnyL_take (i := 5) (v := .pointer (some ⟨c.d, 0, none⟩)) rfl (by kernel_rfl) (by kernel_rfl) (by kernel_rfl) (by kernel_rfl) (by kernel_rfl) (fun _ _ _ h => h) (Or.inl ⟨by rfl, ?_⟩) hS ?_
      · (intro w' hSw; go_simp)
      go_frame
      refine wpAnyL_take (i := 6) (v := .pointer (some ⟨c.d, 0, none⟩)) rfl (by kernel_rfl) (by kernel_rfl) (by kernel_rfl) (by kernel_rfl) (by kernel_rfl) (fun _ _ _ h => h) (Or.inl ⟨by rfl, ?_⟩) hS ?_
      · (intro w' hSw; go_simp)
      go_frame
      refine wpAnyL_take (i := 7) (v := .pointer (some ⟨c.d, 0, none⟩)) rfl (by kernel_rfl) (by kernel_rfl) (by kernel_rfl) (by kernel_rfl) (by kernel_rfl) (fun _ _ _ h => h) (Or.inl ⟨by rfl, ?_⟩) hS ?_
      · (intro w' hSw; go_simp)
      go_frame
      refine wpAnyL_take (i := 8) (v := .slice (some ⟨fg, 0, none⟩) NF fcap) rfl (by kernel_rfl) (by kernel_rfl) (by kernel_rfl) (by kernel_rfl) (by kernel_rfl) (fun _ _ _ h => h) (Or.inl ⟨by rfl, ?_⟩) hS ?_
      · (intro w' hSw; go_simp)
      go_frame
      refine wpAnyL_take (i := 9) (v := .int .i64 (F : Int)) rfl (by kernel_rfl) (by kernel_rfl) (by kernel_rfl) (by kernel_rfl) (by kernel_rfl) (fun _ _ _ h => h) (Or.inl ⟨by rfl, ?_⟩) hS ?_
      · (intro w' hSw; go_simp)
      go_frame
      refine wpAnyL_take (i := 10) (v := .pointer (some ⟨fg, F * 2, none⟩)) rfl (by kernel_rfl) (by kernel_rfl) (by kernel_rfl) (by kernel_rfl) (by kernel_rfl) (fun _ _ _ h => h) (Or.inl ⟨by rfl, ?_⟩) hS ?_
      · (intro w' hSw; go_simp)
      go_frame
      refine wpAnyL_take (i := 11) (v := .pointer (some ⟨fg, F * 2, none⟩)) rfl (by kernel_rfl) (by kernel_rfl) (by kernel_rfl) (by kernel_rfl) (by kernel_rfl) (fun _ _ _ h => h) (Or.inl ⟨by rfl, ?_⟩) hS ?_
      · (intro w' hSw; go_simp)
      go_frame
      refine wpAnyL_take (i := 12) (v := .slice fa L fk) rfl (by kernel_rfl) (by kernel_rfl) (by kernel_rfl) (by kernel_rfl) (by kernel_rfl) (fun _ _ _ h => h) (Or.inl ⟨by rfl, ?_⟩) hS ?_
      · (intro w' hSw; go_simp)
      go_frame
      refine wpAnyL_take (i := 14) (v := .pointer (some ⟨w.heap.size, 3, none⟩)) rfl (by kernel_rfl) (by kernel_rfl) (by kernel_rfl) (by kernel_rfl) (by kernel_rfl) (fun _ _ _ h => h) (Or.inl ⟨by rfl, ?_⟩) hS ?_
      · (intro w' hSw; go_simp)
      go_frame
      refine wpAnyL_take (i := 15) (v := .slice ba B bc) rfl (by kernel_rfl) (by kernel_rfl) (by kernel_rfl) (by kernel_rfl) (by kernel_rfl) (fun _ _ _ h => h) (Or.inl ⟨by rfl, ?_⟩) hS ?_
      · (intro w' hSw; go_simp)
      go_frame
      refine wpAnyL_one (i := 13) (by kernel_rfl) rfl rfl ?_
      simp only [Go.wp_at_succ, Go.wp_at_zero]
      refine wp_append_run (.const (.slice none 0 0)) (.tmp 149) 29 rfl (.slice none 0 0) (.slice fa L fk) rfl (by simp [Act.eval]) R1 ?_
      refine ⟨⟨p0, p1, p3⟩, ?_⟩
      go_frame
      refine wpAnyL_one (i := 16) (by kernel_rfl) rfl rfl ?_
      simp only [Go.wp_at_succ, Go.wp_at_zero]
      refine wp_append_run (.tmp 150) (.tmp 152) 29 rfl (.slice ra L rcap) (.slice ba B bc) (by simp [Act.eval]) (by simp [Act.eval]) R2 ?_
      refine ⟨⟨r0, r1, r3⟩, ?_⟩
      go_frame
      refine wpAnyL_one (i := 17) (by kernel_rfl) rfl rfl ?_
      go_simp
      refine wpAnyL_one (i := 18) (by kernel_rfl) rfl rfl ?_
      go_simp
      refine wpAnyL_last (by kernel_rfl) (by kernel_rfl) rfl rfl ?_
      go_simp
      refine NoPanic.normal ?_
      clear hS
      go_wp2_with fail
      go_ret
      exact Now.post N5.out HE.out HMD.out.symm
  | some a0 =>
    obtain ⟨a, rfl⟩ : ∃ a, a0 = a + 1 := ⟨a0 - 1, by have : a0 ≠ 0 := fun e => hfa (by rw [hFa, e]); omega⟩
    have haa := hab _ hFa
    cases hFu : m.fuse with
    | none =>
      have MID := Hid.mk (mid_sn H.out hk2 hop hFa hFu)
      rw [hFa] at x7
      rw [hFu] at x6
      unfold laidI at x6 x7
      clear h2 hk2 hop
      go_wp2_with fail
      generalize (w2.setCell ⟨c.d, 7, none⟩ (.int .i64 (a : Int))).setCell ⟨c.d, 8, none⟩ (.int .i64 ((m.steps : Int) + 1)) = w3 at MID ⊢
      clear x6 x7 x8 f6 f7 f8
      have h3 := MID.out.at3
      obtain ⟨da, dc, hdv⟩ := ownN_slice h3.dir
      obtain ⟨M, hM⟩ : ∃ M, m.count.dir.length = M := ⟨_, rfl⟩
      rw [hM] at hdv
      have hMl : M ≤ 10000 := by rw [← hM]; exact HD0.out
      have x1 : w3.cell? ⟨c.d, 1, none⟩ = some (.slice da M dc) := by
        have := h3.cells.cell 1 rfl
        rw [hdv] at this
        exact this
      have y0 := MID.out.op.cell 0 rfl
      have y1 := MID.out.op.cell 1 rfl
      have hFind : Hid (∀ j, Calls Try.prog 36 #[.slice da M dc, .string ⟨n.toArray⟩] (w3.drewN j) fun e w' => e = .returned (.int .i64 (fidx m.count.dir n)) ∧ w' = w3.drewN j) := fun j => by
        have := rfind_any (h3.stay (Kept.drewN' (Only.refl _ _) j)).dir.src (show m.count.dir.length ≤ 1000000 by omega) n
        rw [hdv] at this
        exact this
      have HDV := Hid.mk hdv
      have HM := Hid.mk hM
      clear hdv hM
      go_quiet ((go_at_call 36; exact Calls.quiet_of_same (hFind.out _)))
      rcases fidx_look m.count.dir n with ⟨hl, hi⟩ | ⟨i, hi', hi, hl⟩
      · exfalso
        have h6 := HO.out
        have hl2 : DD.look m.dir n = none := hl
        change (match DD.look m.dir n with | none => 6 | some f => if 16777216 < (m.fileAt f).b.length + bs.length then 2 else if m.quota < m.used + bs.length then 11 else 0) = 0 at h6
        rw [hl2] at h6
        cases h6
      rw [hi]
      have hiM : i < M := by have := HM.out; omega
      have hes : EntSrc w3 (.slice da M dc) m.count.dir := by
        have := h3.dir.src
        rw [HDV.out] at this
        exact this
      obtain ⟨F, hF2⟩ : ∃ F, m.count.dir[i].2 = F := ⟨_, rfl⟩
      rw [hF2] at hl
      have hFl : F < m.count.files.length := by rw [← hF2]; exact h3.dirF _ (List.getElem_mem hi')
      have HLK := Hid.mk hl
      have HFl := Hid.mk hFl
      have hed : EntSrc (w3.drewN nq) (.slice da M dc) m.count.dir := hes.stay (Kept.drewN' (Only.refl _ w3) nq)
      obtain ⟨b1, o1, hda, e0, e1⟩ := hed.cell HM.out i hiM
      subst hda
      rw [hF2] at e1
      clear hes hed hF2 e0 hi hl hFl
      have N0 := Hid.mk ((Now.start H.out MID.out).stay (Kept.drewN' (Only.refl (fun _ => False) w3) nq))
      have hac : Hid (c.ac.length ≤ 100000) := by have := HAC.out; have e := congrArg List.length N0.out.at5.acm; rw [List.length_map] at e; show _ ≤ _; rw [e]; exact this
      clear h3 x1 y0 y1 hFind hlt
      generalize w3.drewN nq = wq at N0 e1 ⊢
      have hcd := N0.out.at5.cells
      have hop := N0.out.op
      have hl1 := hcd.lt
      have hl2 := hop.lt
      have x1 : wq.cell? ⟨c.d, 1, none⟩ = some (.slice (some ⟨b1, o1, none⟩) M dc) := by
        have := hcd.cell 1 rfl
        rw [HDV.out] at this
        exact this
      have y0 := hop.cell 0 rfl
      have y1 := hop.cell 1 rfl
      have y2 := hop.cell 2 rfl
      obtain ⟨fg, fcap, fa, fk, hfv, z0, zo, z2⟩ := N0.out.at5.bytesAt F HFl.out
      have hfnl : F < c.fs.length := by have := N0.out.at5.nf; have := HFl.out; omega
      have hfile := N0.out.at5.fileAt F hfnl
      have hlens := N0.out.at5.lens _ (List.getElem_mem hfnl)
      obtain ⟨FB, hFB⟩ : ∃ FB, (m.count.fileAt F).b = FB := ⟨_, rfl⟩
      obtain ⟨L, hL⟩ : ∃ L, FB.length = L := ⟨_, rfl⟩
      rw [hFB, hL] at z0 zo
      have hLs : Hid (c.fs[F].2.sure ≤ L) := by have := hlens.2; rw [← hfile, hFB, hL] at this; rw [← hfile]; exact this
      have hLB : Hid (L + B ≤ 16777216) := by
        have h6 := HO.out
        have hlk : DD.look m.dir n = some F := HLK.out
        change (match DD.look m.dir n with | none => 6 | some f => if 16777216 < (m.fileAt f).b.length + bs.length then 2 else if m.quota < m.used + bs.length then 11 else 0) = 0 at h6
        rw [hlk] at h6
        change (if 16777216 < (m.fileAt F).b.length + bs.length then 2 else _) = 0 at h6
        have hb2 := HB.out
        have hf2 : (m.fileAt F).b.length = L := by rw [← hL, ← hFB]; rfl
        rw [hb2, hf2] at h6
        show _ ≤ _
        by_cases hov : 16777216 < L + B
        · rw [if_pos hov] at h6
          cases h6
        · omega
      obtain ⟨NF, hNF⟩ : ∃ NF, c.fs.length = NF := ⟨_, rfl⟩
      rw [hNF] at hfv
      have x0 : wq.cell? ⟨c.d, 0, none⟩ = some (.slice (some ⟨fg, 0, none⟩) NF fcap) := by
        have h1 : wq.cell? ⟨c.d, 0, none⟩ = some c.fv := hcd.cell 0 rfl
        rw [hfv] at h1
        exact h1
      have hFN : F < NF := by omega
      have y3 := hop.cell 3 rfl
      have HFV := Hid.mk hfv
      have HFIL : Hid (wq.ownsRow 0 70 2 (.slice (some ⟨fg, 0, none⟩) NF fcap) NF (filL c.fs)) := by
        have := N0.out.at5.files
        rw [hfv, hNF] at this
        exact this
      have HFN := Hid.mk hFN
      have HFC : Hid ((filL c.fs)[F * 2]? = some (.slice fa L fk)) := by
        show _ = _
        rw [← HFIL.out.cellAt (F * 2) (by omega)]
        exact z0
      have hsq := SrcOf.apart2 HSRC.out N0.out.only HAP.out
      obtain ⟨ra, rcap, w4, R1, o4, k4⟩ := byte_copy (w := wq.drew) ((own_src zo).stay (Only.refl _ _).drew) (by rw [hL]; have := hLB.out; omega)
      rw [hL] at R1 o4
      have k4' : Kept wq w4 := (Only.refl (fun _ => False) wq).drew.trans k4 (fun _ _ f => f)
      have o4b := o4
      rw [← hL] at o4b
      obtain ⟨v5, w5, R2, o5, g5, _⟩ := byte_append (w := w4) (B := wq.heap.size) (l := FB) (q := bs) o4b (Lys.SrcOf.stay hsq k4') (by have := HB.out; have := hLB.out; omega) k4'.size
      rw [hL] at R2 g5
      have k5 : Kept wq w5 := k4'.trans ((Only.refl (fun k => (Value.slice ra L rcap).ownBlock = some k) w4).grown g5 (fun j hj _ => hj)) (fun j hj e => absurd hj (by have := (o4.lt j e).1; have h7 : wq.drew.heap.size = wq.heap.size := rfl; omega))
      have hbl : (FB ++ bs).length ≤ 16777216 := by rw [List.length_append, hL, HB.out]; exact hLB.out
      have N5 := Hid.mk (Now.bytes N0.out hfnl k5 o5 hbl (by rw [List.length_append, hL]; have := hLs.out; omega) (by rw [hfv, hNF]))
      have hlen5 : (FB ++ bs).length = L + B := by rw [List.length_append, hL, HB.out]
      obtain ⟨a5, cp5, e5⟩ := own_slice o5
      subst e5
      rw [hlen5] at R2 N5
      have N4 := N0.out.stay k4'
      have N05 := N0.out.stay k5
      have p0 : w4.cell? ⟨c.d, 0, none⟩ = some (.slice (some ⟨fg, 0, none⟩) NF fcap) := by
        have h1 : w4.cell? ⟨c.d, 0, none⟩ = some c.fv := N4.at5.cells.cell 0 rfl
        rw [HFV.out] at h1
        exact h1
      have p1 : w4.cell? ⟨fg, F * 2, none⟩ = some (.slice fa L fk) := by
        have h1 := ownN_only (ownN_base (HFIL.out) (Nat.zero_le _)) k4' (fun _ _ f => f)
        have h2 := h1.cellAt (F * 2) (by have := HFN.out; omega)
        rw [h2]
        exact HFC.out
      have p3 := N4.op.cell 3 rfl
      have r0 : w5.cell? ⟨c.d, 0, none⟩ = some (.slice (some ⟨fg, 0, none⟩) NF fcap) := by
        have h1 : w5.cell? ⟨c.d, 0, none⟩ = some c.fv := N05.at5.cells.cell 0 rfl
        rw [HFV.out] at h1
        exact h1
      have r1 : w5.cell? ⟨fg, F * 2, none⟩ = some (.slice fa L fk) := by
        have h1 := ownN_only (ownN_base (HFIL.out) (Nat.zero_le _)) k5 (fun _ _ f => f)
        have h2 := h1.cellAt (F * 2) (by have := HFN.out; omega)
        rw [h2]
        exact HFC.out
      have r3 := N05.op.cell 3 rfl
      have fz5 : w5.frozen? ⟨fg, F * 2, none⟩ = false := (ownN_only (ownN_base (HFIL.out) (Nat.zero_le _)) k5 (fun _ _ f => f)).frozenAt _
      have HMD : Hid (m.count.done ⟨1, n, t, bs⟩ = { m.count with files := m.count.files.set F ⟨FB ++ bs, c.fs[F].2.sure⟩ }) := by
        show ({ m.count with files := m.count.files.set ((DD.look m.count.dir n).getD 0) ⟨(m.count.fileAt ((DD.look m.count.dir n).getD 0)).b ++ bs, (m.count.fileAt ((DD.look m.count.dir n).getD 0)).sure⟩ } : DModel) = _
        rw [HLK.out]
        show ({ m.count with files := m.count.files.set F ⟨(m.count.fileAt F).b ++ bs, (m.count.fileAt F).sure⟩ } : DModel) = _
        rw [hFB, hfile]
      clear N4 N05 o5 g5 o4 o4b k4 k4' k5 hsq hbl zo z2 hlens hfile hFB hfv
      go_wp2_with fail
      refine wp_region_noPanic ?_
      refine wp_region_last (L := 19) (S := fun w' => w'.cell? ⟨c.d, 0, none⟩ = some (.slice (some ⟨fg, 0, none⟩) NF fcap) ∧ w'.cell? ⟨fg, F * 2, none⟩ = some (.slice fa L fk) ∧ w'.cell? ⟨w.heap.size, 3, none⟩ = some (.slice ba B bc)) (by kernel_rfl) ?_
      have hS : (fun w' : World => w'.cell? ⟨c.d, 0, none⟩ = some (.slice (some ⟨fg, 0, none⟩) NF fcap) ∧ w'.cell? ⟨fg, F * 2, none⟩ = some (.slice fa L fk) ∧ w'.cell? ⟨w.heap.size, 3, none⟩ = some (.slice ba B bc)) wq.drew := ⟨x0, z0, y3⟩
      refine wpAnyL_take (i := 0) (v := .pointer (some ⟨c.d, 0, none⟩)) rfl (by kernel_rfl) (by kernel_rfl) (by kernel_rfl) (by kernel_rfl) (by kernel_rfl) (fun _ _ _ h => h) (Or.inl ⟨by rfl, ?_⟩) hS ?_
      · (intro w' hSw; go_simp)
      go_frame
      refine wpAnyL_take (i := 1) (v := .pointer (some ⟨c.d, 0, none⟩)) rfl (by kernel_rfl) (by kernel_rfl) (by kernel_rfl) (by kernel_rfl) (by kernel_rfl) (fun _ _ _ h => h) (Or.inl ⟨by rfl, ?_⟩) hS ?_
      · (intro w' hSw; go_simp)
      go_frame
      refine wpAnyL_take (i := 2) (v := .pointer (some ⟨c.d, 0, none⟩)) rfl (by kernel_rfl) (by kernel_rfl) (by kernel_rfl) (by kernel_rfl) (by kernel_rfl) (fun _ _ _ h => h) (Or.inl ⟨by rfl, ?_⟩) hS ?_
      · (intro w' hSw; go_simp)
      go_frame
      refine wpAnyL_take (i := 3) (v := .slice (some ⟨fg, 0, none⟩) NF fcap) rfl (by kernel_rfl) (by kernel_rfl) (by kernel_rfl) (by kernel_rfl) (by kernel_rfl) (fun _ _ _ h => h) (Or.inl ⟨by rfl, ?_⟩) hS ?_
      · (intro w' hSw; go_simp)
      go_frame
      refine wpAnyL_take (i := 4) (v := .int .i64 (F : Int)) rfl (by kernel_rfl) (by kernel_rfl) (by kernel_rfl) (by kernel_rfl) (by kernel_rfl) (fun _ _ _ h => h) (Or.inl ⟨by rfl, ?_⟩) hS ?_
      · (intro w' hSw; go_simp)
      go_frame
      refine wpAnyL_take (i := 5) (v := .pointer (some ⟨c.d, 0, none⟩)) rfl (by kernel_rfl) (by kernel_rfl) (by kernel_rfl) (by kernel_rfl) (by kernel_rfl) (fun _ _ _ h => h) (Or.inl ⟨by rfl, ?_⟩) hS ?_
      · (intro w' hSw; go_simp)
      go_frame
      refine wpAnyL_take (i := 6) (v := .pointer (some ⟨c.d, 0, none⟩)) rfl (by kernel_rfl) (by kernel_rfl) (by kernel_rfl) (by kernel_rfl) (by kernel_rfl) (fun _ _ _ h => h) (Or.inl ⟨by rfl, ?_⟩) hS ?_
      · (intro w' hSw; go_simp)
      go_frame
      refine wpAnyL_take (i := 7) (v := .pointer (some ⟨c.d, 0, none⟩)) rfl (by kernel_rfl) (by kernel_rfl) (by kernel_rfl) (by kernel_rfl) (by kernel_rfl) (fun _ _ _ h => h) (Or.inl ⟨by rfl, ?_⟩) hS ?_
      · (intro w' hSw; go_simp)
      go_frame
      refine wpAnyL_take (i := 8) (v := .slice (some ⟨fg, 0, none⟩) NF fcap) rfl (by kernel_rfl) (by kernel_rfl) (by kernel_rfl) (by kernel_rfl) (by kernel_rfl) (fun _ _ _ h => h) (Or.inl ⟨by rfl, ?_⟩) hS ?_
      · (intro w' hSw; go_simp)
      go_frame
      refine wpAnyL_take (i := 9) (v := .int .i64 (F : Int)) rfl (by kernel_rfl) (by kernel_rfl) (by kernel_rfl) (by kernel_rfl) (by kernel_rfl) (fun _ _ _ h => h) (Or.inl ⟨by rfl, ?_⟩) hS ?_
      · (intro w' hSw; go_simp)
      go_frame
      refine wpAnyL_take (i := 10) (v := .pointer (some ⟨fg, F * 2, none⟩)) rfl (by kernel_rfl) (by kernel_rfl) (by kernel_rfl) (by kernel_rfl) (by kernel_rfl) (fun _ _ _ h => h) (Or.inl ⟨by rfl, ?_⟩) hS ?_
      · (intro w' hSw; go_simp)
      go_frame
      refine wpAnyL_take (i := 11) (v := .pointer (some ⟨fg, F * 2, none⟩)) rfl (by kernel_rfl) (by kernel_rfl) (by kernel_rfl) (by kernel_rfl) (by kernel_rfl) (fun _ _ _ h => h) (Or.inl ⟨by rfl, ?_⟩) hS ?_
      · (intro w' hSw; go_simp)
      go_frame
      refine wpAnyL_take (i := 12) (v := .slice fa L fk) rfl (by kernel_rfl) (by kernel_rfl) (by kernel_rfl) (by kernel_rfl) (by kernel_rfl) (fun _ _ _ h => h) (Or.inl ⟨by rfl, ?_⟩) hS ?_
      · (intro w' hSw; go_simp)
      go_frame
      refine wpAnyL_take (i := 14) (v := .pointer (some ⟨w.heap.size, 3, none⟩)) rfl (by kernel_rfl) (by kernel_rfl) (by kernel_rfl) (by kernel_rfl) (by kernel_rfl) (fun _ _ _ h => h) (Or.inl ⟨by rfl, ?_⟩) hS ?_
      · (intro w' hSw; go_simp)
      go_frame
      refine wpAnyL_take (i := 15) (v := .slice ba B bc) rfl (by kernel_rfl) (by kernel_rfl) (by kernel_rfl) (by kernel_rfl) (by kernel_rfl) (fun _ _ _ h => h) (Or.inl ⟨by rfl, ?_⟩) hS ?_
      · (intro w' hSw; go_simp)
      go_frame
      refine wpAnyL_one (i := 13) (by kernel_rfl) rfl rfl ?_
      simp only [Go.wp_at_succ, Go.wp_at_zero]
      refine wp_append_run (.const (.slice none 0 0)) (.tmp 149) 29 rfl (.slice none 0 0) (.slice fa L fk) rfl (by simp [Act.eval]) R1 ?_
      refine ⟨⟨p0, p1, p3⟩, ?_⟩
      go_frame
      refine wpAnyL_one (i := 16) (by kernel_rfl) rfl rfl ?_
      simp only [Go.wp_at_succ, Go.wp_at_zero]
      refine wp_append_run (.tmp 150) (.tmp 152) 29 rfl (.slice ra L rcap) (.slice ba B bc) (by simp [Act.eval]) (by simp [Act.eval]) R2 ?_
      refine ⟨⟨r0, r1, r3⟩, ?_⟩
      go_frame
      refine wpAnyL_one (i := 17) (by kernel_rfl) rfl rfl ?_
      go_simp
      refine wpAnyL_one (i := 18) (by kernel_rfl) rfl rfl ?_
      go_simp
      refine wpAnyL_last (by kernel_rfl) (by kernel_rfl) rfl rfl ?_
      go_simp
      refine NoPanic.normal ?_
      clear hS
      go_wp2_with fail
      go_ret
      exact Now.post N5.out HE.out HMD.out.symm
    | some b0 =>
      obtain ⟨b, rfl⟩ : ∃ b, b0 = b + 1 := ⟨b0 - 1, by have : b0 ≠ 0 := fun e => hf (by rw [hFu, e]); omega⟩
      have hbb := hfb _ hFu
      have MID := Hid.mk (mid_ss H.out hk2 hop hFa hFu)
      rw [hFa] at x7
      rw [hFu] at x6
      unfold laidI at x6 x7
      clear h2 hk2 hop
      go_wp2_with fail
      generalize ((w2.setCell ⟨c.d, 7, none⟩ (.int .i64 (a : Int))).setCell ⟨c.d, 6, none⟩ (.int .i64 (b : Int))).setCell ⟨c.d, 8, none⟩ (.int .i64 ((m.steps : Int) + 1)) = w3 at MID ⊢
      clear x6 x7 x8 f6 f7 f8
      have h3 := MID.out.at3
      obtain ⟨da, dc, hdv⟩ := ownN_slice h3.dir
      obtain ⟨M, hM⟩ : ∃ M, m.count.dir.length = M := ⟨_, rfl⟩
      rw [hM] at hdv
      have hMl : M ≤ 10000 := by rw [← hM]; exact HD0.out
      have x1 : w3.cell? ⟨c.d, 1, none⟩ = some (.slice da M dc) := by
        have := h3.cells.cell 1 rfl
        rw [hdv] at this
        exact this
      have y0 := MID.out.op.cell 0 rfl
      have y1 := MID.out.op.cell 1 rfl
      have hFind : Hid (∀ j, Calls Try.prog 36 #[.slice da M dc, .string ⟨n.toArray⟩] (w3.drewN j) fun e w' => e = .returned (.int .i64 (fidx m.count.dir n)) ∧ w' = w3.drewN j) := fun j => by
        have := rfind_any (h3.stay (Kept.drewN' (Only.refl _ _) j)).dir.src (show m.count.dir.length ≤ 1000000 by omega) n
        rw [hdv] at this
        exact this
      have HDV := Hid.mk hdv
      have HM := Hid.mk hM
      clear hdv hM
      go_quiet ((go_at_call 36; exact Calls.quiet_of_same (hFind.out _)))
      rcases fidx_look m.count.dir n with ⟨hl, hi⟩ | ⟨i, hi', hi, hl⟩
      · exfalso
        have h6 := HO.out
        have hl2 : DD.look m.dir n = none := hl
        change (match DD.look m.dir n with | none => 6 | some f => if 16777216 < (m.fileAt f).b.length + bs.length then 2 else if m.quota < m.used + bs.length then 11 else 0) = 0 at h6
        rw [hl2] at h6
        cases h6
      rw [hi]
      have hiM : i < M := by have := HM.out; omega
      have hes : EntSrc w3 (.slice da M dc) m.count.dir := by
        have := h3.dir.src
        rw [HDV.out] at this
        exact this
      obtain ⟨F, hF2⟩ : ∃ F, m.count.dir[i].2 = F := ⟨_, rfl⟩
      rw [hF2] at hl
      have hFl : F < m.count.files.length := by rw [← hF2]; exact h3.dirF _ (List.getElem_mem hi')
      have HLK := Hid.mk hl
      have HFl := Hid.mk hFl
      have hed : EntSrc (w3.drewN nq) (.slice da M dc) m.count.dir := hes.stay (Kept.drewN' (Only.refl _ w3) nq)
      obtain ⟨b1, o1, hda, e0, e1⟩ := hed.cell HM.out i hiM
      subst hda
      rw [hF2] at e1
      clear hes hed hF2 e0 hi hl hFl
      have N0 := Hid.mk ((Now.start H.out MID.out).stay (Kept.drewN' (Only.refl (fun _ => False) w3) nq))
      have hac : Hid (c.ac.length ≤ 100000) := by have := HAC.out; have e := congrArg List.length N0.out.at5.acm; rw [List.length_map] at e; show _ ≤ _; rw [e]; exact this
      clear h3 x1 y0 y1 hFind hlt
      generalize w3.drewN nq = wq at N0 e1 ⊢
      have hcd := N0.out.at5.cells
      have hop := N0.out.op
      have hl1 := hcd.lt
      have hl2 := hop.lt
      have x1 : wq.cell? ⟨c.d, 1, none⟩ = some (.slice (some ⟨b1, o1, none⟩) M dc) := by
        have := hcd.cell 1 rfl
        rw [HDV.out] at this
        exact this
      have y0 := hop.cell 0 rfl
      have y1 := hop.cell 1 rfl
      have y2 := hop.cell 2 rfl
      obtain ⟨fg, fcap, fa, fk, hfv, z0, zo, z2⟩ := N0.out.at5.bytesAt F HFl.out
      have hfnl : F < c.fs.length := by have := N0.out.at5.nf; have := HFl.out; omega
      have hfile := N0.out.at5.fileAt F hfnl
      have hlens := N0.out.at5.lens _ (List.getElem_mem hfnl)
      obtain ⟨FB, hFB⟩ : ∃ FB, (m.count.fileAt F).b = FB := ⟨_, rfl⟩
      obtain ⟨L, hL⟩ : ∃ L, FB.length = L := ⟨_, rfl⟩
      rw [hFB, hL] at z0 zo
      have hLs : Hid (c.fs[F].2.sure ≤ L) := by have := hlens.2; rw [← hfile, hFB, hL] at this; rw [← hfile]; exact this
      have hLB : Hid (L + B ≤ 16777216) := by
        have h6 := HO.out
        have hlk : DD.look m.dir n = some F := HLK.out
        change (match DD.look m.dir n with | none => 6 | some f => if 16777216 < (m.fileAt f).b.length + bs.length then 2 else if m.quota < m.used + bs.length then 11 else 0) = 0 at h6
        rw [hlk] at h6
        change (if 16777216 < (m.fileAt F).b.length + bs.length then 2 else _) = 0 at h6
        have hb2 := HB.out
        have hf2 : (m.fileAt F).b.length = L := by rw [← hL, ← hFB]; rfl
        rw [hb2, hf2] at h6
        show _ ≤ _
        by_cases hov : 16777216 < L + B
        · rw [if_pos hov] at h6
          cases h6
        · omega
      obtain ⟨NF, hNF⟩ : ∃ NF, c.fs.length = NF := ⟨_, rfl⟩
      rw [hNF] at hfv
      have x0 : wq.cell? ⟨c.d, 0, none⟩ = some (.slice (some ⟨fg, 0, none⟩) NF fcap) := by
        have h1 : wq.cell? ⟨c.d, 0, none⟩ = some c.fv := hcd.cell 0 rfl
        rw [hfv] at h1
        exact h1
      have hFN : F < NF := by omega
      have y3 := hop.cell 3 rfl
      have HFV := Hid.mk hfv
      have HFIL : Hid (wq.ownsRow 0 70 2 (.slice (some ⟨fg, 0, none⟩) NF fcap) NF (filL c.fs)) := by
        have := N0.out.at5.files
        rw [hfv, hNF] at this
        exact this
      have HFN := Hid.mk hFN
      have HFC : Hid ((filL c.fs)[F * 2]? = some (.slice fa L fk)) := by
        show _ = _
        rw [← HFIL.out.cellAt (F * 2) (by omega)]
        exact z0
      have hsq := SrcOf.apart2 HSRC.out N0.out.only HAP.out
      obtain ⟨ra, rcap, w4, R1, o4, k4⟩ := byte_copy (w := wq.drew) ((own_src zo).stay (Only.refl _ _).drew) (by rw [hL]; have := hLB.out; omega)
      rw [hL] at R1 o4
      have k4' : Kept wq w4 := (Only.refl (fun _ => False) wq).drew.trans k4 (fun _ _ f => f)
      have o4b := o4
      rw [← hL] at o4b
      obtain ⟨v5, w5, R2, o5, g5, _⟩ := byte_append (w := w4) (B := wq.heap.size) (l := FB) (q := bs) o4b (Lys.SrcOf.stay hsq k4') (by have := HB.out; have := hLB.out; omega) k4'.size
      rw [hL] at R2 g5
      have k5 : Kept wq w5 := k4'.trans ((Only.refl (fun k => (Value.slice ra L rcap).ownBlock = some k) w4).grown g5 (fun j hj _ => hj)) (fun j hj e => absurd hj (by have := (o4.lt j e).1; have h7 : wq.drew.heap.size = wq.heap.size := rfl; omega))
      have hbl : (FB ++ bs).length ≤ 16777216 := by rw [List.length_append, hL, HB.out]; exact hLB.out
      have N5 := Hid.mk (Now.bytes N0.out hfnl k5 o5 hbl (by rw [List.length_append, hL]; have := hLs.out; omega) (by rw [hfv, hNF]))
      have hlen5 : (FB ++ bs).length = L + B := by rw [List.length_append, hL, HB.out]
      obtain ⟨a5, cp5, e5⟩ := own_slice o5
      subst e5
      rw [hlen5] at R2 N5
      have N4 := N0.out.stay k4'
      have N05 := N0.out.stay k5
      have p0 : w4.cell? ⟨c.d, 0, none⟩ = some (.slice (some ⟨fg, 0, none⟩) NF fcap) := by
        have h1 : w4.cell? ⟨c.d, 0, none⟩ = some c.fv := N4.at5.cells.cell 0 rfl
        rw [HFV.out] at h1
        exact h1
      have p1 : w4.cell? ⟨fg, F * 2, none⟩ = some (.slice fa L fk) := by
        have h1 := ownN_only (ownN_base (HFIL.out) (Nat.zero_le _)) k4' (fun _ _ f => f)
        have h2 := h1.cellAt (F * 2) (by have := HFN.out; omega)
        rw [h2]
        exact HFC.out
      have p3 := N4.op.cell 3 rfl
      have r0 : w5.cell? ⟨c.d, 0, none⟩ = some (.slice (some ⟨fg, 0, none⟩) NF fcap) := by
        have h1 : w5.cell? ⟨c.d, 0, none⟩ = some c.fv := N05.at5.cells.cell 0 rfl
        rw [HFV.out] at h1
        exact h1
      have r1 : w5.cell? ⟨fg, F * 2, none⟩ = some (.slice fa L fk) := by
        have h1 := ownN_only (ownN_base (HFIL.out) (Nat.zero_le _)) k5 (fun _ _ f => f)
        have h2 := h1.cellAt (F * 2) (by have := HFN.out; omega)
        rw [h2]
        exact HFC.out
      have r3 := N05.op.cell 3 rfl
      have fz5 : w5.frozen? ⟨fg, F * 2, none⟩ = false := (ownN_only (ownN_base (HFIL.out) (Nat.zero_le _)) k5 (fun _ _ f => f)).frozenAt _
      have HMD : Hid (m.count.done ⟨1, n, t, bs⟩ = { m.count with files := m.count.files.set F ⟨FB ++ bs, c.fs[F].2.sure⟩ }) := by
        show ({ m.count with files := m.count.files.set ((DD.look m.count.dir n).getD 0) ⟨(m.count.fileAt ((DD.look m.count.dir n).getD 0)).b ++ bs, (m.count.fileAt ((DD.look m.count.dir n).getD 0)).sure⟩ } : DModel) = _
        rw [HLK.out]
        show ({ m.count with files := m.count.files.set F ⟨(m.count.fileAt F).b ++ bs, (m.count.fileAt F).sure⟩ } : DModel) = _
        rw [hFB, hfile]
      clear N4 N05 o5 g5 o4 o4b k4 k4' k5 hsq hbl zo z2 hlens hfile hFB hfv
      go_wp2_with fail
      refine wp_region_noPanic ?_
      refine wp_region_last (L := 19) (S := fun w' => w'.cell? ⟨c.d, 0, none⟩ = some (.slice (some ⟨fg, 0, none⟩) NF fcap) ∧ w'.cell? ⟨fg, F * 2, none⟩ = some (.slice fa L fk) ∧ w'.cell? ⟨w.heap.size, 3, none⟩ = some (.slice ba B bc)) (by kernel_rfl) ?_
      have hS : (fun w' : World => w'.cell? ⟨c.d, 0, none⟩ = some (.slice (some ⟨fg, 0, none⟩) NF fcap) ∧ w'.cell? ⟨fg, F * 2, none⟩ = some (.slice fa L fk) ∧ w'.cell? ⟨w.heap.size, 3, none⟩ = some (.slice ba B bc)) wq.drew := ⟨x0, z0, y3⟩
      refine wpAnyL_take (i := 0) (v := .pointer (some ⟨c.d, 0, none⟩)) rfl (by kernel_rfl) (by kernel_rfl) (by kernel_rfl) (by kernel_rfl) (by kernel_rfl) (fun _ _ _ h => h) (Or.inl ⟨by rfl, ?_⟩) hS ?_
      · (intro w' hSw; go_simp)
      go_frame
      refine wpAnyL_take (i := 1) (v := .pointer (some ⟨c.d, 0, none⟩)) rfl (by kernel_rfl) (by kernel_rfl) (by kernel_rfl) (by kernel_rfl) (by kernel_rfl) (fun _ _ _ h => h) (Or.inl ⟨by rfl, ?_⟩) hS ?_
      · (intro w' hSw; go_simp)
      go_frame
      refine wpAnyL_take (i := 2) (v := .pointer (some ⟨c.d, 0, none⟩)) rfl (by kernel_rfl) (by kernel_rfl) (by kernel_rfl) (by kernel_rfl) (by kernel_rfl) (fun _ _ _ h => h) (Or.inl ⟨by rfl, ?_⟩) hS ?_
      · (intro w' hSw; go_simp)
      go_frame
      refine wpAnyL_take (i := 3) (v := .slice (some ⟨fg, 0, none⟩) NF fcap) rfl (by kernel_rfl) (by kernel_rfl) (by kernel_rfl) (by kernel_rfl) (by kernel_rfl) (fun _ _ _ h => h) (Or.inl ⟨by rfl, ?_⟩) hS ?_
      · (intro w' hSw; go_simp)
      go_frame
      refine wpAnyL_take (i := 4) (v := .int .i64 (F : Int)) rfl (by kernel_rfl) (by kernel_rfl) (by kernel_rfl) (by kernel_rfl) (by kernel_rfl) (fun _ _ _ h => h) (Or.inl ⟨by rfl, ?_⟩) hS ?_
      · (intro w' hSw; go_simp)
      go_frame
      refine wpAnyL_take (i := 5) (v := .pointer (some ⟨c.d, 0, none⟩)) rfl (by kernel_rfl) (by kernel_rfl) (by kernel_rfl) (by kernel_rfl) (by kernel_rfl) (fun _ _ _ h => h) (Or.inl ⟨by rfl, ?_⟩) hS ?_
      · (intro w' hSw; go_simp)
      go_frame
      refine wpAnyL_take (i := 6) (v := .pointer (some ⟨c.d, 0, none⟩)) rfl (by kernel_rfl) (by kernel_rfl) (by kernel_rfl) (by kernel_rfl) (by kernel_rfl) (fun _ _ _ h => h) (Or.inl ⟨by rfl, ?_⟩) hS ?_
      · (intro w' hSw; go_simp)
      go_frame
      refine wpAnyL_take (i := 7) (v := .pointer (some ⟨c.d, 0, none⟩)) rfl (by kernel_rfl) (by kernel_rfl) (by kernel_rfl) (by kernel_rfl) (by kernel_rfl) (fun _ _ _ h => h) (Or.inl ⟨by rfl, ?_⟩) hS ?_
      · (intro w' hSw; go_simp)
      go_frame
      refine wpAnyL_take (i := 8) (v := .slice (some ⟨fg, 0, none⟩) NF fcap) rfl (by kernel_rfl) (by kernel_rfl) (by kernel_rfl) (by kernel_rfl) (by kernel_rfl) (fun _ _ _ h => h) (Or.inl ⟨by rfl, ?_⟩) hS ?_
      · (intro w' hSw; go_simp)
      go_frame
      refine wpAnyL_take (i := 9) (v := .int .i64 (F : Int)) rfl (by kernel_rfl) (by kernel_rfl) (by kernel_rfl) (by kernel_rfl) (by kernel_rfl) (fun _ _ _ h => h) (Or.inl ⟨by rfl, ?_⟩) hS ?_
      · (intro w' hSw; go_simp)
      go_frame
      refine wpAnyL_take (i := 10) (v := .pointer (some ⟨fg, F * 2, none⟩)) rfl (by kernel_rfl) (by kernel_rfl) (by kernel_rfl) (by kernel_rfl) (by kernel_rfl) (fun _ _ _ h => h) (Or.inl ⟨by rfl, ?_⟩) hS ?_
      · (intro w' hSw; go_simp)
      go_frame
      refine wpAnyL_take (i := 11) (v := .pointer (some ⟨fg, F * 2, none⟩)) rfl (by kernel_rfl) (by kernel_rfl) (by kernel_rfl) (by kernel_rfl) (by kernel_rfl) (fun _ _ _ h => h) (Or.inl ⟨by rfl, ?_⟩) hS ?_
      · (intro w' hSw; go_simp)
      go_frame
      refine wpAnyL_take (i := 12) (v := .slice fa L fk) rfl (by kernel_rfl) (by kernel_rfl) (by kernel_rfl) (by kernel_rfl) (by kernel_rfl) (fun _ _ _ h => h) (Or.inl ⟨by rfl, ?_⟩) hS ?_
      · (intro w' hSw; go_simp)
      go_frame
      refine wpAnyL_take (i := 14) (v := .pointer (some ⟨w.heap.size, 3, none⟩)) rfl (by kernel_rfl) (by kernel_rfl) (by kernel_rfl) (by kernel_rfl) (by kernel_rfl) (fun _ _ _ h => h) (Or.inl ⟨by rfl, ?_⟩) hS ?_
      · (intro w' hSw; go_simp)
      go_frame
      refine wpAnyL_take (i := 15) (v := .slice ba B bc) rfl (by kernel_rfl) (by kernel_rfl) (by kernel_rfl) (by kernel_rfl) (by kernel_rfl) (fun _ _ _ h => h) (Or.inl ⟨by rfl, ?_⟩) hS ?_
      · (intro w' hSw; go_simp)
      go_frame
      refine wpAnyL_one (i := 13) (by kernel_rfl) rfl rfl ?_
      simp only [Go.wp_at_succ, Go.wp_at_zero]
      refine wp_append_run (.const (.slice none 0 0)) (.tmp 149) 29 rfl (.slice none 0 0) (.slice fa L fk) rfl (by simp [Act.eval]) R1 ?_
      refine ⟨⟨p0, p1, p3⟩, ?_⟩
      go_frame
      refine wpAnyL_one (i := 16) (by kernel_rfl) rfl rfl ?_
      simp only [Go.wp_at_succ, Go.wp_at_zero]
      refine wp_append_run (.tmp 150) (.tmp 152) 29 rfl (.slice ra L rcap) (.slice ba B bc) (by simp [Act.eval]) (by simp [Act.eval]) R2 ?_
      refine ⟨⟨r0, r1, r3⟩, ?_⟩
      go_frame
      refine wpAnyL_one (i := 17) (by kernel_rfl) rfl rfl ?_
      go_simp
      refine wpAnyL_one (i := 18) (by kernel_rfl) rfl rfl ?_
      go_simp
      refine wpAnyL_last (by kernel_rfl) (by kernel_rfl) rfl rfl ?_
      go_simp
      refine NoPanic.normal ?_
      clear hS
      go_wp2_with fail
      go_ret
      exact Now.post N5.out HE.out HMD.out.symm
end
end Go.Proofs.Ytfmdnaagdhpcpaa
