/-
  Edone4.
-/
import Derived.Test.YtfmdnaagdhpcpaaQ18

/-
  The document's own disk: Do of kind 4, done.
-/
namespace Go.Proofs.Ytfmdnaagdhpcpaa
open Go.RowKit Go.Proofs.Lys Go.Maps Go.Shelf
set_option linter.unusedVariables false

section
variable {w : World} {c : RConc} {O : Nat → Prop} {m : DModel}

set_option maxRecDepth 100000 in
set_option maxHeartbeats 1600000 in
theorem rdone4 (h : RAt w c O m) (hd : m.dir.length ≤ 10000) (hnd : (m.dir.map (·.2)).Nodup) (n t bs : List UInt8) (ba : Option Addr) (bc : Nat) (hB : bs.length ≤ 1000000) (hsrc : SrcOf w (.slice ba bs.length bc) (bs.map bV)) (hoff : m.off = false) (hf : m.fuse ≠ some 0) (ho : m.own ⟨4, n, t, bs⟩ = 0) (hfa : m.fault ≠ some 0)
    (hst : m.steps ≤ 1000000000) (hac : m.acts.length ≤ 100000) (hfl : m.files.length ≤ 100000) (hfb : ∀ x, m.fuse = some x → x ≤ 9223372036854775807) (hab : ∀ x, m.fault = some x → x ≤ 9223372036854775807) : Calls Try.prog 12 #[.pointer (some ⟨c.d, 0, none⟩), .agg #[.int .i64 4, .string ⟨n.toArray⟩, .string ⟨t.toArray⟩, .slice ba bs.length bc]] w (RPost w c O m ⟨4, n, t, bs⟩) := by
  have H := Hid.mk h
  have k1 : Kept w (w.alloc (.cells #[.int .i64 4, .string ⟨n.toArray⟩, .string ⟨t.toArray⟩, .slice ba bs.length bc] 31)) := (Only.refl (fun _ => False) w).alloc _
  have hown := Hid.mk (rown_any (h.stay k1) hd hnd 4 n t bs ba bc (by decide) (by decide) hB)
  have HE : Hid (m.doOp ⟨4, n, t, bs⟩ = (0, m.count.done ⟨4, n, t, bs⟩)) := by show _ = _; rw [done_count]; exact do_done (m := m) (o := ⟨4, n, t, bs⟩) (show (0 : Int) ≤ 4 by decide) (show (4 : Int) ≤ 5 by decide) hoff hf ho hfa
  obtain ⟨B, hBl⟩ : ∃ B, bs.length = B := ⟨_, rfl⟩
  have HB := Hid.mk hBl
  have HO := Hid.mk ho
  have HD0 := Hid.mk hd
  have HSRC := Hid.mk hsrc
  rw [hBl, ho] at hown
  rw [hBl] at HSRC ⊢
  have x5 : w.cell? ⟨c.d, 5, none⟩ = some (.bool m.off) := h.cells.cell 5 rfl
  have x6 : w.cell? ⟨c.d, 6, none⟩ = some (.int .i64 (laidI m.fuse)) := h.cells.cell 6 rfl
  rw [hoff] at x5
  have d3 := fuse_ne m.fuse hf
  generalize hfz : laidI m.fuse = fz at x6 d3
  have hlt := h.cells.lt
  have hfz0 : ¬ fz = 0 := of_decide_eq_false d3
  have Hst := Hid.mk hst
  have HAC : Hid (m.count.acts.length ≤ 100000) := hac
  have HFL : Hid (m.count.files.length ≤ 100000) := hfl
  clear h k1 hBl ho hd hnd hsrc hst hac hfl
  go_enter Try.func12, Try.ntmps12
  go_wp2_with fail
  refine hown.out.mono ?_
  rintro e w2 ⟨rfl, k2⟩
  obtain ⟨hk2, hop⟩ := own_behind H.out k2
  have h2 := H.out.stay hk2
  clear x5 x6 k2 hown d3 hfz0
  have x6 : w2.cell? ⟨c.d, 6, none⟩ = some (.int .i64 (laidI m.fuse)) := h2.cells.cell 6 rfl
  have x7 : w2.cell? ⟨c.d, 7, none⟩ = some (.int .i64 (laidI m.fault)) := h2.cells.cell 7 rfl
  have x8 : w2.cell? ⟨c.d, 8, none⟩ = some (.int .i64 (m.steps : Int)) := h2.cells.cell 8 rfl
  have f6 : w2.frozen? ⟨c.d, 6, none⟩ = false := h2.cells.frozen 6
  have f7 : w2.frozen? ⟨c.d, 7, none⟩ = false := h2.cells.frozen 7
  have f8 : w2.frozen? ⟨c.d, 8, none⟩ = false := h2.cells.frozen 8
  have hst := Hst.out
  cases hFa : m.fault with
  | none =>
    cases hFu : m.fuse with
    | none =>
      have MID := Hid.mk (mid_nn H.out hk2 hop hFa hFu)
      rw [hFa] at x7
      rw [hFu] at x6
      unfold laidI at x6 x7
      clear h2 hk2 hop
      go_wp2_with fail
      generalize w2.setCell ⟨c.d, 8, none⟩ (.int .i64 ((m.steps : Int) + 1)) = w3 at MID ⊢
      clear x6 x7 x8 f6 f7 f8
      have h3 := MID.out.at3
      obtain ⟨da, dc, hdv⟩ := ownN_slice h3.dir
      obtain ⟨M, hM⟩ : ∃ M, m.count.dir.length = M := ⟨_, rfl⟩
      rw [hM] at hdv
      have hMl : M ≤ 10000 := by rw [← hM]; exact HD0.out
      have x1 : w3.cell? ⟨c.d, 1, none⟩ = some (.slice da M dc) := by
        have := h3.cells.cell 1 rfl
        rw [hdv] at this
        exact this
      have y0 := MID.out.op.cell 0 rfl
      have y1 := MID.out.op.cell 1 rfl
      have hFind : Hid (∀ j, Calls Try.prog 36 #[.slice da M dc, .string ⟨n.toArray⟩] (w3.drewN j) fun e w' => e = .returned (.int .i64 (fidx m.count.dir n)) ∧ w' = w3.drewN j) := fun j => by
        have := rfind_any (h3.stay (Kept.drewN' (Only.refl _ _) j)).dir.src (show m.count.dir.length ≤ 1000000 by omega) n
        rw [hdv] at this
        exact this
      have HDV := Hid.mk hdv
      have HM := Hid.mk hM
      clear hdv hM
      go_quiet ((go_at_call 36; exact Calls.quiet_of_same (hFind.out _)))
      generalize fidx m.count.dir n = fi
      have N0 := Hid.mk ((Now.start H.out MID.out).stay (Kept.drewN' (Only.refl (fun _ => False) w3) nq))
      have hac : Hid (c.ac.length ≤ 100000) := by have := HAC.out; have e := congrArg List.length N0.out.at5.acm; rw [List.length_map] at e; show _ ≤ _; rw [e]; exact this
      clear h3 x1 y0 y1 hFind hlt
      generalize w3.drewN nq = wq at N0 ⊢
      have hcd := N0.out.at5.cells
      have hop := N0.out.op
      have hl1 := hcd.lt
      have hl2 := hop.lt
      have x1 : wq.cell? ⟨c.d, 1, none⟩ = some (.slice da M dc) := by
        have := hcd.cell 1 rfl
        rw [HDV.out] at this
        exact this
      have y0 := hop.cell 0 rfl
      have y1 := hop.cell 1 rfl
      have y2 := hop.cell 2 rfl
      obtain ⟨aa, acap, hav⟩ := ownN_slice N0.out.at5.acts
      obtain ⟨A, hA⟩ : ∃ A, (c).ac.length = A := ⟨_, rfl⟩
      obtain ⟨g, gcap, w4, Hr, HC4, HO4, N1⟩ := Now.act N0.out ⟨2, n, [], 0⟩ hac.out
      rw [hav] at Hr
      rw [hA] at Hr N1 hav
      have x3 : wq.cell? ⟨c.d, 3, none⟩ = some (.slice aa A acap) := by
        have := hcd.cell 3 rfl
        rw [← hav]
        exact this
      have Hr' : Hid ((Builtin.append_ #[61, 61] 0 #[.slice aa A acap, .slice (some ⟨wq.heap.size, 0, none⟩) 1 1]).run Try.prog (wq.drew.alloc (.cells #[.int .i64 2, .string ⟨n.toArray⟩, .string ⟨#[]⟩, .int .i64 0] 73)) = .ok (.slice (some ⟨g, 0, none⟩) (A + 1) gcap) w4) := Hr
      clear Hr
      go_wp2_with fail
      refine wp_region_noPanic ?_
      refine wp_region_last (L := 12) (S := fun w' => w'.cell? ⟨c.d, 3, none⟩ = some (.slice aa A acap) ∧ w'.cell? ⟨w.heap.size, 1, none⟩ = some (.string ⟨n.toArray⟩)) (by kernel_rfl) ?_
      have hS : (fun w' : World => w'.cell? ⟨c.d, 3, none⟩ = some (.slice aa A acap) ∧ w'.cell? ⟨w.heap.size, 1, none⟩ = some (.string ⟨n.toArray⟩)) wq.drew := ⟨x3, y1⟩
      refine wpAnyL_take (i := 0) (v := .pointer (some ⟨c.d, 0, none⟩)) rfl (by kernel_rfl) (by kernel_rfl) (by kernel_rfl) (by kernel_rfl) (by kernel_rfl) (fun _ _ _ h => h) (Or.inl ⟨by rfl, ?_⟩) hS ?_
      · (intro w' hSw; go_simp)
      go_frame
      refine wpAnyL_take (i := 1) (v := .pointer (some ⟨c.d, 0, none⟩)) rfl (by kernel_rfl) (by kernel_rfl) (by kernel_rfl) (by kernel_rfl) (by kernel_rfl) (fun _ _ _ h => h) (Or.inl ⟨by rfl, ?_⟩) hS ?_
      · (intro w' hSw; go_simp)
      go_frame
      refine wpAnyL_take (i := 2) (v := .pointer (some ⟨c.d, 0, none⟩)) rfl (by kernel_rfl) (by kernel_rfl) (by kernel_rfl) (by kernel_rfl) (by kernel_rfl) (fun _ _ _ h => h) (Or.inl ⟨by rfl, ?_⟩) hS ?_
      · (intro w' hSw; go_simp)
      go_frame
      refine wpAnyL_take (i := 3) (v := .pointer (some ⟨c.d, 3, none⟩)) rfl (by kernel_rfl) (by kernel_rfl) (by kernel_rfl) (by kernel_rfl) (by kernel_rfl) (fun _ _ _ h => h) (Or.inl ⟨by rfl, ?_⟩) hS ?_
      · (intro w' hSw; go_simp)
      go_frame
      refine wpAnyL_take (i := 4) (v := .slice aa A acap) rfl (by kernel_rfl) (by kernel_rfl) (by kernel_rfl) (by kernel_rfl) (by kernel_rfl) (fun _ _ _ h => h) (Or.inl ⟨by rfl, ?_⟩) hS ?_
      · (intro w' hSw; go_simp)
      go_frame
      refine wpAnyL_take (i := 5) (v := .pointer (some ⟨w.heap.size, 1, none⟩)) rfl (by kernel_rfl) (by kernel_rfl) (by kernel_rfl) (by kernel_rfl) (by kernel_rfl) (fun _ _ _ h => h) (Or.inl ⟨by rfl, ?_⟩) hS ?_
      · (intro w' hSw; go_simp)
      go_frame
      refine wpAnyL_take (i := 6) (v := .string ⟨n.toArray⟩) rfl (by kernel_rfl) (by kernel_rfl) (by kernel_rfl) (by kernel_rfl) (by kernel_rfl) (fun _ _ _ h => h) (Or.inl ⟨by rfl, ?_⟩) hS ?_
      · (intro w' hSw; go_simp)
      go_frame
      refine wpAnyL_take (i := 7) (v := .agg #[.int .i64 2, .string ⟨n.toArray⟩, .string ⟨#[]⟩, .int .i64 0]) rfl (by kernel_rfl) (by kernel_rfl) (by kernel_rfl) (by kernel_rfl) (by kernel_rfl) (fun _ _ _ h => h) (Or.inl ⟨by rfl, ?_⟩) hS ?_
      · (intro w' hSw; go_simp)
      go_frame
      refine wpAnyL_one (i := 8) (by kernel_rfl) rfl rfl ?_
      go_simp
      refine wpAnyL_one (i := 9) (by kernel_rfl) rfl rfl ?_
      refine wp_append_run _ _ _ rfl (.slice aa A acap) (.slice (some ⟨wq.heap.size, 0, none⟩) 1 1) (by rfl) (by rfl) Hr' ?_
      have c3 : w4.cell? ⟨c.d, 3, none⟩ = some (.slice aa A acap) := by
        have := HC4.out.cell 3 rfl
        rw [← hav]
        exact this
      have f3 := HC4.out.frozen 3
      have z1 := HO4.out.cell 1 rfl
      have z2 := HO4.out.cell 2 rfl
      refine ⟨⟨c3, z1⟩, ?_⟩
      go_frame
      refine wpAnyL_one (i := 10) (by kernel_rfl) rfl rfl ?_
      go_simp
      refine wpAnyL_one (i := 11) (by kernel_rfl) rfl rfl ?_
      go_simp
      refine wpAnyL_last (by kernel_rfl) (by kernel_rfl) rfl rfl ?_
      go_simp
      refine NoPanic.normal ?_
      clear hS
      generalize w4.setCell ⟨c.d, 3, none⟩ (.slice (some ⟨g, 0, none⟩) (A + 1) gcap) = w5 at N1 ⊢
      clear HC4 HO4 c3 f3 z1 z2 x3 x1 y0 y1 y2 hcd hop hl1 hl2 Hr'
      have hcd := N1.out.at5.cells
      have hop := N1.out.op
      have hl1 : c.d < w5.heap.size := hcd.lt
      have hl2 := hop.lt
      have x1 : w5.cell? ⟨c.d, 1, none⟩ = some (.slice da M dc) := by
        have h1 : w5.cell? ⟨c.d, 1, none⟩ = some c.dv := hcd.cell 1 rfl
        rw [HDV.out] at h1
        exact h1
      have y1 := hop.cell 1 rfl
      have y2 := hop.cell 2 rfl
      have hes : EntSrc w5 (.slice da M dc) m.count.dir := by
        have h1 : EntSrc w5 c.dv m.count.dir := N1.out.at5.dir.src
        rw [HDV.out] at h1
        exact h1
      have hdrop := Hid.mk (rdrop_any (w := w5.drew) (hes.stay (Only.refl _ w5).drew) (by have := HM.out; omega) n)
      have hdf : Hid (∀ p ∈ DD.drop m.count.dir n, p.2 < m.count.files.length) := fun p hp => N1.out.at5.dirF p (List.mem_filter.1 hp).1
      clear hes
      go_wp2_with fail
      refine wp_region_noPanic ?_
      refine wp_region_last (L := 10) (S := fun w' => w'.cell? ⟨c.d, 1, none⟩ = some (.slice da M dc) ∧ w'.cell? ⟨w.heap.size, 1, none⟩ = some (.string ⟨n.toArray⟩)) (by kernel_rfl) ?_
      have hS : (fun w' : World => w'.cell? ⟨c.d, 1, none⟩ = some (.slice da M dc) ∧ w'.cell? ⟨w.heap.size, 1, none⟩ = some (.string ⟨n.toArray⟩)) w5.drew := ⟨x1, y1⟩
      refine wpAnyL_take (i := 0) (v := .pointer (some ⟨c.d, 0, none⟩)) rfl (by kernel_rfl) (by kernel_rfl) (by kernel_rfl) (by kernel_rfl) (by kernel_rfl) (fun _ _ _ h => h) (Or.inl ⟨by rfl, ?_⟩) hS ?_
      · (intro w' hSw; go_simp)
      go_frame
      refine wpAnyL_take (i := 1) (v := .pointer (some ⟨c.d, 0, none⟩)) rfl (by kernel_rfl) (by kernel_rfl) (by kernel_rfl) (by kernel_rfl) (by kernel_rfl) (fun _ _ _ h => h) (Or.inl ⟨by rfl, ?_⟩) hS ?_
      · (intro w' hSw; go_simp)
      go_frame
      refine wpAnyL_take (i := 2) (v := .pointer (some ⟨c.d, 0, none⟩)) rfl (by kernel_rfl) (by kernel_rfl) (by kernel_rfl) (by kernel_rfl) (by kernel_rfl) (fun _ _ _ h => h) (Or.inl ⟨by rfl, ?_⟩) hS ?_
      · (intro w' hSw; go_simp)
      go_frame
      refine wpAnyL_take (i := 3) (v := .pointer (some ⟨c.d, 1, none⟩)) rfl (by kernel_rfl) (by kernel_rfl) (by kernel_rfl) (by kernel_rfl) (by kernel_rfl) (fun _ _ _ h => h) (Or.inl ⟨by rfl, ?_⟩) hS ?_
      · (intro w' hSw; go_simp)
      go_frame
      refine wpAnyL_take (i := 4) (v := .slice da M dc) rfl (by kernel_rfl) (by kernel_rfl) (by kernel_rfl) (by kernel_rfl) (by kernel_rfl) (fun _ _ _ h => h) (Or.inl ⟨by rfl, ?_⟩) hS ?_
      · (intro w' hSw; go_simp)
      go_frame
      refine wpAnyL_take (i := 5) (v := .pointer (some ⟨w.heap.size, 1, none⟩)) rfl (by kernel_rfl) (by kernel_rfl) (by kernel_rfl) (by kernel_rfl) (by kernel_rfl) (fun _ _ _ h => h) (Or.inl ⟨by rfl, ?_⟩) hS ?_
      · (intro w' hSw; go_simp)
      go_frame
      refine wpAnyL_take (i := 6) (v := .string ⟨n.toArray⟩) rfl (by kernel_rfl) (by kernel_rfl) (by kernel_rfl) (by kernel_rfl) (by kernel_rfl) (fun _ _ _ h => h) (Or.inl ⟨by rfl, ?_⟩) hS ?_
      · (intro w' hSw; go_simp)
      go_frame
      refine wpAnyL_one (i := 7) (by kernel_rfl) rfl rfl ?_
      go_simp
      refine hdrop.out.mono ?_
      rintro e w6 ⟨v6, rfl, ho6, hk6⟩
      obtain ⟨hc6, hp6, N2⟩ := Now.dir N1.out ((Only.refl (fun _ => False) w5).drew.trans hk6 (fun _ _ f => f)) ho6 hdf.out
      obtain ⟨a6, cp6, rfl⟩ := ownN_slice ho6
      have c1 : w6.cell? ⟨c.d, 1, none⟩ = some (.slice da M dc) := by
        have h1 : w6.cell? ⟨c.d, 1, none⟩ = some c.dv := hc6.cell 1 rfl
        rw [HDV.out] at h1
        exact h1
      have f1 : w6.frozen? ⟨c.d, 1, none⟩ = false := hc6.frozen 1
      have bq1 := hp6.cell 1 rfl
      have bq2 := hp6.cell 2 rfl
      have HN2 := Hid.mk N2
      clear N2 hc6 hp6 ho6 hk6
      refine ⟨⟨c1, bq1⟩, ?_⟩
      refine wpAnyL_one (i := 8) (by kernel_rfl) rfl rfl ?_
      go_simp
      refine wpAnyL_one (i := 9) (by kernel_rfl) rfl rfl ?_
      go_simp
      refine wpAnyL_last (by kernel_rfl) (by kernel_rfl) rfl rfl ?_
      go_simp
      refine NoPanic.normal ?_
      clear hS
      go_wp2_with fail
      go_ret
      exact Now.post HN2.out HE.out rfl
    | some b0 =>
      obtain ⟨b, rfl⟩ : ∃ b, b0 = b + 1 := ⟨b0 - 1, by have : b0 ≠ 0 := fun e => hf (by rw [hFu, e]); omega⟩
      have hbb := hfb _ hFu
      have MID := Hid.mk (mid_ns H.out hk2 hop hFa hFu)
      rw [hFa] at x7
      rw [hFu] at x6
      unfold laidI at x6 x7
      clear h2 hk2 hop
      go_wp2_with fail
      generalize (w2.setCell ⟨c.d, 6, none⟩ (.int .i64 (b : Int))).setCell ⟨c.d, 8, none⟩ (.int .i64 ((m.steps : Int) + 1)) = w3 at MID ⊢
      clear x6 x7 x8 f6 f7 f8
      have h3 := MID.out.at3
      obtain ⟨da, dc, hdv⟩ := ownN_slice h3.dir
      obtain ⟨M, hM⟩ : ∃ M, m.count.dir.length = M := ⟨_, rfl⟩
      rw [hM] at hdv
      have hMl : M ≤ 10000 := by rw [← hM]; exact HD0.out
      have x1 : w3.cell? ⟨c.d, 1, none⟩ = some (.slice da M dc) := by
        have := h3.cells.cell 1 rfl
        rw [hdv] at this
        exact this
      have y0 := MID.out.op.cell 0 rfl
      have y1 := MID.out.op.cell 1 rfl
      have hFind : Hid (∀ j, Calls Try.prog 36 #[.slice da M dc, .string ⟨n.toArray⟩] (w3.drewN j) fun e w' => e = .returned (.int .i64 (fidx m.count.dir n)) ∧ w' = w3.drewN j) := fun j => by
        have := rfind_any (h3.stay (Kept.drewN' (Only.refl _ _) j)).dir.src (show m.count.dir.length ≤ 1000000 by omega) n
        rw [hdv] at this
        exact this
      have HDV := Hid.mk hdv
      have HM := Hid.mk hM
      clear hdv hM
      go_quiet ((go_at_call 36; exact Calls.quiet_of_same (hFind.out _)))
      generalize fidx m.count.dir n = fi
      have N0 := Hid.mk ((Now.start H.out MID.out).stay (Kept.drewN' (Only.refl (fun _ => False) w3) nq))
      have hac : Hid (c.ac.length ≤ 100000) := by have := HAC.out; have e := congrArg List.length N0.out.at5.acm; rw [List.length_map] at e; show _ ≤ _; rw [e]; exact this
      clear h3 x1 y0 y1 hFind hlt
      generalize w3.drewN nq = wq at N0 ⊢
      have hcd := N0.out.at5.cells
      have hop := N0.out.op
      have hl1 := hcd.lt
      have hl2 := hop.lt
      have x1 : wq.cell? ⟨c.d, 1, none⟩ = some (.slice da M dc) := by
        have := hcd.cell 1 rfl
        rw [HDV.out] at this
        exact this
      have y0 := hop.cell 0 rfl
      have y1 := hop.cell 1 rfl
      have y2 := hop.cell 2 rfl
      obtain ⟨aa, acap, hav⟩ := ownN_slice N0.out.at5.acts
      obtain ⟨A, hA⟩ : ∃ A, (c).ac.length = A := ⟨_, rfl⟩
      obtain ⟨g, gcap, w4, Hr, HC4, HO4, N1⟩ := Now.act N0.out ⟨2, n, [], 0⟩ hac.out
      rw [hav] at Hr
      rw [hA] at Hr N1 hav
      have x3 : wq.cell? ⟨c.d, 3, none⟩ = some (.slice aa A acap) := by
        have := hcd.cell 3 rfl
        rw [← hav]
        exact this
      have Hr' : Hid ((Builtin.append_ #[61, 61] 0 #[.slice aa A acap, .slice (some ⟨wq.heap.size, 0, none⟩) 1 1]).run Try.prog (wq.drew.alloc (.cells #[.int .i64 2, .string ⟨n.toArray⟩, .string ⟨#[]⟩, .int .i64 0] 73)) = .ok (.slice (some ⟨g, 0, none⟩) (A + 1) gcap) w4) := Hr
      clear Hr
      go_wp2_with fail
      refine wp_region_noPanic ?_
      refine wp_region_last (L := 12) (S := fun w' => w'.cell? ⟨c.d, 3, none⟩ = some (.slice aa A acap) ∧ w'.cell? ⟨w.heap.size, 1, none⟩ = some (.string ⟨n.toArray⟩)) (by kernel_rfl) ?_
      have hS : (fun w' : World => w'.cell? ⟨c.d, 3, none⟩ = some (.slice aa A acap) ∧ w'.cell? ⟨w.heap.size, 1, none⟩ = some (.string ⟨n.toArray⟩)) wq.drew := ⟨x3, y1⟩
      refine wpAnyL_take (i := 0) (v := .pointer (some ⟨c.d, 0, none⟩)) rfl (by kernel_rfl) (by kernel_rfl) (by kernel_rfl) (by kernel_rfl) (by kernel_rfl) (fun _ _ _ h => h) (Or.inl ⟨by rfl, ?_⟩) hS ?_
      · (intro w' hSw; go_simp)
      go_frame
      refine wpAnyL_take (i := 1) (v := .pointer (some ⟨c.d, 0, none⟩)) rfl (by kernel_rfl) (by kernel_rfl) (by kernel_rfl) (by kernel_rfl) (by kernel_rfl) (fun _ _ _ h => h) (Or.inl ⟨by rfl, ?_⟩) hS ?_
      · (intro w' hSw; go_simp)
      go_frame
      refine wpAnyL_take (i := 2) (v := .pointer (some ⟨c.d, 0, none⟩)) rfl (by kernel_rfl) (by kernel_rfl) (by kernel_rfl) (by kernel_rfl) (by kernel_rfl) (fun _ _ _ h => h) (Or.inl ⟨by rfl, ?_⟩) hS ?_
      · (intro w' hSw; go_simp)
      go_frame
      refine wpAnyL_take (i := 3) (v := .pointer (some ⟨c.d, 3, none⟩)) rfl (by kernel_rfl) (by kernel_rfl) (by kernel_rfl) (by kernel_rfl) (by kernel_rfl) (fun _ _ _ h => h) (Or.inl ⟨by rfl, ?_⟩) hS ?_
      · (intro w' hSw; go_simp)
      go_frame
      refine wpAnyL_take (i := 4) (v := .slice aa A acap) rfl (by kernel_rfl) (by kernel_rfl) (by kernel_rfl) (by kernel_rfl) (by kernel_rfl) (fun _ _ _ h => h) (Or.inl ⟨by rfl, ?_⟩) hS ?_
      · (intro w' hSw; go_simp)
      go_frame
      refine wpAnyL_take (i := 5) (v := .pointer (some ⟨w.heap.size, 1, none⟩)) rfl (by kernel_rfl) (by kernel_rfl) (by kernel_rfl) (by kernel_rfl) (by kernel_rfl) (fun _ _ _ h => h) (Or.inl ⟨by rfl, ?_⟩) hS ?_
      · (intro w' hSw; go_simp)
      go_frame
      refine wpAnyL_take (i := 6) (v := .string ⟨n.toArray⟩) rfl (by kernel_rfl) (by kernel_rfl) (by kernel_rfl) (by kernel_rfl) (by kernel_rfl) (fun _ _ _ h => h) (Or.inl ⟨by rfl, ?_⟩) hS ?_
      · (intro w' hSw; go_simp)
      go_frame
      refine wpAnyL_take (i := 7) (v := .agg #[.int .i64 2, .string ⟨n.toArray⟩, .string ⟨#[]⟩, .int .i64 0]) rfl (by kernel_rfl) (by kernel_rfl) (by kernel_rfl) (by kernel_rfl) (by kernel_rfl) (fun _ _ _ h => h) (Or.inl ⟨by rfl, ?_⟩) hS ?_
      · (intro w' hSw; go_simp)
      go_frame
      refine wpAnyL_one (i := 8) (by kernel_rfl) rfl rfl ?_
      go_simp
      refine wpAnyL_one (i := 9) (by kernel_rfl) rfl rfl ?_
      refine wp_append_run _ _ _ rfl (.slice aa A acap) (.slice (some ⟨wq.heap.size, 0, none⟩) 1 1) (by rfl) (by rfl) Hr' ?_
      have c3 : w4.cell? ⟨c.d, 3, none⟩ = some (.slice aa A acap) := by
        have := HC4.out.cell 3 rfl
        rw [← hav]
        exact this
      have f3 := HC4.out.frozen 3
      have z1 := HO4.out.cell 1 rfl
      have z2 := HO4.out.cell 2 rfl
      refine ⟨⟨c3, z1⟩, ?_⟩
      go_frame
      refine wpAnyL_one (i := 10) (by kernel_rfl) rfl rfl ?_
      go_simp
      refine wpAnyL_one (i := 11) (by kernel_rfl) rfl rfl ?_
      go_simp
      refine wpAnyL_last (by kernel_rfl) (by kernel_rfl) rfl rfl ?_
      go_simp
      refine NoPanic.normal ?_
      clear hS
      generalize w4.setCell ⟨c.d, 3, none⟩ (.slice (some ⟨g, 0, none⟩) (A + 1) gcap) = w5 at N1 ⊢
      clear HC4 HO4 c3 f3 z1 z2 x3 x1 y0 y1 y2 hcd hop hl1 hl2 Hr'
      have hcd := N1.out.at5.cells
      have hop := N1.out.op
      have hl1 : c.d < w5.heap.size := hcd.lt
      have hl2 := hop.lt
      have x1 : w5.cell? ⟨c.d, 1, none⟩ = some (.slice da M dc) := by
        have h1 : w5.cell? ⟨c.d, 1, none⟩ = some c.dv := hcd.cell 1 rfl
        rw [HDV.out] at h1
        exact h1
      have y1 := hop.cell 1 rfl
      have y2 := hop.cell 2 rfl
      have hes : EntSrc w5 (.slice da M dc) m.count.dir := by
        have h1 : EntSrc w5 c.dv m.count.dir := N1.out.at5.dir.src
        rw [HDV.out] at h1
        exact h1
      have hdrop := Hid.mk (rdrop_any (w := w5.drew) (hes.stay (Only.refl _ w5).drew) (by have := HM.out; omega) n)
      have hdf : Hid (∀ p ∈ DD.drop m.count.dir n, p.2 < m.count.files.length) := fun p hp => N1.out.at5.dirF p (List.mem_filter.1 hp).1
      clear hes
      go_wp2_with fail
      refine wp_region_noPanic ?_
      refine wp_region_last (L := 10) (S := fun w' => w'.cell? ⟨c.d, 1, none⟩ = some (.slice da M dc) ∧ w'.cell? ⟨w.heap.size, 1, none⟩ = some (.string ⟨n.toArray⟩)) (by kernel_rfl) ?_
      have hS : (fun w' : World => w'.cell? ⟨c.d, 1, none⟩ = some (.slice da M dc) ∧ w'.cell? ⟨w.heap.size, 1, none⟩ = some (.string ⟨n.toArray⟩)) w5.drew := ⟨x1, y1⟩
      refine wpAnyL_take (i := 0) (v := .pointer (some ⟨c.d, 0, none⟩)) rfl (by kernel_rfl) (by kernel_rfl) (by kernel_rfl) (by kernel_rfl) (by kernel_rfl) (fun _ _ _ h => h) (Or.inl ⟨by rfl, ?_⟩) hS ?_
      · (intro w' hSw; go_simp)
      go_frame
      refine wpAnyL_take (i := 1) (v := .pointer (some ⟨c.d, 0, none⟩)) rfl (by kernel_rfl) (by kernel_rfl) (by kernel_rfl) (by kernel_rfl) (by kernel_rfl) (fun _ _ _ h => h) (Or.inl ⟨by rfl, ?_⟩) hS ?_
      · (intro w' hSw; go_simp)
      go_frame
      refine wpAnyL_take (i := 2) (v := .pointer (some ⟨c.d, 0, none⟩)) rfl (by kernel_rfl) (by kernel_rfl) (by kernel_rfl) (by kernel_rfl) (by kernel_rfl) (fun _ _ _ h => h) (Or.inl ⟨by rfl, ?_⟩) hS ?_
      · (intro w' hSw; go_simp)
      go_frame
      refine wpAnyL_take (i := 3) (v := .pointer (some ⟨c.d, 1, none⟩)) rfl (by kernel_rfl) (by kernel_rfl) (by kernel_rfl) (by kernel_rfl) (by kernel_rfl) (fun _ _ _ h => h) (Or.inl ⟨by rfl, ?_⟩) hS ?_
      · (intro w' hSw; go_simp)
      go_frame
      refine wpAnyL_take (i := 4) (v := .slice da M dc) rfl (by kernel_rfl) (by kernel_rfl) (by kernel_rfl) (by kernel_rfl) (by kernel_rfl) (fun _ _ _ h => h) (Or.inl ⟨by rfl, ?_⟩) hS ?_
      · (intro w' hSw; go_simp)
      go_frame
      refine wpAnyL_take (i := 5) (v := .pointer (some ⟨w.heap.size, 1, none⟩)) rfl (by kernel_rfl) (by kernel_rfl) (by kernel_rfl) (by kernel_rfl) (by kernel_rfl) (fun _ _ _ h => h) (Or.inl ⟨by rfl, ?_⟩) hS ?_
      · (intro w' hSw; go_simp)
      go_frame
      refine wpAnyL_take (i := 6) (v := .string ⟨n.toArray⟩) rfl (by kernel_rfl) (by kernel_rfl) (by kernel_rfl) (by kernel_rfl) (by kernel_rfl) (fun _ _ _ h => h) (Or.inl ⟨by rfl, ?_⟩) hS ?_
      · (intro w' hSw; go_simp)
      go_frame
      refine wpAnyL_one (i := 7) (by kernel_rfl) rfl rfl ?_
      go_simp
      refine hdrop.out.mono ?_
      rintro e w6 ⟨v6, rfl, ho6, hk6⟩
      obtain ⟨hc6, hp6, N2⟩ := Now.dir N1.out ((Only.refl (fun _ => False) w5).drew.trans hk6 (fun _ _ f => f)) ho6 hdf.out
      obtain ⟨a6, cp6, rfl⟩ := ownN_slice ho6
      have c1 : w6.cell? ⟨c.d, 1, none⟩ = some (.slice da M dc) := by
        have h1 : w6.cell? ⟨c.d, 1, none⟩ = some c.dv := hc6.cell 1 rfl
        rw [HDV.out] at h1
        exact h1
      have f1 : w6.frozen? ⟨c.d, 1, none⟩ = false := hc6.frozen 1
      have bq1 := hp6.cell 1 rfl
      have bq2 := hp6.cell 2 rfl
      have HN2 := Hid.mk N2
      clear N2 hc6 hp6 ho6 hk6
      refine ⟨⟨c1, bq1⟩, ?_⟩
      refine wpAnyL_one (i := 8) (by kernel_rfl) rfl rfl ?_
      go_simp
      refine wpAnyL_one (i := 9) (by kernel_rfl) rfl rfl ?_
      go_simp
      refine wpAnyL_last (by kernel_rfl) (by kernel_rfl) rfl rfl ?_
      go_simp
      refine NoPanic.normal ?_
      clear hS
      go_wp2_with fail
      go_ret
      exact Now.post HN2.out HE.out rfl
  | some a0 =>
    obtain ⟨a, rfl⟩ : ∃ a, a0 = a + 1 := ⟨a0 - 1, by have : a0 ≠ 0 := fun e => hfa (by rw [hFa, e]); omega⟩
    have haa := hab _ hFa
    cases hFu : m.fuse with
    | none =>
      have MID := Hid.mk (mid_sn H.out hk2 hop hFa hFu)
      rw [hFa] at x7
      rw [hFu] at x6
      unfold laidI at x6 x7
      clear h2 hk2 hop
      go_wp2_with fail
      generalize (w2.setCell ⟨c.d, 7, none⟩ (.int .i64 (a : Int))).setCell ⟨c.d, 8, none⟩ (.int .i64 ((m.steps : Int) + 1)) = w3 at MID ⊢
      clear x6 x7 x8 f6 f7 f8
      have h3 := MID.out.at3
      obtain ⟨da, dc, hdv⟩ := ownN_slice h3.dir
      obtain ⟨M, hM⟩ : ∃ M, m.count.dir.length = M := ⟨_, rfl⟩
      rw [hM] at hdv
      have hMl : M ≤ 10000 := by rw [← hM]; exact HD0.out
      have x1 : w3.cell? ⟨c.d, 1, none⟩ = some (.slice da M dc) := by
        have := h3.cells.cell 1 rfl
        rw [hdv] at this
        exact this
      have y0 := MID.out.op.cell 0 rfl
      have y1 := MID.out.op.cell 1 rfl
      have hFind : Hid (∀ j, Calls Try.prog 36 #[.slice da M dc, .string ⟨n.toArray⟩] (w3.drewN j) fun e w' => e = .returned (.int .i64 (fidx m.count.dir n)) ∧ w' = w3.drewN j) := fun j => by
        have := rfind_any (h3.stay (Kept.drewN' (Only.refl _ _) j)).dir.src (show m.count.dir.length ≤ 1000000 by omega) n
        rw [hdv] at this
        exact this
      have HDV := Hid.mk hdv
      have HM := Hid.mk hM
      clear hdv hM
      go_quiet ((go_at_call 36; exact Calls.quiet_of_same (hFind.out _)))
      generalize fidx m.count.dir n = fi
      have N0 := Hid.mk ((Now.start H.out MID.out).stay (Kept.drewN' (Only.refl (fun _ => False) w3) nq))
      have hac : Hid (c.ac.length ≤ 100000) := by have := HAC.out; have e := congrArg List.length N0.out.at5.acm; rw [List.length_map] at e; show _ ≤ _; rw [e]; exact this
      clear h3 x1 y0 y1 hFind hlt
      generalize w3.drewN nq = wq at N0 ⊢
      have hcd := N0.out.at5.cells
      have hop := N0.out.op
      have hl1 := hcd.lt
      have hl2 := hop.lt
      have x1 : wq.cell? ⟨c.d, 1, none⟩ = some (.slice da M dc) := by
        have := hcd.cell 1 rfl
        rw [HDV.out] at this
        exact this
      have y0 := hop.cell 0 rfl
      have y1 := hop.cell 1 rfl
      have y2 := hop.cell 2 rfl
      obtain ⟨aa, acap, hav⟩ := ownN_slice N0.out.at5.acts
      obtain ⟨A, hA⟩ : ∃ A, (c).ac.length = A := ⟨_, rfl⟩
      obtain ⟨g, gcap, w4, Hr, HC4, HO4, N1⟩ := Now.act N0.out ⟨2, n, [], 0⟩ hac.out
      rw [hav] at Hr
      rw [hA] at Hr N1 hav
      have x3 : wq.cell? ⟨c.d, 3, none⟩ = some (.slice aa A acap) := by
        have := hcd.cell 3 rfl
        rw [← hav]
        exact this
      have Hr' : Hid ((Builtin.append_ #[61, 61] 0 #[.slice aa A acap, .slice (some ⟨wq.heap.size, 0, none⟩) 1 1]).run Try.prog (wq.drew.alloc (.cells #[.int .i64 2, .string ⟨n.toArray⟩, .string ⟨#[]⟩, .int .i64 0] 73)) = .ok (.slice (some ⟨g, 0, none⟩) (A + 1) gcap) w4) := Hr
      clear Hr
      go_wp2_with fail
      refine wp_region_noPanic ?_
      refine wp_region_last (L := 12) (S := fun w' => w'.cell? ⟨c.d, 3, none⟩ = some (.slice aa A acap) ∧ w'.cell? ⟨w.heap.size, 1, none⟩ = some (.string ⟨n.toArray⟩)) (by kernel_rfl) ?_
      have hS : (fun w' : World => w'.cell? ⟨c.d, 3, none⟩ = some (.slice aa A acap) ∧ w'.cell? ⟨w.heap.size, 1, none⟩ = some (.string ⟨n.toArray⟩)) wq.drew := ⟨x3, y1⟩
      refine wpAnyL_take (i := 0) (v := .pointer (some ⟨c.d, 0, none⟩)) rfl (by kernel_rfl) (by kernel_rfl) (by kernel_rfl) (by kernel_rfl) (by kernel_rfl) (fun _ _ _ h => h) (Or.inl ⟨by rfl, ?_⟩) hS ?_
      · (intro w' hSw; go_simp)
      go_frame
      refine wpAnyL_take (i := 1) (v := .pointer (some ⟨c.d, 0, none⟩)) rfl (by kernel_rfl) (by kernel_rfl) (by kernel_rfl) (by kernel_rfl) (by kernel_rfl) (fun _ _ _ h => h) (Or.inl ⟨by rfl, ?_⟩) hS ?_
      · (intro w' hSw; go_simp)
      go_frame
      refine wpAnyL_take (i := 2) (v := .pointer (some ⟨c.d, 0, none⟩)) rfl (by kernel_rfl) (by kernel_rfl) (by kernel_rfl) (by kernel_rfl) (by kernel_rfl) (fun _ _ _ h => h) (Or.inl ⟨by rfl, ?_⟩) hS ?_
      · (intro w' hSw; go_simp)
      go_frame
      refine wpAnyL_take (i := 3) (v := .pointer (some ⟨c.d, 3, none⟩)) rfl (by kernel_rfl) (by kernel_rfl) (by kernel_rfl) (by kernel_rfl) (by kernel_rfl) (fun _ _ _ h => h) (Or.inl ⟨by rfl, ?_⟩) hS ?_
      · (intro w' hSw; go_simp)
      go_frame
      refine wpAnyL_take (i := 4) (v := .slice aa A acap) rfl (by kernel_rfl) (by kernel_rfl) (by kernel_rfl) (by kernel_rfl) (by kernel_rfl) (fun _ _ _ h => h) (Or.inl ⟨by rfl, ?_⟩) hS ?_
      · (intro w' hSw; go_simp)
      go_frame
      refine wpAnyL_take (i := 5) (v := .pointer (some ⟨w.heap.size, 1, none⟩)) rfl (by kernel_rfl) (by kernel_rfl) (by kernel_rfl) (by kernel_rfl) (by kernel_rfl) (fun _ _ _ h => h) (Or.inl ⟨by rfl, ?_⟩) hS ?_
      · (intro w' hSw; go_simp)
      go_frame
      refine wpAnyL_take (i := 6) (v := .string ⟨n.toArray⟩) rfl (by kernel_rfl) (by kernel_rfl) (by kernel_rfl) (by kernel_rfl) (by kernel_rfl) (fun _ _ _ h => h) (Or.inl ⟨by rfl, ?_⟩) hS ?_
      · (intro w' hSw; go_simp)
      go_frame
      refine wpAnyL_take (i := 7) (v := .agg #[.int .i64 2, .string ⟨n.toArray⟩, .string ⟨#[]⟩, .int .i64 0]) rfl (by kernel_rfl) (by kernel_rfl) (by kernel_rfl) (by kernel_rfl) (by kernel_rfl) (fun _ _ _ h => h) (Or.inl ⟨by rfl, ?_⟩) hS ?_
      · (intro w' hSw; go_simp)
      go_frame
      refine wpAnyL_one (i := 8) (by kernel_rfl) rfl rfl ?_
      go_simp
      refine wpAnyL_one (i := 9) (by kernel_rfl) rfl rfl ?_
      refine wp_append_run _ _ _ rfl (.slice aa A acap) (.slice (some ⟨wq.heap.size, 0, none⟩) 1 1) (by rfl) (by rfl) Hr' ?_
      have c3 : w4.cell? ⟨c.d, 3, none⟩ = some (.slice aa A acap) := by
        have := HC4.out.cell 3 rfl
        rw [← hav]
        exact this
      have f3 := HC4.out.frozen 3
      have z1 := HO4.out.cell 1 rfl
      have z2 := HO4.out.cell 2 rfl
      refine ⟨⟨c3, z1⟩, ?_⟩
      go_frame
      refine wpAnyL_one (i := 10) (by kernel_rfl) rfl rfl ?_
      go_simp
      refine wpAnyL_one (i := 11) (by kernel_rfl) rfl rfl ?_
      go_simp
      refine wpAnyL_last (by kernel_rfl) (by kernel_rfl) rfl rfl ?_
      go_simp
      refine NoPanic.normal ?_
      clear hS
      generalize w4.setCell ⟨c.d, 3, none⟩ (.slice (some ⟨g, 0, none⟩) (A + 1) gcap) = w5 at N1 ⊢
      clear HC4 HO4 c3 f3 z1 z2 x3 x1 y0 y1 y2 hcd hop hl1 hl2 Hr'
      have hcd := N1.out.at5.cells
      have hop := N1.out.op
      have hl1 : c.d < w5.heap.size := hcd.lt
      have hl2 := hop.lt
      have x1 : w5.cell? ⟨c.d, 1, none⟩ = some (.slice da M dc) := by
        have h1 : w5.cell? ⟨c.d, 1, none⟩ = some c.dv := hcd.cell 1 rfl
        rw [HDV.out] at h1
        exact h1
      have y1 := hop.cell 1 rfl
      have y2 := hop.cell 2 rfl
      have hes : EntSrc w5 (.slice da M dc) m.count.dir := by
        have h1 : EntSrc w5 c.dv m.count.dir := N1.out.at5.dir.src
        rw [HDV.out] at h1
        exact h1
      have hdrop := Hid.mk (rdrop_any (w := w5.drew) (hes.stay (Only.refl _ w5).drew) (by have := HM.out; omega) n)
      have hdf : Hid (∀ p ∈ DD.drop m.count.dir n, p.2 < m.count.files.length) := fun p hp => N1.out.at5.dirF p (List.mem_filter.1 hp).1
      clear hes
      go_wp2_with fail
      refine wp_region_noPanic ?_
      refine wp_region_last (L := 10) (S := fun w' => w'.cell? ⟨c.d, 1, none⟩ = some (.slice da M dc) ∧ w'.cell? ⟨w.heap.size, 1, none⟩ = some (.string ⟨n.toArray⟩)) (by kernel_rfl) ?_
      have hS : (fun w' : World => w'.cell? ⟨c.d, 1, none⟩ = some (.slice da M dc) ∧ w'.cell? ⟨w.heap.size, 1, none⟩ = some (.string ⟨n.toArray⟩)) w5.drew := ⟨x1, y1⟩
      refine wpAnyL_take (i := 0) (v := .pointer (some ⟨c.d, 0, none⟩)) rfl (by kernel_rfl) (by kernel_rfl) (by kernel_rfl) (by kernel_rfl) (by kernel_rfl) (fun _ _ _ h => h) (Or.inl ⟨by rfl, ?_⟩) hS ?_
      · (intro w' hSw; go_simp)
      go_frame
      refine wpAnyL_take (i := 1) (v := .pointer (some ⟨c.d, 0, none⟩)) rfl (by kernel_rfl) (by kernel_rfl) (by kernel_rfl) (by kernel_rfl) (by kernel_rfl) (fun _ _ _ h => h) (Or.inl ⟨by rfl, ?_⟩) hS ?_
      · (intro w' hSw; go_simp)
      go_frame
      refine wpAnyL_take (i := 2) (v := .pointer (some ⟨c.d, 0, none⟩)) rfl (by kernel_rfl) (by kernel_rfl) (by kernel_rfl) (by kernel_rfl) (by kernel_rfl) (fun _ _ _ h => h) (Or.inl ⟨by rfl, ?_⟩) hS ?_
      · (intro w' hSw; go_simp)
      go_frame
      refine wpAnyL_take (i := 3) (v := .pointer (some ⟨c.d, 1, none⟩)) rfl (by kernel_rfl) (by kernel_rfl) (by kernel_rfl) (by kernel_rfl) (by kernel_rfl) (fun _ _ _ h => h) (Or.inl ⟨by rfl, ?_⟩) hS ?_
      · (intro w' hSw; go_simp)
      go_frame
      refine wpAnyL_take (i := 4) (v := .slice da M dc) rfl (by kernel_rfl) (by kernel_rfl) (by kernel_rfl) (by kernel_rfl) (by kernel_rfl) (fun _ _ _ h => h) (Or.inl ⟨by rfl, ?_⟩) hS ?_
      · (intro w' hSw; go_simp)
      go_frame
      refine wpAnyL_take (i := 5) (v := .pointer (some ⟨w.heap.size, 1, none⟩)) rfl (by kernel_rfl) (by kernel_rfl) (by kernel_rfl) (by kernel_rfl) (by kernel_rfl) (fun _ _ _ h => h) (Or.inl ⟨by rfl, ?_⟩) hS ?_
      · (intro w' hSw; go_simp)
      go_frame
      refine wpAnyL_take (i := 6) (v := .string ⟨n.toArray⟩) rfl (by kernel_rfl) (by kernel_rfl) (by kernel_rfl) (by kernel_rfl) (by kernel_rfl) (fun _ _ _ h => h) (Or.inl ⟨by rfl, ?_⟩) hS ?_
      · (intro w' hSw; go_simp)
      go_frame
      refine wpAnyL_one (i := 7) (by kernel_rfl) rfl rfl ?_
      go_simp
      refine hdrop.out.mono ?_
      rintro e w6 ⟨v6, rfl, ho6, hk6⟩
      obtain ⟨hc6, hp6, N2⟩ := Now.dir N1.out ((Only.refl (fun _ => False) w5).drew.trans hk6 (fun _ _ f => f)) ho6 hdf.out
      obtain ⟨a6, cp6, rfl⟩ := ownN_slice ho6
      have c1 : w6.cell? ⟨c.d, 1, none⟩ = some (.slice da M dc) := by
        have h1 : w6.cell? ⟨c.d, 1, none⟩ = some c.dv := hc6.cell 1 rfl
        rw [HDV.out] at h1
        exact h1
      have f1 : w6.frozen? ⟨c.d, 1, none⟩ = false := hc6.frozen 1
      have bq1 := hp6.cell 1 rfl
      have bq2 := hp6.cell 2 rfl
      have HN2 := Hid.mk N2
      clear N2 hc6 hp6 ho6 hk6
      refine ⟨⟨c1, bq1⟩, ?_⟩
      refine wpAnyL_one (i := 8) (by kernel_rfl) rfl rfl ?_
      go_simp
      refine wpAnyL_one (i := 9) (by kernel_rfl) rfl rfl ?_
      go_simp
      refine wpAnyL_last (by kernel_rfl) (by kernel_rfl) rfl rfl ?_
      go_simp
      refine NoPanic.normal ?_
      clear hS
      go_wp2_with fail
      go_ret
      exact Now.post HN2.out HE.out rfl
    | some b0 =>
      obtain ⟨b, rfl⟩ : ∃ b, b0 = b + 1 := ⟨b0 - 1, by have : b0 ≠ 0 := fun e => hf (by rw [hFu, e]); omega⟩
      have hbb := hfb _ hFu
      have MID := Hid.mk (mid_ss H.out hk2 hop hFa hFu)
      rw [hFa] at x7
      rw [hFu] at x6
      unfold laidI at x6 x7
      clear h2 hk2 hop
      go_wp2_with fail
      generalize ((w2.setCell ⟨c.d, 7, none⟩ (.int .i64 (a : Int))).setCell ⟨c.d, 6, none⟩ (.int .i64 (b : Int))).setCell ⟨c.d, 8, none⟩ (.int .i64 ((m.steps : Int) + 1)) = w3 at MID ⊢
      clear x6 x7 x8 f6 f7 f8
      have h3 := MID.out.at3
      obtain ⟨da, dc, hdv⟩ := ownN_slice h3.dir
      obtain ⟨M, hM⟩ : ∃ M, m.count.dir.length = M := ⟨_, rfl⟩
      rw [hM] at hdv
      have hMl : M ≤ 10000 := by rw [← hM]; exact HD0.out
      have x1 : w3.cell? ⟨c.d, 1, none⟩ = some (.slice da M dc) := by
        have := h3.cells.cell 1 rfl
        rw [hdv] at this
        exact this
      have y0 := MID.out.op.cell 0 rfl
      have y1 := MID.out.op.cell 1 rfl
      have hFind : Hid (∀ j, Calls Try.prog 36 #[.slice da M dc, .string ⟨n.toArray⟩] (w3.drewN j) fun e w' => e = .returned (.int .i64 (fidx m.count.dir n)) ∧ w' = w3.drewN j) := fun j => by
        have := rfind_any (h3.stay (Kept.drewN' (Only.refl _ _) j)).dir.src (show m.count.dir.length ≤ 1000000 by omega) n
        rw [hdv] at this
        exact this
      have HDV := Hid.mk hdv
      have HM := Hid.mk hM
      clear hdv hM
      go_quiet ((go_at_call 36; exact Calls.quiet_of_same (hFind.out _)))
      generalize fidx m.count.dir n = fi
      have N0 := Hid.mk ((Now.start H.out MID.out).stay (Kept.drewN' (Only.refl (fun _ => False) w3) nq))
      have hac : Hid (c.ac.length ≤ 100000) := by have := HAC.out; have e := congrArg List.length N0.out.at5.acm; rw [List.length_map] at e; show _ ≤ _; rw [e]; exact this
      clear h3 x1 y0 y1 hFind hlt
      generalize w3.drewN nq = wq at N0 ⊢
      have hcd := N0.out.at5.cells
      have hop := N0.out.op
      have hl1 := hcd.lt
      have hl2 := hop.lt
      have x1 : wq.cell? ⟨c.d, 1, none⟩ = some (.slice da M dc) := by
        have := hcd.cell 1 rfl
        rw [HDV.out] at this
        exact this
      have y0 := hop.cell 0 rfl
      have y1 := hop.cell 1 rfl
      have y2 := hop.cell 2 rfl
      obtain ⟨aa, acap, hav⟩ := ownN_slice N0.out.at5.acts
      obtain ⟨A, hA⟩ : ∃ A, (c).ac.length = A := ⟨_, rfl⟩
      obtain ⟨g, gcap, w4, Hr, HC4, HO4, N1⟩ := Now.act N0.out ⟨2, n, [], 0⟩ hac.out
      rw [hav] at Hr
      rw [hA] at Hr N1 hav
      have x3 : wq.cell? ⟨c.d, 3, none⟩ = some (.slice aa A acap) := by
        have := hcd.cell 3 rfl
        rw [← hav]
        exact this
      have Hr' : Hid ((Builtin.append_ #[61, 61] 0 #[.slice aa A acap, .slice (some ⟨wq.heap.size, 0, none⟩) 1 1]).run Try.prog (wq.drew.alloc (.cells #[.int .i64 2, .string ⟨n.toArray⟩, .string ⟨#[]⟩, .int .i64 0] 73)) = .ok (.slice (some ⟨g, 0, none⟩) (A + 1) gcap) w4) := Hr
      clear Hr
      go_wp2_with fail
      refine wp_region_noPanic ?_
      refine wp_region_last (L := 12) (S := fun w' => w'.cell? ⟨c.d, 3, none⟩ = some (.slice aa A acap) ∧ w'.cell? ⟨w.heap.size, 1, none⟩ = some (.string ⟨n.toArray⟩)) (by kernel_rfl) ?_
      have hS : (fun w' : World => w'.cell? ⟨c.d, 3, none⟩ = some (.slice aa A acap) ∧ w'.cell? ⟨w.heap.size, 1, none⟩ = some (.string ⟨n.toArray⟩)) wq.drew := ⟨x3, y1⟩
      refine wpAnyL_take (i := 0) (v := .pointer (some ⟨c.d, 0, none⟩)) rfl (by kernel_rfl) (by kernel_rfl) (by kernel_rfl) (by kernel_rfl) (by kernel_rfl) (fun _ _ _ h => h) (Or.inl ⟨by rfl, ?_⟩) hS ?_
      · (intro w' hSw; go_simp)
      go_frame
      refine wpAnyL_take (i := 1) (v := .pointer (some ⟨c.d, 0, none⟩)) rfl (by kernel_rfl) (by kernel_rfl) (by kernel_rfl) (by kernel_rfl) (by kernel_rfl) (fun _ _ _ h => h) (Or.inl ⟨by rfl, ?_⟩) hS ?_
      · (intro w' hSw; go_simp)
      go_frame
      refine wpAnyL_take (i := 2) (v := .pointer (some ⟨c.d, 0, none⟩)) rfl (by kernel_rfl) (by kernel_rfl) (by kernel_rfl) (by kernel_rfl) (by kernel_rfl) (fun _ _ _ h => h) (Or.inl ⟨by rfl, ?_⟩) hS ?_
      · (intro w' hSw; go_simp)
      go_frame
      refine wpAnyL_take (i := 3) (v := .pointer (some ⟨c.d, 3, none⟩)) rfl (by kernel_rfl) (by kernel_rfl) (by kernel_rfl) (by kernel_rfl) (by kernel_rfl) (fun _ _ _ h => h) (Or.inl ⟨by rfl, ?_⟩) hS ?_
      · (intro w' hSw; go_simp)
      go_frame
      refine wpAnyL_take (i := 4) (v := .slice aa A acap) rfl (by kernel_rfl) (by kernel_rfl) (by kernel_rfl) (by kernel_rfl) (by kernel_rfl) (fun _ _ _ h => h) (Or.inl ⟨by rfl, ?_⟩) hS ?_
      · (intro w' hSw; go_simp)
      go_frame
      refine wpAnyL_take (i := 5) (v := .pointer (some ⟨w.heap.size, 1, none⟩)) rfl (by kernel_rfl) (by kernel_rfl) (by kernel_rfl) (by kernel_rfl) (by kernel_rfl) (fun _ _ _ h => h) (Or.inl ⟨by rfl, ?_⟩) hS ?_
      · (intro w' hSw; go_simp)
      go_frame
      refine wpAnyL_take (i := 6) (v := .string ⟨n.toArray⟩) rfl (by kernel_rfl) (by kernel_rfl) (by kernel_rfl) (by kernel_rfl) (by kernel_rfl) (fun _ _ _ h => h) (Or.inl ⟨by rfl, ?_⟩) hS ?_
      · (intro w' hSw; go_simp)
      go_frame
      refine wpAnyL_take (i := 7) (v := .agg #[.int .i64 2, .string ⟨n.toArray⟩, .string ⟨#[]⟩, .int .i64 0]) rfl (by kernel_rfl) (by kernel_rfl) (by kernel_rfl) (by kernel_rfl) (by kernel_rfl) (fun _ _ _ h => h) (Or.inl ⟨by rfl, ?_⟩) hS ?_
      · (intro w' hSw; go_simp)
      go_frame
      refine wpAnyL_one (i := 8) (by kernel_rfl) rfl rfl ?_
      go_simp
      refine wpAnyL_one (i := 9) (by kernel_rfl) rfl rfl ?_
      refine wp_append_run _ _ _ rfl (.slice aa A acap) (.slice (some ⟨wq.heap.size, 0, none⟩) 1 1) (by rfl) (by rfl) Hr' ?_
      have c3 : w4.cell? ⟨c.d, 3, none⟩ = some (.slice aa A acap) := by
        have := HC4.out.cell 3 rfl
        rw [← hav]
        exact this
      have f3 := HC4.out.frozen 3
      have z1 := HO4.out.cell 1 rfl
      have z2 := HO4.out.cell 2 rfl
      refine ⟨⟨c3, z1⟩, ?_⟩
      go_frame
      refine wpAnyL_one (i := 10) (by kernel_rfl) rfl rfl ?_
      go_simp
      refine wpAnyL_one (i := 11) (by kernel_rfl) rfl rfl ?_
      go_simp
      refine wpAnyL_last (by kernel_rfl) (by kernel_rfl) rfl rfl ?_
      go_simp
      refine NoPanic.normal ?_
      clear hS
      generalize w4.setCell ⟨c.d, 3, none⟩ (.slice (some ⟨g, 0, none⟩) (A + 1) gcap) = w5 at N1 ⊢
      clear HC4 HO4 c3 f3 z1 z2 x3 x1 y0 y1 y2 hcd hop hl1 hl2 Hr'
      have hcd := N1.out.at5.cells
      have hop := N1.out.op
      have hl1 : c.d < w5.heap.size := hcd.lt
      have hl2 := hop.lt
      have x1 : w5.cell? ⟨c.d, 1, none⟩ = some (.slice da M dc) := by
        have h1 : w5.cell? ⟨c.d, 1, none⟩ = some c.dv := hcd.cell 1 rfl
        rw [HDV.out] at h1
        exact h1
      have y1 := hop.cell 1 rfl
      have y2 := hop.cell 2 rfl
      have hes : EntSrc w5 (.slice da M dc) m.count.dir := by
        have h1 : EntSrc w5 c.dv m.count.dir := N1.out.at5.dir.src
        rw [HDV.out] at h1
        exact h1
      have hdrop := Hid.mk (rdrop_any (w := w5.drew) (hes.stay (Only.refl _ w5).drew) (by have := HM.out; omega) n)
      have hdf : Hid (∀ p ∈ DD.drop m.count.dir n, p.2 < m.count.files.length) := fun p hp => N1.out.at5.dirF p (List.mem_filter.1 hp).1
      clear hes
      go_wp2_with fail
      refine wp_region_noPanic ?_
      refine wp_region_last (L := 10) (S := fun w' => w'.cell? ⟨c.d, 1, none⟩ = some (.slice da M dc) ∧ w'.cell? ⟨w.heap.size, 1, none⟩ = some (.string ⟨n.toArray⟩)) (by kernel_rfl) ?_
      have hS : (fun w' : World => w'.cell? ⟨c.d, 1, none⟩ = some (.slice da M dc) ∧ w'.cell? ⟨w.heap.size, 1, none⟩ = some (.string ⟨n.toArray⟩)) w5.drew := ⟨x1, y1⟩
      refine wpAnyL_take (i := 0) (v := .pointer (some ⟨c.d, 0, none⟩)) rfl (by kernel_rfl) (by kernel_rfl) (by kernel_rfl) (by kernel_rfl) (by kernel_rfl) (fun _ _ _ h => h) (Or.inl ⟨by rfl, ?_⟩) hS ?_
      · (intro w' hSw; go_simp)
      go_frame
      refine wpAnyL_take (i := 1) (v := .pointer (some ⟨c.d, 0, none⟩)) rfl (by kernel_rfl) (by kernel_rfl) (by kernel_rfl) (by kernel_rfl) (by kernel_rfl) (fun _ _ _ h => h) (Or.inl ⟨by rfl, ?_⟩) hS ?_
      · (intro w' hSw; go_simp)
      go_frame
      refine wpAnyL_take (i := 2) (v := .pointer (some ⟨c.d, 0, none⟩)) rfl (by kernel_rfl) (by kernel_rfl) (by kernel_rfl) (by kernel_rfl) (by kernel_rfl) (fun _ _ _ h => h) (Or.inl ⟨by rfl, ?_⟩) hS ?_
      · (intro w' hSw; go_simp)
      go_frame
      refine wpAnyL_take (i := 3) (v := .pointer (some ⟨c.d, 1, none⟩)) rfl (by kernel_rfl) (by kernel_rfl) (by kernel_rfl) (by kernel_rfl) (by kernel_rfl) (fun _ _ _ h => h) (Or.inl ⟨by rfl, ?_⟩) hS ?_
      · (intro w' hSw; go_simp)
      go_frame
      refine wpAnyL_take (i := 4) (v := .slice da M dc) rfl (by kernel_rfl) (by kernel_rfl) (by kernel_rfl) (by kernel_rfl) (by kernel_rfl) (fun _ _ _ h => h) (Or.inl ⟨by rfl, ?_⟩) hS ?_
      · (intro w' hSw; go_simp)
      go_frame
      refine wpAnyL_take (i := 5) (v := .pointer (some ⟨w.heap.size, 1, none⟩)) rfl (by kernel_rfl) (by kernel_rfl) (by kernel_rfl) (by kernel_rfl) (by kernel_rfl) (fun _ _ _ h => h) (Or.inl ⟨by rfl, ?_⟩) hS ?_
      · (intro w' hSw; go_simp)
      go_frame
      refine wpAnyL_take (i := 6) (v := .string ⟨n.toArray⟩) rfl (by kernel_rfl) (by kernel_rfl) (by kernel_rfl) (by kernel_rfl) (by kernel_rfl) (fun _ _ _ h => h) (Or.inl ⟨by rfl, ?_⟩) hS ?_
      · (intro w' hSw; go_simp)
      go_frame
      refine wpAnyL_one (i := 7) (by kernel_rfl) rfl rfl ?_
      go_simp
      refine hdrop.out.mono ?_
      rintro e w6 ⟨v6, rfl, ho6, hk6⟩
      obtain ⟨hc6, hp6, N2⟩ := Now.dir N1.out ((Only.refl (fun _ => False) w5).drew.trans hk6 (fun _ _ f => f)) ho6 hdf.out
      obtain ⟨a6, cp6, rfl⟩ := ownN_slice ho6
      have c1 : w6.cell? ⟨c.d, 1, none⟩ = some (.slice da M dc) := by
        have h1 : w6.cell? ⟨c.d, 1, none⟩ = some c.dv := hc6.cell 1 rfl
        rw [HDV.out] at h1
        exact h1
      have f1 : w6.frozen? ⟨c.d, 1, none⟩ = false := hc6.frozen 1
      have bq1 := hp6.cell 1 rfl
      have bq2 := hp6.cell 2 rfl
      have HN2 := Hid.mk N2
      clear N2 hc6 hp6 ho6 hk6
      refine ⟨⟨c1, bq1⟩, ?_⟩
      refine wpAnyL_one (i := 8) (by kernel_rfl) rfl rfl ?_
      go_simp
      refine wpAnyL_one (i := 9) (by kernel_rfl) rfl rfl ?_
      go_simp
      refine wpAnyL_last (by kernel_rfl) (by kernel_rfl) rfl rfl ?_
      go_simp
      refine NoPanic.normal ?_
      clear hS
      go_wp2_with fail
      go_ret
      exact Now.post HN2.out HE.out rfl
end
end Go.Proofs.Ytfmdnaagdhpcpaa
