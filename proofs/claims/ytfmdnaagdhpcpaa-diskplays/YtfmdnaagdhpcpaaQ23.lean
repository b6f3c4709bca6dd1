/-
  Edone3.
-/
import Derived.Test.YtfmdnaagdhpcpaaQ18

/-
  The document's own disk: Do of kind 3, done.
-/
namespace Go.Proofs.Ytfmdnaagdhpcpaa
open Go.RowKit Go.Proofs.Lys Go.Maps Go.Shelf
set_option linter.unusedVariables false

section
variable {w : World} {c : RConc} {O : Nat → Prop} {m : DModel}

set_option maxRecDepth 100000 in
set_option maxHeartbeats 1600000 in
theorem rdone3 (h : RAt w c O m) (hd : m.dir.length ≤ 10000) (hnd : (m.dir.map (·.2)).Nodup) (n t bs : List UInt8) (ba : Option Addr) (bc : Nat) (hB : bs.length ≤ 1000000) (hsrc : SrcOf w (.slice ba bs.length bc) (bs.map bV)) (hoff : m.off = false) (hf : m.fuse ≠ some 0) (ho : m.own ⟨3, n, t, bs⟩ = 0) (hfa : m.fault ≠ some 0)
    (hst : m.steps ≤ 1000000000) (hac : m.acts.length ≤ 100000) (hfl : m.files.length ≤ 100000) (hfb : ∀ x, m.fuse = some x → x ≤ 9223372036854775807) (hab : ∀ x, m.fault = some x → x ≤ 9223372036854775807) : Calls Try.prog 12 #[.pointer (some ⟨c.d, 0, none⟩), .agg #[.int .i64 3, .string ⟨n.toArray⟩, .string ⟨t.toArray⟩, .slice ba bs.length bc]] w (RPost w c O m ⟨3, n, t, bs⟩) := by
  have H := Hid.mk h
  have k1 : Kept w (w.alloc (.cells #[.int .i64 3, .string ⟨n.toArray⟩, .string ⟨t.toArray⟩, .slice ba bs.length bc] 31)) := (Only.refl (fun _ => False) w).alloc _
  have hown := Hid.mk (rown_any (h.stay k1) hd hnd 3 n t bs ba bc (by decide) (by decide) hB)
  have HE : Hid (m.doOp ⟨3, n, t, bs⟩ = (0, m.count.done ⟨3, n, t, bs⟩)) := by show _ = _; rw [done_count]; exact do_done (m := m) (o := ⟨3, n, t, bs⟩) (show (0 : Int) ≤ 3 by decide) (show (3 : Int) ≤ 5 by decide) hoff hf ho hfa
  obtain ⟨B, hBl⟩ : ∃ B, bs.length = B := ⟨_, rfl⟩
  have HB := Hid.mk hBl
  have HO := Hid.mk ho
  have HD0 := Hid.mk hd
  have HSRC := Hid.mk hsrc
  rw [hBl, ho] at hown
  rw [hBl] at HSRC ⊢
  have x5 : w.cell? ⟨c.d, 5, none⟩ = some (.bool m.off) := h.cells.cell 5 rfl
  have x6 : w.cell? ⟨c.d, 6, none⟩ = some (.int .i64 (laidI m.fuse)) := h.cells.cell 6 rfl
  rw [hoff] at x5
  have d3 := fuse_ne m.fuse hf
  generalize hfz : laidI m.fuse = fz at x6 d3
  have hlt := h.cells.lt
  have hfz0 : ¬ fz = 0 := of_decide_eq_false d3
  have Hst := Hid.mk hst
  have HAC : Hid (m.count.acts.length ≤ 100000) := hac
  have HFL : Hid (m.count.files.length ≤ 100000) := hfl
  clear h k1 hBl ho hd hnd hsrc hst hac hfl
  go_enter Try.func12, Try.ntmps12
  go_wp2_with fail
  refine hown.out.mono ?_
  rintro e w2 ⟨rfl, k2⟩
  obtain ⟨hk2, hop⟩ := own_behind H.out k2
  have h2 := H.out.stay hk2
  clear x5 x6 k2 hown d3 hfz0
  have x6 : w2.cell? ⟨c.d, 6, none⟩ = some (.int .i64 (laidI m.fuse)) := h2.cells.cell 6 rfl
  have x7 : w2.cell? ⟨c.d, 7, none⟩ = some (.int .i64 (laidI m.fault)) := h2.cells.cell 7 rfl
  have x8 : w2.cell? ⟨c.d, 8, none⟩ = some (.int .i64 (m.steps : Int)) := h2.cells.cell 8 rfl
  have f6 : w2.frozen? ⟨c.d, 6, none⟩ = false := h2.cells.frozen 6
  have f7 : w2.frozen? ⟨c.d, 7, none⟩ = false := h2.cells.frozen 7
  have f8 : w2.frozen? ⟨c.d, 8, none⟩ = false := h2.cells.frozen 8
  have hst := Hst.out
  cases hFa : m.fault with
  | none =>
    cases hFu : m.fuse with
    | none =>
      have MID := Hid.mk (mid_nn H.out hk2 hop hFa hFu)
      rw [hFa] at x7
      rw [hFu] at x6
      unfold laidI at x6 x7
      clear h2 hk2 hop
      go_wp2_with fail
      generalize w2.setCell ⟨c.d, 8, none⟩ (.int .i64 ((m.steps : Int) + 1)) = w3 at MID ⊢
      clear x6 x7 x8 f6 f7 f8
      have h3 := MID.out.at3
      obtain ⟨da, dc, hdv⟩ := ownN_slice h3.dir
      obtain ⟨M, hM⟩ : ∃ M, m.count.dir.length = M := ⟨_, rfl⟩
      rw [hM] at hdv
      have hMl : M ≤ 10000 := by rw [← hM]; exact HD0.out
      have x1 : w3.cell? ⟨c.d, 1, none⟩ = some (.slice da M dc) := by
        have := h3.cells.cell 1 rfl
        rw [hdv] at this
        exact this
      have y0 := MID.out.op.cell 0 rfl
      have y1 := MID.out.op.cell 1 rfl
      have hFind : Hid (∀ j, Calls Try.prog 36 #[.slice da M dc, .string ⟨n.toArray⟩] (w3.drewN j) fun e w' => e = .returned (.int .i64 (fidx m.count.dir n)) ∧ w' = w3.drewN j) := fun j => by
        have := rfind_any (h3.stay (Kept.drewN' (Only.refl _ _) j)).dir.src (show m.count.dir.length ≤ 1000000 by omega) n
        rw [hdv] at this
        exact this
      have HDV := Hid.mk hdv
      have HM := Hid.mk hM
      clear hdv hM
      go_quiet ((go_at_call 36; exact Calls.quiet_of_same (hFind.out _)))
      rcases fidx_look m.count.dir n with ⟨hl, hi⟩ | ⟨i, hi', hi, hl⟩
      · exfalso
        have h6 := HO.out
        change (if (DD.look m.dir n).isSome then (if namedB t = false then 1 else 0) else 6) = 0 at h6
        have hl2 : DD.look m.dir n = none := hl
        rw [hl2] at h6
        cases h6
      rw [hi]
      have hiM : i < M := by have := HM.out; omega
      have hes : EntSrc w3 (.slice da M dc) m.count.dir := by
        have := h3.dir.src
        rw [HDV.out] at this
        exact this
      obtain ⟨F, hF2⟩ : ∃ F, m.count.dir[i].2 = F := ⟨_, rfl⟩
      rw [hF2] at hl
      have hFl : F < m.count.files.length := by rw [← hF2]; exact h3.dirF _ (List.getElem_mem hi')
      have HLK := Hid.mk hl
      have HFl := Hid.mk hFl
      have hed : EntSrc (w3.drewN nq) (.slice da M dc) m.count.dir := hes.stay (Kept.drewN' (Only.refl _ w3) nq)
      obtain ⟨b1, o1, hda, e0, e1⟩ := hed.cell HM.out i hiM
      subst hda
      rw [hF2] at e1
      clear hes hed hF2 e0 hi hl hFl
      have N0 := Hid.mk ((Now.start H.out MID.out).stay (Kept.drewN' (Only.refl (fun _ => False) w3) nq))
      have hac : Hid (c.ac.length ≤ 100000) := by have := HAC.out; have e := congrArg List.length N0.out.at5.acm; rw [List.length_map] at e; show _ ≤ _; rw [e]; exact this
      clear h3 x1 y0 y1 hFind hlt
      generalize w3.drewN nq = wq at N0 e1 ⊢
      have hcd := N0.out.at5.cells
      have hop := N0.out.op
      have hl1 := hcd.lt
      have hl2 := hop.lt
      have x1 : wq.cell? ⟨c.d, 1, none⟩ = some (.slice (some ⟨b1, o1, none⟩) M dc) := by
        have := hcd.cell 1 rfl
        rw [HDV.out] at this
        exact this
      have y0 := hop.cell 0 rfl
      have y1 := hop.cell 1 rfl
      have y2 := hop.cell 2 rfl
      obtain ⟨aa, acap, hav⟩ := ownN_slice N0.out.at5.acts
      obtain ⟨A, hA⟩ : ∃ A, (c).ac.length = A := ⟨_, rfl⟩
      obtain ⟨g, gcap, w4, Hr, HC4, HO4, N1⟩ := Now.act N0.out ⟨1, n, t, F⟩ hac.out
      rw [hav] at Hr
      rw [hA] at Hr N1 hav
      have x3 : wq.cell? ⟨c.d, 3, none⟩ = some (.slice aa A acap) := by
        have := hcd.cell 3 rfl
        rw [← hav]
        exact this
      have Hr' : Hid ((Builtin.append_ #[61, 61] 0 #[.slice aa A acap, .slice (some ⟨wq.heap.size, 0, none⟩) 1 1]).run Try.prog (wq.drew.alloc (.cells #[.int .i64 1, .string ⟨n.toArray⟩, .string ⟨t.toArray⟩, .int .i64 (F : Int)] 73)) = .ok (.slice (some ⟨g, 0, none⟩) (A + 1) gcap) w4) := Hr
      clear Hr
      go_wp2_with fail
      refine wp_region_noPanic ?_
      refine wp_region_last (L := 15) (S := fun w' => w'.cell? ⟨c.d, 3, none⟩ = some (.slice aa A acap) ∧ w'.cell? ⟨w.heap.size, 1, none⟩ = some (.string ⟨n.toArray⟩) ∧ w'.cell? ⟨w.heap.size, 2, none⟩ = some (.string ⟨t.toArray⟩)) (by kernel_rfl) ?_
      have hS : (fun w' : World => w'.cell? ⟨c.d, 3, none⟩ = some (.slice aa A acap) ∧ w'.cell? ⟨w.heap.size, 1, none⟩ = some (.string ⟨n.toArray⟩) ∧ w'.cell? ⟨w.heap.size, 2, none⟩ = some (.string ⟨t.toArray⟩)) wq.drew := ⟨x3, y1, y2⟩
      refine wpAnyL_take (i := 0) (v := .pointer (some ⟨c.d, 0, none⟩)) rfl (by kernel_rfl) (by kernel_rfl) (by kernel_rfl) (by kernel_rfl) (by kernel_rfl) (fun _ _ _ h => h) (Or.inl ⟨by rfl, ?_⟩) hS ?_
      · (intro w' hSw; go_simp)
      go_frame
      refine wpAnyL_take (i := 1) (v := .pointer (some ⟨c.d, 0, none⟩)) rfl (by kernel_rfl) (by kernel_rfl) (by kernel_rfl) (by kernel_rfl) (by kernel_rfl) (fun _ _ _ h => h) (Or.inl ⟨by rfl, ?_⟩) hS ?_
      · (intro w' hSw; go_simp)
      go_frame
      refine wpAnyL_take (i := 2) (v := .pointer (some ⟨c.d, 0, none⟩)) rfl (by kernel_rfl) (by kernel_rfl) (by kernel_rfl) (by kernel_rfl) (by kernel_rfl) (fun _ _ _ h => h) (Or.inl ⟨by rfl, ?_⟩) hS ?_
      · (intro w' hSw; go_simp)
      go_frame
      refine wpAnyL_take (i := 3) (v := .pointer (some ⟨c.d, 3, none⟩)) rfl (by kernel_rfl) (by kernel_rfl) (by kernel_rfl) (by kernel_rfl) (by kernel_rfl) (fun _ _ _ h => h) (Or.inl ⟨by rfl, ?_⟩) hS ?_
      · (intro w' hSw; go_simp)
      go_frame
      refine wpAnyL_take (i := 4) (v := .slice aa A acap) rfl (by kernel_rfl) (by kernel_rfl) (by kernel_rfl) (by kernel_rfl) (by kernel_rfl) (fun _ _ _ h => h) (Or.inl ⟨by rfl, ?_⟩) hS ?_
      · (intro w' hSw; go_simp)
      go_frame
      refine wpAnyL_take (i := 5) (v := .pointer (some ⟨w.heap.size, 1, none⟩)) rfl (by kernel_rfl) (by kernel_rfl) (by kernel_rfl) (by kernel_rfl) (by kernel_rfl) (fun _ _ _ h => h) (Or.inl ⟨by rfl, ?_⟩) hS ?_
      · (intro w' hSw; go_simp)
      go_frame
      refine wpAnyL_take (i := 6) (v := .string ⟨n.toArray⟩) rfl (by kernel_rfl) (by kernel_rfl) (by kernel_rfl) (by kernel_rfl) (by kernel_rfl) (fun _ _ _ h => h) (Or.inl ⟨by rfl, ?_⟩) hS ?_
      · (intro w' hSw; go_simp)
      go_frame
      refine wpAnyL_take (i := 7) (v := .pointer (some ⟨w.heap.size, 2, none⟩)) rfl (by kernel_rfl) (by kernel_rfl) (by kernel_rfl) (by kernel_rfl) (by kernel_rfl) (fun _ _ _ h => h) (Or.inl ⟨by rfl, ?_⟩) hS ?_
      · (intro w' hSw; go_simp)
      go_frame
      refine wpAnyL_take (i := 8) (v := .string ⟨t.toArray⟩) rfl (by kernel_rfl) (by kernel_rfl) (by kernel_rfl) (by kernel_rfl) (by kernel_rfl) (fun _ _ _ h => h) (Or.inl ⟨by rfl, ?_⟩) hS ?_
      · (intro w' hSw; go_simp)
      go_frame
      refine wpAnyL_take (i := 9) (v := .int .i64 (F : Int)) rfl (by kernel_rfl) (by kernel_rfl) (by kernel_rfl) (by kernel_rfl) (by kernel_rfl) (fun _ _ _ h => h) (Or.inl ⟨by rfl, ?_⟩) hS ?_
      · (intro w' hSw; go_simp)
      go_frame
      refine wpAnyL_take (i := 10) (v := .agg #[.int .i64 1, .string ⟨n.toArray⟩, .string ⟨t.toArray⟩, .int .i64 (F : Int)]) rfl (by kernel_rfl) (by kernel_rfl) (by kernel_rfl) (by kernel_rfl) (by kernel_rfl) (fun _ _ _ h => h) (Or.inl ⟨by rfl, ?_⟩) hS ?_
      · (intro w' hSw; go_simp)
      go_frame
      refine wpAnyL_one (i := 11) (by kernel_rfl) rfl rfl ?_
      go_simp
      refine wpAnyL_one (i := 12) (by kernel_rfl) rfl rfl ?_
      refine wp_append_run _ _ _ rfl (.slice aa A acap) (.slice (some ⟨wq.heap.size, 0, none⟩) 1 1) (by rfl) (by rfl) Hr' ?_
      have c3 : w4.cell? ⟨c.d, 3, none⟩ = some (.slice aa A acap) := by
        have := HC4.out.cell 3 rfl
        rw [← hav]
        exact this
      have f3 := HC4.out.frozen 3
      have z1 := HO4.out.cell 1 rfl
      have z2 := HO4.out.cell 2 rfl
      refine ⟨⟨c3, z1, z2⟩, ?_⟩
      go_frame
      refine wpAnyL_one (i := 13) (by kernel_rfl) rfl rfl ?_
      go_simp
      refine wpAnyL_one (i := 14) (by kernel_rfl) rfl rfl ?_
      go_simp
      refine wpAnyL_last (by kernel_rfl) (by kernel_rfl) rfl rfl ?_
      go_simp
      refine NoPanic.normal ?_
      clear hS
      generalize w4.setCell ⟨c.d, 3, none⟩ (.slice (some ⟨g, 0, none⟩) (A + 1) gcap) = w5 at N1 ⊢
      clear e1 HC4 HO4 c3 f3 z1 z2 x3 x1 y0 y1 y2 hcd hop hl1 hl2 Hr'
      have hcd := N1.out.at5.cells
      have hop := N1.out.op
      have hl1 : c.d < w5.heap.size := hcd.lt
      have hl2 := hop.lt
      have x1 : w5.cell? ⟨c.d, 1, none⟩ = some (.slice (some ⟨b1, o1, none⟩) M dc) := by
        have h1 : w5.cell? ⟨c.d, 1, none⟩ = some c.dv := hcd.cell 1 rfl
        rw [HDV.out] at h1
        exact h1
      have y1 := hop.cell 1 rfl
      have y2 := hop.cell 2 rfl
      have hes : EntSrc w5 (.slice (some ⟨b1, o1, none⟩) M dc) m.count.dir := by
        have h1 : EntSrc w5 c.dv m.count.dir := N1.out.at5.dir.src
        rw [HDV.out] at h1
        exact h1
      have hdrop := Hid.mk (rdrop_any (w := w5.drew) (hes.stay (Only.refl _ w5).drew) (by have := HM.out; omega) n)
      have hdl : (DD.drop m.count.dir n).length ≤ 10000 := by have := List.length_filter_le (fun p => p.1 != n) m.count.dir; have := HM.out; have := drop_le m.count.dir n; omega
      have hdf : Hid (∀ p ∈ DD.put (DD.drop m.count.dir n) t F, p.2 < m.count.files.length) := fun p hp => by
        rcases put_mem hp with h | h
        · rw [h]; exact HFl.out
        · exact N1.out.at5.dirF p (List.mem_filter.1 h).1
      have hput : Hid (∀ W v, EntSrc W v (DD.drop m.count.dir n) → Calls Try.prog 37 #[v, .string ⟨t.toArray⟩, .int .i64 (F : Int)] W fun e w' => ∃ v', e = .returned v' ∧ EntAt w' W.heap.size v' (DD.put (DD.drop m.count.dir n) t F) ∧ Kept W w') := fun W v h => rput_any h hdl t F
      clear hes hdl
      go_wp2_with fail
      refine wp_region_noPanic ?_
      refine wp_region_last (L := 14) (S := fun w' => w'.cell? ⟨c.d, 1, none⟩ = some (.slice (some ⟨b1, o1, none⟩) M dc) ∧ w'.cell? ⟨w.heap.size, 1, none⟩ = some (.string ⟨n.toArray⟩) ∧ w'.cell? ⟨w.heap.size, 2, none⟩ = some (.string ⟨t.toArray⟩)) (by kernel_rfl) ?_
      have hS : (fun w' : World => w'.cell? ⟨c.d, 1, none⟩ = some (.slice (some ⟨b1, o1, none⟩) M dc) ∧ w'.cell? ⟨w.heap.size, 1, none⟩ = some (.string ⟨n.toArray⟩) ∧ w'.cell? ⟨w.heap.size, 2, none⟩ = some (.string ⟨t.toArray⟩)) w5.drew := ⟨x1, y1, y2⟩
      refine wpAnyL_take (i := 0) (v := .pointer (some ⟨c.d, 0, none⟩)) rfl (by kernel_rfl) (by kernel_rfl) (by kernel_rfl) (by kernel_rfl) (by kernel_rfl) (fun _ _ _ h => h) (Or.inl ⟨by rfl, ?_⟩) hS ?_
      · (intro w' hSw; go_simp)
      go_frame
      refine wpAnyL_take (i := 1) (v := .pointer (some ⟨c.d, 0, none⟩)) rfl (by kernel_rfl) (by kernel_rfl) (by kernel_rfl) (by kernel_rfl) (by kernel_rfl) (fun _ _ _ h => h) (Or.inl ⟨by rfl, ?_⟩) hS ?_
      · (intro w' hSw; go_simp)
      go_frame
      refine wpAnyL_take (i := 2) (v := .pointer (some ⟨c.d, 0, none⟩)) rfl (by kernel_rfl) (by kernel_rfl) (by kernel_rfl) (by kernel_rfl) (by kernel_rfl) (fun _ _ _ h => h) (Or.inl ⟨by rfl, ?_⟩) hS ?_
      · (intro w' hSw; go_simp)
      go_frame
      refine wpAnyL_take (i := 3) (v := .pointer (some ⟨c.d, 1, none⟩)) rfl (by kernel_rfl) (by kernel_rfl) (by kernel_rfl) (by kernel_rfl) (by kernel_rfl) (fun _ _ _ h => h) (Or.inl ⟨by rfl, ?_⟩) hS ?_
      · (intro w' hSw; go_simp)
      go_frame
      refine wpAnyL_take (i := 4) (v := .slice (some ⟨b1, o1, none⟩) M dc) rfl (by kernel_rfl) (by kernel_rfl) (by kernel_rfl) (by kernel_rfl) (by kernel_rfl) (fun _ _ _ h => h) (Or.inl ⟨by rfl, ?_⟩) hS ?_
      · (intro w' hSw; go_simp)
      go_frame
      refine wpAnyL_take (i := 5) (v := .pointer (some ⟨w.heap.size, 1, none⟩)) rfl (by kernel_rfl) (by kernel_rfl) (by kernel_rfl) (by kernel_rfl) (by kernel_rfl) (fun _ _ _ h => h) (Or.inl ⟨by rfl, ?_⟩) hS ?_
      · (intro w' hSw; go_simp)
      go_frame
      refine wpAnyL_take (i := 6) (v := .string ⟨n.toArray⟩) rfl (by kernel_rfl) (by kernel_rfl) (by kernel_rfl) (by kernel_rfl) (by kernel_rfl) (fun _ _ _ h => h) (Or.inl ⟨by rfl, ?_⟩) hS ?_
      · (intro w' hSw; go_simp)
      go_frame
      refine wpAnyL_take (i := 8) (v := .pointer (some ⟨w.heap.size, 2, none⟩)) rfl (by kernel_rfl) (by kernel_rfl) (by kernel_rfl) (by kernel_rfl) (by kernel_rfl) (fun _ _ _ h => h) (Or.inl ⟨by rfl, ?_⟩) hS ?_
      · (intro w' hSw; go_simp)
      go_frame
      refine wpAnyL_take (i := 9) (v := .string ⟨t.toArray⟩) rfl (by kernel_rfl) (by kernel_rfl) (by kernel_rfl) (by kernel_rfl) (by kernel_rfl) (fun _ _ _ h => h) (Or.inl ⟨by rfl, ?_⟩) hS ?_
      · (intro w' hSw; go_simp)
      go_frame
      refine wpAnyL_take (i := 10) (v := .int .i64 (F : Int)) rfl (by kernel_rfl) (by kernel_rfl) (by kernel_rfl) (by kernel_rfl) (by kernel_rfl) (fun _ _ _ h => h) (Or.inl ⟨by rfl, ?_⟩) hS ?_
      · (intro w' hSw; go_simp)
      go_frame
      refine wpAnyL_one (i := 7) (by kernel_rfl) rfl rfl ?_
      go_simp
      refine hdrop.out.mono ?_
      rintro e w6 ⟨v6, rfl, ho6, hk6⟩
      have hk6' : Kept w5 w6 := (Only.refl (fun _ => False) w5).drew.trans hk6 (fun _ _ f => f)
      have N6 := N1.out.stay hk6'
      have c1 : w6.cell? ⟨c.d, 1, none⟩ = some (.slice (some ⟨b1, o1, none⟩) M dc) := by
        have h1 : w6.cell? ⟨c.d, 1, none⟩ = some c.dv := N6.at5.cells.cell 1 rfl
        rw [HDV.out] at h1
        exact h1
      have f1 : w6.frozen? ⟨c.d, 1, none⟩ = false := N6.at5.cells.frozen 1
      have bq1 := N6.op.cell 1 rfl
      have bq2 := N6.op.cell 2 rfl
      have hs6 := ho6.src
      obtain ⟨a6, cp6, rfl⟩ := ownN_slice ho6
      have HN6 := Hid.mk N6
      have HK6 := Hid.mk hk6'
      have hput6 := Hid.mk (hput.out w6 _ hs6)
      clear N6 hk6 hk6' ho6 hs6
      refine ⟨⟨c1, bq1, bq2⟩, ?_⟩
      refine wpAnyL_one (i := 11) (by kernel_rfl) rfl rfl ?_
      go_simp
      refine hput6.out.mono ?_
      rintro e w7 ⟨v7, rfl, ho7, hk7⟩
      obtain ⟨hc7, hp7, N7⟩ := Now.dir HN6.out hk7 ho7 hdf.out
      obtain ⟨a7, cp7, rfl⟩ := ownN_slice ho7
      clear c1 f1 bq1 bq2
      have c71 : w7.cell? ⟨c.d, 1, none⟩ = some (.slice (some ⟨b1, o1, none⟩) M dc) := by
        have h1 : w7.cell? ⟨c.d, 1, none⟩ = some c.dv := hc7.cell 1 rfl
        rw [HDV.out] at h1
        exact h1
      have f71 : w7.frozen? ⟨c.d, 1, none⟩ = false := hc7.frozen 1
      have b71 := hp7.cell 1 rfl
      have b72 := hp7.cell 2 rfl
      have HN7 := Hid.mk N7
      clear N7 hc7 hp7 ho7 hk7
      refine ⟨⟨c71, b71, b72⟩, ?_⟩
      refine wpAnyL_one (i := 12) (by kernel_rfl) rfl rfl ?_
      go_simp
      refine wpAnyL_one (i := 13) (by kernel_rfl) rfl rfl ?_
      go_simp
      refine wpAnyL_last (by kernel_rfl) (by kernel_rfl) rfl rfl ?_
      go_simp
      refine NoPanic.normal ?_
      clear hS
      go_wp2_with fail
      go_ret
      refine Now.post HN7.out HE.out ?_
      have hlk := HLK.out
      show _ = ({ m.count with dir := DD.act m.count.dir ⟨1, n, t, 0⟩, acts := m.count.acts ++ [⟨1, n, t, 0⟩] } : DModel)
      unfold DD.act
      simp only [Nat.one_ne_zero, if_false, if_true, hlk]
      rfl
    | some b0 =>
      obtain ⟨b, rfl⟩ : ∃ b, b0 = b + 1 := ⟨b0 - 1, by have : b0 ≠ 0 := fun e => hf (by rw [hFu, e]); omega⟩
      have hbb := hfb _ hFu
      have MID := Hid.mk (mid_ns H.out hk2 hop hFa hFu)
      rw [hFa] at x7
      rw [hFu] at x6
      unfold laidI at x6 x7
      clear h2 hk2 hop
      go_wp2_with fail
      generalize (w2.setCell ⟨c.d, 6, none⟩ (.int .i64 (b : Int))).setCell ⟨c.d, 8, none⟩ (.int .i64 ((m.steps : Int) + 1)) = w3 at MID ⊢
      clear x6 x7 x8 f6 f7 f8
      have h3 := MID.out.at3
      obtain ⟨da, dc, hdv⟩ := ownN_slice h3.dir
      obtain ⟨M, hM⟩ : ∃ M, m.count.dir.length = M := ⟨_, rfl⟩
      rw [hM] at hdv
      have hMl : M ≤ 10000 := by rw [← hM]; exact HD0.out
      have x1 : w3.cell? ⟨c.d, 1, none⟩ = some (.slice da M dc) := by
        have := h3.cells.cell 1 rfl
        rw [hdv] at this
        exact this
      have y0 := MID.out.op.cell 0 rfl
      have y1 := MID.out.op.cell 1 rfl
      have hFind : Hid (∀ j, Calls Try.prog 36 #[.slice da M dc, .string ⟨n.toArray⟩] (w3.drewN j) fun e w' => e = .returned (.int .i64 (fidx m.count.dir n)) ∧ w' = w3.drewN j) := fun j => by
        have := rfind_any (h3.stay (Kept.drewN' (Only.refl _ _) j)).dir.src (show m.count.dir.length ≤ 1000000 by omega) n
        rw [hdv] at this
        exact this
      have HDV := Hid.mk hdv
      have HM := Hid.mk hM
      clear hdv hM
      go_quiet ((go_at_call 36; exact Calls.quiet_of_same (hFind.out _)))
      rcases fidx_look m.count.dir n with ⟨hl, hi⟩ | ⟨i, hi', hi, hl⟩
      · exfalso
        have h6 := HO.out
        change (if (DD.look m.dir n).isSome then (if namedB t = false then 1 else 0) else 6) = 0 at h6
        have hl2 : DD.look m.dir n = none := hl
        rw [hl2] at h6
        cases h6
      rw [hi]
      have hiM : i < M := by have := HM.out; omega
      have hes : EntSrc w3 (.slice da M dc) m.count.dir := by
        have := h3.dir.src
        rw [HDV.out] at this
        exact this
      obtain ⟨F, hF2⟩ : ∃ F, m.count.dir[i].2 = F := ⟨_, rfl⟩
      rw [hF2] at hl
      have hFl : F < m.count.files.length := by rw [← hF2]; exact h3.dirF _ (List.getElem_mem hi')
      have HLK := Hid.mk hl
      have HFl := Hid.mk hFl
      have hed : EntSrc (w3.drewN nq) (.slice da M dc) m.count.dir := hes.stay (Kept.drewN' (Only.refl _ w3) nq)
      obtain ⟨b1, o1, hda, e0, e1⟩ := hed.cell HM.out i hiM
      subst hda
      rw [hF2] at e1
      clear hes hed hF2 e0 hi hl hFl
      have N0 := Hid.mk ((Now.start H.out MID.out).stay (Kept.drewN' (Only.refl (fun _ => False) w3) nq))
      have hac : Hid (c.ac.length ≤ 100000) := by have := HAC.out; have e := congrArg List.length N0.out.at5.acm; rw [List.length_map] at e; show _ ≤ _; rw [e]; exact this
      clear h3 x1 y0 y1 hFind hlt
      generalize w3.drewN nq = wq at N0 e1 ⊢
      have hcd := N0.out.at5.cells
      have hop := N0.out.op
      have hl1 := hcd.lt
      have hl2 := hop.lt
      have x1 : wq.cell? ⟨c.d, 1, none⟩ = some (.slice (some ⟨b1, o1, none⟩) M dc) := by
        have := hcd.cell 1 rfl
        rw [HDV.out] at this
        exact this
      have y0 := hop.cell 0 rfl
      have y1 := hop.cell 1 rfl
      have y2 := hop.cell 2 rfl
      obtain ⟨aa, acap, hav⟩ := ownN_slice N0.out.at5.acts
      obtain ⟨A, hA⟩ : ∃ A, (c).ac.length = A := ⟨_, rfl⟩
      obtain ⟨g, gcap, w4, Hr, HC4, HO4, N1⟩ := Now.act N0.out ⟨1, n, t, F⟩ hac.out
      rw [hav] at Hr
      rw [hA] at Hr N1 hav
      have x3 : wq.cell? ⟨c.d, 3, none⟩ = some (.slice aa A acap) := by
        have := hcd.cell 3 rfl
        rw [← hav]
        exact this
      have Hr' : Hid ((Builtin.append_ #[61, 61] 0 #[.slice aa A acap, .slice (some ⟨wq.heap.size, 0, none⟩) 1 1]).run Try.prog (wq.drew.alloc (.cells #[.int .i64 1, .string ⟨n.toArray⟩, .string ⟨t.toArray⟩, .int .i64 (F : Int)] 73)) = .ok (.slice (some ⟨g, 0, none⟩) (A + 1) gcap) w4) := Hr
      clear Hr
      go_wp2_with fail
      refine wp_region_noPanic ?_
      refine wp_region_last (L := 15) (S := fun w' => w'.cell? ⟨c.d, 3, none⟩ = some (.slice aa A acap) ∧ w'.cell? ⟨w.heap.size, 1, none⟩ = some (.string ⟨n.toArray⟩) ∧ w'.cell? ⟨w.heap.size, 2, none⟩ = some (.string ⟨t.toArray⟩)) (by kernel_rfl) ?_
      have hS : (fun w' : World => w'.cell? ⟨c.d, 3, none⟩ = some (.slice aa A acap) ∧ w'.cell? ⟨w.heap.size, 1, none⟩ = some (.string ⟨n.toArray⟩) ∧ w'.cell? ⟨w.heap.size, 2, none⟩ = some (.string ⟨t.toArray⟩)) wq.drew := ⟨x3, y1, y2⟩
      refine wpAnyL_take (i := 0) (v := .pointer (some ⟨c.d, 0, none⟩)) rfl (by kernel_rfl) (by kernel_rfl) (by kernel_rfl) (by kernel_rfl) (by kernel_rfl) (fun _ _ _ h => h) (Or.inl ⟨by rfl, ?_⟩) hS ?_
      · (intro w' hSw; go_simp)
      go_frame
      refine wpAnyL_take (i := 1) (v := .pointer (some ⟨c.d, 0, none⟩)) rfl (by kernel_rfl) (by kernel_rfl) (by kernel_rfl) (by kernel_rfl) (by kernel_rfl) (fun _ _ _ h => h) (Or.inl ⟨by rfl, ?_⟩) hS ?_
      · (intro w' hSw; go_simp)
      go_frame
      refine wpAnyL_take (i := 2) (v := .pointer (some ⟨c.d, 0, none⟩)) rfl (by kernel_rfl) (by kernel_rfl) (by kernel_rfl) (by kernel_rfl) (by kernel_rfl) (fun _ _ _ h => h) (Or.inl ⟨by rfl, ?_⟩) hS ?_
      · (intro w' hSw; go_simp)
      go_frame
      refine wpAnyL_take (i := 3) (v := .pointer (some ⟨c.d, 3, none⟩)) rfl (by kernel_rfl) (by kernel_rfl) (by kernel_rfl) (by kernel_rfl) (by kernel_rfl) (fun _ _ _ h => h) (Or.inl ⟨by rfl, ?_⟩) hS ?_
      · (intro w' hSw; go_simp)
      go_frame
      refine wpAnyL_take (i := 4) (v := .slice aa A acap) rfl (by kernel_rfl) (by kernel_rfl) (by kernel_rfl) (by kernel_rfl) (by kernel_rfl) (fun _ _ _ h => h) (Or.inl ⟨by rfl, ?_⟩) hS ?_
      · (intro w' hSw; go_simp)
      go_frame
      refine wpAnyL_take (i := 5) (v := .pointer (some ⟨w.heap.size, 1, none⟩)) rfl (by kernel_rfl) (by kernel_rfl) (by kernel_rfl) (by kernel_rfl) (by kernel_rfl) (fun _ _ _ h => h) (Or.inl ⟨by rfl, ?_⟩) hS ?_
      · (intro w' hSw; go_simp)
      go_frame
      refine wpAnyL_take (i := 6) (v := .string ⟨n.toArray⟩) rfl (by kernel_rfl) (by kernel_rfl) (by kernel_rfl) (by kernel_rfl) (by kernel_rfl) (fun _ _ _ h => h) (Or.inl ⟨by rfl, ?_⟩) hS ?_
      · (intro w' hSw; go_simp)
      go_frame
      refine wpAnyL_take (i := 7) (v := .pointer (some ⟨w.heap.size, 2, none⟩)) rfl (by kernel_rfl) (by kernel_rfl) (by kernel_rfl) (by kernel_rfl) (by kernel_rfl) (fun _ _ _ h => h) (Or.inl ⟨by rfl, ?_⟩) hS ?_
      · (intro w' hSw; go_simp)
      go_frame
      refine wpAnyL_take (i := 8) (v := .string ⟨t.toArray⟩) rfl (by kernel_rfl) (by kernel_rfl) (by kernel_rfl) (by kernel_rfl) (by kernel_rfl) (fun _ _ _ h => h) (Or.inl ⟨by rfl, ?_⟩) hS ?_
      · (intro w' hSw; go_simp)
      go_frame
      refine wpAnyL_take (i := 9) (v := .int .i64 (F : Int)) rfl (by kernel_rfl) (by kernel_rfl) (by kernel_rfl) (by kernel_rfl) (by kernel_rfl) (fun _ _ _ h => h) (Or.inl ⟨by rfl, ?_⟩) hS ?_
      · (intro w' hSw; go_simp)
      go_frame
      refine wpAnyL_take (i := 10) (v := .agg #[.int .i64 1, .string ⟨n.toArray⟩, .string ⟨t.toArray⟩, .int .i64 (F : Int)]) rfl (by kernel_rfl) (by kernel_rfl) (by kernel_rfl) (by kernel_rfl) (by kernel_rfl) (fun _ _ _ h => h) (Or.inl ⟨by rfl, ?_⟩) hS ?_
      · (intro w' hSw; go_simp)
      go_frame
      refine wpAnyL_one (i := 11) (by kernel_rfl) rfl rfl ?_
      go_simp
      refine wpAnyL_one (i := 12) (by kernel_rfl) rfl rfl ?_
      refine wp_append_run _ _ _ rfl (.slice aa A acap) (.slice (some ⟨wq.heap.size, 0, none⟩) 1 1) (by rfl) (by rfl) Hr' ?_
      have c3 : w4.cell? ⟨c.d, 3, none⟩ = some (.slice aa A acap) := by
        have := HC4.out.cell 3 rfl
        rw [← hav]
        exact this
      have f3 := HC4.out.frozen 3
      have z1 := HO4.out.cell 1 rfl
      have z2 := HO4.out.cell 2 rfl
      refine ⟨⟨c3, z1, z2⟩, ?_⟩
      go_frame
      refine wpAnyL_one (i := 13) (by kernel_rfl) rfl rfl ?_
      go_simp
      refine wpAnyL_one (i := 14) (by kernel_rfl) rfl rfl ?_
      go_simp
      refine wpAnyL_last (by kernel_rfl) (by kernel_rfl) rfl rfl ?_
      go_simp
      refine NoPanic.normal ?_
      clear hS
      generalize w4.setCell ⟨c.d, 3, none⟩ (.slice (some ⟨g, 0, none⟩) (A + 1) gcap) = w5 at N1 ⊢
      clear e1 HC4 HO4 c3 f3 z1 z2 x3 x1 y0 y1 y2 hcd hop hl1 hl2 Hr'
      have hcd := N1.out.at5.cells
      have hop := N1.out.op
      have hl1 : c.d < w5.heap.size := hcd.lt
      have hl2 := hop.lt
      have x1 : w5.cell? ⟨c.d, 1, none⟩ = some (.slice (some ⟨b1, o1, none⟩) M dc) := by
        have h1 : w5.cell? ⟨c.d, 1, none⟩ = some c.dv := hcd.cell 1 rfl
        rw [HDV.out] at h1
        exact h1
      have y1 := hop.cell 1 rfl
      have y2 := hop.cell 2 rfl
      have hes : EntSrc w5 (.slice (some ⟨b1, o1, none⟩) M dc) m.count.dir := by
        have h1 : EntSrc w5 c.dv m.count.dir := N1.out.at5.dir.src
        rw [HDV.out] at h1
        exact h1
      have hdrop := Hid.mk (rdrop_any (w := w5.drew) (hes.stay (Only.refl _ w5).drew) (by have := HM.out; omega) n)
      have hdl : (DD.drop m.count.dir n).length ≤ 10000 := by have := List.length_filter_le (fun p => p.1 != n) m.count.dir; have := HM.out; have := drop_le m.count.dir n; omega
      have hdf : Hid (∀ p ∈ DD.put (DD.drop m.count.dir n) t F, p.2 < m.count.files.length) := fun p hp => by
        rcases put_mem hp with h | h
        · rw [h]; exact HFl.out
        · exact N1.out.at5.dirF p (List.mem_filter.1 h).1
      have hput : Hid (∀ W v, EntSrc W v (DD.drop m.count.dir n) → Calls Try.prog 37 #[v, .string ⟨t.toArray⟩, .int .i64 (F : Int)] W fun e w' => ∃ v', e = .returned v' ∧ EntAt w' W.heap.size v' (DD.put (DD.drop m.count.dir n) t F) ∧ Kept W w') := fun W v h => rput_any h hdl t F
      clear hes hdl
      go_wp2_with fail
      refine wp_region_noPanic ?_
      refine wp_region_last (L := 14) (S := fun w' => w'.cell? ⟨c.d, 1, none⟩ = some (.slice (some ⟨b1, o1, none⟩) M dc) ∧ w'.cell? ⟨w.heap.size, 1, none⟩ = some (.string ⟨n.toArray⟩) ∧ w'.cell? ⟨w.heap.size, 2, none⟩ = some (.string ⟨t.toArray⟩)) (by kernel_rfl) ?_
      have hS : (fun w' : World => w'.cell? ⟨c.d, 1, none⟩ = some (.slice (some ⟨b1, o1, none⟩) M dc) ∧ w'.cell? ⟨w.heap.size, 1, none⟩ = some (.string ⟨n.toArray⟩) ∧ w'.cell? ⟨w.heap.size, 2, none⟩ = some (.string ⟨t.toArray⟩)) w5.drew := ⟨x1, y1, y2⟩
      refine wpAnyL_take (i := 0) (v := .pointer (some ⟨c.d, 0, none⟩)) rfl (by kernel_rfl) (by kernel_rfl) (by kernel_rfl) (by kernel_rfl) (by kernel_rfl) (fun _ _ _ h => h) (Or.inl ⟨by rfl, ?_⟩) hS ?_
      · (intro w' hSw; go_simp)
      go_frame
      refine wpAnyL_take (i := 1) (v := .pointer (some ⟨c.d, 0, none⟩)) rfl (by kernel_rfl) (by kernel_rfl) (by kernel_rfl) (by kernel_rfl) (by kernel_rfl) (fun _ _ _ h => h) (Or.inl ⟨by rfl, ?_⟩) hS ?_
      · (intro w' hSw; go_simp)
      go_frame
      refine wpAnyL_take (i := 2) (v := .pointer (some ⟨c.d, 0, none⟩)) rfl (by kernel_rfl) (by kernel_rfl) (by kernel_rfl) (by kernel_rfl) (by kernel_rfl) (fun _ _ _ h => h) (Or.inl ⟨by rfl, ?_⟩) hS ?_
      · (intro w' hSw; go_simp)
      go_frame
      refine wpAnyL_take (i := 3) (v := .pointer (some ⟨c.d, 1, none⟩)) rfl (by kernel_rfl) (by kernel_rfl) (by kernel_rfl) (by kernel_rfl) (by kernel_rfl) (fun _ _ _ h => h) (Or.inl ⟨by rfl, ?_⟩) hS ?_
      · (intro w' hSw; go_simp)
      go_frame
      refine wpAnyL_take (i := 4) (v := .slice (some ⟨b1, o1, none⟩) M dc) rfl (by kernel_rfl) (by kernel_rfl) (by kernel_rfl) (by kernel_rfl) (by kernel_rfl) (fun _ _ _ h => h) (Or.inl ⟨by rfl, ?_⟩) hS ?_
      · (intro w' hSw; go_simp)
      go_frame
      refine wpAnyL_take (i := 5) (v := .pointer (some ⟨w.heap.size, 1, none⟩)) rfl (by kernel_rfl) (by kernel_rfl) (by kernel_rfl) (by kernel_rfl) (by kernel_rfl) (fun _ _ _ h => h) (Or.inl ⟨by rfl, ?_⟩) hS ?_
      · (intro w' hSw; go_simp)
      go_frame
      refine wpAnyL_take (i := 6) (v := .string ⟨n.toArray⟩) rfl (by kernel_rfl) (by kernel_rfl) (by kernel_rfl) (by kernel_rfl) (by kernel_rfl) (fun _ _ _ h => h) (Or.inl ⟨by rfl, ?_⟩) hS ?_
      · (intro w' hSw; go_simp)
      go_frame
      refine wpAnyL_take (i := 8) (v := .pointer (some ⟨w.heap.size, 2, none⟩)) rfl (by kernel_rfl) (by kernel_rfl) (by kernel_rfl) (by kernel_rfl) (by kernel_rfl) (fun _ _ _ h => h) (Or.inl ⟨by rfl, ?_⟩) hS ?_
      · (intro w' hSw; go_simp)
      go_frame
      refine wpAnyL_take (i := 9) (v := .string ⟨t.toArray⟩) rfl (by kernel_rfl) (by kernel_rfl) (by kernel_rfl) (by kernel_rfl) (by kernel_rfl) (fun _ _ _ h => h) (Or.inl ⟨by rfl, ?_⟩) hS ?_
      · (intro w' hSw; go_simp)
      go_frame
      refine wpAnyL_take (i := 10) (v := .int .i64 (F : Int)) rfl (by kernel_rfl) (by kernel_rfl) (by kernel_rfl) (by kernel_rfl) (by kernel_rfl) (fun _ _ _ h => h) (Or.inl ⟨by rfl, ?_⟩) hS ?_
      · (intro w' hSw; go_simp)
      go_frame
      refine wpAnyL_one (i := 7) (by kernel_rfl) rfl rfl ?_
      go_simp
      refine hdrop.out.mono ?_
      rintro e w6 ⟨v6, rfl, ho6, hk6⟩
      have hk6' : Kept w5 w6 := (Only.refl (fun _ => False) w5).drew.trans hk6 (fun _ _ f => f)
      have N6 := N1.out.stay hk6'
      have c1 : w6.cell? ⟨c.d, 1, none⟩ = some (.slice (some ⟨b1, o1, none⟩) M dc) := by
        have h1 : w6.cell? ⟨c.d, 1, none⟩ = some c.dv := N6.at5.cells.cell 1 rfl
        rw [HDV.out] at h1
        exact h1
      have f1 : w6.frozen? ⟨c.d, 1, none⟩ = false := N6.at5.cells.frozen 1
      have bq1 := N6.op.cell 1 rfl
      have bq2 := N6.op.cell 2 rfl
      have hs6 := ho6.src
      obtain ⟨a6, cp6, rfl⟩ := ownN_slice ho6
      have HN6 := Hid.mk N6
      have HK6 := Hid.mk hk6'
      have hput6 := Hid.mk (hput.out w6 _ hs6)
      clear N6 hk6 hk6' ho6 hs6
      refine ⟨⟨c1, bq1, bq2⟩, ?_⟩
      refine wpAnyL_one (i := 11) (by kernel_rfl) rfl rfl ?_
      go_simp
      refine hput6.out.mono ?_
      rintro e w7 ⟨v7, rfl, ho7, hk7⟩
      obtain ⟨hc7, hp7, N7⟩ := Now.dir HN6.out hk7 ho7 hdf.out
      obtain ⟨a7, cp7, rfl⟩ := ownN_slice ho7
      clear c1 f1 bq1 bq2
      have c71 : w7.cell? ⟨c.d, 1, none⟩ = some (.slice (some ⟨b1, o1, none⟩) M dc) := by
        have h1 : w7.cell? ⟨c.d, 1, none⟩ = some c.dv := hc7.cell 1 rfl
        rw [HDV.out] at h1
        exact h1
      have f71 : w7.frozen? ⟨c.d, 1, none⟩ = false := hc7.frozen 1
      have b71 := hp7.cell 1 rfl
      have b72 := hp7.cell 2 rfl
      have HN7 := Hid.mk N7
      clear N7 hc7 hp7 ho7 hk7
      refine ⟨⟨c71, b71, b72⟩, ?_⟩
      refine wpAnyL_one (i := 12) (by kernel_rfl) rfl rfl ?_
      go_simp
      refine wpAnyL_one (i := 13) (by kernel_rfl) rfl rfl ?_
      go_simp
      refine wpAnyL_last (by kernel_rfl) (by kernel_rfl) rfl rfl ?_
      go_simp
      refine NoPanic.normal ?_
      clear hS
      go_wp2_with fail
      go_ret
      refine Now.post HN7.out HE.out ?_
      have hlk := HLK.out
      show _ = ({ m.count with dir := DD.act m.count.dir ⟨1, n, t, 0⟩, acts := m.count.acts ++ [⟨1, n, t, 0⟩] } : DModel)
      unfold DD.act
      simp only [Nat.one_ne_zero, if_false, if_true, hlk]
      rfl
  | some a0 =>
    obtain ⟨a, rfl⟩ : ∃ a, a0 = a + 1 := ⟨a0 - 1, by have : a0 ≠ 0 := fun e => hfa (by rw [hFa, e]); omega⟩
    have haa := hab _ hFa
    cases hFu : m.fuse with
    | none =>
      have MID := Hid.mk (mid_sn H.out hk2 hop hFa hFu)
      rw [hFa] at x7
      rw [hFu] at x6
      unfold laidI at x6 x7
      clear h2 hk2 hop
      go_wp2_with fail
      generalize (w2.setCell ⟨c.d, 7, none⟩ (.int .i64 (a : Int))).setCell ⟨c.d, 8, none⟩ (.int .i64 ((m.steps : Int) + 1)) = w3 at MID ⊢
      clear x6 x7 x8 f6 f7 f8
      have h3 := MID.out.at3
      obtain ⟨da, dc, hdv⟩ := ownN_slice h3.dir
      obtain ⟨M, hM⟩ : ∃ M, m.count.dir.length = M := ⟨_, rfl⟩
      rw [hM] at hdv
      have hMl : M ≤ 10000 := by rw [← hM]; exact HD0.out
      have x1 : w3.cell? ⟨c.d, 1, none⟩ = some (.slice da M dc) := by
        have := h3.cells.cell 1 rfl
        rw [hdv] at this
        exact this
      have y0 := MID.out.op.cell 0 rfl
      have y1 := MID.out.op.cell 1 rfl
      have hFind : Hid (∀ j, Calls Try.prog 36 #[.slice da M dc, .string ⟨n.toArray⟩] (w3.drewN j) fun e w' => e = .returned (.int .i64 (fidx m.count.dir n)) ∧ w' = w3.drewN j) := fun j => by
        have := rfind_any (h3.stay (Kept.drewN' (Only.refl _ _) j)).dir.src (show m.count.dir.length ≤ 1000000 by omega) n
        rw [hdv] at this
        exact this
      have HDV := Hid.mk hdv
      have HM := Hid.mk hM
      clear hdv hM
      go_quiet ((go_at_call 36; exact Calls.quiet_of_same (hFind.out _)))
      rcases fidx_look m.count.dir n with ⟨hl, hi⟩ | ⟨i, hi', hi, hl⟩
      · exfalso
        have h6 := HO.out
        change (if (DD.look m.dir n).isSome then (if namedB t = false then 1 else 0) else 6) = 0 at h6
        have hl2 : DD.look m.dir n = none := hl
        rw [hl2] at h6
        cases h6
      rw [hi]
      have hiM : i < M := by have := HM.out; omega
      have hes : EntSrc w3 (.slice da M dc) m.count.dir := by
        have := h3.dir.src
        rw [HDV.out] at this
        exact this
      obtain ⟨F, hF2⟩ : ∃ F, m.count.dir[i].2 = F := ⟨_, rfl⟩
      rw [hF2] at hl
      have hFl : F < m.count.files.length := by rw [← hF2]; exact h3.dirF _ (List.getElem_mem hi')
      have HLK := Hid.mk hl
      have HFl := Hid.mk hFl
      have hed : EntSrc (w3.drewN nq) (.slice da M dc) m.count.dir := hes.stay (Kept.drewN' (Only.refl _ w3) nq)
      obtain ⟨b1, o1, hda, e0, e1⟩ := hed.cell HM.out i hiM
      subst hda
      rw [hF2] at e1
      clear hes hed hF2 e0 hi hl hFl
      have N0 := Hid.mk ((Now.start H.out MID.out).stay (Kept.drewN' (Only.refl (fun _ => False) w3) nq))
      have hac : Hid (c.ac.length ≤ 100000) := by have := HAC.out; have e := congrArg List.length N0.out.at5.acm; rw [List.length_map] at e; show _ ≤ _; rw [e]; exact this
      clear h3 x1 y0 y1 hFind hlt
      generalize w3.drewN nq = wq at N0 e1 ⊢
      have hcd := N0.out.at5.cells
      have hop := N0.out.op
      have hl1 := hcd.lt
      have hl2 := hop.lt
      have x1 : wq.cell? ⟨c.d, 1, none⟩ = some (.slice (some ⟨b1, o1, none⟩) M dc) := by
        have := hcd.cell 1 rfl
        rw [HDV.out] at this
        exact this
      have y0 := hop.cell 0 rfl
      have y1 := hop.cell 1 rfl
      have y2 := hop.cell 2 rfl
      obtain ⟨aa, acap, hav⟩ := ownN_slice N0.out.at5.acts
      obtain ⟨A, hA⟩ : ∃ A, (c).ac.length = A := ⟨_, rfl⟩
      obtain ⟨g, gcap, w4, Hr, HC4, HO4, N1⟩ := Now.act N0.out ⟨1, n, t, F⟩ hac.out
      rw [hav] at Hr
      rw [hA] at Hr N1 hav
      have x3 : wq.cell? ⟨c.d, 3, none⟩ = some (.slice aa A acap) := by
        have := hcd.cell 3 rfl
        rw [← hav]
        exact this
      have Hr' : Hid ((Builtin.append_ #[61, 61] 0 #[.slice aa A acap, .slice (some ⟨wq.heap.size, 0, none⟩) 1 1]).run Try.prog (wq.drew.alloc (.cells #[.int .i64 1, .string ⟨n.toArray⟩, .string ⟨t.toArray⟩, .int .i64 (F : Int)] 73)) = .ok (.slice (some ⟨g, 0, none⟩) (A + 1) gcap) w4) := Hr
      clear Hr
      go_wp2_with fail
      refine wp_region_noPanic ?_
      refine wp_region_last (L := 15) (S := fun w' => w'.cell? ⟨c.d, 3, none⟩ = some (.slice aa A acap) ∧ w'.cell? ⟨w.heap.size, 1, none⟩ = some (.string ⟨n.toArray⟩) ∧ w'.cell? ⟨w.heap.size, 2, none⟩ = some (.string ⟨t.toArray⟩)) (by kernel_rfl) ?_
      have hS : (fun w' : World => w'.cell? ⟨c.d, 3, none⟩ = some (.slice aa A acap) ∧ w'.cell? ⟨w.heap.size, 1, none⟩ = some (.string ⟨n.toArray⟩) ∧ w'.cell? ⟨w.heap.size, 2, none⟩ = some (.string ⟨t.toArray⟩)) wq.drew := ⟨x3, y1, y2⟩
      refine wpAnyL_take (i := 0) (v := .pointer (some ⟨c.d, 0, none⟩)) rfl (by kernel_rfl) (by kernel_rfl) (by kernel_rfl) (by kernel_rfl) (by kernel_rfl) (fun _ _ _ h => h) (Or.inl ⟨by rfl, ?_⟩) hS ?_
      · (intro w' hSw; go_simp)
      go_frame
      refine wpAnyL_take (i := 1) (v := .pointer (some ⟨c.d, 0, none⟩)) rfl (by kernel_rfl) (by kernel_rfl) (by kernel_rfl) (by kernel_rfl) (by kernel_rfl) (fun _ _ _ h => h) (Or.inl ⟨by rfl, ?_⟩) hS ?_
      · (intro w' hSw; go_simp)
      go_frame
      refine wpAnyL_take (i := 2) (v := .pointer (some ⟨c.d, 0, none⟩)) rfl (by kernel_rfl) (by kernel_rfl) (by kernel_rfl) (by kernel_rfl) (by kernel_rfl) (fun _ _ _ h => h) (Or.inl ⟨by rfl, ?_⟩) hS ?_
      · (intro w' hSw; go_simp)
      go_frame
      refine wpAnyL_take (i := 3) (v := .pointer (some ⟨c.d, 3, none⟩)) rfl (by kernel_rfl) (by kernel_rfl) (by kernel_rfl) (by kernel_rfl) (by kernel_rfl) (fun _ _ _ h => h) (Or.inl ⟨by rfl, ?_⟩) hS ?_
      · (intro w' hSw; go_simp)
      go_frame
      refine wpAnyL_take (i := 4) (v := .slice aa A acap) rfl (by kernel_rfl) (by kernel_rfl) (by kernel_rfl) (by kernel_rfl) (by kernel_rfl) (fun _ _ _ h => h) (Or.inl ⟨by rfl, ?_⟩) hS ?_
      · (intro w' hSw; go_simp)
      go_frame
      refine wpAnyL_take (i := 5) (v := .pointer (some ⟨w.heap.size, 1, none⟩)) rfl (by kernel_rfl) (by kernel_rfl) (by kernel_rfl) (by kernel_rfl) (by kernel_rfl) (fun _ _ _ h => h) (Or.inl ⟨by rfl, ?_⟩) hS ?_
      · (intro w' hSw; go_simp)
      go_frame
      refine wpAnyL_take (i := 6) (v := .string ⟨n.toArray⟩) rfl (by kernel_rfl) (by kernel_rfl) (by kernel_rfl) (by kernel_rfl) (by kernel_rfl) (fun _ _ _ h => h) (Or.inl ⟨by rfl, ?_⟩) hS ?_
      · (intro w' hSw; go_simp)
      go_frame
      refine wpAnyL_take (i := 7) (v := .pointer (some ⟨w.heap.size, 2, none⟩)) rfl (by kernel_rfl) (by kernel_rfl) (by kernel_rfl) (by kernel_rfl) (by kernel_rfl) (fun _ _ _ h => h) (Or.inl ⟨by rfl, ?_⟩) hS ?_
      · (intro w' hSw; go_simp)
      go_frame
      refine wpAnyL_take (i := 8) (v := .string ⟨t.toArray⟩) rfl (by kernel_rfl) (by kernel_rfl) (by kernel_rfl) (by kernel_rfl) (by kernel_rfl) (fun _ _ _ h => h) (Or.inl ⟨by rfl, ?_⟩) hS ?_
      · (intro w' hSw; go_simp)
      go_frame
      refine wpAnyL_take (i := 9) (v := .int .i64 (F : Int)) rfl (by kernel_rfl) (by kernel_rfl) (by kernel_rfl) (by kernel_rfl) (by kernel_rfl) (fun _ _ _ h => h) (Or.inl ⟨by rfl, ?_⟩) hS ?_
      · (intro w' hSw; go_simp)
      go_frame
      refine wpAnyL_take (i := 10) (v := .agg #[.int .i64 1, .string ⟨n.toArray⟩, .string ⟨t.toArray⟩, .int .i64 (F : Int)]) rfl (by kernel_rfl) (by kernel_rfl) (by kernel_rfl) (by kernel_rfl) (by kernel_rfl) (fun _ _ _ h => h) (Or.inl ⟨by rfl, ?_⟩) hS ?_
      · (intro w' hSw; go_simp)
      go_frame
      refine wpAnyL_one (i := 11) (by kernel_rfl) rfl rfl ?_
      go_simp
      refine wpAnyL_one (i := 12) (by kernel_rfl) rfl rfl ?_
      refine wp_append_run _ _ _ rfl (.slice aa A acap) (.slice (some ⟨wq.heap.size, 0, none⟩) 1 1) (by rfl) (by rfl) Hr' ?_
      have c3 : w4.cell? ⟨c.d, 3, none⟩ = some (.slice aa A acap) := by
        have := HC4.out.cell 3 rfl
        rw [← hav]
        exact this
      have f3 := HC4.out.frozen 3
      have z1 := HO4.out.cell 1 rfl
      have z2 := HO4.out.cell 2 rfl
      refine ⟨⟨c3, z1, z2⟩, ?_⟩
      go_frame
      refine wpAnyL_one (i := 13) (by kernel_rfl) rfl rfl ?_
      go_simp
      refine wpAnyL_one (i := 14) (by kernel_rfl) rfl rfl ?_
      go_simp
      refine wpAnyL_last (by kernel_rfl) (by kernel_rfl) rfl rfl ?_
      go_simp
      refine NoPanic.normal ?_
      clear hS
      generalize w4.setCell ⟨c.d, 3, none⟩ (.slice (some ⟨g, 0, none⟩) (A + 1) gcap) = w5 at N1 ⊢
      clear e1 HC4 HO4 c3 f3 z1 z2 x3 x1 y0 y1 y2 hcd hop hl1 hl2 Hr'
      have hcd := N1.out.at5.cells
      have hop := N1.out.op
      have hl1 : c.d < w5.heap.size := hcd.lt
      have hl2 := hop.lt
      have x1 : w5.cell? ⟨c.d, 1, none⟩ = some (.slice (some ⟨b1, o1, none⟩) M dc) := by
        have h1 : w5.cell? ⟨c.d, 1, none⟩ = some c.dv := hcd.cell 1 rfl
        rw [HDV.out] at h1
        exact h1
      have y1 := hop.cell 1 rfl
      have y2 := hop.cell 2 rfl
      have hes : EntSrc w5 (.slice (some ⟨b1, o1, none⟩) M dc) m.count.dir := by
        have h1 : EntSrc w5 c.dv m.count.dir := N1.out.at5.dir.src
        rw [HDV.out] at h1
        exact h1
      have hdrop := Hid.mk (rdrop_any (w := w5.drew) (hes.stay (Only.refl _ w5).drew) (by have := HM.out; omega) n)
      have hdl : (DD.drop m.count.dir n).length ≤ 10000 := by have := List.length_filter_le (fun p => p.1 != n) m.count.dir; have := HM.out; have := drop_le m.count.dir n; omega
      have hdf : Hid (∀ p ∈ DD.put (DD.drop m.count.dir n) t F, p.2 < m.count.files.length) := fun p hp => by
        rcases put_mem hp with h | h
        · rw [h]; exact HFl.out
        · exact N1.out.at5.dirF p (List.mem_filter.1 h).1
      have hput : Hid (∀ W v, EntSrc W v (DD.drop m.count.dir n) → Calls Try.prog 37 #[v, .string ⟨t.toArray⟩, .int .i64 (F : Int)] W fun e w' => ∃ v', e = .returned v' ∧ EntAt w' W.heap.size v' (DD.put (DD.drop m.count.dir n) t F) ∧ Kept W w') := fun W v h => rput_any h hdl t F
      clear hes hdl
      go_wp2_with fail
      refine wp_region_noPanic ?_
      refine wp_region_last (L := 14) (S := fun w' => w'.cell? ⟨c.d, 1, none⟩ = some (.slice (some ⟨b1, o1, none⟩) M dc) ∧ w'.cell? ⟨w.heap.size, 1, none⟩ = some (.string ⟨n.toArray⟩) ∧ w'.cell? ⟨w.heap.size, 2, none⟩ = some (.string ⟨t.toArray⟩)) (by kernel_rfl) ?_
      have hS : (fun w' : World => w'.cell? ⟨c.d, 1, none⟩ = some (.slice (some ⟨b1, o1, none⟩) M dc) ∧ w'.cell? ⟨w.heap.size, 1, none⟩ = some (.string ⟨n.toArray⟩) ∧ w'.cell? ⟨w.heap.size, 2, none⟩ = some (.string ⟨t.toArray⟩)) w5.drew := ⟨x1, y1, y2⟩
      refine wpAnyL_take (i := 0) (v := .pointer (some ⟨c.d, 0, none⟩)) rfl (by kernel_rfl) (by kernel_rfl) (by kernel_rfl) (by kernel_rfl) (by kernel_rfl) (fun _ _ _ h => h) (Or.inl ⟨by rfl, ?_⟩) hS ?_
      · (intro w' hSw; go_simp)
      go_frame
      refine wpAnyL_take (i := 1) (v := .pointer (some ⟨c.d, 0, none⟩)) rfl (by kernel_rfl) (by kernel_rfl) (by kernel_rfl) (by kernel_rfl) (by kernel_rfl) (fun _ _ _ h => h) (Or.inl ⟨by rfl, ?_⟩) hS ?_
      · (intro w' hSw; go_simp)
      go_frame
      refine wpAnyL_take (i := 2) (v := .pointer (some ⟨c.d, 0, none⟩)) rfl (by kernel_rfl) (by kernel_rfl) (by kernel_rfl) (by kernel_rfl) (by kernel_rfl) (fun _ _ _ h => h) (Or.inl ⟨by rfl, ?_⟩) hS ?_
      · (intro w' hSw; go_simp)
      go_frame
      refine wpAnyL_take (i := 3) (v := .pointer (some ⟨c.d, 1, none⟩)) rfl (by kernel_rfl) (by kernel_rfl) (by kernel_rfl) (by kernel_rfl) (by kernel_rfl) (fun _ _ _ h => h) (Or.inl ⟨by rfl, ?_⟩) hS ?_
      · (intro w' hSw; go_simp)
      go_frame
      refine wpAnyL_take (i := 4) (v := .slice (some ⟨b1, o1, none⟩) M dc) rfl (by kernel_rfl) (by kernel_rfl) (by kernel_rfl) (by kernel_rfl) (by kernel_rfl) (fun _ _ _ h => h) (Or.inl ⟨by rfl, ?_⟩) hS ?_
      · (intro w' hSw; go_simp)
      go_frame
      refine wpAnyL_take (i := 5) (v := .pointer (some ⟨w.heap.size, 1, none⟩)) rfl (by kernel_rfl) (by kernel_rfl) (by kernel_rfl) (by kernel_rfl) (by kernel_rfl) (fun _ _ _ h => h) (Or.inl ⟨by rfl, ?_⟩) hS ?_
      · (intro w' hSw; go_simp)
      go_frame
      refine wpAnyL_take (i := 6) (v := .string ⟨n.toArray⟩) rfl (by kernel_rfl) (by kernel_rfl) (by kernel_rfl) (by kernel_rfl) (by kernel_rfl) (fun _ _ _ h => h) (Or.inl ⟨by rfl, ?_⟩) hS ?_
      · (intro w' hSw; go_simp)
      go_frame
      refine wpAnyL_take (i := 8) (v := .pointer (some ⟨w.heap.size, 2, none⟩)) rfl (by kernel_rfl) (by kernel_rfl) (by kernel_rfl) (by kernel_rfl) (by kernel_rfl) (fun _ _ _ h => h) (Or.inl ⟨by rfl, ?_⟩) hS ?_
      · (intro w' hSw; go_simp)
      go_frame
      refine wpAnyL_take (i := 9) (v := .string ⟨t.toArray⟩) rfl (by kernel_rfl) (by kernel_rfl) (by kernel_rfl) (by kernel_rfl) (by kernel_rfl) (fun _ _ _ h => h) (Or.inl ⟨by rfl, ?_⟩) hS ?_
      · (intro w' hSw; go_simp)
      go_frame
      refine wpAnyL_take (i := 10) (v := .int .i64 (F : Int)) rfl (by kernel_rfl) (by kernel_rfl) (by kernel_rfl) (by kernel_rfl) (by kernel_rfl) (fun _ _ _ h => h) (Or.inl ⟨by rfl, ?_⟩) hS ?_
      · (intro w' hSw; go_simp)
      go_frame
      refine wpAnyL_one (i := 7) (by kernel_rfl) rfl rfl ?_
      go_simp
      refine hdrop.out.mono ?_
      rintro e w6 ⟨v6, rfl, ho6, hk6⟩
      have hk6' : Kept w5 w6 := (Only.refl (fun _ => False) w5).drew.trans hk6 (fun _ _ f => f)
      have N6 := N1.out.stay hk6'
      have c1 : w6.cell? ⟨c.d, 1, none⟩ = some (.slice (some ⟨b1, o1, none⟩) M dc) := by
        have h1 : w6.cell? ⟨c.d, 1, none⟩ = some c.dv := N6.at5.cells.cell 1 rfl
        rw [HDV.out] at h1
        exact h1
      have f1 : w6.frozen? ⟨c.d, 1, none⟩ = false := N6.at5.cells.frozen 1
      have bq1 := N6.op.cell 1 rfl
      have bq2 := N6.op.cell 2 rfl
      have hs6 := ho6.src
      obtain ⟨a6, cp6, rfl⟩ := ownN_slice ho6
      have HN6 := Hid.mk N6
      have HK6 := Hid.mk hk6'
      have hput6 := Hid.mk (hput.out w6 _ hs6)
      clear N6 hk6 hk6' ho6 hs6
      refine ⟨⟨c1, bq1, bq2⟩, ?_⟩
      refine wpAnyL_one (i := 11) (by kernel_rfl) rfl rfl ?_
      go_simp
      refine hput6.out.mono ?_
      rintro e w7 ⟨v7, rfl, ho7, hk7⟩
      obtain ⟨hc7, hp7, N7⟩ := Now.dir HN6.out hk7 ho7 hdf.out
      obtain ⟨a7, cp7, rfl⟩ := ownN_slice ho7
      clear c1 f1 bq1 bq2
      have c71 : w7.cell? ⟨c.d, 1, none⟩ = some (.slice (some ⟨b1, o1, none⟩) M dc) := by
        have h1 : w7.cell? ⟨c.d, 1, none⟩ = some c.dv := hc7.cell 1 rfl
        rw [HDV.out] at h1
        exact h1
      have f71 : w7.frozen? ⟨c.d, 1, none⟩ = false := hc7.frozen 1
      have b71 := hp7.cell 1 rfl
      have b72 := hp7.cell 2 rfl
      have HN7 := Hid.mk N7
      clear N7 hc7 hp7 ho7 hk7
      refine ⟨⟨c71, b71, b72⟩, ?_⟩
      refine wpAnyL_one (i := 12) (by kernel_rfl) rfl rfl ?_
      go_simp
      refine wpAnyL_one (i := 13) (by kernel_rfl) rfl rfl ?_
      go_simp
      refine wpAnyL_last (by kernel_rfl) (by kernel_rfl) rfl rfl ?_
      go_simp
      refine NoPanic.normal ?_
      clear hS
      go_wp2_with fail
      go_ret
      refine Now.post HN7.out HE.out ?_
      have hlk := HLK.out
      show _ = ({ m.count with dir := DD.act m.count.dir ⟨1, n, t, 0⟩, acts := m.count.acts ++ [⟨1, n, t, 0⟩] } : DModel)
      unfold DD.act
      simp only [Nat.one_ne_zero, if_false, if_true, hlk]
      rfl
    | some b0 =>
      obtain ⟨b, rfl⟩ : ∃ b, b0 = b + 1 := ⟨b0 - 1, by have : b0 ≠ 0 := fun e => hf (by rw [hFu, e]); omega⟩
      have hbb := hfb _ hFu
      have MID := Hid.mk (mid_ss H.out hk2 hop hFa hFu)
      rw [hFa] at x7
      rw [hFu] at x6
      unfold laidI at x6 x7
      clear h2 hk2 hop
      go_wp2_with fail
      generalize ((w2.setCell ⟨c.d, 7, none⟩ (.int .i64 (a : Int))).setCell ⟨c.d, 6, none⟩ (.int .i64 (b : Int))).setCell ⟨c.d, 8, none⟩ (.int .i64 ((m.steps : Int) + 1)) = w3 at MID ⊢
      clear x6 x7 x8 f6 f7 f8
      have h3 := MID.out.at3
      obtain ⟨da, dc, hdv⟩ := ownN_slice h3.dir
      obtain ⟨M, hM⟩ : ∃ M, m.count.dir.length = M := ⟨_, rfl⟩
      rw [hM] at hdv
      have hMl : M ≤ 10000 := by rw [← hM]; exact HD0.out
      have x1 : w3.cell? ⟨c.d, 1, none⟩ = some (.slice da M dc) := by
        have := h3.cells.cell 1 rfl
        rw [hdv] at this
        exact this
      have y0 := MID.out.op.cell 0 rfl
      have y1 := MID.out.op.cell 1 rfl
      have hFind : Hid (∀ j, Calls Try.prog 36 #[.slice da M dc, .string ⟨n.toArray⟩] (w3.drewN j) fun e w' => e = .returned (.int .i64 (fidx m.count.dir n)) ∧ w' = w3.drewN j) := fun j => by
        have := rfind_any (h3.stay (Kept.drewN' (Only.refl _ _) j)).dir.src (show m.count.dir.length ≤ 1000000 by omega) n
        rw [hdv] at this
        exact this
      have HDV := Hid.mk hdv
      have HM := Hid.mk hM
      clear hdv hM
      go_quiet ((go_at_call 36; exact Calls.quiet_of_same (hFind.out _)))
      rcases fidx_look m.count.dir n with ⟨hl, hi⟩ | ⟨i, hi', hi, hl⟩
      · exfalso
        have h6 := HO.out
        change (if (DD.look m.dir n).isSome then (if namedB t = false then 1 else 0) else 6) = 0 at h6
        have hl2 : DD.look m.dir n = none := hl
        rw [hl2] at h6
        cases h6
      rw [hi]
      have hiM : i < M := by have := HM.out; omega
      have hes : EntSrc w3 (.slice da M dc) m.count.dir := by
        have := h3.dir.src
        rw [HDV.out] at this
        exact this
      obtain ⟨F, hF2⟩ : ∃ F, m.count.dir[i].2 = F := ⟨_, rfl⟩
      rw [hF2] at hl
      have hFl : F < m.count.files.length := by rw [← hF2]; exact h3.dirF _ (List.getElem_mem hi')
      have HLK := Hid.mk hl
      have HFl := Hid.mk hFl
      have hed : EntSrc (w3.drewN nq) (.slice da M dc) m.count.dir := hes.stay (Kept.drewN' (Only.refl _ w3) nq)
      obtain ⟨b1, o1, hda, e0, e1⟩ := hed.cell HM.out i hiM
      subst hda
      rw [hF2] at e1
      clear hes hed hF2 e0 hi hl hFl
      have N0 := Hid.mk ((Now.start H.out MID.out).stay (Kept.drewN' (Only.refl (fun _ => False) w3) nq))
      have hac : Hid (c.ac.length ≤ 100000) := by have := HAC.out; have e := congrArg List.length N0.out.at5.acm; rw [List.length_map] at e; show _ ≤ _; rw [e]; exact this
      clear h3 x1 y0 y1 hFind hlt
      generalize w3.drewN nq = wq at N0 e1 ⊢
      have hcd := N0.out.at5.cells
      have hop := N0.out.op
      have hl1 := hcd.lt
      have hl2 := hop.lt
      have x1 : wq.cell? ⟨c.d, 1, none⟩ = some (.slice (some ⟨b1, o1, none⟩) M dc) := by
        have := hcd.cell 1 rfl
        rw [HDV.out] at this
        exact this
      have y0 := hop.cell 0 rfl
      have y1 := hop.cell 1 rfl
      have y2 := hop.cell 2 rfl
      obtain ⟨aa, acap, hav⟩ := ownN_slice N0.out.at5.acts
      obtain ⟨A, hA⟩ : ∃ A, (c).ac.length = A := ⟨_, rfl⟩
      obtain ⟨g, gcap, w4, Hr, HC4, HO4, N1⟩ := Now.act N0.out ⟨1, n, t, F⟩ hac.out
      rw [hav] at Hr
      rw [hA] at Hr N1 hav
      have x3 : wq.cell? ⟨c.d, 3, none⟩ = some (.slice aa A acap) := by
        have := hcd.cell 3 rfl
        rw [← hav]
        exact this
      have Hr' : Hid ((Builtin.append_ #[61, 61] 0 #[.slice aa A acap, .slice (some ⟨wq.heap.size, 0, none⟩) 1 1]).run Try.prog (wq.drew.alloc (.cells #[.int .i64 1, .string ⟨n.toArray⟩, .string ⟨t.toArray⟩, .int .i64 (F : Int)] 73)) = .ok (.slice (some ⟨g, 0, none⟩) (A + 1) gcap) w4) := Hr
      clear Hr
      go_wp2_with fail
      refine wp_region_noPanic ?_
      refine wp_region_last (L := 15) (S := fun w' => w'.cell? ⟨c.d, 3, none⟩ = some (.slice aa A acap) ∧ w'.cell? ⟨w.heap.size, 1, none⟩ = some (.string ⟨n.toArray⟩) ∧ w'.cell? ⟨w.heap.size, 2, none⟩ = some (.string ⟨t.toArray⟩)) (by kernel_rfl) ?_
      have hS : (fun w' : World => w'.cell? ⟨c.d, 3, none⟩ = some (.slice aa A acap) ∧ w'.cell? ⟨w.heap.size, 1, none⟩ = some (.string ⟨n.toArray⟩) ∧ w'.cell? ⟨w.heap.size, 2, none⟩ = some (.string ⟨t.toArray⟩)) wq.drew := ⟨x3, y1, y2⟩
      refine wpAnyL_take (i := 0) (v := .pointer (some ⟨c.d, 0, none⟩)) rfl (by kernel_rfl) (by kernel_rfl) (by kernel_rfl) (by kernel_rfl) (by kernel_rfl) (fun _ _ _ h => h) (Or.inl ⟨by rfl, ?_⟩) hS ?_
      · (intro w' hSw; go_simp)
      go_frame
      refine wpAnyL_take (i := 1) (v := .pointer (some ⟨c.d, 0, none⟩)) rfl (by kernel_rfl) (by kernel_rfl) (by kernel_rfl) (by kernel_rfl) (by kernel_rfl) (fun _ _ _ h => h) (Or.inl ⟨by rfl, ?_⟩) hS ?_
      · (intro w' hSw; go_simp)
      go_frame
      refine wpAnyL_take (i := 2) (v := .pointer (some ⟨c.d, 0, none⟩)) rfl (by kernel_rfl) (by kernel_rfl) (by kernel_rfl) (by kernel_rfl) (by kernel_rfl) (fun _ _ _ h => h) (Or.inl ⟨by rfl, ?_⟩) hS ?_
      · (intro w' hSw; go_simp)
      go_frame
      refine wpAnyL_take (i := 3) (v := .pointer (some ⟨c.d, 3, none⟩)) rfl (by kernel_rfl) (by kernel_rfl) (by kernel_rfl) (by kernel_rfl) (by kernel_rfl) (fun _ _ _ h => h) (Or.inl ⟨by rfl, ?_⟩) hS ?_
      · (intro w' hSw; go_simp)
      go_frame
      refine wpAnyL_take (i := 4) (v := .slice aa A acap) rfl (by kernel_rfl) (by kernel_rfl) (by kernel_rfl) (by kernel_rfl) (by kernel_rfl) (fun _ _ _ h => h) (Or.inl ⟨by rfl, ?_⟩) hS ?_
      · (intro w' hSw; go_simp)
      go_frame
      refine wpAnyL_take (i := 5) (v := .pointer (some ⟨w.heap.size, 1, none⟩)) rfl (by kernel_rfl) (by kernel_rfl) (by kernel_rfl) (by kernel_rfl) (by kernel_rfl) (fun _ _ _ h => h) (Or.inl ⟨by rfl, ?_⟩) hS ?_
      · (intro w' hSw; go_simp)
      go_frame
      refine wpAnyL_take (i := 6) (v := .string ⟨n.toArray⟩) rfl (by kernel_rfl) (by kernel_rfl) (by kernel_rfl) (by kernel_rfl) (by kernel_rfl) (fun _ _ _ h => h) (Or.inl ⟨by rfl, ?_⟩) hS ?_
      · (intro w' hSw; go_simp)
      go_frame
      refine wpAnyL_take (i := 7) (v := .pointer (some ⟨w.heap.size, 2, none⟩)) rfl (by kernel_rfl) (by kernel_rfl) (by kernel_rfl) (by kernel_rfl) (by kernel_rfl) (fun _ _ _ h => h) (Or.inl ⟨by rfl, ?_⟩) hS ?_
      · (intro w' hSw; go_simp)
      go_frame
      refine wpAnyL_take (i := 8) (v := .string ⟨t.toArray⟩) rfl (by kernel_rfl) (by kernel_rfl) (by kernel_rfl) (by kernel_rfl) (by kernel_rfl) (fun _ _ _ h => h) (Or.inl ⟨by rfl, ?_⟩) hS ?_
      · (intro w' hSw; go_simp)
      go_frame
      refine wpAnyL_take (i := 9) (v := .int .i64 (F : Int)) rfl (by kernel_rfl) (by kernel_rfl) (by kernel_rfl) (by kernel_rfl) (by kernel_rfl) (fun _ _ _ h => h) (Or.inl ⟨by rfl, ?_⟩) hS ?_
      · (intro w' hSw; go_simp)
      go_frame
      refine wpAnyL_take (i := 10) (v := .agg #[.int .i64 1, .string ⟨n.toArray⟩, .string ⟨t.toArray⟩, .int .i64 (F : Int)]) rfl (by kernel_rfl) (by kernel_rfl) (by kernel_rfl) (by kernel_rfl) (by kernel_rfl) (fun _ _ _ h => h) (Or.inl ⟨by rfl, ?_⟩) hS ?_
      · (intro w' hSw; go_simp)
      go_frame
      refine wpAnyL_one (i := 11) (by kernel_rfl) rfl rfl ?_
      go_simp
      refine wpAnyL_one (i := 12) (by kernel_rfl) rfl rfl ?_
      refine wp_append_run _ _ _ rfl (.slice aa A acap) (.slice (some ⟨wq.heap.size, 0, none⟩) 1 1) (by rfl) (by rfl) Hr' ?_
      have c3 : w4.cell? ⟨c.d, 3, none⟩ = some (.slice aa A acap) := by
        have := HC4.out.cell 3 rfl
        rw [← hav]
        exact this
      have f3 := HC4.out.frozen 3
      have z1 := HO4.out.cell 1 rfl
      have z2 := HO4.out.cell 2 rfl
      refine ⟨⟨c3, z1, z2⟩, ?_⟩
      go_frame
      refine wpAnyL_one (i := 13) (by kernel_rfl) rfl rfl ?_
      go_simp
      refine wpAnyL_one (i := 14) (by kernel_rfl) rfl rfl ?_
      go_simp
      refine wpAnyL_last (by kernel_rfl) (by kernel_rfl) rfl rfl ?_
      go_simp
      refine NoPanic.normal ?_
      clear hS
      generalize w4.setCell ⟨c.d, 3, none⟩ (.slice (some ⟨g, 0, none⟩) (A + 1) gcap) = w5 at N1 ⊢
      clear e1 HC4 HO4 c3 f3 z1 z2 x3 x1 y0 y1 y2 hcd hop hl1 hl2 Hr'
      have hcd := N1.out.at5.cells
      have hop := N1.out.op
      have hl1 : c.d < w5.heap.size := hcd.lt
      have hl2 := hop.lt
      have x1 : w5.cell? ⟨c.d, 1, none⟩ = some (.slice (some ⟨b1, o1, none⟩) M dc) := by
        have h1 : w5.cell? ⟨c.d, 1, none⟩ = some c.dv := hcd.cell 1 rfl
        rw [HDV.out] at h1
        exact h1
      have y1 := hop.cell 1 rfl
      have y2 := hop.cell 2 rfl
      have hes : EntSrc w5 (.slice (some ⟨b1, o1, none⟩) M dc) m.count.dir := by
        have h1 : EntSrc w5 c.dv m.count.dir := N1.out.at5.dir.src
        rw [HDV.out] at h1
        exact h1
      have hdrop := Hid.mk (rdrop_any (w := w5.drew) (hes.stay (Only.refl _ w5).drew) (by have := HM.out; omega) n)
      have hdl : (DD.drop m.count.dir n).length ≤ 10000 := by have := List.length_filter_le (fun p => p.1 != n) m.count.dir; have := HM.out; have := drop_le m.count.dir n; omega
      have hdf : Hid (∀ p ∈ DD.put (DD.drop m.count.dir n) t F, p.2 < m.count.files.length) := fun p hp => by
        rcases put_mem hp with h | h
        · rw [h]; exact HFl.out
        · exact N1.out.at5.dirF p (List.mem_filter.1 h).1
      have hput : Hid (∀ W v, EntSrc W v (DD.drop m.count.dir n) → Calls Try.prog 37 #[v, .string ⟨t.toArray⟩, .int .i64 (F : Int)] W fun e w' => ∃ v', e = .returned v' ∧ EntAt w' W.heap.size v' (DD.put (DD.drop m.count.dir n) t F) ∧ Kept W w') := fun W v h => rput_any h hdl t F
      clear hes hdl
      go_wp2_with fail
      refine wp_region_noPanic ?_
      refine wp_region_last (L := 14) (S := fun w' => w'.cell? ⟨c.d, 1, none⟩ = some (.slice (some ⟨b1, o1, none⟩) M dc) ∧ w'.cell? ⟨w.heap.size, 1, none⟩ = some (.string ⟨n.toArray⟩) ∧ w'.cell? ⟨w.heap.size, 2, none⟩ = some (.string ⟨t.toArray⟩)) (by kernel_rfl) ?_
      have hS : (fun w' : World => w'.cell? ⟨c.d, 1, none⟩ = some (.slice (some ⟨b1, o1, none⟩) M dc) ∧ w'.cell? ⟨w.heap.size, 1, none⟩ = some (.string ⟨n.toArray⟩) ∧ w'.cell? ⟨w.heap.size, 2, none⟩ = some (.string ⟨t.toArray⟩)) w5.drew := ⟨x1, y1, y2⟩
      refine wpAnyL_take (i := 0) (v := .pointer (some ⟨c.d, 0, none⟩)) rfl (by kernel_rfl) (by kernel_rfl) (by kernel_rfl) (by kernel_rfl) (by kernel_rfl) (fun _ _ _ h => h) (Or.inl ⟨by rfl, ?_⟩) hS ?_
      · (intro w' hSw; go_simp)
      go_frame
      refine wpAnyL_take (i := 1) (v := .pointer (some ⟨c.d, 0, none⟩)) rfl (by kernel_rfl) (by kernel_rfl) (by kernel_rfl) (by kernel_rfl) (by kernel_rfl) (fun _ _ _ h => h) (Or.inl ⟨by rfl, ?_⟩) hS ?_
      · (intro w' hSw; go_simp)
      go_frame
      refine wpAnyL_take (i := 2) (v := .pointer (some ⟨c.d, 0, none⟩)) rfl (by kernel_rfl) (by kernel_rfl) (by kernel_rfl) (by kernel_rfl) (by kernel_rfl) (fun _ _ _ h => h) (Or.inl ⟨by rfl, ?_⟩) hS ?_
      · (intro w' hSw; go_simp)
      go_frame
      refine wpAnyL_take (i := 3) (v := .pointer (some ⟨c.d, 1, none⟩)) rfl (by kernel_rfl) (by kernel_rfl) (by kernel_rfl) (by kernel_rfl) (by kernel_rfl) (fun _ _ _ h => h) (Or.inl ⟨by rfl, ?_⟩) hS ?_
      · (intro w' hSw; go_simp)
      go_frame
      refine wpAnyL_take (i := 4) (v := .slice (some ⟨b1, o1, none⟩) M dc) rfl (by kernel_rfl) (by kernel_rfl) (by kernel_rfl) (by kernel_rfl) (by kernel_rfl) (fun _ _ _ h => h) (Or.inl ⟨by rfl, ?_⟩) hS ?_
      · (intro w' hSw; go_simp)
      go_frame
      refine wpAnyL_take (i := 5) (v := .pointer (some ⟨w.heap.size, 1, none⟩)) rfl (by kernel_rfl) (by kernel_rfl) (by kernel_rfl) (by kernel_rfl) (by kernel_rfl) (fun _ _ _ h => h) (Or.inl ⟨by rfl, ?_⟩) hS ?_
      · (intro w' hSw; go_simp)
      go_frame
      refine wpAnyL_take (i := 6) (v := .string ⟨n.toArray⟩) rfl (by kernel_rfl) (by kernel_rfl) (by kernel_rfl) (by kernel_rfl) (by kernel_rfl) (fun _ _ _ h => h) (Or.inl ⟨by rfl, ?_⟩) hS ?_
      · (intro w' hSw; go_simp)
      go_frame
      refine wpAnyL_take (i := 8) (v := .pointer (some ⟨w.heap.size, 2, none⟩)) rfl (by kernel_rfl) (by kernel_rfl) (by kernel_rfl) (by kernel_rfl) (by kernel_rfl) (fun _ _ _ h => h) (Or.inl ⟨by rfl, ?_⟩) hS ?_
      · (intro w' hSw; go_simp)
      go_frame
      refine wpAnyL_take (i := 9) (v := .string ⟨t.toArray⟩) rfl (by kernel_rfl) (by kernel_rfl) (by kernel_rfl) (by kernel_rfl) (by kernel_rfl) (fun _ _ _ h => h) (Or.inl ⟨by rfl, ?_⟩) hS ?_
      · (intro w' hSw; go_simp)
      go_frame
      refine wpAnyL_take (i := 10) (v := .int .i64 (F : Int)) rfl (by kernel_rfl) (by kernel_rfl) (by kernel_rfl) (by kernel_rfl) (by kernel_rfl) (fun _ _ _ h => h) (Or.inl ⟨by rfl, ?_⟩) hS ?_
      · (intro w' hSw; go_simp)
      go_frame
      refine wpAnyL_one (i := 7) (by kernel_rfl) rfl rfl ?_
      go_simp
      refine hdrop.out.mono ?_
      rintro e w6 ⟨v6, rfl, ho6, hk6⟩
      have hk6' : Kept w5 w6 := (Only.refl (fun _ => False) w5).drew.trans hk6 (fun _ _ f => f)
      have N6 := N1.out.stay hk6'
      have c1 : w6.cell? ⟨c.d, 1, none⟩ = some (.slice (some ⟨b1, o1, none⟩) M dc) := by
        have h1 : w6.cell? ⟨c.d, 1, none⟩ = some c.dv := N6.at5.cells.cell 1 rfl
        rw [HDV.out] at h1
        exact h1
      have f1 : w6.frozen? ⟨c.d, 1, none⟩ = false := N6.at5.cells.frozen 1
      have bq1 := N6.op.cell 1 rfl
      have bq2 := N6.op.cell 2 rfl
      have hs6 := ho6.src
      obtain ⟨a6, cp6, rfl⟩ := ownN_slice ho6
      have HN6 := Hid.mk N6
      have HK6 := Hid.mk hk6'
      have hput6 := Hid.mk (hput.out w6 _ hs6)
      clear N6 hk6 hk6' ho6 hs6
      refine ⟨⟨c1, bq1, bq2⟩, ?_⟩
      refine wpAnyL_one (i := 11) (by kernel_rfl) rfl rfl ?_
      go_simp
      refine hput6.out.mono ?_
      rintro e w7 ⟨v7, rfl, ho7, hk7⟩
      obtain ⟨hc7, hp7, N7⟩ := Now.dir HN6.out hk7 ho7 hdf.out
      obtain ⟨a7, cp7, rfl⟩ := ownN_slice ho7
      clear c1 f1 bq1 bq2
      have c71 : w7.cell? ⟨c.d, 1, none⟩ = some (.slice (some ⟨b1, o1, none⟩) M dc) := by
        have h1 : w7.cell? ⟨c.d, 1, none⟩ = some c.dv := hc7.cell 1 rfl
        rw [HDV.out] at h1
        exact h1
      have f71 : w7.frozen? ⟨c.d, 1, none⟩ = false := hc7.frozen 1
      have b71 := hp7.cell 1 rfl
      have b72 := hp7.cell 2 rfl
      have HN7 := Hid.mk N7
      clear N7 hc7 hp7 ho7 hk7
      refine ⟨⟨c71, b71, b72⟩, ?_⟩
      refine wpAnyL_one (i := 12) (by kernel_rfl) rfl rfl ?_
      go_simp
      refine wpAnyL_one (i := 13) (by kernel_rfl) rfl rfl ?_
      go_simp
      refine wpAnyL_last (by kernel_rfl) (by kernel_rfl) rfl rfl ?_
      go_simp
      refine NoPanic.normal ?_
      clear hS
      go_wp2_with fail
      go_ret
      refine Now.post HN7.out HE.out ?_
      have hlk := HLK.out
      show _ = ({ m.count with dir := DD.act m.count.dir ⟨1, n, t, 0⟩, acts := m.count.acts ++ [⟨1, n, t, 0⟩] } : DModel)
      unfold DD.act
      simp only [Nat.one_ne_zero, if_false, if_true, hlk]
      rfl
end
end Go.Proofs.Ytfmdnaagdhpcpaa
