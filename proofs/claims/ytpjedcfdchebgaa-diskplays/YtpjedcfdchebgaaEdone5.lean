/-
  The document's own disk: Do of kind 5, done.
-/
import Derived.Test.YtpjedcfdchebgaaEput3
namespace Go.Proofs.Ytpjedcfdchebgaa
open Go.RowKit Go.Proofs.Lys Go.Maps Go.Shelf
set_option linter.unusedVariables false

section
variable {w : World} {c : RConc} {O : Nat → Prop} {m : DModel}

set_option maxRecDepth 100000 in
set_option maxHeartbeats 1600000 in
theorem rdone5 (h : RAt w c O m) (hd : m.dir.length ≤ 10000) (hnd : (m.dir.map (·.2)).Nodup) (n t bs : List UInt8) (ba : Option Addr) (bc : Nat) (hB : bs.length ≤ 1000000) (hsrc : SrcOf w (.slice ba bs.length bc) (bs.map bV)) (hoff : m.off = false) (hf : m.fuse ≠ some 0) (ho : m.own ⟨5, n, t, bs⟩ = 0) (hfa : m.fault ≠ some 0)
    (hst : m.steps ≤ 1000000000) (hac : m.acts.length ≤ 100000) (hfl : m.files.length ≤ 100000) (hfb : ∀ x, m.fuse = some x → x ≤ 9223372036854775807) (hab : ∀ x, m.fault = some x → x ≤ 9223372036854775807) : Calls Try.prog 14 #[.pointer (some ⟨c.d, 0, none⟩), .agg #[.int .i64 5, .string ⟨n.toArray⟩, .string ⟨t.toArray⟩, .slice ba bs.length bc]] w (RPost w c O m ⟨5, n, t, bs⟩) := by
  have H := Hid.mk h
  have k1 : Kept w (w.alloc (.cells #[.int .i64 5, .string ⟨n.toArray⟩, .string ⟨t.toArray⟩, .slice ba bs.length bc] 31)) := (Only.refl (fun _ => False) w).alloc _
  have hown := Hid.mk (rown_any (h.stay k1) hd hnd 5 n t bs ba bc (by decide) (by decide) hB)
  have HE : Hid (m.doOp ⟨5, n, t, bs⟩ = (0, m.count.done ⟨5, n, t, bs⟩)) := by show _ = _; rw [done_count]; exact do_done (m := m) (o := ⟨5, n, t, bs⟩) (show (0 : Int) ≤ 5 by decide) (show (5 : Int) ≤ 5 by decide) hoff hf ho hfa
  obtain ⟨B, hBl⟩ : ∃ B, bs.length = B := ⟨_, rfl⟩
  have HB := Hid.mk hBl
  have HO := Hid.mk ho
  have HD0 := Hid.mk hd
  have HSRC := Hid.mk hsrc
  rw [hBl, ho] at hown
  rw [hBl] at HSRC ⊢
  have x5 : w.cell? ⟨c.d, 5, none⟩ = some (.bool m.off) := h.cells.cell 5 rfl
  have x6 : w.cell? ⟨c.d, 6, none⟩ = some (.int .i64 (laidI m.fuse)) := h.cells.cell 6 rfl
  rw [hoff] at x5
  have d3 := fuse_ne m.fuse hf
  generalize hfz : laidI m.fuse = fz at x6 d3
  have hlt := h.cells.lt
  have hfz0 : ¬ fz = 0 := of_decide_eq_false d3
  have Hst := Hid.mk hst
  have HAC : Hid (m.count.acts.length ≤ 100000) := hac
  have HFL : Hid (m.count.files.length ≤ 100000) := hfl
  clear h k1 hBl ho hd hnd hsrc hst hac hfl
  go_enter Try.func14, Try.ntmps14
  go_wp2_with fail
  refine hown.out.mono ?_
  rintro e w2 ⟨rfl, k2⟩
  obtain ⟨hk2, hop⟩ := own_behind H.out k2
  have h2 := H.out.stay hk2
  clear x5 x6 k2 hown d3 hfz0
  have x6 : w2.cell? ⟨c.d, 6, none⟩ = some (.int .i64 (laidI m.fuse)) := h2.cells.cell 6 rfl
  have x7 : w2.cell? ⟨c.d, 7, none⟩ = some (.int .i64 (laidI m.fault)) := h2.cells.cell 7 rfl
  have x8 : w2.cell? ⟨c.d, 8, none⟩ = some (.int .i64 (m.steps : Int)) := h2.cells.cell 8 rfl
  have f6 : w2.frozen? ⟨c.d, 6, none⟩ = false := h2.cells.frozen 6
  have f7 : w2.frozen? ⟨c.d, 7, none⟩ = false := h2.cells.frozen 7
  have f8 : w2.frozen? ⟨c.d, 8, none⟩ = false := h2.cells.frozen 8
  have hst := Hst.out
  cases hFa : m.fault with
  | none =>
    cases hFu : m.fuse with
    | none =>
      have MID := Hid.mk (mid_nn H.out hk2 hop hFa hFu)
      rw [hFa] at x7
      rw [hFu] at x6
      unfold laidI at x6 x7
      clear h2 hk2 hop
      go_wp2_with fail
      generalize w2.setCell ⟨c.d, 8, none⟩ (.int .i64 ((m.steps : Int) + 1)) = w3 at MID ⊢
      clear x6 x7 x8 f6 f7 f8
      have h3 := MID.out.at3
      obtain ⟨da, dc, hdv⟩ := ownN_slice h3.dir
      obtain ⟨M, hM⟩ : ∃ M, m.count.dir.length = M := ⟨_, rfl⟩
      rw [hM] at hdv
      have hMl : M ≤ 10000 := by rw [← hM]; exact HD0.out
      have x1 : w3.cell? ⟨c.d, 1, none⟩ = some (.slice da M dc) := by
        have := h3.cells.cell 1 rfl
        rw [hdv] at this
        exact this
      have y0 := MID.out.op.cell 0 rfl
      have y1 := MID.out.op.cell 1 rfl
      have hFind : Hid (∀ j, Calls Try.prog 42 #[.slice da M dc, .string ⟨n.toArray⟩] (w3.drewN j) fun e w' => e = .returned (.int .i64 (fidx m.count.dir n)) ∧ w' = w3.drewN j) := fun j => by
        have := rfind_any (h3.stay (Kept.drewN' (Only.refl _ _) j)).dir.src (show m.count.dir.length ≤ 1000000 by omega) n
        rw [hdv] at this
        exact this
      have HDV := Hid.mk hdv
      have HM := Hid.mk hM
      clear hdv hM
      go_quiet ((go_at_call 42; exact Calls.quiet_of_same (hFind.out _)))
      have hes : EntSrc w3 (.slice da M dc) m.count.dir := by
        have := h3.dir.src
        rw [HDV.out] at this
        exact this
      generalize fidx m.count.dir n = fi
      obtain ⟨ca, ccap, w4, Hr, ho4, hk4⟩ := ent_copy (w := w3.drewN nq) (hes.stay (Kept.drewN' (Only.refl _ w3) nq)) (by have := HM.out; omega)
      rw [HM.out] at Hr ho4
      have HK4 : Hid (Kept w3 w4) := (Kept.drewN' (Only.refl (fun _ => False) w3) nq).trans hk4 (fun _ _ f => f)
      have HO4 : Hid (EntAt w4 w3.heap.size (.slice ca M ccap) m.count.dir) := ho4
      have q2 := (h3.stay HK4.out).cells.cell 2 rfl
      have q3 := (h3.stay HK4.out).cells.cell 3 rfl
      have g2 := (h3.stay HK4.out).cells.frozen 2
      have g3 := (h3.stay HK4.out).cells.frozen 3
      clear h3 hes ho4 hk4
      go_wp2_with (at_builtin; refine wpList_append_run rfl _ _ _ rfl rfl rfl Hr ?_)
      all_goals
        go_ret
        exact mid_dir MID.out H.out HK4.out HO4.out HE.out
    | some b0 =>
      obtain ⟨b, rfl⟩ : ∃ b, b0 = b + 1 := ⟨b0 - 1, by have : b0 ≠ 0 := fun e => hf (by rw [hFu, e]); omega⟩
      have hbb := hfb _ hFu
      have MID := Hid.mk (mid_ns H.out hk2 hop hFa hFu)
      rw [hFa] at x7
      rw [hFu] at x6
      unfold laidI at x6 x7
      clear h2 hk2 hop
      go_wp2_with fail
      generalize (w2.setCell ⟨c.d, 6, none⟩ (.int .i64 (b : Int))).setCell ⟨c.d, 8, none⟩ (.int .i64 ((m.steps : Int) + 1)) = w3 at MID ⊢
      clear x6 x7 x8 f6 f7 f8
      have h3 := MID.out.at3
      obtain ⟨da, dc, hdv⟩ := ownN_slice h3.dir
      obtain ⟨M, hM⟩ : ∃ M, m.count.dir.length = M := ⟨_, rfl⟩
      rw [hM] at hdv
      have hMl : M ≤ 10000 := by rw [← hM]; exact HD0.out
      have x1 : w3.cell? ⟨c.d, 1, none⟩ = some (.slice da M dc) := by
        have := h3.cells.cell 1 rfl
        rw [hdv] at this
        exact this
      have y0 := MID.out.op.cell 0 rfl
      have y1 := MID.out.op.cell 1 rfl
      have hFind : Hid (∀ j, Calls Try.prog 42 #[.slice da M dc, .string ⟨n.toArray⟩] (w3.drewN j) fun e w' => e = .returned (.int .i64 (fidx m.count.dir n)) ∧ w' = w3.drewN j) := fun j => by
        have := rfind_any (h3.stay (Kept.drewN' (Only.refl _ _) j)).dir.src (show m.count.dir.length ≤ 1000000 by omega) n
        rw [hdv] at this
        exact this
      have HDV := Hid.mk hdv
      have HM := Hid.mk hM
      clear hdv hM
      go_quiet ((go_at_call 42; exact Calls.quiet_of_same (hFind.out _)))
      have hes : EntSrc w3 (.slice da M dc) m.count.dir := by
        have := h3.dir.src
        rw [HDV.out] at this
        exact this
      generalize fidx m.count.dir n = fi
      obtain ⟨ca, ccap, w4, Hr, ho4, hk4⟩ := ent_copy (w := w3.drewN nq) (hes.stay (Kept.drewN' (Only.refl _ w3) nq)) (by have := HM.out; omega)
      rw [HM.out] at Hr ho4
      have HK4 : Hid (Kept w3 w4) := (Kept.drewN' (Only.refl (fun _ => False) w3) nq).trans hk4 (fun _ _ f => f)
      have HO4 : Hid (EntAt w4 w3.heap.size (.slice ca M ccap) m.count.dir) := ho4
      have q2 := (h3.stay HK4.out).cells.cell 2 rfl
      have q3 := (h3.stay HK4.out).cells.cell 3 rfl
      have g2 := (h3.stay HK4.out).cells.frozen 2
      have g3 := (h3.stay HK4.out).cells.frozen 3
      clear h3 hes ho4 hk4
      go_wp2_with (at_builtin; refine wpList_append_run rfl _ _ _ rfl rfl rfl Hr ?_)
      all_goals
        go_ret
        exact mid_dir MID.out H.out HK4.out HO4.out HE.out
  | some a0 =>
    obtain ⟨a, rfl⟩ : ∃ a, a0 = a + 1 := ⟨a0 - 1, by have : a0 ≠ 0 := fun e => hfa (by rw [hFa, e]); omega⟩
    have haa := hab _ hFa
    cases hFu : m.fuse with
    | none =>
      have MID := Hid.mk (mid_sn H.out hk2 hop hFa hFu)
      rw [hFa] at x7
      rw [hFu] at x6
      unfold laidI at x6 x7
      clear h2 hk2 hop
      go_wp2_with fail
      generalize (w2.setCell ⟨c.d, 7, none⟩ (.int .i64 (a : Int))).setCell ⟨c.d, 8, none⟩ (.int .i64 ((m.steps : Int) + 1)) = w3 at MID ⊢
      clear x6 x7 x8 f6 f7 f8
      have h3 := MID.out.at3
      obtain ⟨da, dc, hdv⟩ := ownN_slice h3.dir
      obtain ⟨M, hM⟩ : ∃ M, m.count.dir.length = M := ⟨_, rfl⟩
      rw [hM] at hdv
      have hMl : M ≤ 10000 := by rw [← hM]; exact HD0.out
      have x1 : w3.cell? ⟨c.d, 1, none⟩ = some (.slice da M dc) := by
        have := h3.cells.cell 1 rfl
        rw [hdv] at this
        exact this
      have y0 := MID.out.op.cell 0 rfl
      have y1 := MID.out.op.cell 1 rfl
      have hFind : Hid (∀ j, Calls Try.prog 42 #[.slice da M dc, .string ⟨n.toArray⟩] (w3.drewN j) fun e w' => e = .returned (.int .i64 (fidx m.count.dir n)) ∧ w' = w3.drewN j) := fun j => by
        have := rfind_any (h3.stay (Kept.drewN' (Only.refl _ _) j)).dir.src (show m.count.dir.length ≤ 1000000 by omega) n
        rw [hdv] at this
        exact this
      have HDV := Hid.mk hdv
      have HM := Hid.mk hM
      clear hdv hM
      go_quiet ((go_at_call 42; exact Calls.quiet_of_same (hFind.out _)))
      have hes : EntSrc w3 (.slice da M dc) m.count.dir := by
        have := h3.dir.src
        rw [HDV.out] at this
        exact this
      generalize fidx m.count.dir n = fi
      obtain ⟨ca, ccap, w4, Hr, ho4, hk4⟩ := ent_copy (w := w3.drewN nq) (hes.stay (Kept.drewN' (Only.refl _ w3) nq)) (by have := HM.out; omega)
      rw [HM.out] at Hr ho4
      have HK4 : Hid (Kept w3 w4) := (Kept.drewN' (Only.refl (fun _ => False) w3) nq).trans hk4 (fun _ _ f => f)
      have HO4 : Hid (EntAt w4 w3.heap.size (.slice ca M ccap) m.count.dir) := ho4
      have q2 := (h3.stay HK4.out).cells.cell 2 rfl
      have q3 := (h3.stay HK4.out).cells.cell 3 rfl
      have g2 := (h3.stay HK4.out).cells.frozen 2
      have g3 := (h3.stay HK4.out).cells.frozen 3
      clear h3 hes ho4 hk4
      go_wp2_with (at_builtin; refine wpList_append_run rfl _ _ _ rfl rfl rfl Hr ?_)
      all_goals
        go_ret
        exact mid_dir MID.out H.out HK4.out HO4.out HE.out
    | some b0 =>
      obtain ⟨b, rfl⟩ : ∃ b, b0 = b + 1 := ⟨b0 - 1, by have : b0 ≠ 0 := fun e => hf (by rw [hFu, e]); omega⟩
      have hbb := hfb _ hFu
      have MID := Hid.mk (mid_ss H.out hk2 hop hFa hFu)
      rw [hFa] at x7
      rw [hFu] at x6
      unfold laidI at x6 x7
      clear h2 hk2 hop
      go_wp2_with fail
      generalize ((w2.setCell ⟨c.d, 7, none⟩ (.int .i64 (a : Int))).setCell ⟨c.d, 6, none⟩ (.int .i64 (b : Int))).setCell ⟨c.d, 8, none⟩ (.int .i64 ((m.steps : Int) + 1)) = w3 at MID ⊢
      clear x6 x7 x8 f6 f7 f8
      have h3 := MID.out.at3
      obtain ⟨da, dc, hdv⟩ := ownN_slice h3.dir
      obtain ⟨M, hM⟩ : ∃ M, m.count.dir.length = M := ⟨_, rfl⟩
      rw [hM] at hdv
      have hMl : M ≤ 10000 := by rw [← hM]; exact HD0.out
      have x1 : w3.cell? ⟨c.d, 1, none⟩ = some (.slice da M dc) := by
        have := h3.cells.cell 1 rfl
        rw [hdv] at this
        exact this
      have y0 := MID.out.op.cell 0 rfl
      have y1 := MID.out.op.cell 1 rfl
      have hFind : Hid (∀ j, Calls Try.prog 42 #[.slice da M dc, .string ⟨n.toArray⟩] (w3.drewN j) fun e w' => e = .returned (.int .i64 (fidx m.count.dir n)) ∧ w' = w3.drewN j) := fun j => by
        have := rfind_any (h3.stay (Kept.drewN' (Only.refl _ _) j)).dir.src (show m.count.dir.length ≤ 1000000 by omega) n
        rw [hdv] at this
        exact this
      have HDV := Hid.mk hdv
      have HM := Hid.mk hM
      clear hdv hM
      go_quiet ((go_at_call 42; exact Calls.quiet_of_same (hFind.out _)))
      have hes : EntSrc w3 (.slice da M dc) m.count.dir := by
        have := h3.dir.src
        rw [HDV.out] at this
        exact this
      generalize fidx m.count.dir n = fi
      obtain ⟨ca, ccap, w4, Hr, ho4, hk4⟩ := ent_copy (w := w3.drewN nq) (hes.stay (Kept.drewN' (Only.refl _ w3) nq)) (by have := HM.out; omega)
      rw [HM.out] at Hr ho4
      have HK4 : Hid (Kept w3 w4) := (Kept.drewN' (Only.refl (fun _ => False) w3) nq).trans hk4 (fun _ _ f => f)
      have HO4 : Hid (EntAt w4 w3.heap.size (.slice ca M ccap) m.count.dir) := ho4
      have q2 := (h3.stay HK4.out).cells.cell 2 rfl
      have q3 := (h3.stay HK4.out).cells.cell 3 rfl
      have g2 := (h3.stay HK4.out).cells.frozen 2
      have g3 := (h3.stay HK4.out).cells.frozen 3
      clear h3 hes ho4 hk4
      go_wp2_with (at_builtin; refine wpList_append_run rfl _ _ _ rfl rfl rfl Hr ?_)
      all_goals
        go_ret
        exact mid_dir MID.out H.out HK4.out HO4.out HE.out
end
end Go.Proofs.Ytpjedcfdchebgaa
