/-
  Edone2.
-/
import Derived.Test.YtfmdnaagdhpcpaaQ18

/-
  The document's own disk: Do of kind 2, done.
-/
namespace Go.Proofs.Ytfmdnaagdhpcpaa
open Go.RowKit Go.Proofs.Lys Go.Maps Go.Shelf
set_option linter.unusedVariables false

section
variable {w : World} {c : RConc} {O : Nat → Prop} {m : DModel}

set_option maxRecDepth 100000 in
set_option maxHeartbeats 1600000 in
theorem rdone2 (h : RAt w c O m) (hd : m.dir.length ≤ 10000) (hnd : (m.dir.map (·.2)).Nodup) (n t bs : List UInt8) (ba : Option Addr) (bc : Nat) (hB : bs.length ≤ 1000000) (hsrc : SrcOf w (.slice ba bs.length bc) (bs.map bV)) (hoff : m.off = false) (hf : m.fuse ≠ some 0) (ho : m.own ⟨2, n, t, bs⟩ = 0) (hfa : m.fault ≠ some 0)
    (hst : m.steps ≤ 1000000000) (hac : m.acts.length ≤ 100000) (hfl : m.files.length ≤ 100000) (hfb : ∀ x, m.fuse = some x → x ≤ 9223372036854775807) (hab : ∀ x, m.fault = some x → x ≤ 9223372036854775807) : Calls Try.prog 12 #[.pointer (some ⟨c.d, 0, none⟩), .agg #[.int .i64 2, .string ⟨n.toArray⟩, .string ⟨t.toArray⟩, .slice ba bs.length bc]] w (RPost w c O m ⟨2, n, t, bs⟩) := by
  have H := Hid.mk h
  have k1 : Kept w (w.alloc (.cells #[.int .i64 2, .string ⟨n.toArray⟩, .string ⟨t.toArray⟩, .slice ba bs.length bc] 31)) := (Only.refl (fun _ => False) w).alloc _
  have hown := Hid.mk (rown_any (h.stay k1) hd hnd 2 n t bs ba bc (by decide) (by decide) hB)
  have HE : Hid (m.doOp ⟨2, n, t, bs⟩ = (0, m.count.done ⟨2, n, t, bs⟩)) := by show _ = _; rw [done_count]; exact do_done (m := m) (o := ⟨2, n, t, bs⟩) (show (0 : Int) ≤ 2 by decide) (show (2 : Int) ≤ 5 by decide) hoff hf ho hfa
  obtain ⟨B, hBl⟩ : ∃ B, bs.length = B := ⟨_, rfl⟩
  have HB := Hid.mk hBl
  have HO := Hid.mk ho
  have HD0 := Hid.mk hd
  have HSRC := Hid.mk hsrc
  rw [hBl, ho] at hown
  rw [hBl] at HSRC ⊢
  have x5 : w.cell? ⟨c.d, 5, none⟩ = some (.bool m.off) := h.cells.cell 5 rfl
  have x6 : w.cell? ⟨c.d, 6, none⟩ = some (.int .i64 (laidI m.fuse)) := h.cells.cell 6 rfl
  rw [hoff] at x5
  have d3 := fuse_ne m.fuse hf
  generalize hfz : laidI m.fuse = fz at x6 d3
  have hlt := h.cells.lt
  have hfz0 : ¬ fz = 0 := of_decide_eq_false d3
  have Hst := Hid.mk hst
  have HAC : Hid (m.count.acts.length ≤ 100000) := hac
  have HFL : Hid (m.count.files.length ≤ 100000) := hfl
  clear h k1 hBl ho hd hnd hsrc hst hac hfl
  go_enter Try.func12, Try.ntmps12
  go_wp2_with fail
  refine hown.out.mono ?_
  rintro e w2 ⟨rfl, k2⟩
  obtain ⟨hk2, hop⟩ := own_behind H.out k2
  have h2 := H.out.stay hk2
  clear x5 x6 k2 hown d3 hfz0
  have x6 : w2.cell? ⟨c.d, 6, none⟩ = some (.int .i64 (laidI m.fuse)) := h2.cells.cell 6 rfl
  have x7 : w2.cell? ⟨c.d, 7, none⟩ = some (.int .i64 (laidI m.fault)) := h2.cells.cell 7 rfl
  have x8 : w2.cell? ⟨c.d, 8, none⟩ = some (.int .i64 (m.steps : Int)) := h2.cells.cell 8 rfl
  have f6 : w2.frozen? ⟨c.d, 6, none⟩ = false := h2.cells.frozen 6
  have f7 : w2.frozen? ⟨c.d, 7, none⟩ = false := h2.cells.frozen 7
  have f8 : w2.frozen? ⟨c.d, 8, none⟩ = false := h2.cells.frozen 8
  have hst := Hst.out
  cases hFa : m.fault with
  | none =>
    cases hFu : m.fuse with
    | none =>
      have MID := Hid.mk (mid_nn H.out hk2 hop hFa hFu)
      rw [hFa] at x7
      rw [hFu] at x6
      unfold laidI at x6 x7
      clear h2 hk2 hop
      go_wp2_with fail
      generalize w2.setCell ⟨c.d, 8, none⟩ (.int .i64 ((m.steps : Int) + 1)) = w3 at MID ⊢
      clear x6 x7 x8 f6 f7 f8
      have h3 := MID.out.at3
      obtain ⟨da, dc, hdv⟩ := ownN_slice h3.dir
      obtain ⟨M, hM⟩ : ∃ M, m.count.dir.length = M := ⟨_, rfl⟩
      rw [hM] at hdv
      have hMl : M ≤ 10000 := by rw [← hM]; exact HD0.out
      have x1 : w3.cell? ⟨c.d, 1, none⟩ = some (.slice da M dc) := by
        have := h3.cells.cell 1 rfl
        rw [hdv] at this
        exact this
      have y0 := MID.out.op.cell 0 rfl
      have y1 := MID.out.op.cell 1 rfl
      have hFind : Hid (∀ j, Calls Try.prog 36 #[.slice da M dc, .string ⟨n.toArray⟩] (w3.drewN j) fun e w' => e = .returned (.int .i64 (fidx m.count.dir n)) ∧ w' = w3.drewN j) := fun j => by
        have := rfind_any (h3.stay (Kept.drewN' (Only.refl _ _) j)).dir.src (show m.count.dir.length ≤ 1000000 by omega) n
        rw [hdv] at this
        exact this
      have HDV := Hid.mk hdv
      have HM := Hid.mk hM
      clear hdv hM
      go_quiet ((go_at_call 36; exact Calls.quiet_of_same (hFind.out _)))
      rcases fidx_look m.count.dir n with ⟨hl, hi⟩ | ⟨i, hi', hi, hl⟩
      · exfalso
        have h6 := HO.out
        change (if (DD.look m.dir n).isSome then 0 else 6) = 0 at h6
        have hl2 : DD.look m.dir n = none := hl
        rw [hl2] at h6
        cases h6
      rw [hi]
      have hiM : i < M := by have := HM.out; omega
      have hes : EntSrc w3 (.slice da M dc) m.count.dir := by
        have := h3.dir.src
        rw [HDV.out] at this
        exact this
      obtain ⟨b1, o1, hda, e0, e1⟩ := hes.cell HM.out i hiM
      subst hda
      obtain ⟨F, hF2⟩ : ∃ F, m.count.dir[i].2 = F := ⟨_, rfl⟩
      rw [hF2] at e1 hl
      have hFl : F < m.count.files.length := by rw [← hF2]; exact h3.dirF _ (List.getElem_mem hi')
      obtain ⟨fg, fcap, fa, fk, hfv, z0, zo, z2⟩ := h3.bytesAt F hFl
      have z1 : w3.cell? ⟨c.d, 0, none⟩ = some c.fv := h3.cells.cell 0 rfl
      rw [hfv] at z1
      have hLL := h3.lens' F
      obtain ⟨L, hL⟩ : ∃ L, (m.count.fileAt F).b.length = L := ⟨_, rfl⟩
      have HL := Hid.mk hL
      rw [hL] at z0 hLL
      obtain ⟨NF, hNF⟩ : ∃ NF, c.fs.length = NF := ⟨_, rfl⟩
      have HNF := Hid.mk hNF
      have hFN : F < NF := by rw [← hNF, h3.nf]; exact hFl
      rw [hNF] at z1
      have HFV := Hid.mk hfv
      have HLK := Hid.mk hl
      have hz : w3.frozen? ⟨fg, F * 2 + 1, none⟩ = false := by
        have hfl := h3.files
        rw [hfv] at hfl
        exact hfl.frozenAt _
      clear hes hF2 e0 hi hfv hL hNF zo hl
      go_wp2_with fail
      have d9 : w3.cell? ⟨fg, F * 2 + 1, none⟩ = some (.int .i64 ((m.count.fileAt F).sure : Int)) := z2
      clear h3
      have HFl := Hid.mk hFl
      clear hFl
      go_region
      go_wp2_with fail
      go_ret
      exact mid_sure MID.out H.out HFl.out HLK.out HFV.out HL.out HE.out
    | some b0 =>
      obtain ⟨b, rfl⟩ : ∃ b, b0 = b + 1 := ⟨b0 - 1, by have : b0 ≠ 0 := fun e => hf (by rw [hFu, e]); omega⟩
      have hbb := hfb _ hFu
      have MID := Hid.mk (mid_ns H.out hk2 hop hFa hFu)
      rw [hFa] at x7
      rw [hFu] at x6
      unfold laidI at x6 x7
      clear h2 hk2 hop
      go_wp2_with fail
      generalize (w2.setCell ⟨c.d, 6, none⟩ (.int .i64 (b : Int))).setCell ⟨c.d, 8, none⟩ (.int .i64 ((m.steps : Int) + 1)) = w3 at MID ⊢
      clear x6 x7 x8 f6 f7 f8
      have h3 := MID.out.at3
      obtain ⟨da, dc, hdv⟩ := ownN_slice h3.dir
      obtain ⟨M, hM⟩ : ∃ M, m.count.dir.length = M := ⟨_, rfl⟩
      rw [hM] at hdv
      have hMl : M ≤ 10000 := by rw [← hM]; exact HD0.out
      have x1 : w3.cell? ⟨c.d, 1, none⟩ = some (.slice da M dc) := by
        have := h3.cells.cell 1 rfl
        rw [hdv] at this
        exact this
      have y0 := MID.out.op.cell 0 rfl
      have y1 := MID.out.op.cell 1 rfl
      have hFind : Hid (∀ j, Calls Try.prog 36 #[.slice da M dc, .string ⟨n.toArray⟩] (w3.drewN j) fun e w' => e = .returned (.int .i64 (fidx m.count.dir n)) ∧ w' = w3.drewN j) := fun j => by
        have := rfind_any (h3.stay (Kept.drewN' (Only.refl _ _) j)).dir.src (show m.count.dir.length ≤ 1000000 by omega) n
        rw [hdv] at this
        exact this
      have HDV := Hid.mk hdv
      have HM := Hid.mk hM
      clear hdv hM
      go_quiet ((go_at_call 36; exact Calls.quiet_of_same (hFind.out _)))
      rcases fidx_look m.count.dir n with ⟨hl, hi⟩ | ⟨i, hi', hi, hl⟩
      · exfalso
        have h6 := HO.out
        change (if (DD.look m.dir n).isSome then 0 else 6) = 0 at h6
        have hl2 : DD.look m.dir n = none := hl
        rw [hl2] at h6
        cases h6
      rw [hi]
      have hiM : i < M := by have := HM.out; omega
      have hes : EntSrc w3 (.slice da M dc) m.count.dir := by
        have := h3.dir.src
        rw [HDV.out] at this
        exact this
      obtain ⟨b1, o1, hda, e0, e1⟩ := hes.cell HM.out i hiM
      subst hda
      obtain ⟨F, hF2⟩ : ∃ F, m.count.dir[i].2 = F := ⟨_, rfl⟩
      rw [hF2] at e1 hl
      have hFl : F < m.count.files.length := by rw [← hF2]; exact h3.dirF _ (List.getElem_mem hi')
      obtain ⟨fg, fcap, fa, fk, hfv, z0, zo, z2⟩ := h3.bytesAt F hFl
      have z1 : w3.cell? ⟨c.d, 0, none⟩ = some c.fv := h3.cells.cell 0 rfl
      rw [hfv] at z1
      have hLL := h3.lens' F
      obtain ⟨L, hL⟩ : ∃ L, (m.count.fileAt F).b.length = L := ⟨_, rfl⟩
      have HL := Hid.mk hL
      rw [hL] at z0 hLL
      obtain ⟨NF, hNF⟩ : ∃ NF, c.fs.length = NF := ⟨_, rfl⟩
      have HNF := Hid.mk hNF
      have hFN : F < NF := by rw [← hNF, h3.nf]; exact hFl
      rw [hNF] at z1
      have HFV := Hid.mk hfv
      have HLK := Hid.mk hl
      have hz : w3.frozen? ⟨fg, F * 2 + 1, none⟩ = false := by
        have hfl := h3.files
        rw [hfv] at hfl
        exact hfl.frozenAt _
      clear hes hF2 e0 hi hfv hL hNF zo hl
      go_wp2_with fail
      have d9 : w3.cell? ⟨fg, F * 2 + 1, none⟩ = some (.int .i64 ((m.count.fileAt F).sure : Int)) := z2
      clear h3
      have HFl := Hid.mk hFl
      clear hFl
      go_region
      go_wp2_with fail
      go_ret
      exact mid_sure MID.out H.out HFl.out HLK.out HFV.out HL.out HE.out
  | some a0 =>
    obtain ⟨a, rfl⟩ : ∃ a, a0 = a + 1 := ⟨a0 - 1, by have : a0 ≠ 0 := fun e => hfa (by rw [hFa, e]); omega⟩
    have haa := hab _ hFa
    cases hFu : m.fuse with
    | none =>
      have MID := Hid.mk (mid_sn H.out hk2 hop hFa hFu)
      rw [hFa] at x7
      rw [hFu] at x6
      unfold laidI at x6 x7
      clear h2 hk2 hop
      go_wp2_with fail
      generalize (w2.setCell ⟨c.d, 7, none⟩ (.int .i64 (a : Int))).setCell ⟨c.d, 8, none⟩ (.int .i64 ((m.steps : Int) + 1)) = w3 at MID ⊢
      clear x6 x7 x8 f6 f7 f8
      have h3 := MID.out.at3
      obtain ⟨da, dc, hdv⟩ := ownN_slice h3.dir
      obtain ⟨M, hM⟩ : ∃ M, m.count.dir.length = M := ⟨_, rfl⟩
      rw [hM] at hdv
      have hMl : M ≤ 10000 := by rw [← hM]; exact HD0.out
      have x1 : w3.cell? ⟨c.d, 1, none⟩ = some (.slice da M dc) := by
        have := h3.cells.cell 1 rfl
        rw [hdv] at this
        exact this
      have y0 := MID.out.op.cell 0 rfl
      have y1 := MID.out.op.cell 1 rfl
      have hFind : Hid (∀ j, Calls Try.prog 36 #[.slice da M dc, .string ⟨n.toArray⟩] (w3.drewN j) fun e w' => e = .returned (.int .i64 (fidx m.count.dir n)) ∧ w' = w3.drewN j) := fun j => by
        have := rfind_any (h3.stay (Kept.drewN' (Only.refl _ _) j)).dir.src (show m.count.dir.length ≤ 1000000 by omega) n
        rw [hdv] at this
        exact this
      have HDV := Hid.mk hdv
      have HM := Hid.mk hM
      clear hdv hM
      go_quiet ((go_at_call 36; exact Calls.quiet_of_same (hFind.out _)))
      rcases fidx_look m.count.dir n with ⟨hl, hi⟩ | ⟨i, hi', hi, hl⟩
      · exfalso
        have h6 := HO.out
        change (if (DD.look m.dir n).isSome then 0 else 6) = 0 at h6
        have hl2 : DD.look m.dir n = none := hl
        rw [hl2] at h6
        cases h6
      rw [hi]
      have hiM : i < M := by have := HM.out; omega
      have hes : EntSrc w3 (.slice da M dc) m.count.dir := by
        have := h3.dir.src
        rw [HDV.out] at this
        exact this
      obtain ⟨b1, o1, hda, e0, e1⟩ := hes.cell HM.out i hiM
      subst hda
      obtain ⟨F, hF2⟩ : ∃ F, m.count.dir[i].2 = F := ⟨_, rfl⟩
      rw [hF2] at e1 hl
      have hFl : F < m.count.files.length := by rw [← hF2]; exact h3.dirF _ (List.getElem_mem hi')
      obtain ⟨fg, fcap, fa, fk, hfv, z0, zo, z2⟩ := h3.bytesAt F hFl
      have z1 : w3.cell? ⟨c.d, 0, none⟩ = some c.fv := h3.cells.cell 0 rfl
      rw [hfv] at z1
      have hLL := h3.lens' F
      obtain ⟨L, hL⟩ : ∃ L, (m.count.fileAt F).b.length = L := ⟨_, rfl⟩
      have HL := Hid.mk hL
      rw [hL] at z0 hLL
      obtain ⟨NF, hNF⟩ : ∃ NF, c.fs.length = NF := ⟨_, rfl⟩
      have HNF := Hid.mk hNF
      have hFN : F < NF := by rw [← hNF, h3.nf]; exact hFl
      rw [hNF] at z1
      have HFV := Hid.mk hfv
      have HLK := Hid.mk hl
      have hz : w3.frozen? ⟨fg, F * 2 + 1, none⟩ = false := by
        have hfl := h3.files
        rw [hfv] at hfl
        exact hfl.frozenAt _
      clear hes hF2 e0 hi hfv hL hNF zo hl
      go_wp2_with fail
      have d9 : w3.cell? ⟨fg, F * 2 + 1, none⟩ = some (.int .i64 ((m.count.fileAt F).sure : Int)) := z2
      clear h3
      have HFl := Hid.mk hFl
      clear hFl
      go_region
      go_wp2_with fail
      go_ret
      exact mid_sure MID.out H.out HFl.out HLK.out HFV.out HL.out HE.out
    | some b0 =>
      obtain ⟨b, rfl⟩ : ∃ b, b0 = b + 1 := ⟨b0 - 1, by have : b0 ≠ 0 := fun e => hf (by rw [hFu, e]); omega⟩
      have hbb := hfb _ hFu
      have MID := Hid.mk (mid_ss H.out hk2 hop hFa hFu)
      rw [hFa] at x7
      rw [hFu] at x6
      unfold laidI at x6 x7
      clear h2 hk2 hop
      go_wp2_with fail
      generalize ((w2.setCell ⟨c.d, 7, none⟩ (.int .i64 (a : Int))).setCell ⟨c.d, 6, none⟩ (.int .i64 (b : Int))).setCell ⟨c.d, 8, none⟩ (.int .i64 ((m.steps : Int) + 1)) = w3 at MID ⊢
      clear x6 x7 x8 f6 f7 f8
      have h3 := MID.out.at3
      obtain ⟨da, dc, hdv⟩ := ownN_slice h3.dir
      obtain ⟨M, hM⟩ : ∃ M, m.count.dir.length = M := ⟨_, rfl⟩
      rw [hM] at hdv
      have hMl : M ≤ 10000 := by rw [← hM]; exact HD0.out
      have x1 : w3.cell? ⟨c.d, 1, none⟩ = some (.slice da M dc) := by
        have := h3.cells.cell 1 rfl
        rw [hdv] at this
        exact this
      have y0 := MID.out.op.cell 0 rfl
      have y1 := MID.out.op.cell 1 rfl
      have hFind : Hid (∀ j, Calls Try.prog 36 #[.slice da M dc, .string ⟨n.toArray⟩] (w3.drewN j) fun e w' => e = .returned (.int .i64 (fidx m.count.dir n)) ∧ w' = w3.drewN j) := fun j => by
        have := rfind_any (h3.stay (Kept.drewN' (Only.refl _ _) j)).dir.src (show m.count.dir.length ≤ 1000000 by omega) n
        rw [hdv] at this
        exact this
      have HDV := Hid.mk hdv
      have HM := Hid.mk hM
      clear hdv hM
      go_quiet ((go_at_call 36; exact Calls.quiet_of_same (hFind.out _)))
      rcases fidx_look m.count.dir n with ⟨hl, hi⟩ | ⟨i, hi', hi, hl⟩
      · exfalso
        have h6 := HO.out
        change (if (DD.look m.dir n).isSome then 0 else 6) = 0 at h6
        have hl2 : DD.look m.dir n = none := hl
        rw [hl2] at h6
        cases h6
      rw [hi]
      have hiM : i < M := by have := HM.out; omega
      have hes : EntSrc w3 (.slice da M dc) m.count.dir := by
        have := h3.dir.src
        rw [HDV.out] at this
        exact this
      obtain ⟨b1, o1, hda, e0, e1⟩ := hes.cell HM.out i hiM
      subst hda
      obtain ⟨F, hF2⟩ : ∃ F, m.count.dir[i].2 = F := ⟨_, rfl⟩
      rw [hF2] at e1 hl
      have hFl : F < m.count.files.length := by rw [← hF2]; exact h3.dirF _ (List.getElem_mem hi')
      obtain ⟨fg, fcap, fa, fk, hfv, z0, zo, z2⟩ := h3.bytesAt F hFl
      have z1 : w3.cell? ⟨c.d, 0, none⟩ = some c.fv := h3.cells.cell 0 rfl
      rw [hfv] at z1
      have hLL := h3.lens' F
      obtain ⟨L, hL⟩ : ∃ L, (m.count.fileAt F).b.length = L := ⟨_, rfl⟩
      have HL := Hid.mk hL
      rw [hL] at z0 hLL
      obtain ⟨NF, hNF⟩ : ∃ NF, c.fs.length = NF := ⟨_, rfl⟩
      have HNF := Hid.mk hNF
      have hFN : F < NF := by rw [← hNF, h3.nf]; exact hFl
      rw [hNF] at z1
      have HFV := Hid.mk hfv
      have HLK := Hid.mk hl
      have hz : w3.frozen? ⟨fg, F * 2 + 1, none⟩ = false := by
        have hfl := h3.files
        rw [hfv] at hfl
        exact hfl.frozenAt _
      clear hes hF2 e0 hi hfv hL hNF zo hl
      go_wp2_with fail
      have d9 : w3.cell? ⟨fg, F * 2 + 1, none⟩ = some (.int .i64 ((m.count.fileAt F).sure : Int)) := z2
      clear h3
      have HFl := Hid.mk hFl
      clear hFl
      go_region
      go_wp2_with fail
      go_ret
      exact mid_sure MID.out H.out HFl.out HLK.out HFV.out HL.out HE.out
end
end Go.Proofs.Ytfmdnaagdhpcpaa
