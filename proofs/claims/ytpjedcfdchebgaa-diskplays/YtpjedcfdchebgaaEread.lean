/-
  The document's own disk: Read.
-/
import Derived.Test.YtpjedcfdchebgaaElist
namespace Go.Proofs.Ytpjedcfdchebgaa
open Go.RowKit Go.Proofs.Lys Go.Maps Go.Shelf
set_option linter.unusedVariables false

theorem Try.infoB8 : (Try.prog.info? 5).map (fun i => (i.zero, i.size, i.bytes)) = some (some (.int .u8 0), 1, 1) := by kernel_rfl

/-- Bytes that are read, appended to bytes that are owned. -/
theorem byte_append {w : World} {B : Nat} {v xv : Value} {l q : List UInt8} (hown : w.ownsRow B 5 1 v l.length (l.map bV)) (hsrc : SrcOf w xv (q.map bV)) (hl : l.length + q.length ≤ 1000000000) (hB : B ≤ w.heap.size) :
    ∃ v' w', Hid ((Builtin.append_ #[29, 29] 0 #[v, xv]).run Try.prog w = .ok v' w') ∧ w'.ownsRow B 5 1 v' (l ++ q).length ((l ++ q).map bV) ∧ w.grownBy w' v.ownBlock ∧ (v'.ownBlock = v.ownBlock ∨ v'.ownBlock = some w.heap.size) := by
  obtain ⟨v', w', hr, h1, h2, h3⟩ := append_src (P := Try.prog) Try.underlying29 Try.infoB8 rfl (by decide) hown hsrc (bytes_one q) (by simpa using hl) hB
  refine ⟨v', w', hr, ?_, h2, h3⟩
  have e1 : (l ++ q).length = l.length + (q.map bV).length := by simp
  rw [e1, List.map_append]
  exact h1

/-- A copy of bytes. -/
theorem byte_copy {w : World} {xv : Value} {q : List UInt8} (hsrc : SrcOf w xv (q.map bV)) (hl : q.length ≤ 1000000000) :
    ∃ a cap w', Hid ((Builtin.append_ #[29, 29] 0 #[.slice none 0 0, xv]).run Try.prog w = .ok (.slice a q.length cap) w') ∧ w'.ownsRow w.heap.size 5 1 (.slice a q.length cap) q.length (q.map bV) ∧ Kept w w' := by
  obtain ⟨v', w', hr, h1, h2, h3⟩ := byte_append (w := w) (B := w.heap.size) (v := .slice none 0 0) (l := []) ⟨rfl, .inl ⟨rfl, rfl⟩⟩ hsrc (by simpa using hl) (Nat.le_refl _)
  rw [List.nil_append] at h1
  obtain ⟨a, cap, rfl⟩ := own_slice h1
  exact ⟨a, cap, w', hr, h1, (Only.refl _ w).grown h2 (fun j hj => by cases hj)⟩

theorem RAt.bytesAt {w : World} {c : RConc} {O : Nat → Prop} {m : DModel} (h : RAt w c O m) (f : Nat) (hf : f < m.files.length) : ∃ g cap a k, c.fv = .slice (some ⟨g, 0, none⟩) c.fs.length cap ∧ w.cell? ⟨g, f * 2, none⟩ = some (.slice a (m.fileAt f).b.length k) ∧ w.ownsRow 0 5 1 (.slice a (m.fileAt f).b.length k) (m.fileAt f).b.length ((m.fileAt f).b.map bV) ∧ w.cell? ⟨g, f * 2 + 1, none⟩ = some (.int .i64 ((m.fileAt f).sure : Int)) := by
  have hn := h.nf
  obtain ⟨g, cap, e⟩ := ownN_some h.files (by omega)
  have hf' : f < c.fs.length := by omega
  have hb := h.bytes c.fs[f] (List.getElem_mem hf')
  obtain ⟨a, k, e2⟩ := own_slice hb
  have hfl := h.files
  rw [e] at hfl
  rw [e2] at hb
  refine ⟨g, cap, a, k, e, ?_, ?_, ?_⟩
  · rw [hfl.cellAt (f * 2) (by omega), (filL_at c.fs f hf').1, h.fileAt f hf', e2]
  · rw [h.fileAt f hf']
    exact hb
  · rw [hfl.cellAt (f * 2 + 1) (by omega), (filL_at c.fs f hf').2, h.fileAt f hf']

section
variable {w : World} {c : RConc} {O : Nat → Prop} {m : DModel}
set_option maxRecDepth 100000 in
set_option maxHeartbeats 1600000 in
theorem rread_any (h : RAt w c O m) (hd : m.dir.length ≤ 10000) (n : List UInt8) : Calls Try.prog 55 #[.pointer (some ⟨c.d, 0, none⟩), .string ⟨n.toArray⟩] w fun e w' => ∃ v, e = .returned (.tuple #[v, .int .i64 ((m.read n).1 : Int)]) ∧ w'.ownsRow w.heap.size 5 1 v (m.read n).2.length ((m.read n).2.map bV) ∧ Kept w w' := by
  have x5 : w.cell? ⟨c.d, 5, none⟩ = some (.bool m.off) := h.cells.cell 5 rfl
  cases hoff : m.off
  · rw [hoff] at x5
    have H := Hid.mk h
    obtain ⟨da, dc, hdv⟩ := ownN_slice h.dir
    obtain ⟨M, hM⟩ : ∃ M, m.dir.length = M := ⟨_, rfl⟩
    rw [hM] at hd hdv
    have x1 : w.cell? ⟨c.d, 1, none⟩ = some (.slice da M dc) := by
      have := h.cells.cell 1 rfl
      rw [hdv] at this
      exact this
    have hF : Hid (Calls Try.prog 42 #[.slice da M dc, .string ⟨n.toArray⟩] w fun e w' => e = .returned (.int .i64 (fidx m.dir n)) ∧ w' = w) := by
      have := rfind_any h.dir.src (by omega) n
      rw [hdv] at this
      exact this
    have HD := Hid.mk hdv
    have HM := Hid.mk hM
    clear h hdv hM
    rcases fidx_look m.dir n with ⟨hl, hi⟩ | ⟨i, hi', hi, hl⟩
    · have hr : Hid (m.read n = (6, [])) := by show m.read n = _; unfold DModel.read; rw [hoff, hl]; rfl
      rw [hr.out]
      rw [hi] at hF
      go_enter Try.func55, Try.ntmps55
      go_wp2_with (go_at_call 42; refine hF.out.mono ?_; rintro e w' ⟨rfl, hw⟩; replace hw := hw.symm; subst hw)
      go_ret2
      exact ⟨_, rfl, World.ownsRow_nil _ _ _ _, Only.refl _ _⟩
    · rw [hi] at hF
      have hiM : i < M := by have := HM.out; omega
      have hsrc : EntSrc w (.slice da M dc) m.dir := by
        have := H.out.dir.src
        rw [HD.out] at this
        exact this
      obtain ⟨b, o, hda, e0, e1⟩ := hsrc.cell HM.out i hiM
      subst hda
      obtain ⟨F, hF2⟩ : ∃ F, m.dir[i].2 = F := ⟨_, rfl⟩
      rw [hF2] at e1 hl
      have hFl : F < m.files.length := by rw [← hF2]; exact H.out.dirF _ (List.getElem_mem hi')
      obtain ⟨fg, fcap, fa, fk, hfv, z0, zo, _⟩ := H.out.bytesAt F hFl
      have z1 : w.cell? ⟨c.d, 0, none⟩ = some c.fv := H.out.cells.cell 0 rfl
      rw [hfv] at z1
      have hr : Hid (m.read n = (0, (m.fileAt F).b)) := by show m.read n = _; unfold DModel.read; rw [hoff, hl]; rfl
      rw [hr.out]
      have hLL := H.out.lens' F
      obtain ⟨bs, hbs⟩ : ∃ bs, (m.fileAt F).b = bs := ⟨_, rfl⟩
      rw [hbs] at z0 zo hLL ⊢
      obtain ⟨L, hL⟩ : ∃ L, bs.length = L := ⟨_, rfl⟩
      have HL := Hid.mk hL
      rw [hL] at z0 zo hLL
      obtain ⟨NF, hNF⟩ : ∃ NF, c.fs.length = NF := ⟨_, rfl⟩
      have hFN : F < NF := by rw [← hNF, H.out.nf]; exact hFl
      rw [hNF] at z1
      have ZO := Hid.mk (own_src zo)
      clear hsrc hfv hL hNF hF2 hl hi hFl e0 hbs zo
      go_enter Try.func55, Try.ntmps55
      go_wp2_with (go_at_call 42; refine hF.out.mono ?_; rintro e w' ⟨rfl, hw⟩; replace hw := hw.symm; subst hw)
      obtain ⟨ra, rcap, w2, Hr, ho2, hk2⟩ := byte_copy (w := w.drew) (ZO.out.stay (Only.refl _ _).drew) (by have := HL.out; omega)
      rw [HL.out] at Hr ho2
      have HO2 := Hid.mk ho2
      have HK2 : Hid (Kept w w2) := (Only.refl (fun _ => False) w).drew.trans hk2 (fun _ _ f => f)
      clear ho2 hk2
      go_region_law (refine step_append_run _ (by rfl) _ _ _ (by rfl) (.slice none 0 0) (.slice fa L fk) (by rfl) (by rfl) _ w2 Hr ?_)
      all_goals
        try go_wp2_with fail
        go_ret2
        exact ⟨_, rfl, by rw [HL.out]; exact HO2.out, HK2.out⟩
  · rw [hoff] at x5
    have hr : Hid (m.read n = (12, [])) := by show m.read n = _; unfold DModel.read; rw [hoff]; rfl
    rw [hr.out]
    clear h
    go_enter Try.func55, Try.ntmps55
    go_wp2_with fail
    go_ret2
    exact ⟨_, rfl, World.ownsRow_nil _ _ _ _, Only.refl _ _⟩
end
end Go.Proofs.Ytpjedcfdchebgaa
