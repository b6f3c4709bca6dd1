/-
  Elist, Eread, Edo, Edo2, Eset, Eclose, Estep, Elast, Eput3.
-/
import Derived.Test.YtfmdnaagdhpcpaaQ17
import Derived.Test.YtfmdnaagdhpcpaaQ09

/-
  The document's own disk: a step's own errors at every kind; List.
-/
namespace Go.Proofs.Ytfmdnaagdhpcpaa
open Go.RowKit Go.Proofs.Lys Go.Maps Go.Shelf
set_option linter.unusedVariables false

theorem rown_any {w : World} {c : RConc} {O : Nat → Prop} {m : DModel} (h : RAt w c O m) (hd : m.dir.length ≤ 10000) (hnd : (m.dir.map (·.2)).Nodup) (k : Int) (n t bs : List UInt8) (ba : Option Addr) (bc : Nat) (hk0 : 0 ≤ k) (hk5 : k ≤ 5) (hB : bs.length ≤ 1000000) :
    Calls Try.prog 35 #[.pointer (some ⟨c.d, 0, none⟩), .agg #[.int .i64 k, .string ⟨n.toArray⟩, .string ⟨t.toArray⟩, .slice ba bs.length bc]] w fun e w' => e = .returned (.int .i64 (m.own ⟨k, n, t, bs⟩ : Int)) ∧ Kept w w' := by
  have : k = 0 ∨ k = 1 ∨ k = 2 ∨ k = 3 ∨ k = 4 ∨ k = 5 := by omega
  rcases this with rfl | rfl | rfl | rfl | rfl | rfl
  · exact rown0 h hd hnd n t bs ba bc hB
  · exact rown1 h hd hnd n t bs ba bc hB
  · exact rown2 h hd hnd n t bs ba bc hB
  · exact rown3 h hd hnd n t bs ba bc hB
  · exact rown4 h hd hnd n t bs ba bc hB
  · exact rown5 h hd hnd n t bs ba bc hB

theorem Try.infoS : (Try.prog.info? 9).map (fun i => (i.zero, i.size, i.bytes)) = some (some (.string ⟨#[]⟩), 1, 16) := by kernel_rfl
/-- A row of texts grows by one. -/
theorem str_step {w0 w : World} {v : Value} {l : List (List UInt8)} (hown : w.ownsRow w0.heap.size 9 1 v l.length (l.map nmV)) (hk : Kept w0 w) (f : List UInt8) (hl : l.length < 1000000) :
    ∃ g cap w', Hid ((Builtin.append_ #[80, 80] 0 #[v, .slice (some ⟨w.heap.size, 0, none⟩) 1 1]).run Try.prog (w.alloc (.cells #[.string ⟨f.toArray⟩] 9)) = .ok (.slice (some ⟨g, 0, none⟩) (l.length + 1) cap) w') ∧ w'.ownsRow w0.heap.size 9 1 (.slice (some ⟨g, 0, none⟩) (l.length + 1) cap) (l ++ [f]).length ((l ++ [f]).map nmV) ∧ Kept w0 w' := by
  have k1 : Kept w (w.alloc (.cells #[.string ⟨f.toArray⟩] 9)) := (Only.refl _ w).alloc _
  obtain ⟨v', w', hr, h1, h2, h3⟩ := append_src (P := Try.prog) (xv := .slice (some ⟨w.heap.size, 0, none⟩) 1 1) (ys := [.string ⟨f.toArray⟩]) Try.underlying80 Try.infoS rfl (by decide) (ownN_stay hown k1) (own_src (World.ownsRow_lit w #[.string ⟨f.toArray⟩] 1 (Nat.zero_le _) (by decide) rfl)) (by intro u hu; simp at hu; subst hu; rfl) (by simp; omega) (Nat.le_trans hk.size k1.size)
  obtain ⟨g, cap, rfl⟩ := own_some h1 (by simp)
  refine ⟨g, cap, w', hr, ?_, ?_⟩
  · have e1 : (l ++ [f]).length = l.length + [Value.string ⟨f.toArray⟩].length := by simp
    have e2 : (l ++ [f]).map nmV = l.map nmV ++ [Value.string ⟨f.toArray⟩] := by simp [nmV]
    rw [e1, e2]
    exact h1
  · exact (hk.trans k1 (fun _ _ f => f)).grown h2 (fun j hj hlt => by have := (ownN_lt hown hj).1; omega)

set_option maxRecDepth 100000 in
set_option maxHeartbeats 1600000 in
theorem rlist_any {w : World} {c : RConc} {O : Nat → Prop} {m : DModel} (h : RAt w c O m) (hd : m.dir.length ≤ 10000) : Calls Try.prog 44 #[.pointer (some ⟨c.d, 0, none⟩)] w fun e w' => ∃ v, e = .returned v ∧ w'.ownsRow w.heap.size 9 1 v m.list.length (m.list.map nmV) ∧ Kept w w' := by
  have H := Hid.mk h
  obtain ⟨da, dc, hdv⟩ := ownN_slice h.dir
  obtain ⟨M, hM⟩ : ∃ M, m.dir.length = M := ⟨_, rfl⟩
  rw [hM] at hd hdv
  have HM := Hid.mk hM
  have HV := Hid.mk hdv
  have x1 : Hid (∀ W, Kept w W → W.cell? ⟨c.d, 1, none⟩ = some (.slice da M dc)) := fun W hW => by
    have := (h.stay hW).cells.cell 1 rfl
    rw [hdv] at this
    exact this
  have x5 : Hid (∀ W, Kept w W → W.cell? ⟨c.d, 5, none⟩ = some (.bool m.off)) := fun W hW => (h.stay hW).cells.cell 5 rfl
  obtain ⟨off, hoff⟩ : ∃ off, m.off = off := ⟨_, rfl⟩
  rw [hoff] at x5
  have HOff := Hid.mk hoff
  clear h hM hdv hoff
  go_enter Try.func44, Try.ntmps44
  go_wp2_with fail
  go_loopw [3, 4] (fun v i wr => ∃ (k : Nat), k ≤ M ∧ i = .int .i64 (k : Int) ∧ (off = true → k = 0) ∧ wr.ownsRow w.heap.size 9 1 v ((m.dir.take k).map (·.1)).length (((m.dir.take k).map (·.1)).map nmV) ∧ Kept w wr) (fun _ i _ => M - (intOf i).toNat)
  case atStart => exact ⟨0, by omega, rfl, fun _ => rfl, ⟨rfl, .inl ⟨rfl, rfl⟩⟩, Only.refl _ _⟩
  case round =>
    obtain ⟨k, hk, rfl, hk0, hE, hkp⟩ := hrel
    have y1 := x1.out wr hkp
    have y5 := x5.out wr hkp
    have HK := Hid.mk hkp
    obtain ⟨S, hS⟩ : ∃ S, (m.dir.take k).map (·.1) = S := ⟨_, rfl⟩
    have hSl : S.length = k := by rw [← hS, List.length_map, List.length_take]; have := HM.out; omega
    rw [hS] at hE
    obtain ⟨a5, c5, e5⟩ := own_slice hE
    rw [hSl] at e5
    subst e5
    have HE := Hid.mk hE
    have HS := Hid.mk hS
    cases off
    · by_cases hlt : k < M
      · have hkl : k < m.dir.length := by have := HM.out; omega
        have hsrc : EntSrc wr (.slice da M dc) m.dir := by
          have := (H.out.stay hkp).dir.src
          rw [HV.out] at this
          exact this
        obtain ⟨b, o, hda, e0, e1⟩ := hsrc.cell HM.out k hlt
        subst hda
        obtain ⟨F, hF⟩ : ∃ F, m.dir[k].1 = F := ⟨_, rfl⟩
        rw [hF] at e0
        unfold nmV at e0
        have hS1 : Hid ((m.dir.take (k + 1)).map (·.1) = S ++ [F]) := by
          show _ = _
          rw [List.take_succ_eq_append_getElem hkl, List.map_append, hS, ← hF]
          rfl
        obtain ⟨g, cap, w2, Hr, hown, hkk⟩ := str_step HE.out HK.out F (by omega)
        rw [hSl] at Hr hown
        have HO := Hid.mk hown
        have HKK := Hid.mk hkk
        clear hE hown hkk hkp hS hSl hF hsrc e1 hk0
        go_wp2_with (at_builtin; refine wpList_append_run rfl _ _ _ rfl rfl rfl Hr ?_)
        refine ⟨⟨k + 1, by omega, by go_num, (fun e => by cases e), ?_, HKK.out⟩, ?_⟩
        · rw [hS1.out]
          exact HO.out
        · simp [intOf]
          omega
      · have HT : Hid (m.list = S) := by
          show m.list = S
          unfold DModel.list
          rw [HOff.out, ← hS, List.take_of_length_le (by have := HM.out; omega)]
          rfl
        have HSl := Hid.mk hSl
        clear hkp hE hS hSl hk0
        go_wp2_with fail
        go_ret
        exact ⟨_, rfl, by rw [HT.out]; exact HE.out, HK.out⟩
    · have hk00 := hk0 rfl
      subst hk00
      have HT : Hid (m.list = S) := by
        show m.list = S
        unfold DModel.list
        rw [HOff.out, ← hS]
        rfl
      clear hkp hE hS hSl hk0
      go_wp2_with fail
      all_goals
        go_ret
        exact ⟨_, rfl, by rw [HT.out]; exact HE.out, HK.out⟩
end Go.Proofs.Ytfmdnaagdhpcpaa

/-
  The document's own disk: Read.
-/
namespace Go.Proofs.Ytfmdnaagdhpcpaa
open Go.RowKit Go.Proofs.Lys Go.Maps Go.Shelf
set_option linter.unusedVariables false

theorem Try.infoB8 : (Try.prog.info? 5).map (fun i => (i.zero, i.size, i.bytes)) = some (some (.int .u8 0), 1, 1) := by kernel_rfl

/-- Bytes that are read, appended to bytes that are owned. -/
theorem byte_append {w : World} {B : Nat} {v xv : Value} {l q : List UInt8} (hown : w.ownsRow B 5 1 v l.length (l.map bV)) (hsrc : SrcOf w xv (q.map bV)) (hl : l.length + q.length ≤ 1000000000) (hB : B ≤ w.heap.size) :
    ∃ v' w', Hid ((Builtin.append_ #[29, 29] 0 #[v, xv]).run Try.prog w = .ok v' w') ∧ w'.ownsRow B 5 1 v' (l ++ q).length ((l ++ q).map bV) ∧ w.grownBy w' v.ownBlock ∧ (v'.ownBlock = v.ownBlock ∨ v'.ownBlock = some w.heap.size) := by
  obtain ⟨v', w', hr, h1, h2, h3⟩ := append_src (P := Try.prog) Try.underlying29 Try.infoB8 rfl (by decide) hown hsrc (bytes_one q) (by simpa using hl) hB
  refine ⟨v', w', hr, ?_, h2, h3⟩
  have e1 : (l ++ q).length = l.length + (q.map bV).length := by simp
  rw [e1, List.map_append]
  exact h1

/-- A copy of bytes. -/
theorem byte_copy {w : World} {xv : Value} {q : List UInt8} (hsrc : SrcOf w xv (q.map bV)) (hl : q.length ≤ 1000000000) :
    ∃ a cap w', Hid ((Builtin.append_ #[29, 29] 0 #[.slice none 0 0, xv]).run Try.prog w = .ok (.slice a q.length cap) w') ∧ w'.ownsRow w.heap.size 5 1 (.slice a q.length cap) q.length (q.map bV) ∧ Kept w w' := by
  obtain ⟨v', w', hr, h1, h2, h3⟩ := byte_append (w := w) (B := w.heap.size) (v := .slice none 0 0) (l := []) ⟨rfl, .inl ⟨rfl, rfl⟩⟩ hsrc (by simpa using hl) (Nat.le_refl _)
  rw [List.nil_append] at h1
  obtain ⟨a, cap, rfl⟩ := own_slice h1
  exact ⟨a, cap, w', hr, h1, (Only.refl _ w).grown h2 (fun j hj => by cases hj)⟩

theorem RAt.bytesAt {w : World} {c : RConc} {O : Nat → Prop} {m : DModel} (h : RAt w c O m) (f : Nat) (hf : f < m.files.length) : ∃ g cap a k, c.fv = .slice (some ⟨g, 0, none⟩) c.fs.length cap ∧ w.cell? ⟨g, f * 2, none⟩ = some (.slice a (m.fileAt f).b.length k) ∧ w.ownsRow 0 5 1 (.slice a (m.fileAt f).b.length k) (m.fileAt f).b.length ((m.fileAt f).b.map bV) ∧ w.cell? ⟨g, f * 2 + 1, none⟩ = some (.int .i64 ((m.fileAt f).sure : Int)) := by
  have hn := h.nf
  obtain ⟨g, cap, e⟩ := ownN_some h.files (by omega)
  have hf' : f < c.fs.length := by omega
  have hb := h.bytes c.fs[f] (List.getElem_mem hf')
  obtain ⟨a, k, e2⟩ := own_slice hb
  have hfl := h.files
  rw [e] at hfl
  rw [e2] at hb
  refine ⟨g, cap, a, k, e, ?_, ?_, ?_⟩
  · rw [hfl.cellAt (f * 2) (by omega), (filL_at c.fs f hf').1, h.fileAt f hf', e2]
  · rw [h.fileAt f hf']
    exact hb
  · rw [hfl.cellAt (f * 2 + 1) (by omega), (filL_at c.fs f hf').2, h.fileAt f hf']

section
variable {w : World} {c : RConc} {O : Nat → Prop} {m : DModel}
set_option maxRecDepth 100000 in
set_option maxHeartbeats 1600000 in
theorem rread_any (h : RAt w c O m) (hd : m.dir.length ≤ 10000) (n : List UInt8) : Calls Try.prog 48 #[.pointer (some ⟨c.d, 0, none⟩), .string ⟨n.toArray⟩] w fun e w' => ∃ v, e = .returned (.tuple #[v, .int .i64 ((m.read n).1 : Int)]) ∧ w'.ownsRow w.heap.size 5 1 v (m.read n).2.length ((m.read n).2.map bV) ∧ Kept w w' := by
  have x5 : w.cell? ⟨c.d, 5, none⟩ = some (.bool m.off) := h.cells.cell 5 rfl
  cases hoff : m.off
  · rw [hoff] at x5
    have H := Hid.mk h
    obtain ⟨da, dc, hdv⟩ := ownN_slice h.dir
    obtain ⟨M, hM⟩ : ∃ M, m.dir.length = M := ⟨_, rfl⟩
    rw [hM] at hd hdv
    have x1 : w.cell? ⟨c.d, 1, none⟩ = some (.slice da M dc) := by
      have := h.cells.cell 1 rfl
      rw [hdv] at this
      exact this
    have hF : Hid (Calls Try.prog 36 #[.slice da M dc, .string ⟨n.toArray⟩] w fun e w' => e = .returned (.int .i64 (fidx m.dir n)) ∧ w' = w) := by
      have := rfind_any h.dir.src (by omega) n
      rw [hdv] at this
      exact this
    have HD := Hid.mk hdv
    have HM := Hid.mk hM
    clear h hdv hM
    rcases fidx_look m.dir n with ⟨hl, hi⟩ | ⟨i, hi', hi, hl⟩
    · have hr : Hid (m.read n = (6, [])) := by show m.read n = _; unfold DModel.read; rw [hoff, hl]; rfl
      rw [hr.out]
      rw [hi] at hF
      go_enter Try.func48, Try.ntmps48
      go_wp2_with (go_at_call 36; refine hF.out.mono ?_; rintro e w' ⟨rfl, hw⟩; replace hw := hw.symm; subst hw)
      go_ret2
      exact ⟨_, rfl, World.ownsRow_nil _ _ _ _, Only.refl _ _⟩
    · rw [hi] at hF
      have hiM : i < M := by have := HM.out; omega
      have hsrc : EntSrc w (.slice da M dc) m.dir := by
        have := H.out.dir.src
        rw [HD.out] at this
        exact this
      obtain ⟨b, o, hda, e0, e1⟩ := hsrc.cell HM.out i hiM
      subst hda
      obtain ⟨F, hF2⟩ : ∃ F, m.dir[i].2 = F := ⟨_, rfl⟩
      rw [hF2] at e1 hl
      have hFl : F < m.files.length := by rw [← hF2]; exact H.out.dirF _ (List.getElem_mem hi')
      obtain ⟨fg, fcap, fa, fk, hfv, z0, zo, _⟩ := H.out.bytesAt F hFl
      have z1 : w.cell? ⟨c.d, 0, none⟩ = some c.fv := H.out.cells.cell 0 rfl
      rw [hfv] at z1
      have hr : Hid (m.read n = (0, (m.fileAt F).b)) := by show m.read n = _; unfold DModel.read; rw [hoff, hl]; rfl
      rw [hr.out]
      have hLL := H.out.lens' F
      obtain ⟨bs, hbs⟩ : ∃ bs, (m.fileAt F).b = bs := ⟨_, rfl⟩
      rw [hbs] at z0 zo hLL ⊢
      obtain ⟨L, hL⟩ : ∃ L, bs.length = L := ⟨_, rfl⟩
      have HL := Hid.mk hL
      rw [hL] at z0 zo hLL
      obtain ⟨NF, hNF⟩ : ∃ NF, c.fs.length = NF := ⟨_, rfl⟩
      have hFN : F < NF := by rw [← hNF, H.out.nf]; exact hFl
      rw [hNF] at z1
      have ZO := Hid.mk (own_src zo)
      clear hsrc hfv hL hNF hF2 hl hi hFl e0 hbs zo
      go_enter Try.func48, Try.ntmps48
      go_wp2_with (go_at_call 36; refine hF.out.mono ?_; rintro e w' ⟨rfl, hw⟩; replace hw := hw.symm; subst hw)
      obtain ⟨ra, rcap, w2, Hr, ho2, hk2⟩ := byte_copy (w := w.drew) (ZO.out.stay (Only.refl _ _).drew) (by have := HL.out; omega)
      rw [HL.out] at Hr ho2
      have HO2 := Hid.mk ho2
      have HK2 : Hid (Kept w w2) := (Only.refl (fun _ => False) w).drew.trans hk2 (fun _ _ f => f)
      clear ho2 hk2
      go_region_law (refine step_append_run _ (by rfl) _ _ _ (by rfl) (.slice none 0 0) (.slice fa L fk) (by rfl) (by rfl) _ w2 Hr ?_)
      all_goals
        try go_wp2_with fail
        go_ret2
        exact ⟨_, rfl, by rw [HL.out]; exact HO2.out, HK2.out⟩
  · rw [hoff] at x5
    have hr : Hid (m.read n = (12, [])) := by show m.read n = _; unfold DModel.read; rw [hoff]; rfl
    rw [hr.out]
    clear h
    go_enter Try.func48, Try.ntmps48
    go_wp2_with fail
    go_ret2
    exact ⟨_, rfl, World.ownsRow_nil _ _ _ _, Only.refl _ _⟩
end
end Go.Proofs.Ytfmdnaagdhpcpaa

/-
  The document's own disk: Do, where nothing is done.
-/
namespace Go.Proofs.Ytfmdnaagdhpcpaa
open Go.RowKit Go.Proofs.Lys Go.Maps Go.Shelf
set_option linter.unusedVariables false

/-- What a step of the document's own disk comes to. -/
abbrev RPost (w : World) (c : RConc) (O : Nat → Prop) (m : DModel) (o : DOp) (e : Ending) (w' : World) : Prop :=
  e = .returned (.int .i64 ((m.doOp o).1 : Int)) ∧ Only O w w' ∧ ∃ c' : RConc, c'.d = c.d ∧ RAt w' c' (Grow O w w') (m.doOp o).2

section
variable {w : World} {c : RConc} {O : Nat → Prop} {m : DModel}

theorem rgrow_id (h : RAt w c O m) {w0 : World} (hs : w0.heap.size ≤ w.heap.size) (ht : ∀ k, O k → k < w0.heap.size) : RAt w c (Grow O w0 w) m :=
  h.mono (fun k hk => .inl hk) (fun k hk => hk.elim (fun e => Nat.lt_of_lt_of_le (ht k e) hs) (fun e => e.2))
/-- Nothing of the disk has turned. -/
theorem rpost_same {w' : World} {o : DOp} {r : Nat} (h : RAt w c O m) (k : Kept w w') (hd : m.doOp o = (r, m)) : RPost w c O m o (.returned (.int .i64 (r : Int))) w' := by
  unfold RPost
  rw [hd]
  exact ⟨rfl, k.mono (fun _ _ f => f.elim), c, rfl, rgrow_id (h.stay k) k.size h.top⟩
/-- Plain cells of the disk have turned. -/
theorem rpost_scal {w1 w2 : World} {m' : DModel} {o : DOp} {r : Nat} (h : RAt w c O m) (k1 : Kept w w1) (k2 : Only (· = c.d) w1 w2) (hc : Blk w2 c.d (RCells c m') 63) (e1 : m'.files = m.files) (e2 : m'.dir = m.dir) (e3 : m'.sure = m.sure) (e4 : m'.acts = m.acts) (hq : m'.quota = m.quota) (hd : m.doOp o = (r, m')) : RPost w c O m o (.returned (.int .i64 (r : Int))) w2 := by
  unfold RPost
  rw [hd]
  have k3 : Only O w w2 := (k1.mono (fun _ _ f => f.elim)).trans k2 (fun j _ e => e ▸ h.oD)
  exact ⟨rfl, k3, c, rfl, rgrow_id ((h.stay k1).scal k2 hc e1 e2 e3 e4 (by rw [hq]; exact h.quota)) k3.size h.top⟩

set_option maxRecDepth 100000 in
theorem rdo_bad (h : RAt w c O m) (k : Int) (n t bs : List UInt8) (bv : Value) (hk : k < 0 ∨ 5 < k) (hb : ∃ a l cc, bv = .slice a l cc) : Calls Try.prog 12 #[.pointer (some ⟨c.d, 0, none⟩), .agg #[.int .i64 k, .string ⟨n.toArray⟩, .string ⟨t.toArray⟩, bv]] w (RPost w c O m ⟨k, n, t, bs⟩) := by
  obtain ⟨ba, B, bc, rfl⟩ := hb
  have H := Hid.mk (rpost_same h ((Only.refl (fun _ => False) w).alloc (.cells #[.int .i64 k, .string ⟨n.toArray⟩, .string ⟨t.toArray⟩, .slice ba B bc] 31)) (do_odd m k n t bs hk))
  clear h
  by_cases hk0 : k < 0
  · go_enter Try.func12, Try.ntmps12
    go_wp2_with fail
    go_ret
    exact H.out
  · have hk5 : 5 < k := by omega
    go_enter Try.func12, Try.ntmps12
    go_wp2_with fail
    go_ret
    exact H.out

set_option maxRecDepth 100000 in
theorem rdo_off (h : RAt w c O m) (k : Int) (n t bs : List UInt8) (bv : Value) (hk0 : 0 ≤ k) (hk5 : k ≤ 5) (hb : ∃ a l cc, bv = .slice a l cc) (hoff : m.off = true) : Calls Try.prog 12 #[.pointer (some ⟨c.d, 0, none⟩), .agg #[.int .i64 k, .string ⟨n.toArray⟩, .string ⟨t.toArray⟩, bv]] w (RPost w c O m ⟨k, n, t, bs⟩) := by
  obtain ⟨ba, B, bc, rfl⟩ := hb
  have H := Hid.mk (rpost_same h ((Only.refl (fun _ => False) w).alloc (.cells #[.int .i64 k, .string ⟨n.toArray⟩, .string ⟨t.toArray⟩, .slice ba B bc] 31)) (do_off (o := ⟨k, n, t, bs⟩) hk0 hk5 hoff))
  have x5 : w.cell? ⟨c.d, 5, none⟩ = some (.bool m.off) := h.cells.cell 5 rfl
  rw [hoff] at x5
  have hlt := h.cells.lt
  have d1 : decide (k < 0) = false := by simp; omega
  have d2 : decide (5 < k) = false := by simp; omega
  clear h
  go_enter Try.func12, Try.ntmps12
  go_wp2_with fail
  go_ret
  exact H.out

set_option maxRecDepth 100000 in
theorem rdo_blown (h : RAt w c O m) (k : Int) (n t bs : List UInt8) (bv : Value) (hk0 : 0 ≤ k) (hk5 : k ≤ 5) (hb : ∃ a l cc, bv = .slice a l cc) (hoff : m.off = false) (hf : m.fuse = some 0) : Calls Try.prog 12 #[.pointer (some ⟨c.d, 0, none⟩), .agg #[.int .i64 k, .string ⟨n.toArray⟩, .string ⟨t.toArray⟩, bv]] w (RPost w c O m ⟨k, n, t, bs⟩) := by
  obtain ⟨ba, B, bc, rfl⟩ := hb
  have H := Hid.mk (rpost_scal (m' := { m with off := true }) h (Only.refl _ _) (((Only.refl (fun x => x = c.d) w).setCell (p := ⟨c.d, 5, none⟩) (fun _ => rfl) (.bool true)).alloc (.cells #[.int .i64 k, .string ⟨n.toArray⟩, .string ⟨t.toArray⟩, .slice ba B bc] 31)) ((h.cells.set 5 (.bool true)).alloc _) rfl rfl rfl rfl rfl (do_blown (o := ⟨k, n, t, bs⟩) hk0 hk5 hoff hf))
  have x5 : w.cell? ⟨c.d, 5, none⟩ = some (.bool m.off) := h.cells.cell 5 rfl
  have f5 : w.frozen? ⟨c.d, 5, none⟩ = false := h.cells.frozen 5
  have x6 : w.cell? ⟨c.d, 6, none⟩ = some (.int .i64 (laidI m.fuse)) := h.cells.cell 6 rfl
  rw [hoff] at x5
  rw [hf] at x6
  unfold laidI at x6
  have hlt := h.cells.lt
  have d1 : decide (k < 0) = false := by simp; omega
  have d2 : decide (5 < k) = false := by simp; omega
  clear h
  go_enter Try.func12, Try.ntmps12
  go_wp2_with fail
  go_ret
  exact H.out

/-- What holds behind the call of own. -/
theorem own_behind {w2 : World} (h : RAt w c O m) {k : Int} {n t : List UInt8} {ba : Option Addr} {B bc : Nat} (k2 : Kept (w.alloc (.cells #[.int .i64 k, .string ⟨n.toArray⟩, .string ⟨t.toArray⟩, .slice ba B bc] 31)) w2) : Kept w w2 ∧ Blk w2 w.heap.size [.int .i64 k, .string ⟨n.toArray⟩, .string ⟨t.toArray⟩, .slice ba B bc] 31 :=
  ⟨((Only.refl (fun _ => False) w).alloc _).trans k2 (fun _ _ f => f), k2.blk (Blk.new w [.int .i64 k, .string ⟨n.toArray⟩, .string ⟨t.toArray⟩, .slice ba B bc] 31) (fun f => f)⟩

theorem fuse_ne (f : Option Nat) (h : f ≠ some 0) : decide (laidI f = 0) = false := by
  cases f with
  | none => rfl
  | some n =>
    have : n ≠ 0 := fun e => h (by rw [e])
    unfold laidI
    simp
    omega

set_option maxRecDepth 100000 in
theorem rdo_own (h : RAt w c O m) (hd : m.dir.length ≤ 10000) (hnd : (m.dir.map (·.2)).Nodup) (k : Int) (n t bs : List UInt8) (ba : Option Addr) (bc : Nat) (hk0 : 0 ≤ k) (hk5 : k ≤ 5) (hB : bs.length ≤ 1000000) (hoff : m.off = false) (hf : m.fuse ≠ some 0) (ho : m.own ⟨k, n, t, bs⟩ ≠ 0) : Calls Try.prog 12 #[.pointer (some ⟨c.d, 0, none⟩), .agg #[.int .i64 k, .string ⟨n.toArray⟩, .string ⟨t.toArray⟩, .slice ba bs.length bc]] w (RPost w c O m ⟨k, n, t, bs⟩) := by
  have H := Hid.mk h
  have k1 : Kept w (w.alloc (.cells #[.int .i64 k, .string ⟨n.toArray⟩, .string ⟨t.toArray⟩, .slice ba bs.length bc] 31)) := (Only.refl (fun _ => False) w).alloc _
  have hown := Hid.mk (rown_any (h.stay k1) hd hnd k n t bs ba bc hk0 hk5 hB)
  have HE := Hid.mk (do_own (m := m) (o := ⟨k, n, t, bs⟩) hk0 hk5 hoff hf ho)
  obtain ⟨B, hBl⟩ : ∃ B, bs.length = B := ⟨_, rfl⟩
  rw [hBl] at hown ⊢
  obtain ⟨r, hr⟩ : ∃ r, m.own ⟨k, n, t, bs⟩ = r := ⟨_, rfl⟩
  rw [hr] at hown HE ho
  have x5 : w.cell? ⟨c.d, 5, none⟩ = some (.bool m.off) := h.cells.cell 5 rfl
  have x6 : w.cell? ⟨c.d, 6, none⟩ = some (.int .i64 (laidI m.fuse)) := h.cells.cell 6 rfl
  rw [hoff] at x5
  have d3 := fuse_ne m.fuse hf
  generalize laidI m.fuse = fz at x6 d3
  have hlt := h.cells.lt
  have d1 : decide (k < 0) = false := by simp; omega
  have d2 : decide (5 < k) = false := by simp; omega
  have d4 : decide ((r : Int) = 0) = false := by simp; omega
  have hfz : ¬ fz = 0 := of_decide_eq_false d3
  clear h k1 hr hBl
  go_enter Try.func12, Try.ntmps12
  go_wp2_with fail
  refine hown.out.mono ?_
  rintro e w2 ⟨rfl, k2⟩
  have HK := Hid.mk (own_behind H.out k2).1
  clear k2 hown
  go_wp2_with fail
  go_ret
  exact rpost_same H.out HK.out HE.out
end
end Go.Proofs.Ytfmdnaagdhpcpaa

/-
  The document's own disk: Do, a fault; the counts.
-/
namespace Go.Proofs.Ytfmdnaagdhpcpaa
open Go.RowKit Go.Proofs.Lys Go.Maps Go.Shelf
set_option linter.unusedVariables false

section
variable {w : World} {c : RConc} {O : Nat → Prop} {m : DModel}

set_option maxRecDepth 100000 in
theorem rdo_fault (h : RAt w c O m) (hd : m.dir.length ≤ 10000) (hnd : (m.dir.map (·.2)).Nodup) (k : Int) (n t bs : List UInt8) (ba : Option Addr) (bc : Nat) (hk0 : 0 ≤ k) (hk5 : k ≤ 5) (hB : bs.length ≤ 1000000) (hoff : m.off = false) (hf : m.fuse ≠ some 0) (ho : m.own ⟨k, n, t, bs⟩ = 0) (hfa : m.fault = some 0) : Calls Try.prog 12 #[.pointer (some ⟨c.d, 0, none⟩), .agg #[.int .i64 k, .string ⟨n.toArray⟩, .string ⟨t.toArray⟩, .slice ba bs.length bc]] w (RPost w c O m ⟨k, n, t, bs⟩) := by
  have H := Hid.mk h
  have k1 : Kept w (w.alloc (.cells #[.int .i64 k, .string ⟨n.toArray⟩, .string ⟨t.toArray⟩, .slice ba bs.length bc] 31)) := (Only.refl (fun _ => False) w).alloc _
  have hown := Hid.mk (rown_any (h.stay k1) hd hnd k n t bs ba bc hk0 hk5 hB)
  have HE := Hid.mk (do_fault (m := m) (o := ⟨k, n, t, bs⟩) hk0 hk5 hoff hf ho hfa)
  obtain ⟨B, hBl⟩ : ∃ B, bs.length = B := ⟨_, rfl⟩
  rw [hBl, ho] at hown
  rw [hBl]
  have x5 : w.cell? ⟨c.d, 5, none⟩ = some (.bool m.off) := h.cells.cell 5 rfl
  have x6 : w.cell? ⟨c.d, 6, none⟩ = some (.int .i64 (laidI m.fuse)) := h.cells.cell 6 rfl
  rw [hoff] at x5
  have d3 := fuse_ne m.fuse hf
  generalize laidI m.fuse = fz at x6 d3
  have hlt := h.cells.lt
  have d1 : decide (k < 0) = false := by simp; omega
  have d2 : decide (5 < k) = false := by simp; omega
  have hfz : ¬ fz = 0 := of_decide_eq_false d3
  clear h k1 hBl
  go_enter Try.func12, Try.ntmps12
  go_wp2_with fail
  refine hown.out.mono ?_
  rintro e w2 ⟨rfl, k2⟩
  have HK := Hid.mk (own_behind H.out k2).1
  have h2 := H.out.stay HK.out
  have x7 : w2.cell? ⟨c.d, 7, none⟩ = some (.int .i64 (laidI m.fault)) := h2.cells.cell 7 rfl
  have f7 : w2.frozen? ⟨c.d, 7, none⟩ = false := h2.cells.frozen 7
  rw [hfa] at x7
  unfold laidI at x7
  have HP := Hid.mk (rpost_scal (m' := { m with fault := none }) H.out HK.out ((Only.refl (fun x => x = c.d) w2).setCell (p := ⟨c.d, 7, none⟩) (fun _ => rfl) (.int .i64 (-1))) (h2.cells.set 7 (.int .i64 (-1))) rfl rfl rfl rfl rfl HE.out)
  clear k2 hown h2 x5 x6
  go_wp2_with fail
  go_ret
  exact HP.out

theorem done_count (m : DModel) (o : DOp) : (m.count).done o = (m.done o).count := by
  unfold DModel.done
  split
  · rfl
  · split
    · rfl
    · split
      · rfl
      · split
        · rfl
        · split
          · rfl
          · rfl

/-- A world where the step was counted. -/
structure Mid (w : World) (c : RConc) (O : Nat → Prop) (m : DModel) (vs : List Value) (w3 : World) : Prop where
  at3 : RAt w3 c O m.count
  only : Only O w w3
  big : w.heap.size < w3.heap.size
  op : Blk w3 w.heap.size vs 31

theorem mid_core {w2 w3 : World} {vs : List Value} (h : RAt w c O m) (k1 : Kept w w2) (hop : Blk w2 w.heap.size vs 31) (k2 : Only (· = c.d) w2 w3) (hc : Blk w3 c.d (RCells c m.count) 63) : Mid w c O m vs w3 := by
  have hne : w.heap.size ≠ c.d := fun e => by have := h.cells.lt; omega
  exact ⟨(h.stay k1).scal k2 hc rfl rfl rfl rfl h.quota, (k1.mono (fun _ _ f => f.elim)).trans k2 (fun j _ e => e ▸ h.oD), Nat.lt_of_lt_of_le hop.lt k2.size, k2.blk hop hne⟩
/-- The four ways of the counts. -/
theorem mid_nn {w2 : World} {vs : List Value} (h : RAt w c O m) (k1 : Kept w w2) (hop : Blk w2 w.heap.size vs 31) (e1 : m.fault = none) (e2 : m.fuse = none) : Mid w c O m vs (w2.setCell ⟨c.d, 8, none⟩ (.int .i64 ((m.steps : Int) + 1))) := by
  refine mid_core h k1 hop ((Only.refl (fun x => x = c.d) w2).setCell (fun _ => rfl) _) ?_
  have := (h.stay k1).cells.set 8 (.int .i64 ((m.steps : Int) + 1))
  unfold RCells DModel.count at *
  simp only [e1, e2] at this ⊢
  exact this
theorem mid_sn {w2 : World} {vs : List Value} {a : Nat} (h : RAt w c O m) (k1 : Kept w w2) (hop : Blk w2 w.heap.size vs 31) (e1 : m.fault = some (a + 1)) (e2 : m.fuse = none) : Mid w c O m vs ((w2.setCell ⟨c.d, 7, none⟩ (.int .i64 (a : Int))).setCell ⟨c.d, 8, none⟩ (.int .i64 ((m.steps : Int) + 1))) := by
  refine mid_core h k1 hop (((Only.refl (fun x => x = c.d) w2).setCell (fun _ => rfl) _).setCell (fun _ => rfl) _) ?_
  have := ((h.stay k1).cells.set 7 (.int .i64 (a : Int))).set 8 (.int .i64 ((m.steps : Int) + 1))
  unfold RCells DModel.count at *
  simp only [e1, e2] at this ⊢
  exact this
theorem mid_ns {w2 : World} {vs : List Value} {b : Nat} (h : RAt w c O m) (k1 : Kept w w2) (hop : Blk w2 w.heap.size vs 31) (e1 : m.fault = none) (e2 : m.fuse = some (b + 1)) : Mid w c O m vs ((w2.setCell ⟨c.d, 6, none⟩ (.int .i64 (b : Int))).setCell ⟨c.d, 8, none⟩ (.int .i64 ((m.steps : Int) + 1))) := by
  refine mid_core h k1 hop (((Only.refl (fun x => x = c.d) w2).setCell (fun _ => rfl) _).setCell (fun _ => rfl) _) ?_
  have := ((h.stay k1).cells.set 6 (.int .i64 (b : Int))).set 8 (.int .i64 ((m.steps : Int) + 1))
  unfold RCells DModel.count at *
  simp only [e1, e2] at this ⊢
  exact this
theorem mid_ss {w2 : World} {vs : List Value} {a b : Nat} (h : RAt w c O m) (k1 : Kept w w2) (hop : Blk w2 w.heap.size vs 31) (e1 : m.fault = some (a + 1)) (e2 : m.fuse = some (b + 1)) : Mid w c O m vs (((w2.setCell ⟨c.d, 7, none⟩ (.int .i64 (a : Int))).setCell ⟨c.d, 6, none⟩ (.int .i64 (b : Int))).setCell ⟨c.d, 8, none⟩ (.int .i64 ((m.steps : Int) + 1))) := by
  refine mid_core h k1 hop ((((Only.refl (fun x => x = c.d) w2).setCell (fun _ => rfl) _).setCell (fun _ => rfl) _).setCell (fun _ => rfl) _) ?_
  have := (((h.stay k1).cells.set 7 (.int .i64 (a : Int))).set 6 (.int .i64 (b : Int))).set 8 (.int .i64 ((m.steps : Int) + 1))
  unfold RCells DModel.count at *
  simp only [e1, e2] at this ⊢
  exact this
end
end Go.Proofs.Ytfmdnaagdhpcpaa

/-
  The document's own disk: a file turns.
-/
namespace Go.Proofs.Ytfmdnaagdhpcpaa
open Go.RowKit Go.Proofs.Lys Go.Maps Go.Shelf
set_option linter.unusedVariables false

theorem filL_set (l : List (Value × DFile)) (i : Nat) (v : Value) (x : DFile) (h : i < l.length) : filL (l.set i (v, x)) = ((filL l).set (i * 2) v).set (i * 2 + 1) (.int .i64 (x.sure : Int)) := by
  induction l generalizing i with
  | nil => simp at h
  | cons p r ih =>
    cases i with
    | zero => rfl
    | succ i =>
      have := ih i (by simpa using h)
      rw [List.set_cons_succ, filL, this, show (i + 1) * 2 = i * 2 + 2 by omega, show i * 2 + 2 + 1 = i * 2 + 1 + 2 by omega]
      rfl

section
variable {w w' : World} {c : RConc} {O O' : Nat → Prop} {m : DModel}
theorem RAt.setFile (h : RAt w c O m) {f : Nat} {v' : Value} {x : DFile} (hf : f < c.fs.length) (hk : Only (fun k => c.fv.ownBlock = some k) w w') (hfil : w'.ownsRow 0 70 2 c.fv c.fs.length (filL (c.fs.set f (v', x))))
    (hb : w'.ownsRow 0 5 1 v' x.b.length (x.b.map bV)) (hx : x.b.length ≤ 16777216 ∧ x.sure ≤ x.b.length) (hO : ∀ k, O k → O' k) (hvO : ∀ k, v'.ownBlock = some k → O' k) (ht : ∀ k, O' k → k < w'.heap.size) :
    RAt w' { c with fs := c.fs.set f (v', x) } O' { m with files := m.files.set f x } := by
  have hlen : (c.fs.set f (v', x)).length = c.fs.length := List.length_set
  have hmem : ∀ p ∈ c.fs.set f (v', x), p = (v', x) ∨ p ∈ c.fs := fun p hp => (List.mem_or_eq_of_mem_set hp).symm.imp id id
  refine { cells := hk.blk h.cells ?_, files := ?_, fsm := ?_, bytes := fun p hp => ?_, lens := fun p hp => ?_, dir := ownN_only h.dir hk ?_, sure := ownN_only h.sure hk ?_, acts := ownN_only h.acts hk ?_, acm := h.acm, quota := h.quota, dirF := fun p hp => ?_, oD := hO _ h.oD, oF := fun k e => hO k (h.oF k e), oB := fun p hp k e => ?_, oDir := fun k e => hO k (h.oDir k e), oSure := fun k e => hO k (h.oSure k e), oAct := fun k e => hO k (h.oAct k e), top := ht }
  · intro e
    exact (ownN_typed h.files e).ne h.cells.typed (by decide) rfl
  · show World.ownsRow _ _ _ _ _ (c.fs.set f (v', x)).length _
    rw [hlen]
    exact hfil
  · show (c.fs.set f (v', x)).map (·.2) = m.files.set f x
    rw [List.map_set, h.fsm]
  · rcases hmem p hp with rfl | hp
    · exact hb
    · exact ownN_only (h.bytes p hp) hk (fun b e e2 => (ownN_typed (h.bytes p hp) e).ne (ownN_typed h.files e2) (by decide) rfl)
  · rcases hmem p hp with rfl | hp
    · exact hx
    · exact h.lens p hp
  · intro b e e2
    exact (ownN_typed h.dir e).ne (ownN_typed h.files e2) (by decide) rfl
  · intro b e e2
    exact (ownN_typed h.sure e).ne (ownN_typed h.files e2) (by decide) rfl
  · intro b e e2
    exact (ownN_typed h.acts e).ne (ownN_typed h.files e2) (by decide) rfl
  · show p.2 < (m.files.set f x).length
    rw [List.length_set]
    exact h.dirF p hp
  · rcases hmem p hp with rfl | hp
    · exact hvO k e
    · exact hO k (h.oB p hp k e)

/-- A sync. -/
theorem mid_sure {w3 : World} {vs : List Value} {n t bs : List UInt8} {F L fg fcap j : Nat} (M : Mid w c O m vs w3) (h : RAt w c O m) (hF : F < m.count.files.length) (hlk : DD.look m.count.dir n = some F) (hfv : c.fv = .slice (some ⟨fg, 0, none⟩) c.fs.length fcap) (hL : (m.count.fileAt F).b.length = L) (hE : m.doOp ⟨2, n, t, bs⟩ = (0, m.count.done ⟨2, n, t, bs⟩)) :
    RPost w c O m ⟨2, n, t, bs⟩ (.returned (.int .i64 ((0 : Nat) : Int))) ((w3.drewN j).setCell ⟨fg, F * 2 + 1, none⟩ (.int .i64 (L : Int))) := by
  have h3 := M.at3.stay (Kept.drewN' (Only.refl _ w3) j)
  have hfn : F < c.fs.length := by rw [h3.nf]; exact hF
  have k4 : Only (fun k => c.fv.ownBlock = some k) (w3.drewN j) ((w3.drewN j).setCell ⟨fg, F * 2 + 1, none⟩ (.int .i64 (L : Int))) := (Only.refl (fun k => c.fv.ownBlock = some k) _).setCell (fun _ => by rw [hfv]; rfl) _
  have kt : Only O w ((w3.drewN j).setCell ⟨fg, F * 2 + 1, none⟩ (.int .i64 (L : Int))) := (M.only.trans (Kept.drewN' (Only.refl (fun _ => False) w3) j) (fun _ _ f => f.elim)).trans k4 (fun i _ e => h.oF i e)
  have hb := h3.bytes c.fs[F] (List.getElem_mem hfn)
  have hfa : m.count.fileAt F = c.fs[F].2 := h3.fileAt F hfn
  rw [hfa] at hL
  unfold RPost
  rw [hE]
  refine ⟨rfl, kt, { c with fs := c.fs.set F (c.fs[F].1, ⟨c.fs[F].2.b, L⟩) }, rfl, ?_⟩
  have hdone : m.count.done ⟨2, n, t, bs⟩ = { m.count with files := m.count.files.set F ⟨c.fs[F].2.b, L⟩ } := by
    show ({ m.count with files := m.count.files.set ((DD.look m.count.dir n).getD 0) ⟨(m.count.fileAt ((DD.look m.count.dir n).getD 0)).b, (m.count.fileAt ((DD.look m.count.dir n).getD 0)).b.length⟩ } : DModel) = _
    rw [hlk]
    show ({ m.count with files := m.count.files.set F ⟨(m.count.fileAt F).b, (m.count.fileAt F).b.length⟩ } : DModel) = _
    rw [hfa, hL]
  show RAt _ _ _ (m.count.done ⟨2, n, t, bs⟩)
  rw [hdone]
  refine h3.setFile hfn k4 ?_ (ownN_only hb k4 (fun b e e2 => (ownN_typed hb e).ne (ownN_typed h3.files e2) (by decide) rfl)) ⟨(h3.lens _ (List.getElem_mem hfn)).1, by rw [← hL]; exact Nat.le_refl _⟩ (fun k hk => .inl hk) (fun k e => .inl (h3.oB _ (List.getElem_mem hfn) k e)) (fun k hk => ?_)
  · have hf2 := h3.files
    rw [hfv] at hf2
    have := (hf2.stored (F * 2 + 1) (.int .i64 (L : Int))).1
    rw [filL_set _ _ _ _ hfn, hfv]
    have e : (filL c.fs).set (F * 2) c.fs[F].1 = filL c.fs := by
      apply List.ext_getElem?
      intro i
      rw [List.getElem?_set]
      split
      · rename_i e
        subst e
        rw [(filL_at c.fs F hfn).1]
        split
        · rfl
        · rename_i hh
          exact absurd (by rw [filL_len]; omega) hh
      · rfl
    rw [e]
    exact this
  · rcases hk with hk | hk
    · exact Nat.lt_of_lt_of_le (h.top k hk) kt.size
    · exact hk.2
end
end Go.Proofs.Ytfmdnaagdhpcpaa

/-
  The document's own disk: rows turn, then its cells.
-/
namespace Go.Proofs.Ytfmdnaagdhpcpaa
open Go.RowKit Go.Proofs.Lys Go.Maps Go.Shelf
set_option linter.unusedVariables false

/-- All rows are there, then the disk's own cells are stored. -/
theorem rat_close {w4 w5 : World} {c : RConc} {O : Nat → Prop} {m : DModel} (files : w4.ownsRow 0 70 2 c.fv c.fs.length (filL c.fs)) (fsm : c.fs.map (·.2) = m.files) (bytes : ∀ p ∈ c.fs, w4.ownsRow 0 5 1 p.1 p.2.b.length (p.2.b.map bV)) (lens : ∀ p ∈ c.fs, p.2.b.length ≤ 16777216 ∧ p.2.sure ≤ p.2.b.length)
    (dir : EntAt w4 0 c.dv m.dir) (sure : EntAt w4 0 c.sv m.sure) (acts : w4.ownsRow 0 73 4 c.av c.ac.length (actL c.ac)) (acm : c.ac.map plainAct = m.acts) (quota : m.quota ≤ 67108864) (dirF : ∀ p ∈ m.dir, p.2 < m.files.length)
    (hD : Typed w4 c.d 63) (k5 : Only (· = c.d) w4 w5) (cells : Blk w5 c.d (RCells c m) 63)
    (oD : O c.d) (oF : ∀ k, c.fv.ownBlock = some k → O k) (oB : ∀ p ∈ c.fs, ∀ k, p.1.ownBlock = some k → O k) (oDir : ∀ k, c.dv.ownBlock = some k → O k) (oSure : ∀ k, c.sv.ownBlock = some k → O k) (oAct : ∀ k, c.av.ownBlock = some k → O k) (top : ∀ k, O k → k < w5.heap.size) : RAt w5 c O m :=
  { cells := cells
    files := ownN_only files k5 (fun b hb e => (ownN_typed files hb).ne hD (by decide) e)
    fsm := fsm
    bytes := fun p hp => ownN_only (bytes p hp) k5 (fun b hb e => (ownN_typed (bytes p hp) hb).ne hD (by decide) e)
    lens := lens
    dir := ownN_only dir k5 (fun b hb e => (ownN_typed dir hb).ne hD (by decide) e)
    sure := ownN_only sure k5 (fun b hb e => (ownN_typed sure hb).ne hD (by decide) e)
    acts := ownN_only acts k5 (fun b hb e => (ownN_typed acts hb).ne hD (by decide) e)
    acm := acm, quota := quota, dirF := dirF, oD := oD, oF := oF, oB := oB, oDir := oDir, oSure := oSure, oAct := oAct, top := top }

/-- A copy of entries. -/
theorem ent_copy {w : World} {xv : Value} {q : DDir} (hsrc : EntSrc w xv q) (hl : q.length ≤ 100000) :
    ∃ a cap w', Hid ((Builtin.append_ #[60, 60] 0 #[.slice none 0 0, xv]).run Try.prog w = .ok (.slice a q.length cap) w') ∧ EntAt w' w.heap.size (.slice a q.length cap) q ∧ Kept w w' := by
  obtain ⟨v', w', hr, h1, h2, h3⟩ := ent_append (w := w) (B := w.heap.size) (v := .slice none 0 0) (l := []) ⟨rfl, .inl ⟨rfl, rfl⟩⟩ hsrc (by simp; omega) (Nat.le_refl _)
  rw [List.nil_append] at h1
  obtain ⟨a, cap, rfl⟩ := ownN_slice h1
  exact ⟨a, cap, w', hr, h1, (Only.refl _ w).grown h2 (fun j hj => by cases hj)⟩

section
variable {w : World} {c : RConc} {O : Nat → Prop} {m : DModel}
/-- The directory is made sure. -/
theorem mid_dir {w3 w4 : World} {vs : List Value} {n t bs : List UInt8} {sv : Value} (M : Mid w c O m vs w3) (h : RAt w c O m) (k4 : Kept w3 w4) (hs : EntAt w4 w3.heap.size sv m.count.dir) (hE : m.doOp ⟨5, n, t, bs⟩ = (0, m.count.done ⟨5, n, t, bs⟩)) :
    RPost w c O m ⟨5, n, t, bs⟩ (.returned (.int .i64 ((0 : Nat) : Int))) ((w4.setCell ⟨c.d, 2, none⟩ sv).setCell ⟨c.d, 3, none⟩ (.slice none 0 0)) := by
  have h4 := M.at3.stay k4
  have k5 : Only (· = c.d) w4 ((w4.setCell ⟨c.d, 2, none⟩ sv).setCell ⟨c.d, 3, none⟩ (.slice none 0 0)) := ((Only.refl (fun x => x = c.d) w4).setCell (fun _ => rfl) _).setCell (fun _ => rfl) _
  have kt : Only O w ((w4.setCell ⟨c.d, 2, none⟩ sv).setCell ⟨c.d, 3, none⟩ (.slice none 0 0)) := (M.only.trans k4 (fun _ _ f => f.elim)).trans k5 (fun j _ e => e ▸ h.oD)
  have hgr : ∀ k, w3.heap.size ≤ k → k < w4.heap.size → Grow O w ((w4.setCell ⟨c.d, 2, none⟩ sv).setCell ⟨c.d, 3, none⟩ (.slice none 0 0)) k := fun k h1 h2 => .inr ⟨Nat.le_trans (Nat.le_of_lt M.big) h1, Nat.lt_of_lt_of_le h2 k5.size⟩
  unfold RPost
  rw [hE]
  refine ⟨rfl, kt, { c with sv := sv, av := .slice none 0 0, ac := [] }, rfl, ?_⟩
  show RAt _ _ _ ({ m.count with sure := m.count.dir, acts := [] } : DModel)
  refine rat_close h4.files h4.fsm h4.bytes h4.lens h4.dir (ownN_base hs (Nat.zero_le _)) ⟨rfl, .inl ⟨rfl, rfl⟩⟩ rfl h4.quota h4.dirF h4.cells.typed k5 ?_ (.inl h.oD) (fun k e => .inl (h4.oF k e)) (fun p hp k e => .inl (h4.oB p hp k e)) (fun k e => .inl (h4.oDir k e)) (fun k e => ?_) (fun k e => by cases e) (fun k hk => ?_)
  · exact (h4.cells.set 2 sv).set 3 (.slice none 0 0)
  · have := ownN_lt hs e
    exact hgr k this.1 this.2
  · rcases hk with hk | hk
    · exact Nat.lt_of_lt_of_le (h.top k hk) kt.size
    · exact hk.2
end
end Go.Proofs.Ytfmdnaagdhpcpaa

/-
  The document's own disk: an act more, another directory.
-/
namespace Go.Proofs.Ytfmdnaagdhpcpaa
open Go.RowKit Go.Proofs.Lys Go.Maps Go.Shelf
set_option linter.unusedVariables false

theorem Try.infoA : (Try.prog.info? 73).map (fun i => (i.zero, i.size, i.bytes)) = some (some (.agg #[.int .i64 0, .string ⟨#[]⟩, .string ⟨#[]⟩, .int .i64 0]), 4, 48) := by kernel_rfl

def actC (a : DAct) : List Value := [.int .i64 (a.kind : Int), .string ⟨a.name.toArray⟩, .string ⟨a.to.toArray⟩, .int .i64 (a.file : Int)]
theorem actL_one (a : DAct) : actL [a] = actC a := rfl

section
variable {w : World} {c : RConc} {O : Nat → Prop} {m : DModel}
/-- The row of acts grows by one. -/
theorem act_step (h : RAt w c O m) (a : DAct) (hl : c.ac.length ≤ 100000) :
    ∃ g cap w4, Hid ((Builtin.append_ #[61, 61] 0 #[c.av, .slice (some ⟨w.heap.size, 0, none⟩) 1 1]).run Try.prog (w.alloc (.cells #[.int .i64 (a.kind : Int), .string ⟨a.name.toArray⟩, .string ⟨a.to.toArray⟩, .int .i64 (a.file : Int)] 73)).drew = .ok (.slice (some ⟨g, 0, none⟩) (c.ac.length + 1) cap) w4) ∧
      w4.ownsRow 0 73 4 (.slice (some ⟨g, 0, none⟩) (c.ac.length + 1) cap) (c.ac.length + 1) (actL (c.ac ++ [a])) ∧ Only (fun k => c.av.ownBlock = some k) w w4 ∧ (c.av.ownBlock = some g ∨ w.heap.size ≤ g) ∧ g < w4.heap.size := by
  obtain ⟨i0, hi0, hz0, hz1, hz2⟩ := info_parts Try.infoA
  have k1 : Kept w (w.alloc (.cells #[.int .i64 (a.kind : Int), .string ⟨a.name.toArray⟩, .string ⟨a.to.toArray⟩, .int .i64 (a.file : Int)] 73)).drew := ((Only.refl _ w).alloc _).drew
  have hb := (Blk.new w (actC a) 73).drew
  have hm : c.ac.length + 1 ≤ maxLen := by unfold maxLen; omega
  obtain ⟨v', w', hr, h2, h3, _, h5⟩ := run_append_own_at (P := Try.prog) _ 0 61 0 _ i0 _ 4 48 Try.underlying61 hi0 hz0 hz1 hz2 rfl (by decide) c.av c.ac.length (actL c.ac) (ownN_stay h.acts k1) ⟨w.heap.size, 0, none⟩ 1 1 (actC a) rfl
    (fun j u hu => by rw [add_none, Nat.zero_add]; exact hb.cell j hu) (by intro u hu; simp [actC] at hu; rcases hu with rfl | rfl | rfl | rfl <;> rfl) hm (by omega) (Nat.zero_le _)
  obtain ⟨g, cap, rfl⟩ := ownN_some h2 (by omega)
  refine ⟨g, cap, w', hr, ?_, ?_, ?_, (ownN_lt h2 rfl).2⟩
  · rw [actL_app, actL_one]
    exact h2
  · exact (k1.mono (fun _ _ f => f.elim)).grown h3 (fun j hj _ => hj)
  · rcases h5 with e | e
    · exact .inl e.symm
    · right
      have : g = (w.alloc (.cells #[.int .i64 (a.kind : Int), .string ⟨a.name.toArray⟩, .string ⟨a.to.toArray⟩, .int .i64 (a.file : Int)] 73)).drew.heap.size := by simpa [Value.ownBlock] using e
      rw [this]
      exact k1.size

/-- .. and the disk has it. -/
theorem RAt.addAct {w4 : World} {g cap : Nat} (h : RAt w c O m) (a : DAct) (hrow : w4.ownsRow 0 73 4 (.slice (some ⟨g, 0, none⟩) (c.ac.length + 1) cap) (c.ac.length + 1) (actL (c.ac ++ [a]))) (k4 : Only (fun k => c.av.ownBlock = some k) w w4) (hg : c.av.ownBlock = some g ∨ w.heap.size ≤ g) (hgl : g < w4.heap.size) :
    RAt (w4.setCell ⟨c.d, 3, none⟩ (.slice (some ⟨g, 0, none⟩) (c.ac.length + 1) cap)) { c with av := .slice (some ⟨g, 0, none⟩) (c.ac.length + 1) cap, ac := c.ac ++ [a] } (Grow O w (w4.setCell ⟨c.d, 3, none⟩ (.slice (some ⟨g, 0, none⟩) (c.ac.length + 1) cap))) { m with acts := m.acts ++ [plainAct a] } ∧ Only O w (w4.setCell ⟨c.d, 3, none⟩ (.slice (some ⟨g, 0, none⟩) (c.ac.length + 1) cap)) := by
  have k5 : Only (· = c.d) w4 (w4.setCell ⟨c.d, 3, none⟩ (.slice (some ⟨g, 0, none⟩) (c.ac.length + 1) cap)) := (Only.refl (fun x => x = c.d) w4).setCell (fun _ => rfl) _
  have ha := h.acts
  have ne : ∀ {e : TypeId} {k : Nat}, Typed w k e → e ≠ 73 → ¬ c.av.ownBlock = some k := fun ht hne e => ht.ne (ownN_typed ha e) hne rfl
  have hcell := k4.blk h.cells (ne h.cells.typed (by decide))
  have hln : (c.ac ++ [a]).length = c.ac.length + 1 := by simp
  have kt : Only O w (w4.setCell ⟨c.d, 3, none⟩ (.slice (some ⟨g, 0, none⟩) (c.ac.length + 1) cap)) := (k4.mono (fun k _ e => h.oAct k e)).trans k5 (fun j _ e => e ▸ h.oD)
  refine ⟨rat_close (w4 := w4) (ownN_only h.files k4 (fun b e => ne (ownN_typed h.files e) (by decide))) h.fsm (fun p hp => ownN_only (h.bytes p hp) k4 (fun b e => ne (ownN_typed (h.bytes p hp) e) (by decide))) h.lens (ownN_only h.dir k4 (fun b e => ne (ownN_typed h.dir e) (by decide))) (ownN_only h.sure k4 (fun b e => ne (ownN_typed h.sure e) (by decide))) ?_ ?_ h.quota h.dirF hcell.typed k5 (hcell.set 3 _) (.inl h.oD) (fun k e => .inl (h.oF k e)) (fun p hp k e => .inl (h.oB p hp k e)) (fun k e => .inl (h.oDir k e)) (fun k e => .inl (h.oSure k e)) (fun k e => ?_) (fun k hk => ?_), kt⟩
  · show World.ownsRow _ _ _ _ _ (c.ac ++ [a]).length _
    rw [hln]
    exact hrow
  · show (c.ac ++ [a]).map plainAct = m.acts ++ [plainAct a]
    rw [List.map_append, h.acm]
    rfl
  · have : g = k := by simpa [Value.ownBlock] using e
    subst this
    rcases hg with e2 | e2
    · exact .inl (h.oAct _ e2)
    · exact .inr ⟨e2, Nat.lt_of_lt_of_le hgl k5.size⟩
  · rcases hk with hk | hk
    · exact Nat.lt_of_lt_of_le (h.top k hk) kt.size
    · exact hk.2

/-- Another directory. -/
theorem RAt.newDir {w6 : World} {v : Value} {d : DDir} (h : RAt w c O m) (k : Kept w w6) (hv : EntAt w6 w.heap.size v d) (hF : ∀ p ∈ d, p.2 < m.files.length) :
    RAt (w6.setCell ⟨c.d, 1, none⟩ v) { c with dv := v } (Grow O w (w6.setCell ⟨c.d, 1, none⟩ v)) { m with dir := d } ∧ Only O w (w6.setCell ⟨c.d, 1, none⟩ v) := by
  have k5 : Only (· = c.d) w6 (w6.setCell ⟨c.d, 1, none⟩ v) := (Only.refl (fun x => x = c.d) w6).setCell (fun _ => rfl) _
  have h6 := h.stay k
  have kt : Only O w (w6.setCell ⟨c.d, 1, none⟩ v) := (k.mono (fun _ _ f => f.elim)).trans k5 (fun j _ e => e ▸ h.oD)
  refine ⟨rat_close (w4 := w6) h6.files h6.fsm h6.bytes h6.lens (ownN_base hv (Nat.zero_le _)) h6.sure h6.acts h6.acm h6.quota hF h6.cells.typed k5 (h6.cells.set 1 v) (.inl h.oD) (fun k e => .inl (h.oF k e)) (fun p hp k e => .inl (h.oB p hp k e)) (fun j e => ?_) (fun k e => .inl (h.oSure k e)) (fun k e => .inl (h.oAct k e)) (fun j hj => ?_), kt⟩
  · have := ownN_lt hv e
    exact .inr ⟨this.1, Nat.lt_of_lt_of_le this.2 k5.size⟩
  · rcases hj with hj | hj
    · exact Nat.lt_of_lt_of_le (h.top j hj) kt.size
    · exact hj.2
end
end Go.Proofs.Ytfmdnaagdhpcpaa

/-
  The document's own disk: what a step that is done has come to, piece by piece.
-/
namespace Go.Proofs.Ytfmdnaagdhpcpaa
open Go.RowKit Go.Proofs.Lys Go.Maps Go.Shelf
set_option linter.unusedVariables false

theorem wp_append_run {P : Program} {o : Oper} {a : Act} {w : World} {K : Act → World → Prop} {Q : Exit → Act → World → Prop} (s x : Operand) (t : TypeId) (ho : o.op = .call { callee := .builtin .append, args := #[s, x], argTypes := #[t, t] }) (sv xv : Value) (hs : a.eval s = sv) (hx : a.eval x = xv) {v : Value} {w' : World}
    (hrun : Hid ((Builtin.append_ #[t, t] 0 #[sv, xv]).run P w = .ok v w')) (h : K (a.put o.dst v) w') : o.wp P a w K Q := by
  have hr : (Builtin.append_ #[t, t] o.type #[sv, xv]).run P w = .ok v w' := hrun.out
  unfold Oper.wp
  simp [execOp, ho, resolve, invoke, builtin, hs, hx, hr, Result.andThen]
  exact h

/-- The disk within a step: its rows, what has turned, the step's own words. -/
structure Now (w : World) (c : RConc) (O : Nat → Prop) (vs : List Value) (w5 : World) (c5 : RConc) (m5 : DModel) : Prop where
  at5 : RAt w5 c5 (Grow O w w5) m5
  d : c5.d = c.d
  only : Only O w w5
  big : w.heap.size < w5.heap.size
  op : Blk w5 w.heap.size vs 31
  top : ∀ k, O k → k < w.heap.size

section
variable {w w5 w6 : World} {c c5 c6 : RConc} {O : Nat → Prop} {m m5 m6 : DModel} {vs : List Value}
theorem Now.start (h : RAt w c O m) (M : Mid w c O m vs w5) : Now w c O vs w5 c m.count :=
  ⟨M.at3.mono (fun k h => .inl h) (fun k hk => hk.elim (M.at3.top k) (·.2)), rfl, M.only, M.big, M.op, h.top⟩
theorem Now.stay (N : Now w c O vs w5 c5 m5) (k : Kept w5 w6) : Now w c O vs w6 c5 m5 :=
  ⟨(N.at5.stay k).mono (fun j hj => hj.elim .inl (fun h => .inr ⟨h.1, Nat.lt_of_lt_of_le h.2 k.size⟩)) (fun j hj => hj.elim (fun h => Nat.lt_of_lt_of_le (Nat.lt_trans (N.top j h) N.big) k.size) (·.2)), N.d, N.only.trans k (fun _ _ f => f.elim), Nat.lt_of_lt_of_le N.big k.size, k.blk N.op (fun f => f), N.top⟩
theorem Now.step (N : Now w c O vs w5 c5 m5) (h6 : RAt w6 c6 (Grow (Grow O w w5) w5 w6) m6) (hd : c6.d = c5.d) (k6 : Only (Grow O w w5) w5 w6) (hop : Blk w6 w.heap.size vs 31) : Now w c O vs w6 c6 m6 := by
  have hb := N.big
  have hs := k6.size
  refine ⟨h6.mono (fun j hj => ?_) (fun j hj => ?_), hd.trans N.d, N.only.trans k6 (fun j hj e => ?_), by omega, hop, N.top⟩
  · rcases hj with (hj | hj) | hj
    · exact .inl hj
    · exact .inr ⟨hj.1, by omega⟩
    · exact .inr ⟨by omega, hj.2⟩
  · rcases hj with hj | hj
    · have := N.top j hj
      omega
    · exact hj.2
  · rcases e with e | e
    · exact e
    · omega
theorem Now.post (N : Now w c O vs w5 c5 m5) {o : DOp} (hE : m.doOp o = (0, m.count.done o)) (hm : m5 = m.count.done o) : RPost w c O m o (.returned (.int .i64 ((0 : Nat) : Int))) w5 := by
  unfold RPost
  rw [hE]
  subst hm
  exact ⟨rfl, N.only, c5, N.d, N.at5⟩

/-- An act more. -/
theorem Now.act (N : Now w c O vs w5 c5 m5) (a : DAct) (hl : c5.ac.length ≤ 100000) :
    ∃ g gcap w6, Hid ((Builtin.append_ #[61, 61] 0 #[c5.av, .slice (some ⟨w5.heap.size, 0, none⟩) 1 1]).run Try.prog (w5.drew.alloc (.cells #[.int .i64 (a.kind : Int), .string ⟨a.name.toArray⟩, .string ⟨a.to.toArray⟩, .int .i64 (a.file : Int)] 73)) = .ok (.slice (some ⟨g, 0, none⟩) (c5.ac.length + 1) gcap) w6) ∧
      Hid (Blk w6 c.d (RCells c5 m5) 63) ∧ Hid (Blk w6 w.heap.size vs 31) ∧
      Hid (Now w c O vs (w6.setCell ⟨c.d, 3, none⟩ (.slice (some ⟨g, 0, none⟩) (c5.ac.length + 1) gcap)) { c5 with av := .slice (some ⟨g, 0, none⟩) (c5.ac.length + 1) gcap, ac := c5.ac ++ [a] } { m5 with acts := m5.acts ++ [plainAct a] }) := by
  obtain ⟨g, gcap, w6, Hr, hrow, k6, hg, hgl⟩ := act_step N.at5 a hl
  have hadd := N.at5.addAct a hrow k6 hg hgl
  have ne : ∀ {e : TypeId} {k : Nat}, Typed w5 k e → e ≠ 73 → ¬ c5.av.ownBlock = some k := fun ht hne e => ht.ne (ownN_typed N.at5.acts e) hne rfl
  have hcl := k6.blk N.at5.cells (ne N.at5.cells.typed (by decide))
  have hop := k6.blk N.op (ne N.op.typed (by decide))
  have hd := N.d
  refine ⟨g, gcap, w6, Hr, ?_, ?_, ?_⟩
  · rw [← hd]
    exact hcl
  · exact hop
  · rw [← hd]
    exact N.step hadd.1 rfl hadd.2 (hop.other (hop.ne hcl (by decide)) _)

/-- Another directory. -/
theorem Now.dir (N : Now w c O vs w5 c5 m5) {v : Value} {dn : DDir} (k : Kept w5 w6) (hv : EntAt w6 w5.heap.size v dn) (hF : ∀ p ∈ dn, p.2 < m5.files.length) :
    Blk w6 c.d (RCells c5 m5) 63 ∧ Blk w6 w.heap.size vs 31 ∧ Now w c O vs (w6.setCell ⟨c.d, 1, none⟩ v) { c5 with dv := v } { m5 with dir := dn } := by
  have hnew := N.at5.newDir k hv hF
  have h6 := N.stay k
  have hd := N.d
  rw [← hd]
  exact ⟨h6.at5.cells, h6.op, N.step hnew.1 rfl hnew.2 (h6.op.other (h6.op.ne h6.at5.cells (by decide)) _)⟩

theorem Try.infoF : (Try.prog.info? 70).map (fun i => (i.zero, i.size, i.bytes)) = some (some (.agg #[.slice none 0 0, .int .i64 0]), 2, 32) := by kernel_rfl

/-- A file more. -/
theorem Now.file (N : Now w c O vs w5 c5 m5) (hl : c5.fs.length ≤ 100000) :
    ∃ g gcap w6, Hid ((Builtin.append_ #[59, 59] 0 #[c5.fv, .slice (some ⟨w5.heap.size, 0, none⟩) 1 1]).run Try.prog (w5.alloc (.cells #[.slice none 0 0, .int .i64 0] 70)) = .ok (.slice (some ⟨g, 0, none⟩) (c5.fs.length + 1) gcap) w6) ∧
      (∃ u, w6.cell? ⟨c.d, 0, none⟩ = some u) ∧ w6.frozen? ⟨c.d, 0, none⟩ = false ∧
      Hid (Now w c O vs (w6.setCell ⟨c.d, 0, none⟩ (.slice (some ⟨g, 0, none⟩) (c5.fs.length + 1) gcap)) { c5 with fv := .slice (some ⟨g, 0, none⟩) (c5.fs.length + 1) gcap, fs := c5.fs ++ [(.slice none 0 0, ⟨[], 0⟩)] } { m5 with files := m5.files ++ [⟨[], 0⟩] }) := by
  obtain ⟨i0, hi0, hz0, hz1, hz2⟩ := info_parts Try.infoF
  have h := N.at5
  have k1 : Kept w5 (w5.alloc (.cells #[.slice none 0 0, .int .i64 0] 70)) := (Only.refl _ w5).alloc _
  have hb := Blk.new w5 [.slice none 0 0, .int .i64 0] 70
  have hm : c5.fs.length + 1 ≤ maxLen := by unfold maxLen; omega
  obtain ⟨v', w6, hr, h2, h3, _, h5⟩ := run_append_own_at (P := Try.prog) _ 0 59 0 _ i0 _ 2 32 Try.underlying59 hi0 hz0 hz1 hz2 rfl (by decide) c5.fv c5.fs.length (filL c5.fs) (ownN_stay h.files k1) ⟨w5.heap.size, 0, none⟩ 1 1 [.slice none 0 0, .int .i64 0] rfl
    (fun j u hu => by rw [add_none, Nat.zero_add]; exact hb.cell j hu) (by intro u hu; simp at hu; rcases hu with rfl | rfl <;> rfl) hm (by omega) (Nat.zero_le _)
  obtain ⟨g, cap, rfl⟩ := ownN_some h2 (by omega)
  have k6 : Only (fun k => c5.fv.ownBlock = some k) w5 w6 := (k1.mono (fun _ _ f => f.elim)).grown h3 (fun j hj _ => hj)
  have hgl := (ownN_lt h2 rfl).2
  have hg : c5.fv.ownBlock = some g ∨ w5.heap.size ≤ g := by
    rcases h5 with e | e
    · exact .inl e.symm
    · right
      have : g = (w5.alloc (.cells #[.slice none 0 0, .int .i64 0] 70)).heap.size := by simpa [Value.ownBlock] using e
      rw [this]
      exact k1.size
  have ne : ∀ {e : TypeId} {k : Nat}, Typed w5 k e → e ≠ 70 → ¬ c5.fv.ownBlock = some k := fun ht hne e => ht.ne (ownN_typed h.files e) hne rfl
  have hcl := k6.blk h.cells (ne h.cells.typed (by decide))
  have hop := k6.blk N.op (ne N.op.typed (by decide))
  have hd := N.d
  refine ⟨g, cap, w6, hr, ?_, ?_, ?_⟩
  · rw [← hd]
    exact ⟨_, hcl.cell 0 rfl⟩
  · rw [← hd]
    exact hcl.frozen 0
  · rw [← hd]
    have k7 : Only (· = c5.d) w6 (w6.setCell ⟨c5.d, 0, none⟩ (.slice (some ⟨g, 0, none⟩) (c5.fs.length + 1) cap)) := (Only.refl (fun x => x = c5.d) w6).setCell (fun _ => rfl) _
    have kt : Only (Grow O w w5) w5 (w6.setCell ⟨c5.d, 0, none⟩ (.slice (some ⟨g, 0, none⟩) (c5.fs.length + 1) cap)) := (k6.mono (fun k _ e => h.oF k e)).trans k7 (fun j _ e => e ▸ h.oD)
    have hln : (c5.fs ++ [((.slice none 0 0 : Value), (⟨[], 0⟩ : DFile))]).length = c5.fs.length + 1 := by simp
    have hmem : ∀ p ∈ c5.fs ++ [((.slice none 0 0 : Value), (⟨[], 0⟩ : DFile))], p ∈ c5.fs ∨ p = (.slice none 0 0, ⟨[], 0⟩) := fun p hp => (List.mem_append.1 hp).imp id List.mem_singleton.1
    refine N.step (c6 := { c5 with fv := .slice (some ⟨g, 0, none⟩) (c5.fs.length + 1) cap, fs := c5.fs ++ [(.slice none 0 0, ⟨[], 0⟩)] }) (rat_close (w4 := w6) ?_ ?_ (fun p hp => ?_) (fun p hp => ?_) (ownN_only h.dir k6 (fun b e => ne (ownN_typed h.dir e) (by decide))) (ownN_only h.sure k6 (fun b e => ne (ownN_typed h.sure e) (by decide))) (ownN_only h.acts k6 (fun b e => ne (ownN_typed h.acts e) (by decide))) h.acm h.quota (fun p hp => ?_) hcl.typed k7 (hcl.set 0 _) (.inl h.oD) (fun k e => ?_) (fun p hp k e => ?_) (fun k e => .inl (h.oDir k e)) (fun k e => .inl (h.oSure k e)) (fun k e => .inl (h.oAct k e)) (fun k hk => ?_)) rfl kt (hop.other (hop.ne hcl (by decide)) _)
    · show World.ownsRow _ _ _ _ _ (c5.fs ++ [_]).length _
      rw [hln, filL_app]
      exact h2
    · show (c5.fs ++ [((.slice none 0 0 : Value), (⟨[], 0⟩ : DFile))]).map (fun p => p.2) = m5.files ++ [⟨[], 0⟩]
      rw [List.map_append, h.fsm]
      rfl
    · rcases hmem p hp with hp | rfl
      · exact ownN_only (h.bytes p hp) k6 (fun b e => ne (ownN_typed (h.bytes p hp) e) (by decide))
      · exact ⟨rfl, .inl ⟨rfl, rfl⟩⟩
    · rcases hmem p hp with hp | rfl
      · exact h.lens p hp
      · exact ⟨Nat.zero_le _, Nat.le_refl _⟩
    · have := h.dirF p hp
      show p.2 < (m5.files ++ [_]).length
      rw [List.length_append]
      omega
    · have : g = k := by simpa [Value.ownBlock] using e
      subst this
      rcases hg with e2 | e2
      · exact .inl (h.oF _ e2)
      · exact .inr ⟨e2, Nat.lt_of_lt_of_le hgl k7.size⟩
    · rcases hmem p hp with hp | rfl
      · exact .inl (h.oB p hp k e)
      · cases e
    · rcases hk with hk | hk
      · exact Nat.lt_of_lt_of_le (h.top k hk) kt.size
      · exact hk.2
end
end Go.Proofs.Ytfmdnaagdhpcpaa

/-
  What a directory has behind a put.
-/
namespace Go.Proofs.Ytfmdnaagdhpcpaa
open Go.RowKit Go.Proofs.Lys Go.Maps Go.Shelf
set_option linter.unusedVariables false

theorem ins_mem (x : List UInt8 × Nat) (l : DDir) {p : List UInt8 × Nat} (h : p ∈ DD.ins x l) : p = x ∨ p ∈ l := by
  induction l with
  | nil => simpa [DD.ins] using h
  | cons y r ih =>
    unfold DD.ins at h
    split at h
    · exact List.mem_cons.1 h
    · rcases List.mem_cons.1 h with h | h
      · exact .inr (by rw [h]; exact List.mem_cons_self)
      · exact (ih h).imp id (fun h => List.mem_cons_of_mem _ h)
theorem put_mem {l : DDir} {n : List UInt8} {f : Nat} {p : List UInt8 × Nat} (h : p ∈ DD.put l n f) : p.2 = f ∨ p ∈ l := by
  rcases ins_mem _ _ h with h | h
  · exact .inl (by rw [h])
  · exact .inr (List.mem_filter.1 h).1
end Go.Proofs.Ytfmdnaagdhpcpaa
