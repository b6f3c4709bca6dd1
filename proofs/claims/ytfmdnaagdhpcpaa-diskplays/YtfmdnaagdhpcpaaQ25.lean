/-
  Edone5, Eall, Emod, Ethree, Emod2.
-/
import Derived.Test.YtfmdnaagdhpcpaaQ18
import Derived.Test.YtfmdnaagdhpcpaaQ19
import Derived.Test.YtfmdnaagdhpcpaaQ21
import Derived.Test.YtfmdnaagdhpcpaaQ22
import Derived.Test.YtfmdnaagdhpcpaaQ23
import Derived.Test.YtfmdnaagdhpcpaaQ24
import Derived.Test.YtfmdnaagdhpcpaaQ14

/-
  The document's own disk: Do of kind 5, done.
-/
namespace Go.Proofs.Ytfmdnaagdhpcpaa
open Go.RowKit Go.Proofs.Lys Go.Maps Go.Shelf
set_option linter.unusedVariables false

section
variable {w : World} {c : RConc} {O : Nat → Prop} {m : DModel}

set_option maxRecDepth 100000 in
set_option maxHeartbeats 1600000 in
theorem rdone5 (h : RAt w c O m) (hd : m.dir.length ≤ 10000) (hnd : (m.dir.map (·.2)).Nodup) (n t bs : List UInt8) (ba : Option Addr) (bc : Nat) (hB : bs.length ≤ 1000000) (hsrc : SrcOf w (.slice ba bs.length bc) (bs.map bV)) (hoff : m.off = false) (hf : m.fuse ≠ some 0) (ho : m.own ⟨5, n, t, bs⟩ = 0) (hfa : m.fault ≠ some 0)
    (hst : m.steps ≤ 1000000000) (hac : m.acts.length ≤ 100000) (hfl : m.files.length ≤ 100000) (hfb : ∀ x, m.fuse = some x → x ≤ 9223372036854775807) (hab : ∀ x, m.fault = some x → x ≤ 9223372036854775807) : Calls Try.prog 12 #[.pointer (some ⟨c.d, 0, none⟩), .agg #[.int .i64 5, .string ⟨n.toArray⟩, .string ⟨t.toArray⟩, .slice ba bs.length bc]] w (RPost w c O m ⟨5, n, t, bs⟩) := by
  have H := Hid.mk h
  have k1 : Kept w (w.alloc (.cells #[.int .i64 5, .string ⟨n.toArray⟩, .string ⟨t.toArray⟩, .slice ba bs.length bc] 31)) := (Only.refl (fun _ => False) w).alloc _
  have hown := Hid.mk (rown_any (h.stay k1) hd hnd 5 n t bs ba bc (by decide) (by decide) hB)
  have HE : Hid (m.doOp ⟨5, n, t, bs⟩ = (0, m.count.done ⟨5, n, t, bs⟩)) := by show _ = _; rw [done_count]; exact do_done (m := m) (o := ⟨5, n, t, bs⟩) (show (0 : Int) ≤ 5 by decide) (show (5 : Int) ≤ 5 by decide) hoff hf ho hfa
  obtain ⟨B, hBl⟩ : ∃ B, bs.length = B := ⟨_, rfl⟩
  have HB := Hid.mk hBl
  have HO := Hid.mk ho
  have HD0 := Hid.mk hd
  have HSRC := Hid.mk hsrc
  rw [hBl, ho] at hown
  rw [hBl] at HSRC ⊢
  have x5 : w.cell? ⟨c.d, 5, none⟩ = some (.bool m.off) := h.cells.cell 5 rfl
  have x6 : w.cell? ⟨c.d, 6, none⟩ = some (.int .i64 (laidI m.fuse)) := h.cells.cell 6 rfl
  rw [hoff] at x5
  have d3 := fuse_ne m.fuse hf
  generalize hfz : laidI m.fuse = fz at x6 d3
  have hlt := h.cells.lt
  have hfz0 : ¬ fz = 0 := of_decide_eq_false d3
  have Hst := Hid.mk hst
  have HAC : Hid (m.count.acts.length ≤ 100000) := hac
  have HFL : Hid (m.count.files.length ≤ 100000) := hfl
  clear h k1 hBl ho hd hnd hsrc hst hac hfl
  go_enter Try.func12, Try.ntmps12
  go_wp2_with fail
  refine hown.out.mono ?_
  rintro e w2 ⟨rfl, k2⟩
  obtain ⟨hk2, hop⟩ := own_behind H.out k2
  have h2 := H.out.stay hk2
  clear x5 x6 k2 hown d3 hfz0
  have x6 : w2.cell? ⟨c.d, 6, none⟩ = some (.int .i64 (laidI m.fuse)) := h2.cells.cell 6 rfl
  have x7 : w2.cell? ⟨c.d, 7, none⟩ = some (.int .i64 (laidI m.fault)) := h2.cells.cell 7 rfl
  have x8 : w2.cell? ⟨c.d, 8, none⟩ = some (.int .i64 (m.steps : Int)) := h2.cells.cell 8 rfl
  have f6 : w2.frozen? ⟨c.d, 6, none⟩ = false := h2.cells.frozen 6
  have f7 : w2.frozen? ⟨c.d, 7, none⟩ = false := h2.cells.frozen 7
  have f8 : w2.frozen? ⟨c.d, 8, none⟩ = false := h2.cells.frozen 8
  have hst := Hst.out
  cases hFa : m.fault with
  | none =>
    cases hFu : m.fuse with
    | none =>
      have MID := Hid.mk (mid_nn H.out hk2 hop hFa hFu)
      rw [hFa] at x7
      rw [hFu] at x6
      unfold laidI at x6 x7
      clear h2 hk2 hop
      go_wp2_with fail
      generalize w2.setCell ⟨c.d, 8, none⟩ (.int .i64 ((m.steps : Int) + 1)) = w3 at MID ⊢
      clear x6 x7 x8 f6 f7 f8
      have h3 := MID.out.at3
      obtain ⟨da, dc, hdv⟩ := ownN_slice h3.dir
      obtain ⟨M, hM⟩ : ∃ M, m.count.dir.length = M := ⟨_, rfl⟩
      rw [hM] at hdv
      have hMl : M ≤ 10000 := by rw [← hM]; exact HD0.out
      have x1 : w3.cell? ⟨c.d, 1, none⟩ = some (.slice da M dc) := by
        have := h3.cells.cell 1 rfl
        rw [hdv] at this
        exact this
      have y0 := MID.out.op.cell 0 rfl
      have y1 := MID.out.op.cell 1 rfl
      have hFind : Hid (∀ j, Calls Try.prog 36 #[.slice da M dc, .string ⟨n.toArray⟩] (w3.drewN j) fun e w' => e = .returned (.int .i64 (fidx m.count.dir n)) ∧ w' = w3.drewN j) := fun j => by
        have := rfind_any (h3.stay (Kept.drewN' (Only.refl _ _) j)).dir.src (show m.count.dir.length ≤ 1000000 by omega) n
        rw [hdv] at this
        exact this
      have HDV := Hid.mk hdv
      have HM := Hid.mk hM
      clear hdv hM
      go_quiet ((go_at_call 36; exact Calls.quiet_of_same (hFind.out _)))
      have hes : EntSrc w3 (.slice da M dc) m.count.dir := by
        have := h3.dir.src
        rw [HDV.out] at this
        exact this
      generalize fidx m.count.dir n = fi
      obtain ⟨ca, ccap, w4, Hr, ho4, hk4⟩ := ent_copy (w := w3.drewN nq) (hes.stay (Kept.drewN' (Only.refl _ w3) nq)) (by have := HM.out; omega)
      rw [HM.out] at Hr ho4
      have HK4 : Hid (Kept w3 w4) := (Kept.drewN' (Only.refl (fun _ => False) w3) nq).trans hk4 (fun _ _ f => f)
      have HO4 : Hid (EntAt w4 w3.heap.size (.slice ca M ccap) m.count.dir) := ho4
      have q2 := (h3.stay HK4.out).cells.cell 2 rfl
      have q3 := (h3.stay HK4.out).cells.cell 3 rfl
      have g2 := (h3.stay HK4.out).cells.frozen 2
      have g3 := (h3.stay HK4.out).cells.frozen 3
      clear h3 hes ho4 hk4
      go_wp2_with (at_builtin; refine wpList_append_run rfl _ _ _ rfl rfl rfl Hr ?_)
      all_goals
        go_ret
        exact mid_dir MID.out H.out HK4.out HO4.out HE.out
    | some b0 =>
      obtain ⟨b, rfl⟩ : ∃ b, b0 = b + 1 := ⟨b0 - 1, by have : b0 ≠ 0 := fun e => hf (by rw [hFu, e]); omega⟩
      have hbb := hfb _ hFu
      have MID := Hid.mk (mid_ns H.out hk2 hop hFa hFu)
      rw [hFa] at x7
      rw [hFu] at x6
      unfold laidI at x6 x7
      clear h2 hk2 hop
      go_wp2_with fail
      generalize (w2.setCell ⟨c.d, 6, none⟩ (.int .i64 (b : Int))).setCell ⟨c.d, 8, none⟩ (.int .i64 ((m.steps : Int) + 1)) = w3 at MID ⊢
      clear x6 x7 x8 f6 f7 f8
      have h3 := MID.out.at3
      obtain ⟨da, dc, hdv⟩ := ownN_slice h3.dir
      obtain ⟨M, hM⟩ : ∃ M, m.count.dir.length = M := ⟨_, rfl⟩
      rw [hM] at hdv
      have hMl : M ≤ 10000 := by rw [← hM]; exact HD0.out
      have x1 : w3.cell? ⟨c.d, 1, none⟩ = some (.slice da M dc) := by
        have := h3.cells.cell 1 rfl
        rw [hdv] at this
        exact this
      have y0 := MID.out.op.cell 0 rfl
      have y1 := MID.out.op.cell 1 rfl
      have hFind : Hid (∀ j, Calls Try.prog 36 #[.slice da M dc, .string ⟨n.toArray⟩] (w3.drewN j) fun e w' => e = .returned (.int .i64 (fidx m.count.dir n)) ∧ w' = w3.drewN j) := fun j => by
        have := rfind_any (h3.stay (Kept.drewN' (Only.refl _ _) j)).dir.src (show m.count.dir.length ≤ 1000000 by omega) n
        rw [hdv] at this
        exact this
      have HDV := Hid.mk hdv
      have HM := Hid.mk hM
      clear hdv hM
      go_quiet ((go_at_call 36; exact Calls.quiet_of_same (hFind.out _)))
      have hes : EntSrc w3 (.slice da M dc) m.count.dir := by
        have := h3.dir.src
        rw [HDV.out] at this
        exact this
      generalize fidx m.count.dir n = fi
      obtain ⟨ca, ccap, w4, Hr, ho4, hk4⟩ := ent_copy (w := w3.drewN nq) (hes.stay (Kept.drewN' (Only.refl _ w3) nq)) (by have := HM.out; omega)
      rw [HM.out] at Hr ho4
      have HK4 : Hid (Kept w3 w4) := (Kept.drewN' (Only.refl (fun _ => False) w3) nq).trans hk4 (fun _ _ f => f)
      have HO4 : Hid (EntAt w4 w3.heap.size (.slice ca M ccap) m.count.dir) := ho4
      have q2 := (h3.stay HK4.out).cells.cell 2 rfl
      have q3 := (h3.stay HK4.out).cells.cell 3 rfl
      have g2 := (h3.stay HK4.out).cells.frozen 2
      have g3 := (h3.stay HK4.out).cells.frozen 3
      clear h3 hes ho4 hk4
      go_wp2_with (at_builtin; refine wpList_append_run rfl _ _ _ rfl rfl rfl Hr ?_)
      all_goals
        go_ret
        exact mid_dir MID.out H.out HK4.out HO4.out HE.out
  | some a0 =>
    obtain ⟨a, rfl⟩ : ∃ a, a0 = a + 1 := ⟨a0 - 1, by have : a0 ≠ 0 := fun e => hfa (by rw [hFa, e]); omega⟩
    have haa := hab _ hFa
    cases hFu : m.fuse with
    | none =>
      have MID := Hid.mk (mid_sn H.out hk2 hop hFa hFu)
      rw [hFa] at x7
      rw [hFu] at x6
      unfold laidI at x6 x7
      clear h2 hk2 hop
      go_wp2_with fail
      generalize (w2.setCell ⟨c.d, 7, none⟩ (.int .i64 (a : Int))).setCell ⟨c.d, 8, none⟩ (.int .i64 ((m.steps : Int) + 1)) = w3 at MID ⊢
      clear x6 x7 x8 f6 f7 f8
      have h3 := MID.out.at3
      obtain ⟨da, dc, hdv⟩ := ownN_slice h3.dir
      obtain ⟨M, hM⟩ : ∃ M, m.count.dir.length = M := ⟨_, rfl⟩
      rw [hM] at hdv
      have hMl : M ≤ 10000 := by rw [← hM]; exact HD0.out
      have x1 : w3.cell? ⟨c.d, 1, none⟩ = some (.slice da M dc) := by
        have := h3.cells.cell 1 rfl
        rw [hdv] at this
        exact this
      have y0 := MID.out.op.cell 0 rfl
      have y1 := MID.out.op.cell 1 rfl
      have hFind : Hid (∀ j, Calls Try.prog 36 #[.slice da M dc, .string ⟨n.toArray⟩] (w3.drewN j) fun e w' => e = .returned (.int .i64 (fidx m.count.dir n)) ∧ w' = w3.drewN j) := fun j => by
        have := rfind_any (h3.stay (Kept.drewN' (Only.refl _ _) j)).dir.src (show m.count.dir.length ≤ 1000000 by omega) n
        rw [hdv] at this
        exact this
      have HDV := Hid.mk hdv
      have HM := Hid.mk hM
      clear hdv hM
      go_quiet ((go_at_call 36; exact Calls.quiet_of_same (hFind.out _)))
      have hes : EntSrc w3 (.slice da M dc) m.count.dir := by
        have := h3.dir.src
        rw [HDV.out] at this
        exact this
      generalize fidx m.count.dir n = fi
      obtain ⟨ca, ccap, w4, Hr, ho4, hk4⟩ := ent_copy (w := w3.drewN nq) (hes.stay (Kept.drewN' (Only.refl _ w3) nq)) (by have := HM.out; omega)
      rw [HM.out] at Hr ho4
      have HK4 : Hid (Kept w3 w4) := (Kept.drewN' (Only.refl (fun _ => False) w3) nq).trans hk4 (fun _ _ f => f)
      have HO4 : Hid (EntAt w4 w3.heap.size (.slice ca M ccap) m.count.dir) := ho4
      have q2 := (h3.stay HK4.out).cells.cell 2 rfl
      have q3 := (h3.stay HK4.out).cells.cell 3 rfl
      have g2 := (h3.stay HK4.out).cells.frozen 2
      have g3 := (h3.stay HK4.out).cells.frozen 3
      clear h3 hes ho4 hk4
      go_wp2_with (at_builtin; refine wpList_append_run rfl _ _ _ rfl rfl rfl Hr ?_)
      all_goals
        go_ret
        exact mid_dir MID.out H.out HK4.out HO4.out HE.out
    | some b0 =>
      obtain ⟨b, rfl⟩ : ∃ b, b0 = b + 1 := ⟨b0 - 1, by have : b0 ≠ 0 := fun e => hf (by rw [hFu, e]); omega⟩
      have hbb := hfb _ hFu
      have MID := Hid.mk (mid_ss H.out hk2 hop hFa hFu)
      rw [hFa] at x7
      rw [hFu] at x6
      unfold laidI at x6 x7
      clear h2 hk2 hop
      go_wp2_with fail
      generalize ((w2.setCell ⟨c.d, 7, none⟩ (.int .i64 (a : Int))).setCell ⟨c.d, 6, none⟩ (.int .i64 (b : Int))).setCell ⟨c.d, 8, none⟩ (.int .i64 ((m.steps : Int) + 1)) = w3 at MID ⊢
      clear x6 x7 x8 f6 f7 f8
      have h3 := MID.out.at3
      obtain ⟨da, dc, hdv⟩ := ownN_slice h3.dir
      obtain ⟨M, hM⟩ : ∃ M, m.count.dir.length = M := ⟨_, rfl⟩
      rw [hM] at hdv
      have hMl : M ≤ 10000 := by rw [← hM]; exact HD0.out
      have x1 : w3.cell? ⟨c.d, 1, none⟩ = some (.slice da M dc) := by
        have := h3.cells.cell 1 rfl
        rw [hdv] at this
        exact this
      have y0 := MID.out.op.cell 0 rfl
      have y1 := MID.out.op.cell 1 rfl
      have hFind : Hid (∀ j, Calls Try.prog 36 #[.slice da M dc, .string ⟨n.toArray⟩] (w3.drewN j) fun e w' => e = .returned (.int .i64 (fidx m.count.dir n)) ∧ w' = w3.drewN j) := fun j => by
        have := rfind_any (h3.stay (Kept.drewN' (Only.refl _ _) j)).dir.src (show m.count.dir.length ≤ 1000000 by omega) n
        rw [hdv] at this
        exact this
      have HDV := Hid.mk hdv
      have HM := Hid.mk hM
      clear hdv hM
      go_quiet ((go_at_call 36; exact Calls.quiet_of_same (hFind.out _)))
      have hes : EntSrc w3 (.slice da M dc) m.count.dir := by
        have := h3.dir.src
        rw [HDV.out] at this
        exact this
      generalize fidx m.count.dir n = fi
      obtain ⟨ca, ccap, w4, Hr, ho4, hk4⟩ := ent_copy (w := w3.drewN nq) (hes.stay (Kept.drewN' (Only.refl _ w3) nq)) (by have := HM.out; omega)
      rw [HM.out] at Hr ho4
      have HK4 : Hid (Kept w3 w4) := (Kept.drewN' (Only.refl (fun _ => False) w3) nq).trans hk4 (fun _ _ f => f)
      have HO4 : Hid (EntAt w4 w3.heap.size (.slice ca M ccap) m.count.dir) := ho4
      have q2 := (h3.stay HK4.out).cells.cell 2 rfl
      have q3 := (h3.stay HK4.out).cells.cell 3 rfl
      have g2 := (h3.stay HK4.out).cells.frozen 2
      have g3 := (h3.stay HK4.out).cells.frozen 3
      clear h3 hes ho4 hk4
      go_wp2_with (at_builtin; refine wpList_append_run rfl _ _ _ rfl rfl rfl Hr ?_)
      all_goals
        go_ret
        exact mid_dir MID.out H.out HK4.out HO4.out HE.out
end
end Go.Proofs.Ytfmdnaagdhpcpaa

/-
  The document's own disk: Do.
-/
namespace Go.Proofs.Ytfmdnaagdhpcpaa
open Go.RowKit Go.Proofs.Lys Go.Maps Go.Shelf
set_option linter.unusedVariables false

theorem rdo_any {w : World} {c : RConc} {O : Nat → Prop} {m : DModel} (h : RAt w c O m) (hd : m.dir.length ≤ 10000) (hnd : (m.dir.map (·.2)).Nodup) (k : Int) (n t bs : List UInt8) (ba : Option Addr) (bc : Nat) (hB : bs.length ≤ 1000000) (hsrc : SrcOf w (.slice ba bs.length bc) (bs.map bV))
    (hst : m.steps ≤ 1000000000) (hac : m.acts.length ≤ 100000) (hfl : m.files.length ≤ 100000) (hap : ∀ a, ba = some a → 0 < bs.length → ¬ O a.block) (hfb : ∀ x, m.fuse = some x → x ≤ 9223372036854775807) (hab : ∀ x, m.fault = some x → x ≤ 9223372036854775807) :
    Calls Try.prog 12 #[.pointer (some ⟨c.d, 0, none⟩), .agg #[.int .i64 k, .string ⟨n.toArray⟩, .string ⟨t.toArray⟩, .slice ba bs.length bc]] w (RPost w c O m ⟨k, n, t, bs⟩) := by
  by_cases hk : k < 0 ∨ 5 < k
  · exact rdo_bad h k n t bs _ hk ⟨_, _, _, rfl⟩
  have hk0 : 0 ≤ k := by omega
  have hk5 : k ≤ 5 := by omega
  cases hoff : m.off with
  | true => exact rdo_off h k n t bs _ hk0 hk5 ⟨_, _, _, rfl⟩ hoff
  | false =>
    by_cases hf : m.fuse = some 0
    · exact rdo_blown h k n t bs _ hk0 hk5 ⟨_, _, _, rfl⟩ hoff hf
    by_cases ho : m.own ⟨k, n, t, bs⟩ = 0
    · by_cases hfa : m.fault = some 0
      · exact rdo_fault h hd hnd k n t bs ba bc hk0 hk5 hB hoff hf ho hfa
      · rcases (by omega : k = 0 ∨ k = 1 ∨ k = 2 ∨ k = 3 ∨ k = 4 ∨ k = 5) with e | e | e | e | e | e <;> subst e
        · exact rdone0 h hd hnd n t bs ba bc hB hsrc hoff hf ho hfa hst hac hfl hfb hab
        · exact rdone1 h hd hnd n t bs ba bc hB hsrc hoff hf ho hfa hst hac hfl hap hfb hab
        · exact rdone2 h hd hnd n t bs ba bc hB hsrc hoff hf ho hfa hst hac hfl hfb hab
        · exact rdone3 h hd hnd n t bs ba bc hB hsrc hoff hf ho hfa hst hac hfl hfb hab
        · exact rdone4 h hd hnd n t bs ba bc hB hsrc hoff hf ho hfa hst hac hfl hfb hab
        · exact rdone5 h hd hnd n t bs ba bc hB hsrc hoff hf ho hfa hst hac hfl hfb hab
    · exact rdo_own h hd hnd k n t bs ba bc hk0 hk5 hB hoff hf ho
end Go.Proofs.Ytfmdnaagdhpcpaa

/-
  What holds of the document's disk, as plain data, behind every row of calls: no file has two names, and so many there are. No program is named here.
-/
namespace Go.Proofs.Lys
set_option linter.unusedVariables false

/-- How often a file is named. -/
def cnt (x : Nat) (l : DDir) : Nat := (l.map (·.2)).count x
/-- The files that acts make. -/
def newF (l : List DAct) : List Nat := (l.filter (fun a => a.kind == 0)).map (·.file)
def mkF (a : DAct) (x : Nat) : Nat := if a.kind = 0 ∧ a.file = x then 1 else 0

theorem nodup_of_count (l : List Nat) (h : ∀ x, l.count x ≤ 1) : l.Nodup := by
  induction l with
  | nil => exact List.nodup_nil
  | cons a r ih =>
    refine List.nodup_cons.2 ⟨fun hm => ?_, ih (fun x => ?_)⟩
    · have h1 := h a
      rw [List.count_cons_self] at h1
      have := List.count_pos_iff.2 hm
      omega
    · have h1 := h x
      have := List.count_le_count_cons (a := x) (b := a) (l := r)
      omega
theorem count_of_nodup (l : List Nat) (h : l.Nodup) (x : Nat) : l.count x ≤ 1 := by
  induction l with
  | nil => simp
  | cons a r ih =>
    obtain ⟨h1, h2⟩ := List.nodup_cons.1 h
    by_cases e : a = x
    · subst e
      rw [List.count_cons_self, List.count_eq_zero.2 h1]
      exact Nat.le_refl _
    · rw [List.count_cons_of_ne e]
      exact ih h2

theorem cnt_drop (x : Nat) (l : DDir) (n : List UInt8) : cnt x (DD.drop l n) ≤ cnt x l := by
  unfold cnt DD.drop
  exact List.Sublist.count_le x (List.Sublist.map _ List.filter_sublist)
theorem cnt_look (x : Nat) (l : DDir) (n : List UInt8) (f : Nat) (h : DD.look l n = some f) : cnt x (DD.drop l n) + (if f = x then 1 else 0) ≤ cnt x l := by
  induction l with
  | nil => simp [DD.look] at h
  | cons p r ih =>
    unfold DD.look at h
    rw [List.find?_cons] at h
    by_cases hp : p.1 == n
    · rw [hp] at h
      have e : p.2 = f := by simpa using h
      have h1 := cnt_drop x r n
      have h2 : DD.drop (p :: r) n = DD.drop r n := by unfold DD.drop; rw [List.filter_cons]; simp [hp]
      rw [h2]
      unfold cnt at h1 ⊢
      rw [List.map_cons, List.count_cons, e]
      by_cases hx : f = x
      · simp [hx]; omega
      · simp [hx]; omega
    · have hp' : (p.1 == n) = false := by simpa using hp
      rw [hp'] at h
      have h1 := ih h
      have h2 : DD.drop (p :: r) n = p :: DD.drop r n := by unfold DD.drop; rw [List.filter_cons]; simp [hp']
      rw [h2]
      unfold cnt at h1 ⊢
      rw [List.map_cons, List.map_cons, List.count_cons, List.count_cons]
      omega
theorem cnt_ins (x : Nat) (p : List UInt8 × Nat) (l : DDir) : cnt x (DD.ins p l) = cnt x l + (if p.2 = x then 1 else 0) := by
  induction l with
  | nil =>
    unfold DD.ins cnt
    rw [List.map_cons, List.count_cons]
    by_cases h : p.2 = x <;> simp [h]
  | cons y r ih =>
    unfold DD.ins
    split
    · unfold cnt
      rw [List.map_cons, List.map_cons, List.count_cons, List.count_cons]
      by_cases h : p.2 = x <;> simp [h]
    · unfold cnt at ih ⊢
      rw [List.map_cons, List.map_cons, List.count_cons, List.count_cons, ih]
      omega
theorem cnt_put (x : Nat) (l : DDir) (n : List UInt8) (f : Nat) : cnt x (DD.put l n f) ≤ cnt x l + (if f = x then 1 else 0) := by
  unfold DD.put
  rw [cnt_ins]
  have := cnt_drop x l n
  show _ + (if f = x then 1 else 0) ≤ _
  omega
theorem cnt_act (x : Nat) (l : DDir) (a : DAct) : cnt x (DD.act l a) ≤ cnt x l + mkF a x := by
  unfold DD.act mkF
  by_cases h0 : a.kind = 0
  · rw [if_pos h0]
    have := cnt_put x l a.name a.file
    by_cases h : a.file = x
    · rw [if_pos h] at this
      rw [if_pos ⟨h0, h⟩]
      exact this
    · rw [if_neg h] at this
      rw [if_neg (fun e => h e.2)]
      exact this
  · rw [if_neg h0]
    split
    · split
      · rename_i f hf
        have h1 := cnt_look x l a.name f hf
        have h2 := cnt_put x (DD.drop l a.name) a.to f
        omega
      · omega
    · have := cnt_drop x l a.name
      omega
theorem newF_cons (a : DAct) (r : List DAct) (x : Nat) : (newF (a :: r)).count x = (newF r).count x + mkF a x := by
  unfold newF mkF
  rw [List.filter_cons]
  by_cases h : a.kind = 0
  · simp only [h, beq_self_eq_true, if_true, List.map_cons, List.count_cons]
    by_cases e : a.file = x <;> simp [e]
  · have h' : (a.kind == 0) = false := by simpa using h
    simp [h', h]
theorem cnt_fold (x : Nat) (acts : List DAct) : ∀ l, cnt x (acts.foldl DD.act l) ≤ cnt x l + (newF acts).count x := by
  induction acts with
  | nil => intro l; simp
  | cons a r ih =>
    intro l
    rw [List.foldl_cons, newF_cons]
    have h1 := ih (DD.act l a)
    have h2 := cnt_act x l a
    omega
theorem cnt_keep (x : Nat) (acts : List DAct) : ∀ (k : List Int) (l : DDir), cnt x (DModel.keepActs acts k l).1 ≤ cnt x l + (newF acts).count x := by
  induction acts with
  | nil => intro k l; simp [DModel.keepActs]
  | cons a r ih =>
    intro k l
    unfold DModel.keepActs
    rw [newF_cons]
    have h1 := ih k.tail (if DModel.oddB (k.headD 0) then DD.act l a else l)
    have h2 : cnt x (if DModel.oddB (k.headD 0) then DD.act l a else l) ≤ cnt x l + mkF a x := by
      split
      · exact cnt_act x l a
      · omega
    omega

/-- What holds behind every row of calls. -/
structure Fits (m : DModel) : Prop where
  once : ∀ x, cnt x m.sure + (newF m.acts).count x ≤ 1
  there : ∀ x, 0 < cnt x m.sure + (newF m.acts).count x → x < m.files.length
  kinds : ∀ a ∈ m.acts, a.kind ≤ 2
  synced : m.acts.foldl DD.act m.sure = m.dir
  fuse : ∀ x, m.fuse = some x → x ≤ 9223372036854775807
  fault : ∀ x, m.fault = some x → x ≤ 9223372036854775807
theorem Fits.start (q : Int) : Fits (DModel.start q) := ⟨fun x => by simp [DModel.start, cnt, newF], fun x h => by simp [DModel.start, cnt, newF] at h, fun a h => by simp [DModel.start] at h, rfl, fun x h => by simp [DModel.start] at h, fun x h => by simp [DModel.start] at h⟩
theorem cnt_mem {x : Nat} {l : DDir} (h : x ∈ l.map (·.2)) : 0 < cnt x l := List.count_pos_iff.2 h
theorem Fits.dir_nodup {m : DModel} (h : Fits m) : (m.dir.map (·.2)).Nodup := by
  refine nodup_of_count _ (fun x => ?_)
  have h1 := cnt_fold x m.acts m.sure
  rw [h.synced] at h1
  have := h.once x
  unfold cnt at h1 this
  omega
theorem Fits.dir_there {m : DModel} (h : Fits m) (p : List UInt8 × Nat) (hp : p ∈ m.dir) : p.2 < m.files.length := by
  have h1 := cnt_fold p.2 m.acts m.sure
  rw [h.synced] at h1
  have h2 := cnt_mem (List.mem_map_of_mem (f := (·.2)) hp)
  exact h.there _ (by omega)
theorem settle_len (is : List Nat) : ∀ (fs : List DFile) (l : List Int), (DModel.settleAll is fs l).length = fs.length := by
  induction is with
  | nil => intro fs l; rfl
  | cons i r ih =>
    intro fs l
    unfold DModel.settleAll
    rw [ih, List.length_set]
theorem Fits.crash_nodup {m : DModel} (h : Fits m) (keep : List Int) : ((m.crash keep).dir.map (·.2)).Nodup := by
  refine nodup_of_count _ (fun x => ?_)
  have h1 := cnt_keep x m.acts keep m.sure
  have := h.once x
  unfold DModel.crash
  unfold cnt at h1 this
  show ((DModel.keepActs m.acts keep m.sure).1.map (·.2)).count x ≤ 1
  omega
theorem Fits.crash_there {m : DModel} (h : Fits m) (keep : List Int) (p : List UInt8 × Nat) (hp : p ∈ (m.crash keep).dir) : p.2 < m.files.length := by
  have h1 := cnt_keep p.2 m.acts keep m.sure
  have hp' : p ∈ (DModel.keepActs m.acts keep m.sure).1 := hp
  have h2 := cnt_mem (List.mem_map_of_mem (f := (·.2)) hp')
  exact h.there _ (by omega)
theorem Fits.crash {m : DModel} (h : Fits m) (keep : List Int) : Fits (m.crash keep) := by
  refine ⟨fun x => ?_, fun x hx => ?_, fun a ha => ?_, rfl, fun x hx => ?_, fun x hx => ?_⟩
  · have h1 := count_of_nodup _ (h.crash_nodup keep) x
    have e : (m.crash keep).sure = (m.crash keep).dir := rfl
    have e2 : (m.crash keep).acts = [] := rfl
    rw [e, e2]
    unfold cnt
    simp [newF]
    exact h1
  · have e : (m.crash keep).sure = (m.crash keep).dir := rfl
    have e2 : (m.crash keep).acts = [] := rfl
    rw [e, e2] at hx
    have hx' : 0 < ((m.crash keep).dir.map (·.2)).count x := by simpa [newF, cnt] using hx
    obtain ⟨p, hp, rfl⟩ := List.mem_map.1 (List.count_pos_iff.1 hx')
    have h1 := h.crash_there keep p hp
    have e3 : (m.crash keep).files.length = m.files.length := settle_len _ _ _
    rw [e3]
    exact h1
  · cases ha
  · cases hx
  · cases hx
theorem newF_snoc (l : List DAct) (a : DAct) (x : Nat) : (newF (l ++ [a])).count x = (newF l).count x + mkF a x := by
  unfold newF
  rw [List.filter_append, List.map_append, List.count_append]
  have := newF_cons a [] x
  unfold newF at this
  rw [this]
  simp
theorem Fits.addAct {m : DModel} (h : Fits m) (a : DAct) (hk : a.kind = 1 ∨ a.kind = 2) : Fits { m with dir := DD.act m.dir a, acts := m.acts ++ [a] } := by
  have hz : ∀ x, mkF a x = 0 := fun x => by unfold mkF; rw [if_neg (by omega)]
  refine ⟨fun x => ?_, fun x hx => ?_, fun b hb => ?_, ?_, h.fuse, h.fault⟩
  · have := h.once x
    show cnt x m.sure + (newF (m.acts ++ [a])).count x ≤ 1
    rw [newF_snoc, hz]
    exact this
  · refine h.there x ?_
    have hx' : 0 < cnt x m.sure + (newF (m.acts ++ [a])).count x := hx
    rw [newF_snoc, hz] at hx'
    exact hx'
  · rcases List.mem_append.1 hb with hb | hb
    · exact h.kinds b hb
    · have : b = a := by simpa using hb
      subst this
      omega
  · show (m.acts ++ [a]).foldl DD.act m.sure = DD.act m.dir a
    rw [List.foldl_append, h.synced]
    rfl
theorem Fits.done {m : DModel} (h : Fits m) (o : DOp) : Fits (m.done o) := by
  unfold DModel.done
  split
  · refine ⟨fun x => ?_, fun x hx => ?_, fun b hb => ?_, ?_, h.fuse, h.fault⟩
    · show cnt x m.sure + (newF (m.acts ++ [⟨0, o.name, [], m.files.length⟩])).count x ≤ 1
      rw [newF_snoc]
      have h1 := h.once x
      have h2 := h.there x
      unfold mkF
      split
      · rename_i e
        have e2 : m.files.length = x := e.2
        omega
      · omega
    · have hx' : 0 < cnt x m.sure + (newF (m.acts ++ [⟨0, o.name, [], m.files.length⟩])).count x := hx
      show x < (m.files ++ [(⟨[], 0⟩ : DFile)]).length
      rw [List.length_append]
      rw [newF_snoc] at hx'
      have h2 := h.there x
      unfold mkF at hx'
      split at hx'
      · rename_i e
        have e2 : m.files.length = x := e.2
        simp
        omega
      · simp
        omega
    · rcases List.mem_append.1 hb with hb | hb
      · exact h.kinds b hb
      · have : b = ⟨0, o.name, [], m.files.length⟩ := by simpa using hb
        subst this
        exact Nat.zero_le _
    · show (m.acts ++ [(⟨0, o.name, [], m.files.length⟩ : DAct)]).foldl DD.act m.sure = DD.put m.dir o.name m.files.length
      rw [List.foldl_append, h.synced]
      rfl
  · split
    · exact ⟨h.once, fun x hx => by show x < (m.files.set _ _).length; rw [List.length_set]; exact h.there x hx, h.kinds, h.synced, h.fuse, h.fault⟩
    · split
      · exact ⟨h.once, fun x hx => by show x < (m.files.set _ _).length; rw [List.length_set]; exact h.there x hx, h.kinds, h.synced, h.fuse, h.fault⟩
      · split
        · exact h.addAct ⟨1, o.name, o.to, 0⟩ (.inl rfl)
        · split
          · exact h.addAct ⟨2, o.name, [], 0⟩ (.inr rfl)
          · refine ⟨fun x => ?_, fun x hx => ?_, fun b hb => ?_, rfl, h.fuse, h.fault⟩
            · have := count_of_nodup _ h.dir_nodup x
              show cnt x m.dir + (newF []).count x ≤ 1
              unfold cnt
              simp [newF]
              exact this
            · have hx' : 0 < (m.dir.map (·.2)).count x := by simpa [newF, cnt] using hx
              obtain ⟨p, hp, rfl⟩ := List.mem_map.1 (List.count_pos_iff.1 hx')
              exact h.dir_there p hp
            · cases hb
theorem Fits.count {m : DModel} (h : Fits m) : Fits m.count := by
  refine ⟨h.once, h.there, h.kinds, h.synced, fun x hx => ?_, fun x hx => ?_⟩
  · have hx' : m.fuse.map (· - 1) = some x := hx
    cases hf : m.fuse with
    | none => rw [hf] at hx'; cases hx'
    | some y =>
      rw [hf] at hx'
      have := h.fuse y hf
      simp at hx'
      omega
  · have hx' : m.fault.map (· - 1) = some x := hx
    cases hf : m.fault with
    | none => rw [hf] at hx'; cases hx'
    | some y =>
      rw [hf] at hx'
      have := h.fault y hf
      simp at hx'
      omega
theorem Fits.doOp {m : DModel} (h : Fits m) (o : DOp) : Fits (m.doOp o).2 := by
  unfold DModel.doOp
  split
  · exact h
  · split
    · exact h
    · split
      · exact ⟨h.once, h.there, h.kinds, h.synced, h.fuse, h.fault⟩
      · split
        · exact h
        · split
          · exact ⟨h.once, h.there, h.kinds, h.synced, h.fuse, fun x hx => by cases hx⟩
          · exact (h.done o).count
theorem lay_le {n : Int} (hn : n ≤ 9223372036854775807) (x : Nat) (h : DModel.lay n = some x) : x ≤ 9223372036854775807 := by
  unfold DModel.lay at h
  split at h
  · cases h
  · simp at h
    omega
theorem Fits.layFuse {m : DModel} (h : Fits m) {n : Int} (hn : n ≤ 9223372036854775807) : Fits { m with fuse := DModel.lay n } := ⟨h.once, h.there, h.kinds, h.synced, fun x hx => lay_le hn x hx, h.fault⟩
theorem Fits.layFault {m : DModel} (h : Fits m) {n : Int} (hn : n ≤ 9223372036854775807) : Fits { m with fault := DModel.lay n } := ⟨h.once, h.there, h.kinds, h.synced, h.fuse, fun x hx => lay_le hn x hx⟩
end Go.Proofs.Lys

/-
  Two disks of the code and the document's own one beside them, with nothing in common.
-/
namespace Go.Proofs.Ytfmdnaagdhpcpaa
open Go.RowKit Go.Proofs.Lys Go.Maps Go.Shelf
set_option linter.unusedVariables false

def Tri (w0 W : World) (A B R : Nat) (ma mb mr : DModel) : Prop :=
  ∃ ca Oa cb Ob cr Or, ca.d = A ∧ cb.d = B ∧ cr.d = R ∧ DiskAt W ca Oa ma ∧ DiskAt W cb Ob mb ∧ RAt W cr Or mr ∧ Kept w0 W ∧ (∀ k, Oa k → w0.heap.size ≤ k) ∧ (∀ k, Ob k → w0.heap.size ≤ k) ∧ (∀ k, Or k → w0.heap.size ≤ k ∧ k < W.heap.size) ∧ (∀ k, Oa k → ¬ Ob k) ∧ (∀ k, Oa k → ¬ Or k) ∧ (∀ k, Ob k → ¬ Or k)

section
variable {w0 W W' : World} {A B R : Nat} {ma mb mr : DModel}
theorem Tri.kept (h : Tri w0 W A B R ma mb mr) : Kept w0 W := by
  obtain ⟨ca, Oa, cb, Ob, cr, Or, h1, h2, h3, h4, h5, h6, h7, _⟩ := h
  exact h7
theorem Tri.stay (h : Tri w0 W A B R ma mb mr) (k : Kept W W') : Tri w0 W' A B R ma mb mr := by
  obtain ⟨ca, Oa, cb, Ob, cr, Or, h1, h2, h3, h4, h5, h6, h7, h8, h9, h10, h11, h12, h13⟩ := h
  exact ⟨ca, Oa, cb, Ob, cr, Or, h1, h2, h3, h4.stay k, h5.stay k, h6.stay k, h7.trans k (fun _ _ f => f), h8, h9, fun j hj => ⟨(h10 j hj).1, Nat.lt_of_lt_of_le (h10 j hj).2 k.size⟩, h11, h12, h13⟩
theorem Tri.swap (h : Tri w0 W A B R ma mb mr) : Tri w0 W B A R mb ma mr := by
  obtain ⟨ca, Oa, cb, Ob, cr, Or, h1, h2, h3, h4, h5, h6, h7, h8, h9, h10, h11, h12, h13⟩ := h
  exact ⟨cb, Ob, ca, Oa, cr, Or, h2, h1, h3, h5, h4, h6, h7, h9, h8, h10, fun k a b => h11 k b a, h13, h12⟩
/-- A call that turns the first disk alone. -/
theorem tri_d (h : Tri w0 W A B R ma mb mr) {f : FuncId} {args : Array Value} {v : Value} {m' : DModel}
    (hc : ∀ c O, c.d = A → DiskAt W c O ma → (∀ k, O k → w0.heap.size ≤ k) → Calls Try.prog f args W fun e w' => e = .returned v ∧ Only O W w' ∧ ∃ c', c'.d = c.d ∧ DiskAt w' c' (Grow O W w') m') :
    Calls Try.prog f args W fun e w' => e = .returned v ∧ Tri w0 w' A B R m' mb mr := by
  obtain ⟨ca, Oa, cb, Ob, cr, Or, h1, h2, h3, h4, h5, h6, h7, h8, h9, h10, h11, h12, h13⟩ := h
  refine (hc ca Oa h1 h4 h8).mono ?_
  rintro e w' ⟨rfl, hk, c', hc', hD⟩
  refine ⟨rfl, c', Grow Oa W w', cb, Ob, cr, Or, hc'.trans h1, h2, h3, hD, h5.only hk (fun j hb ha => h11 j ha hb), h6.only hk (fun j hb ha => h12 j ha hb), h7.trans hk (fun j hj ho => by have := h8 j ho; omega), ?_, h9, fun j hj => ⟨(h10 j hj).1, Nat.lt_of_lt_of_le (h10 j hj).2 hk.size⟩, ?_, ?_, h13⟩
  · rintro k (ho | ho)
    · exact h8 k ho
    · exact Nat.le_trans h7.size ho.1
  · rintro k (ho | ho) hb
    · exact h11 k ho hb
    · have := h5.top k hb
      omega
  · rintro k (ho | ho) hb
    · exact h12 k ho hb
    · have := (h10 k hb).2
      omega
/-- A call that turns the second one alone. -/
theorem tri_o (h : Tri w0 W A B R ma mb mr) {f : FuncId} {args : Array Value} {v : Value} {m' : DModel}
    (hc : ∀ c O, c.d = B → DiskAt W c O mb → (∀ k, O k → w0.heap.size ≤ k) → Calls Try.prog f args W fun e w' => e = .returned v ∧ Only O W w' ∧ ∃ c', c'.d = c.d ∧ DiskAt w' c' (Grow O W w') m') :
    Calls Try.prog f args W fun e w' => e = .returned v ∧ Tri w0 w' A B R ma m' mr :=
  (tri_d h.swap hc).mono (fun e w' h => ⟨h.1, h.2.swap⟩)
/-- A call that turns the document's own one alone. -/
theorem tri_r (h : Tri w0 W A B R ma mb mr) {f : FuncId} {args : Array Value} {v : Value} {m' : DModel}
    (hc : ∀ c O, c.d = R → RAt W c O mr → (∀ k, O k → w0.heap.size ≤ k) → Calls Try.prog f args W fun e w' => e = .returned v ∧ Only O W w' ∧ ∃ c' : RConc, c'.d = c.d ∧ RAt w' c' (Grow O W w') m') :
    Calls Try.prog f args W fun e w' => e = .returned v ∧ Tri w0 w' A B R ma mb m' := by
  obtain ⟨ca, Oa, cb, Ob, cr, Or, h1, h2, h3, h4, h5, h6, h7, h8, h9, h10, h11, h12, h13⟩ := h
  refine (hc cr Or h3 h6 (fun k hk => (h10 k hk).1)).mono ?_
  rintro e w' ⟨rfl, hk, c', hc', hD⟩
  refine ⟨rfl, ca, Oa, cb, Ob, c', Grow Or W w', h1, h2, hc'.trans h3, h4.only hk (fun j ha hb => h12 j ha hb), h5.only hk (fun j ha hb => h13 j ha hb), hD, h7.trans hk (fun j hj ho => by have := (h10 j ho).1; omega), h8, h9, ?_, h11, ?_, ?_⟩
  · rintro k (ho | ho)
    · exact ⟨(h10 k ho).1, Nat.lt_of_lt_of_le (h10 k ho).2 hk.size⟩
    · exact ⟨Nat.le_trans h7.size ho.1, ho.2⟩
  · rintro k ha (ho | ho)
    · exact h12 k ha ho
    · have := h4.top k ha
      omega
  · rintro k ha (ho | ho)
    · exact h13 k ha ho
    · have := h5.top k ha
      omega
end
end Go.Proofs.Ytfmdnaagdhpcpaa

/-
  The document's disk as plain data: how much there is behind so many calls, and how long its names are. No program is named here.
-/
namespace Go.Proofs.Lys
set_option linter.unusedVariables false

theorem ins_mem {x p : List UInt8 × Nat} {l : DDir} (h : p ∈ DD.ins x l) : p = x ∨ p ∈ l := by
  induction l with
  | nil =>
    unfold DD.ins at h
    left
    simpa using h
  | cons y r ih =>
    unfold DD.ins at h
    split at h
    · rcases List.mem_cons.1 h with h | h
      · exact .inl h
      · exact .inr h
    · rcases List.mem_cons.1 h with h | h
      · exact .inr (by rw [h]; exact List.mem_cons_self)
      · rcases ih h with h | h
        · exact .inl h
        · exact .inr (List.mem_cons_of_mem _ h)
theorem ins_len (x : List UInt8 × Nat) (l : DDir) : (DD.ins x l).length = l.length + 1 := by
  induction l with
  | nil => rfl
  | cons y r ih =>
    unfold DD.ins
    split
    · rfl
    · rw [List.length_cons, ih, List.length_cons]
theorem drop_mem {p : List UInt8 × Nat} {l : DDir} {n : List UInt8} (h : p ∈ DD.drop l n) : p ∈ l := (List.mem_filter.1 h).1
theorem drop_len (l : DDir) (n : List UInt8) : (DD.drop l n).length ≤ l.length := List.length_filter_le _ _
theorem put_mem2 {p : List UInt8 × Nat} {l : DDir} {n : List UInt8} {f : Nat} (h : p ∈ DD.put l n f) : p.1 = n ∨ p ∈ l := by
  rcases ins_mem h with h | h
  · exact .inl (by rw [h])
  · exact .inr (drop_mem h)
theorem put_len (l : DDir) (n : List UInt8) (f : Nat) : (DD.put l n f).length ≤ l.length + 1 := by
  unfold DD.put
  rw [ins_len]
  have := drop_len l n
  omega
theorem dact_mem {p : List UInt8 × Nat} {l : DDir} {a : DAct} (h : p ∈ DD.act l a) : p.1 = a.name ∨ p.1 = a.to ∨ p ∈ l := by
  unfold DD.act at h
  split at h
  · rcases put_mem2 h with h | h
    · exact .inl h
    · exact .inr (.inr h)
  · split at h
    · split at h
      · rcases put_mem2 h with h | h
        · exact .inr (.inl h)
        · exact .inr (.inr (drop_mem h))
      · exact .inr (.inr h)
    · exact .inr (.inr (drop_mem h))
theorem dact_len (l : DDir) (a : DAct) : (DD.act l a).length ≤ l.length + 1 := by
  unfold DD.act
  split
  · exact put_len _ _ _
  · split
    · split
      · have h1 := put_len (DD.drop l a.name) a.to (by assumption)
        have h2 := drop_len l a.name
        omega
      · omega
    · have := drop_len l a.name
      omega
theorem dfold_len (acts : List DAct) : ∀ l, (acts.foldl DD.act l).length ≤ l.length + acts.length := by
  induction acts with
  | nil => intro l; simp
  | cons a r ih =>
    intro l
    rw [List.foldl_cons]
    have h1 := ih (DD.act l a)
    have h2 := dact_len l a
    simp only [List.length_cons]
    omega
theorem dkeep_len (acts : List DAct) : ∀ (k : List Int) (l : DDir), (DModel.keepActs acts k l).1.length ≤ l.length + acts.length := by
  induction acts with
  | nil => intro k l; simp [DModel.keepActs]
  | cons a r ih =>
    intro k l
    unfold DModel.keepActs
    have h1 := ih k.tail (if DModel.oddB (k.headD 0) then DD.act l a else l)
    have h2 : (if DModel.oddB (k.headD 0) then DD.act l a else l).length ≤ l.length + 1 := by
      split
      · exact dact_len l a
      · omega
    simp only [List.length_cons]
    omega

/-- At most so much, and names no longer than N. -/
structure Most (N : Nat) (m : DModel) (k : Nat) : Prop where
  acts : m.sure.length + m.acts.length ≤ k
  files : m.files.length ≤ k
  steps : m.steps ≤ k
  sureN : ∀ p ∈ m.sure, p.1.length ≤ N
  actN : ∀ a ∈ m.acts, a.name.length ≤ N ∧ a.to.length ≤ N
theorem Most.dir_len {N : Nat} {m : DModel} {k : Nat} (h : Most N m k) (f : Fits m) : m.dir.length ≤ k := by
  rw [← f.synced]
  have := dfold_len m.acts m.sure
  have := h.acts
  omega
theorem dfold_name {N : Nat} (acts : List DAct) : ∀ l : DDir, (∀ p ∈ l, p.1.length ≤ N) → (∀ a ∈ acts, a.name.length ≤ N ∧ a.to.length ≤ N) → ∀ p ∈ acts.foldl DD.act l, p.1.length ≤ N := by
  induction acts with
  | nil => intro l h _ p hp; exact h p hp
  | cons a r ih =>
    intro l h ha p hp
    rw [List.foldl_cons] at hp
    refine ih (DD.act l a) (fun q hq => ?_) (fun b hb => ha b (List.mem_cons_of_mem _ hb)) p hp
    have h1 := ha a List.mem_cons_self
    rcases dact_mem hq with e | e | e
    · rw [e]; exact h1.1
    · rw [e]; exact h1.2
    · exact h q e
theorem dkeep_name {N : Nat} (acts : List DAct) : ∀ (k : List Int) (l : DDir), (∀ p ∈ l, p.1.length ≤ N) → (∀ a ∈ acts, a.name.length ≤ N ∧ a.to.length ≤ N) → ∀ p ∈ (DModel.keepActs acts k l).1, p.1.length ≤ N := by
  induction acts with
  | nil => intro k l h _ p hp; exact h p hp
  | cons a r ih =>
    intro k l h ha p hp
    unfold DModel.keepActs at hp
    refine ih k.tail _ (fun q hq => ?_) (fun b hb => ha b (List.mem_cons_of_mem _ hb)) p hp
    have h1 := ha a List.mem_cons_self
    split at hq
    · rcases dact_mem hq with e | e | e
      · rw [e]; exact h1.1
      · rw [e]; exact h1.2
      · exact h q e
    · exact h q hq
theorem Most.dirN {N : Nat} {m : DModel} {k : Nat} (h : Most N m k) (f : Fits m) : ∀ p ∈ m.dir, p.1.length ≤ N := by
  rw [← f.synced]
  exact dfold_name m.acts m.sure h.sureN h.actN
theorem Most.start (N : Nat) (q : Int) (k : Nat) : Most N (DModel.start q) k := ⟨Nat.zero_le _, Nat.zero_le _, Nat.zero_le _, fun p h => by simp [DModel.start] at h, fun a h => by simp [DModel.start] at h⟩
theorem Most.up {N : Nat} {m : DModel} {k k' : Nat} (h : Most N m k) (hk : k ≤ k') : Most N m k' := ⟨Nat.le_trans h.acts hk, Nat.le_trans h.files hk, Nat.le_trans h.steps hk, h.sureN, h.actN⟩
theorem Most.crash {N : Nat} {m : DModel} {k : Nat} (h : Most N m k) (keep : List Int) : Most N (m.crash keep) k := by
  refine ⟨?_, ?_, h.steps, ?_, fun a ha => by cases ha⟩
  · show (DModel.keepActs m.acts keep m.sure).1.length + 0 ≤ k
    have := dkeep_len m.acts keep m.sure
    have := h.acts
    omega
  · have e3 : (m.crash keep).files.length = m.files.length := settle_len _ _ _
    rw [e3]
    exact h.files
  · exact dkeep_name m.acts keep m.sure h.sureN h.actN
theorem Most.done {N : Nat} {m : DModel} {k : Nat} (h : Most N m k) (f : Fits m) (o : DOp) (hn : o.name.length ≤ N) (ht : o.to.length ≤ N) : Most N (m.done o).count (k + 1) := by
  have ha := h.acts
  have hf := h.files
  have hs := h.steps
  have hstep : (m.done o).count.steps ≤ k + 1 := by
    show (m.done o).steps + 1 ≤ k + 1
    have e : (m.done o).steps = m.steps := by
      unfold DModel.done
      split
      · rfl
      · split
        · rfl
        · split
          · rfl
          · split
            · rfl
            · split <;> rfl
    omega
  have snoc : ∀ a : DAct, a.name.length ≤ N → a.to.length ≤ N → ∀ b ∈ m.acts ++ [a], b.name.length ≤ N ∧ b.to.length ≤ N := fun a h1 h2 b hb => by
    rcases List.mem_append.1 hb with hb | hb
    · exact h.actN b hb
    · have : b = a := by simpa using hb
      subst this
      exact ⟨h1, h2⟩
  unfold DModel.done at hstep ⊢
  split
  · rename_i e0
    rw [if_pos e0] at hstep
    refine ⟨?_, ?_, hstep, h.sureN, snoc _ hn (Nat.zero_le _)⟩
    · show m.sure.length + (m.acts ++ [_]).length ≤ k + 1
      rw [List.length_append, List.length_singleton]
      omega
    · show (m.files ++ [_]).length ≤ k + 1
      rw [List.length_append, List.length_singleton]
      omega
  · rename_i e0
    rw [if_neg e0] at hstep
    split
    · rename_i e1
      rw [if_pos e1] at hstep
      exact ⟨by show m.sure.length + m.acts.length ≤ k + 1; omega, by show (m.files.set _ _).length ≤ k + 1; rw [List.length_set]; omega, hstep, h.sureN, h.actN⟩
    · rename_i e1
      rw [if_neg e1] at hstep
      split
      · rename_i e2
        rw [if_pos e2] at hstep
        exact ⟨by show m.sure.length + m.acts.length ≤ k + 1; omega, by show (m.files.set _ _).length ≤ k + 1; rw [List.length_set]; omega, hstep, h.sureN, h.actN⟩
      · rename_i e2
        rw [if_neg e2] at hstep
        split
        · rename_i e3
          rw [if_pos e3] at hstep
          refine ⟨?_, by show m.files.length ≤ k + 1; omega, hstep, h.sureN, snoc _ hn ht⟩
          show m.sure.length + (m.acts ++ [_]).length ≤ k + 1
          rw [List.length_append, List.length_singleton]
          omega
        · rename_i e3
          rw [if_neg e3] at hstep
          split
          · rename_i e4
            rw [if_pos e4] at hstep
            refine ⟨?_, by show m.files.length ≤ k + 1; omega, hstep, h.sureN, snoc _ hn (Nat.zero_le _)⟩
            show m.sure.length + (m.acts ++ [_]).length ≤ k + 1
            rw [List.length_append, List.length_singleton]
            omega
          · rename_i e4
            rw [if_neg e4] at hstep
            refine ⟨?_, by show m.files.length ≤ k + 1; omega, hstep, h.dirN f, fun a ha => by cases ha⟩
            show m.dir.length + 0 ≤ k + 1
            have := h.dir_len f
            omega
theorem Most.doOp {N : Nat} {m : DModel} {k : Nat} (h : Most N m k) (f : Fits m) (o : DOp) (hn : o.name.length ≤ N) (ht : o.to.length ≤ N) : Most N (m.doOp o).2 (k + 1) := by
  have h' := h.up (Nat.le_succ k)
  unfold DModel.doOp
  split
  · exact h'
  · split
    · exact h'
    · split
      · exact ⟨h'.acts, h'.files, h'.steps, h'.sureN, h'.actN⟩
      · split
        · exact h'
        · split
          · exact ⟨h'.acts, h'.files, h'.steps, h'.sureN, h'.actN⟩
          · exact h.done f o hn ht
theorem Most.few {N : Nat} {m : DModel} {k : Nat} (h : Most N m k) (f : Fits m) (hk : k ≤ 100000) : m.few := by
  have := h.dir_len f
  have := h.acts
  have := h.steps
  exact ⟨by omega, by omega⟩
end Go.Proofs.Lys
