/-
  Eown.
-/
import Derived.Test.YtfmdnaagdhpcpaaQ16

/-
  The document's own disk: a step's own errors.
-/
namespace Go.Proofs.Ytfmdnaagdhpcpaa
open Go.RowKit Go.Proofs.Lys Go.Maps Go.Shelf
set_option linter.unusedVariables false

theorem fidx_look (l : DDir) (n : List UInt8) : (DD.look l n = none ∧ fidx l n = -1) ∨ ∃ k, ∃ hk : k < l.length, fidx l n = (k : Int) ∧ DD.look l n = some l[k].2 := by
  by_cases h : l.findIdx (fun p => p.1 == n) < l.length
  · right
    refine ⟨_, h, ?_, ?_⟩
    · unfold fidx
      rw [if_pos h]
    · unfold DD.look
      have e : l.find? (fun p => p.1 == n) = some (l[l.findIdx (fun p => p.1 == n)]'h) := List.find?_eq_some_iff_getElem.2 ⟨List.findIdx_getElem (p := fun p : List UInt8 × Nat => p.1 == n) (w := h), _, h, rfl, fun j hj => by have := List.not_of_lt_findIdx hj; simpa using this⟩
      rw [e]
      rfl
  · left
    constructor
    · unfold DD.look
      have : l.find? (fun p => p.1 == n) = none := by
        rw [List.find?_eq_none]
        intro x hx hp
        exact h (List.findIdx_lt_length_of_exists ⟨x, hx, hp⟩)
      rw [this]
      rfl
    · unfold fidx
      rw [if_neg h]

/-- What an operation's block holds. -/
abbrev opC (k : Int) (n t : List UInt8) (ba : Option Addr) (B bc : Nat) : List Value := [.int .i64 k, .string ⟨n.toArray⟩, .string ⟨t.toArray⟩, .slice ba B bc]

section
variable {w : World} {c : RConc} {O : Nat → Prop} {m : DModel}

set_option maxRecDepth 100000 in
set_option maxHeartbeats 800000 in
theorem rown0 (h : RAt w c O m) (hd : m.dir.length ≤ 10000) (hnd : (m.dir.map (·.2)).Nodup) (n t bs : List UInt8) (ba : Option Addr) (bc : Nat) (hB : bs.length ≤ 1000000) :
    Calls Try.prog 35 #[.pointer (some ⟨c.d, 0, none⟩), .agg #[.int .i64 0, .string ⟨n.toArray⟩, .string ⟨t.toArray⟩, .slice ba bs.length bc]] w fun e w' => e = .returned (.int .i64 (m.own ⟨0, n, t, bs⟩ : Int)) ∧ Kept w w' := by
  obtain ⟨B, hBl⟩ : ∃ B, bs.length = B := ⟨_, rfl⟩
  have HB := Hid.mk hBl
  rw [hBl] at hB ⊢
  have k1 : Kept w (w.alloc (.cells #[.int .i64 0, .string ⟨n.toArray⟩, .string ⟨t.toArray⟩, .slice ba B bc] 31)) := (Only.refl _ w).alloc _
  have h1 := h.stay k1
  obtain ⟨da, dc, hdv⟩ := ownN_slice h.dir
  obtain ⟨M, hM⟩ : ∃ M, m.dir.length = M := ⟨_, rfl⟩
  rw [hM] at hdv
  have x1 : w.cell? ⟨c.d, 1, none⟩ = some (.slice da M dc) := by
    have := h.cells.cell 1 rfl
    rw [hdv] at this
    exact this
  have hF : Hid (∀ j, Calls Try.prog 36 #[.slice da M dc, .string ⟨n.toArray⟩] ((w.alloc (.cells #[.int .i64 0, .string ⟨n.toArray⟩, .string ⟨t.toArray⟩, .slice ba B bc] 31)).drewN j) fun e w' => e = .returned (.int .i64 (fidx m.dir n)) ∧ w' = (w.alloc (.cells #[.int .i64 0, .string ⟨n.toArray⟩, .string ⟨t.toArray⟩, .slice ba B bc] 31)).drewN j) := fun j => by
    have := rfind_any (h1.stay (Kept.drewN' (Only.refl _ _) j)).dir.src (by omega) n
    rw [hdv] at this
    exact this
  have HK1 := Hid.mk k1
  have H := Hid.mk h
  have HD := Hid.mk hdv
  have HM := Hid.mk hM
  have HND := Hid.mk hnd
  have hlt := h.top _ h.oD
  rw [hM] at hd
  clear h h1 hdv hM hBl k1 hnd
  go_enter Try.func35, Try.ntmps35
  go_wp2_with fail
  go_quiet ((go_at_call 36; exact Calls.quiet_of_same (hF.out _)))
  have HKq1 := Hid.mk (Kept.drewN' HK1.out nq)
  have HKr1 := Hid.mk (Kept.drewN' (Only.refl (fun _ => False) (w.alloc (.cells #[.int .i64 0, .string ⟨n.toArray⟩, .string ⟨t.toArray⟩, .slice ba B bc] 31))) nq)
  clear hF x1
  go_wp2_with fail
  refine (rbad_any n _).mono ?_
  rintro e w' ⟨rfl, hw⟩
  replace hw := hw.symm
  subst hw
  cases hbad : namedB n
  · have ho : Hid (m.own ⟨0, n, t, bs⟩ = 1) := by show (if namedB n = false then 1 else _) = _; rw [if_pos hbad]
    go_wp2_with fail
    go_ret
    exact ⟨by rw [ho.out]; rfl, Kept.drewN' HK1.out _⟩
  · rcases fidx_look m.dir n with ⟨hl, hi⟩ | ⟨i, hi', hi, hl⟩
    · have ho : Hid (m.own ⟨0, n, t, bs⟩ = 0) := by show (if namedB n = false then 1 else if (DD.look m.dir n).isSome then 7 else 0) = _; rw [hbad, hl]; rfl
      rw [hi]
      go_wp2_with fail
      go_ret
      exact ⟨by rw [ho.out]; rfl, Kept.drewN' HK1.out _⟩
    · have ho : Hid (m.own ⟨0, n, t, bs⟩ = 7) := by show (if namedB n = false then 1 else if (DD.look m.dir n).isSome then 7 else 0) = _; rw [hbad, hl]; rfl
      rw [hi]
      go_wp2_with fail
      go_ret
      exact ⟨by rw [ho.out]; rfl, Kept.drewN' HK1.out _⟩

set_option maxRecDepth 100000 in
set_option maxHeartbeats 800000 in
theorem rown1 (h : RAt w c O m) (hd : m.dir.length ≤ 10000) (hnd : (m.dir.map (·.2)).Nodup) (n t bs : List UInt8) (ba : Option Addr) (bc : Nat) (hB : bs.length ≤ 1000000) :
    Calls Try.prog 35 #[.pointer (some ⟨c.d, 0, none⟩), .agg #[.int .i64 1, .string ⟨n.toArray⟩, .string ⟨t.toArray⟩, .slice ba bs.length bc]] w fun e w' => e = .returned (.int .i64 (m.own ⟨1, n, t, bs⟩ : Int)) ∧ Kept w w' := by
  obtain ⟨B, hBl⟩ : ∃ B, bs.length = B := ⟨_, rfl⟩
  have HB := Hid.mk hBl
  rw [hBl] at hB ⊢
  have k1 : Kept w (w.alloc (.cells #[.int .i64 1, .string ⟨n.toArray⟩, .string ⟨t.toArray⟩, .slice ba B bc] 31)) := (Only.refl _ w).alloc _
  have h1 := h.stay k1
  obtain ⟨da, dc, hdv⟩ := ownN_slice h.dir
  obtain ⟨M, hM⟩ : ∃ M, m.dir.length = M := ⟨_, rfl⟩
  rw [hM] at hdv
  have x1 : w.cell? ⟨c.d, 1, none⟩ = some (.slice da M dc) := by
    have := h.cells.cell 1 rfl
    rw [hdv] at this
    exact this
  have hF : Hid (∀ j, Calls Try.prog 36 #[.slice da M dc, .string ⟨n.toArray⟩] ((w.alloc (.cells #[.int .i64 1, .string ⟨n.toArray⟩, .string ⟨t.toArray⟩, .slice ba B bc] 31)).drewN j) fun e w' => e = .returned (.int .i64 (fidx m.dir n)) ∧ w' = (w.alloc (.cells #[.int .i64 1, .string ⟨n.toArray⟩, .string ⟨t.toArray⟩, .slice ba B bc] 31)).drewN j) := fun j => by
    have := rfind_any (h1.stay (Kept.drewN' (Only.refl _ _) j)).dir.src (by omega) n
    rw [hdv] at this
    exact this
  have HK1 := Hid.mk k1
  have H := Hid.mk h
  have HD := Hid.mk hdv
  have HM := Hid.mk hM
  have HND := Hid.mk hnd
  have hlt := h.top _ h.oD
  rw [hM] at hd
  clear h h1 hdv hM hBl k1 hnd
  go_enter Try.func35, Try.ntmps35
  go_wp2_with fail
  go_quiet ((go_at_call 36; exact Calls.quiet_of_same (hF.out _)))
  have HKq1 := Hid.mk (Kept.drewN' HK1.out nq)
  have HKr1 := Hid.mk (Kept.drewN' (Only.refl (fun _ => False) (w.alloc (.cells #[.int .i64 1, .string ⟨n.toArray⟩, .string ⟨t.toArray⟩, .slice ba B bc] 31))) nq)
  clear hF x1
  go_wp2_with fail
  refine (rbad_any n _).mono ?_
  rintro e w' ⟨rfl, hw⟩
  replace hw := hw.symm
  subst hw
  rcases fidx_look m.dir n with ⟨hl, hi⟩ | ⟨i, hi', hi, hl⟩
  · have ho : Hid (m.own ⟨1, n, t, bs⟩ = 6) := by show (match DD.look m.dir n with | none => 6 | some f => _) = _; rw [hl]
    rw [hi]
    go_wp2_with fail
    go_ret
    exact ⟨by rw [ho.out]; rfl, Kept.drewN' HK1.out _⟩
  · have hiM : i < M := by have := HM.out; omega
    have hsrc : EntSrc w (.slice da M dc) m.dir := by
      have := H.out.dir.src
      rw [HD.out] at this
      exact this
    obtain ⟨b, o, hda, e0, e1⟩ := hsrc.cell HM.out i hiM
    subst hda
    obtain ⟨F, hF⟩ : ∃ F, m.dir[i].2 = F := ⟨_, rfl⟩
    rw [hF] at e1 hl
    have hFl : F < m.files.length := by rw [← hF]; exact H.out.dirF _ (List.getElem_mem hi')
    obtain ⟨fg, fcap, fa, fk, hfv, z0⟩ := H.out.lenAt F hFl
    have z1 : w.cell? ⟨c.d, 0, none⟩ = some c.fv := H.out.cells.cell 0 rfl
    have x1 : w.cell? ⟨c.d, 1, none⟩ = some (.slice (some ⟨b, o, none⟩) M dc) := by
      have := H.out.cells.cell 1 rfl
      rw [HD.out] at this
      exact this
    have x4 : w.cell? ⟨c.d, 4, none⟩ = some (.int .i64 (m.quota : Int)) := H.out.cells.cell 4 rfl
    have hb1 := World.block_lt_of_cell? w _ e1
    have hb2 := World.block_lt_of_cell? w _ z0
    simp only at hb1 hb2
    rw [hfv] at z1
    obtain ⟨L, hL⟩ : ∃ L, (m.fileAt F).b.length = L := ⟨_, rfl⟩
    have hLL : L ≤ 16777216 := by rw [← hL]; exact H.out.lens' F
    rw [hL] at z0
    obtain ⟨NF, hNF⟩ : ∃ NF, c.fs.length = NF := ⟨_, rfl⟩
    have hFN : F < NF := by rw [← hNF, H.out.nf]; exact hFl
    rw [hNF] at z1
    have ho : Hid (m.own ⟨1, n, t, bs⟩ = if 16777216 < L + B then 2 else if m.quota < m.used + B then 11 else 0) := by
      show (match DD.look m.dir n with | none => 6 | some f => if 16777216 < (m.fileAt f).b.length + bs.length then 2 else if m.quota < m.used + bs.length then 11 else 0) = _
      rw [hl, HB.out]
      simp only [hL]
    rw [hi]
    clear hsrc hfv hL hNF hF hl hi hFl e0
    have hu : m.used ≤ 167772160000 := by
      have h1 := H.out.usedK_le m.dir.length (Nat.le_refl _)
      have h2 : usedK m m.dir.length = m.used := by unfold usedK DModel.used; rw [List.take_length]
      rw [h2] at h1
      exact Nat.le_trans h1 (Nat.mul_le_mul_right 16777216 (show m.dir.length ≤ 10000 by have := HM.out; omega))
    have hq := H.out.quota
    have HU := Hid.mk (fun W (hW : Kept w W) => rused_any (H.out.stay hW) (by have := HM.out; omega) HND.out)
    have x4' : Hid (∀ W, Kept w W → W.cell? ⟨c.d, 4, none⟩ = some (.int .i64 (m.quota : Int))) := fun W hW => (H.out.stay hW).cells.cell 4 rfl
    have y3' : Hid (∀ W, Kept (w.alloc (.cells #[.int .i64 1, .string ⟨n.toArray⟩, .string ⟨t.toArray⟩, .slice ba B bc] 31)) W → W.cell? ⟨w.heap.size, 3, none⟩ = some (.slice ba B bc)) := fun W hW => (hW.blk (Blk.new w [.int .i64 1, .string ⟨n.toArray⟩, .string ⟨t.toArray⟩, .slice ba B bc] 31) (fun f => f)).cell 3 rfl
    obtain ⟨Q, hQ⟩ : ∃ Q, m.quota = Q := ⟨_, rfl⟩
    obtain ⟨U, hU⟩ : ∃ U, m.used = U := ⟨_, rfl⟩
    rw [hQ] at hq x4 x4' ho
    rw [hU] at hu HU ho
    clear hQ hU
    by_cases hlong : 16777216 < L + B
    · rw [if_pos hlong] at ho
      have dl : decide ((16777216 : Int) < (L : Int) + (B : Int)) = true := by simp; omega
      go_wp2_with fail
      go_quiet (fail)
      go_wp2_with fail
      go_ret
      exact ⟨by rw [ho.out]; rfl, by first | exact Kept.drewN' (Kept.drewN' HK1.out _) _ | exact Kept.drewN' HK1.out _⟩
    · rw [if_neg hlong] at ho
      have dl : decide ((16777216 : Int) < (L : Int) + (B : Int)) = false := by simp; omega
      go_wp2_with fail
      go_quiet (fail)
      have HKq := Hid.mk (Kept.drewN' HKq1.out nq)
      have HKr := Hid.mk (Kept.drewN' HKr1.out nq)
      clear e1 z0 z1 x1
      go_wp2_with fail
      go_region_held3 (fun w' => w'.cell? ⟨c.d, 4, none⟩ = some (.int .i64 (Q : Int)) ∧ w'.cell? ⟨w.heap.size, 3, none⟩ = some (.slice ba B bc))
        (first | exact ⟨x4'.out w1 hk1, y3'.out w1 hk2⟩ | exact ⟨x4'.out _ (Kept.drewN' HK1.out _), y3'.out _ (Kept.drewN' (Only.refl (fun _ => False) _) _)⟩ | exact ⟨x4'.out _ HKq.out.drew, y3'.out _ HKr.out.drew⟩)
        ((go_at_call 65; refine (HU.out _ (Kept.drewN' HK1.out _)).mono ?_; rintro e w1 ⟨rfl, hk1'⟩; have hk1 : Kept w w1 := (Kept.drewN' HK1.out _).trans hk1' (fun _ _ f => f); have hk2 := (Kept.drewN' (Only.refl (fun _ => False) (w.alloc (.cells #[.int .i64 1, .string ⟨n.toArray⟩, .string ⟨t.toArray⟩, .slice ba B bc] 31))) _).trans hk1' (fun _ _ f => f)))
      have e1 : IntKind.i64.wrap ((U : Int) + (B : Int)) = (U : Int) + (B : Int) := wrap_id (by omega) (by omega)
      rw [e1]
      by_cases hfull : Q < U + B
      · rw [if_pos hfull] at ho
        have df : decide ((Q : Int) < (U : Int) + (B : Int)) = true := by simp; omega
        go_wp2_with fail
        go_ret
        exact ⟨by rw [ho.out]; rfl, hk1⟩
      · rw [if_neg hfull] at ho
        have df : decide ((Q : Int) < (U : Int) + (B : Int)) = false := by simp; omega
        go_wp2_with fail
        go_ret
        exact ⟨by rw [ho.out]; rfl, hk1⟩

set_option maxRecDepth 100000 in
set_option maxHeartbeats 800000 in
theorem rown2 (h : RAt w c O m) (hd : m.dir.length ≤ 10000) (hnd : (m.dir.map (·.2)).Nodup) (n t bs : List UInt8) (ba : Option Addr) (bc : Nat) (hB : bs.length ≤ 1000000) :
    Calls Try.prog 35 #[.pointer (some ⟨c.d, 0, none⟩), .agg #[.int .i64 2, .string ⟨n.toArray⟩, .string ⟨t.toArray⟩, .slice ba bs.length bc]] w fun e w' => e = .returned (.int .i64 (m.own ⟨2, n, t, bs⟩ : Int)) ∧ Kept w w' := by
  obtain ⟨B, hBl⟩ : ∃ B, bs.length = B := ⟨_, rfl⟩
  have HB := Hid.mk hBl
  rw [hBl] at hB ⊢
  have k1 : Kept w (w.alloc (.cells #[.int .i64 2, .string ⟨n.toArray⟩, .string ⟨t.toArray⟩, .slice ba B bc] 31)) := (Only.refl _ w).alloc _
  have h1 := h.stay k1
  obtain ⟨da, dc, hdv⟩ := ownN_slice h.dir
  obtain ⟨M, hM⟩ : ∃ M, m.dir.length = M := ⟨_, rfl⟩
  rw [hM] at hdv
  have x1 : w.cell? ⟨c.d, 1, none⟩ = some (.slice da M dc) := by
    have := h.cells.cell 1 rfl
    rw [hdv] at this
    exact this
  have hF : Hid (∀ j, Calls Try.prog 36 #[.slice da M dc, .string ⟨n.toArray⟩] ((w.alloc (.cells #[.int .i64 2, .string ⟨n.toArray⟩, .string ⟨t.toArray⟩, .slice ba B bc] 31)).drewN j) fun e w' => e = .returned (.int .i64 (fidx m.dir n)) ∧ w' = (w.alloc (.cells #[.int .i64 2, .string ⟨n.toArray⟩, .string ⟨t.toArray⟩, .slice ba B bc] 31)).drewN j) := fun j => by
    have := rfind_any (h1.stay (Kept.drewN' (Only.refl _ _) j)).dir.src (by omega) n
    rw [hdv] at this
    exact this
  have HK1 := Hid.mk k1
  have H := Hid.mk h
  have HD := Hid.mk hdv
  have HM := Hid.mk hM
  have HND := Hid.mk hnd
  have hlt := h.top _ h.oD
  rw [hM] at hd
  clear h h1 hdv hM hBl k1 hnd
  go_enter Try.func35, Try.ntmps35
  go_wp2_with fail
  go_quiet ((go_at_call 36; exact Calls.quiet_of_same (hF.out _)))
  have HKq1 := Hid.mk (Kept.drewN' HK1.out nq)
  have HKr1 := Hid.mk (Kept.drewN' (Only.refl (fun _ => False) (w.alloc (.cells #[.int .i64 2, .string ⟨n.toArray⟩, .string ⟨t.toArray⟩, .slice ba B bc] 31))) nq)
  clear hF x1
  go_wp2_with fail
  refine (rbad_any n _).mono ?_
  rintro e w' ⟨rfl, hw⟩
  replace hw := hw.symm
  subst hw
  rcases fidx_look m.dir n with ⟨hl, hi⟩ | ⟨i, hi', hi, hl⟩
  · have ho : Hid (m.own ⟨2, n, t, bs⟩ = 6) := by show (if (DD.look m.dir n).isSome then 0 else 6) = _; rw [hl]; rfl
    rw [hi]
    go_wp2_with fail
    go_ret
    exact ⟨by rw [ho.out]; rfl, Kept.drewN' HK1.out _⟩
  · have ho : Hid (m.own ⟨2, n, t, bs⟩ = 0) := by show (if (DD.look m.dir n).isSome then 0 else 6) = _; rw [hl]; rfl
    rw [hi]
    go_wp2_with fail
    go_ret
    exact ⟨by rw [ho.out]; rfl, Kept.drewN' HK1.out _⟩

set_option maxRecDepth 100000 in
set_option maxHeartbeats 800000 in
theorem rown3 (h : RAt w c O m) (hd : m.dir.length ≤ 10000) (hnd : (m.dir.map (·.2)).Nodup) (n t bs : List UInt8) (ba : Option Addr) (bc : Nat) (hB : bs.length ≤ 1000000) :
    Calls Try.prog 35 #[.pointer (some ⟨c.d, 0, none⟩), .agg #[.int .i64 3, .string ⟨n.toArray⟩, .string ⟨t.toArray⟩, .slice ba bs.length bc]] w fun e w' => e = .returned (.int .i64 (m.own ⟨3, n, t, bs⟩ : Int)) ∧ Kept w w' := by
  obtain ⟨B, hBl⟩ : ∃ B, bs.length = B := ⟨_, rfl⟩
  have HB := Hid.mk hBl
  rw [hBl] at hB ⊢
  have k1 : Kept w (w.alloc (.cells #[.int .i64 3, .string ⟨n.toArray⟩, .string ⟨t.toArray⟩, .slice ba B bc] 31)) := (Only.refl _ w).alloc _
  have h1 := h.stay k1
  obtain ⟨da, dc, hdv⟩ := ownN_slice h.dir
  obtain ⟨M, hM⟩ : ∃ M, m.dir.length = M := ⟨_, rfl⟩
  rw [hM] at hdv
  have x1 : w.cell? ⟨c.d, 1, none⟩ = some (.slice da M dc) := by
    have := h.cells.cell 1 rfl
    rw [hdv] at this
    exact this
  have hF : Hid (∀ j, Calls Try.prog 36 #[.slice da M dc, .string ⟨n.toArray⟩] ((w.alloc (.cells #[.int .i64 3, .string ⟨n.toArray⟩, .string ⟨t.toArray⟩, .slice ba B bc] 31)).drewN j) fun e w' => e = .returned (.int .i64 (fidx m.dir n)) ∧ w' = (w.alloc (.cells #[.int .i64 3, .string ⟨n.toArray⟩, .string ⟨t.toArray⟩, .slice ba B bc] 31)).drewN j) := fun j => by
    have := rfind_any (h1.stay (Kept.drewN' (Only.refl _ _) j)).dir.src (by omega) n
    rw [hdv] at this
    exact this
  have HK1 := Hid.mk k1
  have H := Hid.mk h
  have HD := Hid.mk hdv
  have HM := Hid.mk hM
  have HND := Hid.mk hnd
  have hlt := h.top _ h.oD
  rw [hM] at hd
  clear h h1 hdv hM hBl k1 hnd
  go_enter Try.func35, Try.ntmps35
  go_wp2_with fail
  go_quiet ((go_at_call 36; exact Calls.quiet_of_same (hF.out _)))
  have HKq1 := Hid.mk (Kept.drewN' HK1.out nq)
  have HKr1 := Hid.mk (Kept.drewN' (Only.refl (fun _ => False) (w.alloc (.cells #[.int .i64 3, .string ⟨n.toArray⟩, .string ⟨t.toArray⟩, .slice ba B bc] 31))) nq)
  clear hF x1
  go_wp2_with fail
  refine (rbad_any n _).mono ?_
  rintro e w' ⟨rfl, hw⟩
  replace hw := hw.symm
  subst hw
  rcases fidx_look m.dir n with ⟨hl, hi⟩ | ⟨i, hi', hi, hl⟩
  · have ho : Hid (m.own ⟨3, n, t, bs⟩ = 6) := by show (if (DD.look m.dir n).isSome then (if namedB t = false then 1 else 0) else 6) = _; rw [hl]; rfl
    rw [hi]
    go_wp2_with fail
    go_ret
    exact ⟨by rw [ho.out]; rfl, Kept.drewN' HK1.out _⟩
  · rw [hi]
    cases hbad : namedB t
    · have ho : Hid (m.own ⟨3, n, t, bs⟩ = 1) := by show (if (DD.look m.dir n).isSome then (if namedB t = false then 1 else 0) else 6) = _; rw [hl, hbad]; rfl
      go_wp2_with (go_at_call 64; refine (rbad_any t _).mono ?_; rintro e w' ⟨rfl, hw⟩; replace hw := hw.symm; subst hw; rw [hbad])
      go_ret
      exact ⟨by rw [ho.out]; rfl, Kept.drewN' HK1.out _⟩
    · have ho : Hid (m.own ⟨3, n, t, bs⟩ = 0) := by show (if (DD.look m.dir n).isSome then (if namedB t = false then 1 else 0) else 6) = _; rw [hl, hbad]; rfl
      go_wp2_with (go_at_call 64; refine (rbad_any t _).mono ?_; rintro e w' ⟨rfl, hw⟩; replace hw := hw.symm; subst hw; rw [hbad])
      go_ret
      exact ⟨by rw [ho.out]; rfl, Kept.drewN' HK1.out _⟩

set_option maxRecDepth 100000 in
set_option maxHeartbeats 800000 in
theorem rown4 (h : RAt w c O m) (hd : m.dir.length ≤ 10000) (hnd : (m.dir.map (·.2)).Nodup) (n t bs : List UInt8) (ba : Option Addr) (bc : Nat) (hB : bs.length ≤ 1000000) :
    Calls Try.prog 35 #[.pointer (some ⟨c.d, 0, none⟩), .agg #[.int .i64 4, .string ⟨n.toArray⟩, .string ⟨t.toArray⟩, .slice ba bs.length bc]] w fun e w' => e = .returned (.int .i64 (m.own ⟨4, n, t, bs⟩ : Int)) ∧ Kept w w' := by
  obtain ⟨B, hBl⟩ : ∃ B, bs.length = B := ⟨_, rfl⟩
  have HB := Hid.mk hBl
  rw [hBl] at hB ⊢
  have k1 : Kept w (w.alloc (.cells #[.int .i64 4, .string ⟨n.toArray⟩, .string ⟨t.toArray⟩, .slice ba B bc] 31)) := (Only.refl _ w).alloc _
  have h1 := h.stay k1
  obtain ⟨da, dc, hdv⟩ := ownN_slice h.dir
  obtain ⟨M, hM⟩ : ∃ M, m.dir.length = M := ⟨_, rfl⟩
  rw [hM] at hdv
  have x1 : w.cell? ⟨c.d, 1, none⟩ = some (.slice da M dc) := by
    have := h.cells.cell 1 rfl
    rw [hdv] at this
    exact this
  have hF : Hid (∀ j, Calls Try.prog 36 #[.slice da M dc, .string ⟨n.toArray⟩] ((w.alloc (.cells #[.int .i64 4, .string ⟨n.toArray⟩, .string ⟨t.toArray⟩, .slice ba B bc] 31)).drewN j) fun e w' => e = .returned (.int .i64 (fidx m.dir n)) ∧ w' = (w.alloc (.cells #[.int .i64 4, .string ⟨n.toArray⟩, .string ⟨t.toArray⟩, .slice ba B bc] 31)).drewN j) := fun j => by
    have := rfind_any (h1.stay (Kept.drewN' (Only.refl _ _) j)).dir.src (by omega) n
    rw [hdv] at this
    exact this
  have HK1 := Hid.mk k1
  have H := Hid.mk h
  have HD := Hid.mk hdv
  have HM := Hid.mk hM
  have HND := Hid.mk hnd
  have hlt := h.top _ h.oD
  rw [hM] at hd
  clear h h1 hdv hM hBl k1 hnd
  go_enter Try.func35, Try.ntmps35
  go_wp2_with fail
  go_quiet ((go_at_call 36; exact Calls.quiet_of_same (hF.out _)))
  have HKq1 := Hid.mk (Kept.drewN' HK1.out nq)
  have HKr1 := Hid.mk (Kept.drewN' (Only.refl (fun _ => False) (w.alloc (.cells #[.int .i64 4, .string ⟨n.toArray⟩, .string ⟨t.toArray⟩, .slice ba B bc] 31))) nq)
  clear hF x1
  go_wp2_with fail
  refine (rbad_any n _).mono ?_
  rintro e w' ⟨rfl, hw⟩
  replace hw := hw.symm
  subst hw
  rcases fidx_look m.dir n with ⟨hl, hi⟩ | ⟨i, hi', hi, hl⟩
  · have ho : Hid (m.own ⟨4, n, t, bs⟩ = 6) := by show (if (DD.look m.dir n).isSome then 0 else 6) = _; rw [hl]; rfl
    rw [hi]
    go_wp2_with fail
    go_ret
    exact ⟨by rw [ho.out]; rfl, Kept.drewN' HK1.out _⟩
  · have ho : Hid (m.own ⟨4, n, t, bs⟩ = 0) := by show (if (DD.look m.dir n).isSome then 0 else 6) = _; rw [hl]; rfl
    rw [hi]
    go_wp2_with fail
    go_ret
    exact ⟨by rw [ho.out]; rfl, Kept.drewN' HK1.out _⟩

set_option maxRecDepth 100000 in
set_option maxHeartbeats 800000 in
theorem rown5 (h : RAt w c O m) (hd : m.dir.length ≤ 10000) (hnd : (m.dir.map (·.2)).Nodup) (n t bs : List UInt8) (ba : Option Addr) (bc : Nat) (hB : bs.length ≤ 1000000) :
    Calls Try.prog 35 #[.pointer (some ⟨c.d, 0, none⟩), .agg #[.int .i64 5, .string ⟨n.toArray⟩, .string ⟨t.toArray⟩, .slice ba bs.length bc]] w fun e w' => e = .returned (.int .i64 (m.own ⟨5, n, t, bs⟩ : Int)) ∧ Kept w w' := by
  obtain ⟨B, hBl⟩ : ∃ B, bs.length = B := ⟨_, rfl⟩
  have HB := Hid.mk hBl
  rw [hBl] at hB ⊢
  have k1 : Kept w (w.alloc (.cells #[.int .i64 5, .string ⟨n.toArray⟩, .string ⟨t.toArray⟩, .slice ba B bc] 31)) := (Only.refl _ w).alloc _
  have h1 := h.stay k1
  obtain ⟨da, dc, hdv⟩ := ownN_slice h.dir
  obtain ⟨M, hM⟩ : ∃ M, m.dir.length = M := ⟨_, rfl⟩
  rw [hM] at hdv
  have x1 : w.cell? ⟨c.d, 1, none⟩ = some (.slice da M dc) := by
    have := h.cells.cell 1 rfl
    rw [hdv] at this
    exact this
  have hF : Hid (∀ j, Calls Try.prog 36 #[.slice da M dc, .string ⟨n.toArray⟩] ((w.alloc (.cells #[.int .i64 5, .string ⟨n.toArray⟩, .string ⟨t.toArray⟩, .slice ba B bc] 31)).drewN j) fun e w' => e = .returned (.int .i64 (fidx m.dir n)) ∧ w' = (w.alloc (.cells #[.int .i64 5, .string ⟨n.toArray⟩, .string ⟨t.toArray⟩, .slice ba B bc] 31)).drewN j) := fun j => by
    have := rfind_any (h1.stay (Kept.drewN' (Only.refl _ _) j)).dir.src (by omega) n
    rw [hdv] at this
    exact this
  have HK1 := Hid.mk k1
  have H := Hid.mk h
  have HD := Hid.mk hdv
  have HM := Hid.mk hM
  have HND := Hid.mk hnd
  have hlt := h.top _ h.oD
  rw [hM] at hd
  clear h h1 hdv hM hBl k1 hnd
  go_enter Try.func35, Try.ntmps35
  go_wp2_with fail
  go_quiet ((go_at_call 36; exact Calls.quiet_of_same (hF.out _)))
  have HKq1 := Hid.mk (Kept.drewN' HK1.out nq)
  have HKr1 := Hid.mk (Kept.drewN' (Only.refl (fun _ => False) (w.alloc (.cells #[.int .i64 5, .string ⟨n.toArray⟩, .string ⟨t.toArray⟩, .slice ba B bc] 31))) nq)
  clear hF x1
  go_wp2_with fail
  refine (rbad_any n _).mono ?_
  rintro e w' ⟨rfl, hw⟩
  replace hw := hw.symm
  subst hw
  have ho : Hid (m.own ⟨5, n, t, bs⟩ = 0) := rfl
  rcases fidx_look m.dir n with ⟨hl, hi⟩ | ⟨i, hi', hi, hl⟩
  · rw [hi]
    go_wp2_with fail
    go_ret
    exact ⟨by rw [ho.out]; rfl, Kept.drewN' HK1.out _⟩
  · rw [hi]
    go_wp2_with fail
    go_ret
    exact ⟨by rw [ho.out]; rfl, Kept.drewN' HK1.out _⟩
end
end Go.Proofs.Ytfmdnaagdhpcpaa
