/-
  The document's own disk: a crash, its pieces.
-/
import Derived.Test.YtpjedcfdchebgaaEbytes
namespace Go.Proofs.Ytpjedcfdchebgaa
open Go.RowKit Go.Proofs.Lys Go.Maps Go.Shelf
set_option linter.unusedVariables false

/-- The disk within a crash. -/
structure Cr (w : World) (O : Nat → Prop) (w5 : World) (c5 : RConc) (m5 : DModel) : Prop where
  at5 : RAt w5 c5 (Grow O w w5) m5
  only : Only O w w5
  top : ∀ k, O k → k < w.heap.size

section
variable {w w5 w6 : World} {c c5 c6 : RConc} {O : Nat → Prop} {m m5 m6 : DModel}
theorem Cr.start (h : RAt w c O m) : Cr w O w c m := ⟨h.mono (fun k h => .inl h) (fun k hk => hk.elim (h.top k) (·.2)), Only.refl _ _, h.top⟩
theorem Cr.stay (N : Cr w O w5 c5 m5) (k : Kept w5 w6) : Cr w O w6 c5 m5 :=
  ⟨(N.at5.stay k).mono (fun j hj => hj.elim .inl (fun h => .inr ⟨h.1, Nat.lt_of_lt_of_le h.2 k.size⟩)) (fun j hj => hj.elim (fun h => Nat.lt_of_lt_of_le (Nat.lt_of_lt_of_le (N.top j h) N.only.size) k.size) (·.2)), N.only.trans k (fun _ _ f => f.elim), N.top⟩
theorem Cr.step (N : Cr w O w5 c5 m5) (h6 : RAt w6 c6 (Grow (Grow O w w5) w5 w6) m6) (k6 : Only (Grow O w w5) w5 w6) : Cr w O w6 c6 m6 := by
  have hb := N.only.size
  have hs := k6.size
  refine ⟨h6.mono (fun j hj => ?_) (fun j hj => ?_), N.only.trans k6 (fun j hj e => ?_), N.top⟩
  · rcases hj with (hj | hj) | hj
    · exact .inl hj
    · exact .inr ⟨hj.1, by omega⟩
    · exact .inr ⟨by omega, hj.2⟩
  · rcases hj with hj | hj
    · have := N.top j hj
      omega
    · exact hj.2
  · rcases e with e | e
    · exact e
    · omega

/-- Another sure directory. -/
theorem Cr.sure {v : Value} {dn : DDir} (N : Cr w O w5 c5 m5) (k : Kept w5 w6) (hv : EntAt w6 w5.heap.size v dn) :
    Blk w6 c5.d (RCells c5 m5) 70 ∧ Cr w O (w6.setCell ⟨c5.d, 2, none⟩ v) { c5 with sv := v } { m5 with sure := dn } := by
  have k5 : Only (· = c5.d) w6 (w6.setCell ⟨c5.d, 2, none⟩ v) := (Only.refl (fun x => x = c5.d) w6).setCell (fun _ => rfl) _
  have h := N.at5
  have h6 := h.stay k
  have kt : Only (Grow O w w5) w5 (w6.setCell ⟨c5.d, 2, none⟩ v) := (k.mono (fun _ _ f => f.elim)).trans k5 (fun j _ e => e ▸ h.oD)
  refine ⟨h6.cells, N.step (rat_close (w4 := w6) h6.files h6.fsm h6.bytes h6.lens h6.dir (ownN_base hv (Nat.zero_le _)) h6.acts h6.acm h6.quota h6.dirF h6.cells.typed k5 (h6.cells.set 2 v) (.inl h.oD) (fun k e => .inl (h.oF k e)) (fun p hp k e => .inl (h.oB p hp k e)) (fun k e => .inl (h.oDir k e)) (fun j e => ?_) (fun k e => .inl (h.oAct k e)) (fun j hj => ?_)) kt⟩
  · have := ownN_lt hv e
    exact .inr ⟨this.1, Nat.lt_of_lt_of_le this.2 k5.size⟩
  · rcases hj with hj | hj
    · exact Nat.lt_of_lt_of_le (h.top j hj) kt.size
    · exact hj.2

/-- The acts are gone; the directory is a copy of the sure one. -/
theorem Cr.turn {v : Value} (N : Cr w O w5 c5 m5) (k : Kept (w5.setCell ⟨c5.d, 3, none⟩ (.slice none 0 0)) w6) (hv : EntAt w6 (w5.setCell ⟨c5.d, 3, none⟩ (.slice none 0 0)).heap.size v m5.sure) (hF : ∀ p ∈ m5.sure, p.2 < m5.files.length) :
    Blk w6 c5.d (RCells { c5 with av := .slice none 0 0, ac := [] } { m5 with acts := [] }) 70 ∧ Cr w O (w6.setCell ⟨c5.d, 1, none⟩ v) { c5 with av := .slice none 0 0, ac := [], dv := v } { m5 with acts := [], dir := m5.sure } := by
  have h := N.at5
  have k4 : Only (· = c5.d) w5 (w5.setCell ⟨c5.d, 3, none⟩ (.slice none 0 0)) := (Only.refl (fun x => x = c5.d) w5).setCell (fun _ => rfl) _
  have h4 : Cr w O (w5.setCell ⟨c5.d, 3, none⟩ (.slice none 0 0)) { c5 with av := .slice none 0 0, ac := [] } { m5 with acts := [] } := by
    refine N.step (rat_close (w4 := w5) h.files h.fsm h.bytes h.lens h.dir h.sure ⟨rfl, .inl ⟨rfl, rfl⟩⟩ rfl h.quota h.dirF h.cells.typed k4 (h.cells.set 3 _) (.inl h.oD) (fun k e => .inl (h.oF k e)) (fun p hp k e => .inl (h.oB p hp k e)) (fun k e => .inl (h.oDir k e)) (fun k e => .inl (h.oSure k e)) (fun k e => by cases e) (fun j hj => ?_)) (k4.mono (fun j _ e => e ▸ h.oD))
    rcases hj with hj | hj
    · exact Nat.lt_of_lt_of_le (h.top j hj) k4.size
    · exact hj.2
  have hnew := h4.at5.newDir k hv hF
  exact ⟨(h4.at5.stay k).cells, h4.step hnew.1 hnew.2⟩

/-- A file turns. -/
theorem Cr.file (N : Cr w O w5 c5 m5) {F fg fcap : Nat} {v' : Value} {b' : List UInt8} (hF : F < c5.fs.length) (k : Kept w5 w6) (hv : w6.ownsRow w5.heap.size 5 1 v' b'.length (b'.map bV)) (hl : b'.length ≤ 16777216) (hfv : c5.fv = .slice (some ⟨fg, 0, none⟩) c5.fs.length fcap) :
    Cr w O ((w6.setCell ⟨fg, F * 2, none⟩ v').setCell ⟨fg, F * 2 + 1, none⟩ (.int .i64 (b'.length : Int))) { c5 with fs := c5.fs.set F (v', ⟨b', b'.length⟩) } { m5 with files := m5.files.set F ⟨b', b'.length⟩ } := by
  have N6 := N.stay k
  have h6 := N6.at5
  have k7 : Only (fun k => c5.fv.ownBlock = some k) w6 ((w6.setCell ⟨fg, F * 2, none⟩ v').setCell ⟨fg, F * 2 + 1, none⟩ (.int .i64 (b'.length : Int))) := ((Only.refl (fun k => c5.fv.ownBlock = some k) _).setCell (fun _ => by rw [hfv]; rfl) _).setCell (fun _ => by rw [hfv]; rfl) _
  have kt : Only (Grow O w w6) w6 ((w6.setCell ⟨fg, F * 2, none⟩ v').setCell ⟨fg, F * 2 + 1, none⟩ (.int .i64 (b'.length : Int))) := k7.mono (fun j _ e => h6.oF j e)
  have ne : ∀ {e : TypeId} {k : Nat}, Typed w6 k e → e ≠ 77 → ¬ c5.fv.ownBlock = some k := fun ht hne e => ht.ne (ownN_typed h6.files e) hne rfl
  refine N6.step (h6.setFile hF k7 ?_ (ownN_base (ownN_only hv k7 (fun b e => ne (ownN_typed hv e) (by decide))) (Nat.zero_le _)) ⟨hl, Nat.le_refl _⟩ (fun j hj => .inl hj) (fun j e => ?_) (fun j hj => ?_)) kt
  · have hf2 := h6.files
    rw [hfv] at hf2
    have h1 := (hf2.stored (F * 2) v').1
    have h2 := (h1.stored (F * 2 + 1) (.int .i64 (b'.length : Int))).1
    rw [filL_set _ _ _ _ hF, hfv]
    exact h2
  · have := ownN_lt hv e
    have hb := N.only.size
    exact .inl (.inr ⟨by omega, this.2⟩)
  · rcases hj with hj | hj
    · exact Nat.lt_of_lt_of_le (h6.top j hj) k7.size
    · exact hj.2
end

theorem rem_two (x : Int) : (x.tmod 2 == 0) = !DModel.oddB x := by
  unfold DModel.oddB
  have h1 := Int.tmod_eq_emod_of_nonneg (a := x) (b := 2)
  by_cases h0 : 0 ≤ x
  · rw [h1 h0]
    by_cases h2 : x % 2 = 0 <;> simp [h2]
  · have h3 : (x.tmod 2 = 0) ↔ (x % 2 = 0) := by
      rw [← Int.dvd_iff_tmod_eq_zero, Int.dvd_iff_emod_eq_zero]
    by_cases h2 : x % 2 = 0
    · simp [h2, h3.2 h2]
    · have : ¬ x.tmod 2 = 0 := fun h => h2 (h3.1 h)
      simp [h2, this]
theorem plain_name (a : DAct) : (plainAct a).name = a.name ∧ (plainAct a).to = a.to ∧ (plainAct a).kind = a.kind := by
  unfold plainAct
  split
  · rename_i h
    exact ⟨rfl, rfl, h.symm⟩
  · exact ⟨rfl, rfl, rfl⟩
theorem act_plain (d : DDir) (a : DAct) : DD.act d (plainAct a) = DD.act d a := by
  unfold plainAct
  split
  · rename_i h
    unfold DD.act
    simp [h]
  · rfl
end Go.Proofs.Ytpjedcfdchebgaa
