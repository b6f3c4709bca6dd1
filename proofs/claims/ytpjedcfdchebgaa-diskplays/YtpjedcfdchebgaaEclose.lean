/-
  The document's own disk: rows turn, then its cells.
-/
import Derived.Test.YtpjedcfdchebgaaEset
namespace Go.Proofs.Ytpjedcfdchebgaa
open Go.RowKit Go.Proofs.Lys Go.Maps Go.Shelf
set_option linter.unusedVariables false

/-- All rows are there, then the disk's own cells are stored. -/
theorem rat_close {w4 w5 : World} {c : RConc} {O : Nat → Prop} {m : DModel} (files : w4.ownsRow 0 77 2 c.fv c.fs.length (filL c.fs)) (fsm : c.fs.map (·.2) = m.files) (bytes : ∀ p ∈ c.fs, w4.ownsRow 0 5 1 p.1 p.2.b.length (p.2.b.map bV)) (lens : ∀ p ∈ c.fs, p.2.b.length ≤ 16777216 ∧ p.2.sure ≤ p.2.b.length)
    (dir : EntAt w4 0 c.dv m.dir) (sure : EntAt w4 0 c.sv m.sure) (acts : w4.ownsRow 0 80 4 c.av c.ac.length (actL c.ac)) (acm : c.ac.map plainAct = m.acts) (quota : m.quota ≤ 67108864) (dirF : ∀ p ∈ m.dir, p.2 < m.files.length)
    (hD : Typed w4 c.d 70) (k5 : Only (· = c.d) w4 w5) (cells : Blk w5 c.d (RCells c m) 70)
    (oD : O c.d) (oF : ∀ k, c.fv.ownBlock = some k → O k) (oB : ∀ p ∈ c.fs, ∀ k, p.1.ownBlock = some k → O k) (oDir : ∀ k, c.dv.ownBlock = some k → O k) (oSure : ∀ k, c.sv.ownBlock = some k → O k) (oAct : ∀ k, c.av.ownBlock = some k → O k) (top : ∀ k, O k → k < w5.heap.size) : RAt w5 c O m :=
  { cells := cells
    files := ownN_only files k5 (fun b hb e => (ownN_typed files hb).ne hD (by decide) e)
    fsm := fsm
    bytes := fun p hp => ownN_only (bytes p hp) k5 (fun b hb e => (ownN_typed (bytes p hp) hb).ne hD (by decide) e)
    lens := lens
    dir := ownN_only dir k5 (fun b hb e => (ownN_typed dir hb).ne hD (by decide) e)
    sure := ownN_only sure k5 (fun b hb e => (ownN_typed sure hb).ne hD (by decide) e)
    acts := ownN_only acts k5 (fun b hb e => (ownN_typed acts hb).ne hD (by decide) e)
    acm := acm, quota := quota, dirF := dirF, oD := oD, oF := oF, oB := oB, oDir := oDir, oSure := oSure, oAct := oAct, top := top }

/-- A copy of entries. -/
theorem ent_copy {w : World} {xv : Value} {q : DDir} (hsrc : EntSrc w xv q) (hl : q.length ≤ 100000) :
    ∃ a cap w', Hid ((Builtin.append_ #[67, 67] 0 #[.slice none 0 0, xv]).run Try.prog w = .ok (.slice a q.length cap) w') ∧ EntAt w' w.heap.size (.slice a q.length cap) q ∧ Kept w w' := by
  obtain ⟨v', w', hr, h1, h2, h3⟩ := ent_append (w := w) (B := w.heap.size) (v := .slice none 0 0) (l := []) ⟨rfl, .inl ⟨rfl, rfl⟩⟩ hsrc (by simp; omega) (Nat.le_refl _)
  rw [List.nil_append] at h1
  obtain ⟨a, cap, rfl⟩ := ownN_slice h1
  exact ⟨a, cap, w', hr, h1, (Only.refl _ w).grown h2 (fun j hj => by cases hj)⟩

section
variable {w : World} {c : RConc} {O : Nat → Prop} {m : DModel}
/-- The directory is made sure. -/
theorem mid_dir {w3 w4 : World} {vs : List Value} {n t bs : List UInt8} {sv : Value} (M : Mid w c O m vs w3) (h : RAt w c O m) (k4 : Kept w3 w4) (hs : EntAt w4 w3.heap.size sv m.count.dir) (hE : m.doOp ⟨5, n, t, bs⟩ = (0, m.count.done ⟨5, n, t, bs⟩)) :
    RPost w c O m ⟨5, n, t, bs⟩ (.returned (.int .i64 ((0 : Nat) : Int))) ((w4.setCell ⟨c.d, 2, none⟩ sv).setCell ⟨c.d, 3, none⟩ (.slice none 0 0)) := by
  have h4 := M.at3.stay k4
  have k5 : Only (· = c.d) w4 ((w4.setCell ⟨c.d, 2, none⟩ sv).setCell ⟨c.d, 3, none⟩ (.slice none 0 0)) := ((Only.refl (fun x => x = c.d) w4).setCell (fun _ => rfl) _).setCell (fun _ => rfl) _
  have kt : Only O w ((w4.setCell ⟨c.d, 2, none⟩ sv).setCell ⟨c.d, 3, none⟩ (.slice none 0 0)) := (M.only.trans k4 (fun _ _ f => f.elim)).trans k5 (fun j _ e => e ▸ h.oD)
  have hgr : ∀ k, w3.heap.size ≤ k → k < w4.heap.size → Grow O w ((w4.setCell ⟨c.d, 2, none⟩ sv).setCell ⟨c.d, 3, none⟩ (.slice none 0 0)) k := fun k h1 h2 => .inr ⟨Nat.le_trans (Nat.le_of_lt M.big) h1, Nat.lt_of_lt_of_le h2 k5.size⟩
  unfold RPost
  rw [hE]
  refine ⟨rfl, kt, { c with sv := sv, av := .slice none 0 0, ac := [] }, rfl, ?_⟩
  show RAt _ _ _ ({ m.count with sure := m.count.dir, acts := [] } : DModel)
  refine rat_close h4.files h4.fsm h4.bytes h4.lens h4.dir (ownN_base hs (Nat.zero_le _)) ⟨rfl, .inl ⟨rfl, rfl⟩⟩ rfl h4.quota h4.dirF h4.cells.typed k5 ?_ (.inl h.oD) (fun k e => .inl (h4.oF k e)) (fun p hp k e => .inl (h4.oB p hp k e)) (fun k e => .inl (h4.oDir k e)) (fun k e => ?_) (fun k e => by cases e) (fun k hk => ?_)
  · exact (h4.cells.set 2 sv).set 3 (.slice none 0 0)
  · have := ownN_lt hs e
    exact hgr k this.1 this.2
  · rcases hk with hk | hk
    · exact Nat.lt_of_lt_of_le (h.top k hk) kt.size
    · exact hk.2
end
end Go.Proofs.Ytpjedcfdchebgaa
