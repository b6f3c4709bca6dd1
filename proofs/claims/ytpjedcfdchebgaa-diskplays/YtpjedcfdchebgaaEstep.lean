/-
  The document's own disk: an act more, another directory.
-/
import Derived.Test.YtpjedcfdchebgaaEclose
namespace Go.Proofs.Ytpjedcfdchebgaa
open Go.RowKit Go.Proofs.Lys Go.Maps Go.Shelf
set_option linter.unusedVariables false

theorem Try.infoA : (Try.prog.info? 80).map (fun i => (i.zero, i.size, i.bytes)) = some (some (.agg #[.int .i64 0, .string ⟨#[]⟩, .string ⟨#[]⟩, .int .i64 0]), 4, 48) := by kernel_rfl

def actC (a : DAct) : List Value := [.int .i64 (a.kind : Int), .string ⟨a.name.toArray⟩, .string ⟨a.to.toArray⟩, .int .i64 (a.file : Int)]
theorem actL_one (a : DAct) : actL [a] = actC a := rfl

section
variable {w : World} {c : RConc} {O : Nat → Prop} {m : DModel}
/-- The row of acts grows by one. -/
theorem act_step (h : RAt w c O m) (a : DAct) (hl : c.ac.length ≤ 100000) :
    ∃ g cap w4, Hid ((Builtin.append_ #[68, 68] 0 #[c.av, .slice (some ⟨w.heap.size, 0, none⟩) 1 1]).run Try.prog (w.alloc (.cells #[.int .i64 (a.kind : Int), .string ⟨a.name.toArray⟩, .string ⟨a.to.toArray⟩, .int .i64 (a.file : Int)] 80)).drew = .ok (.slice (some ⟨g, 0, none⟩) (c.ac.length + 1) cap) w4) ∧
      w4.ownsRow 0 80 4 (.slice (some ⟨g, 0, none⟩) (c.ac.length + 1) cap) (c.ac.length + 1) (actL (c.ac ++ [a])) ∧ Only (fun k => c.av.ownBlock = some k) w w4 ∧ (c.av.ownBlock = some g ∨ w.heap.size ≤ g) ∧ g < w4.heap.size := by
  obtain ⟨i0, hi0, hz0, hz1, hz2⟩ := info_parts Try.infoA
  have k1 : Kept w (w.alloc (.cells #[.int .i64 (a.kind : Int), .string ⟨a.name.toArray⟩, .string ⟨a.to.toArray⟩, .int .i64 (a.file : Int)] 80)).drew := ((Only.refl _ w).alloc _).drew
  have hb := (Blk.new w (actC a) 80).drew
  have hm : c.ac.length + 1 ≤ maxLen := by unfold maxLen; omega
  obtain ⟨v', w', hr, h2, h3, _, h5⟩ := run_append_own_at (P := Try.prog) _ 0 68 0 _ i0 _ 4 48 Try.underlying68 hi0 hz0 hz1 hz2 rfl (by decide) c.av c.ac.length (actL c.ac) (ownN_stay h.acts k1) ⟨w.heap.size, 0, none⟩ 1 1 (actC a) rfl
    (fun j u hu => by rw [add_none, Nat.zero_add]; exact hb.cell j hu) (by intro u hu; simp [actC] at hu; rcases hu with rfl | rfl | rfl | rfl <;> rfl) hm (by omega) (Nat.zero_le _)
  obtain ⟨g, cap, rfl⟩ := ownN_some h2 (by omega)
  refine ⟨g, cap, w', hr, ?_, ?_, ?_, (ownN_lt h2 rfl).2⟩
  · rw [actL_app, actL_one]
    exact h2
  · exact (k1.mono (fun _ _ f => f.elim)).grown h3 (fun j hj _ => hj)
  · rcases h5 with e | e
    · exact .inl e.symm
    · right
      have : g = (w.alloc (.cells #[.int .i64 (a.kind : Int), .string ⟨a.name.toArray⟩, .string ⟨a.to.toArray⟩, .int .i64 (a.file : Int)] 80)).drew.heap.size := by simpa [Value.ownBlock] using e
      rw [this]
      exact k1.size

/-- .. and the disk has it. -/
theorem RAt.addAct {w4 : World} {g cap : Nat} (h : RAt w c O m) (a : DAct) (hrow : w4.ownsRow 0 80 4 (.slice (some ⟨g, 0, none⟩) (c.ac.length + 1) cap) (c.ac.length + 1) (actL (c.ac ++ [a]))) (k4 : Only (fun k => c.av.ownBlock = some k) w w4) (hg : c.av.ownBlock = some g ∨ w.heap.size ≤ g) (hgl : g < w4.heap.size) :
    RAt (w4.setCell ⟨c.d, 3, none⟩ (.slice (some ⟨g, 0, none⟩) (c.ac.length + 1) cap)) { c with av := .slice (some ⟨g, 0, none⟩) (c.ac.length + 1) cap, ac := c.ac ++ [a] } (Grow O w (w4.setCell ⟨c.d, 3, none⟩ (.slice (some ⟨g, 0, none⟩) (c.ac.length + 1) cap))) { m with acts := m.acts ++ [plainAct a] } ∧ Only O w (w4.setCell ⟨c.d, 3, none⟩ (.slice (some ⟨g, 0, none⟩) (c.ac.length + 1) cap)) := by
  have k5 : Only (· = c.d) w4 (w4.setCell ⟨c.d, 3, none⟩ (.slice (some ⟨g, 0, none⟩) (c.ac.length + 1) cap)) := (Only.refl (fun x => x = c.d) w4).setCell (fun _ => rfl) _
  have ha := h.acts
  have ne : ∀ {e : TypeId} {k : Nat}, Typed w k e → e ≠ 80 → ¬ c.av.ownBlock = some k := fun ht hne e => ht.ne (ownN_typed ha e) hne rfl
  have hcell := k4.blk h.cells (ne h.cells.typed (by decide))
  have hln : (c.ac ++ [a]).length = c.ac.length + 1 := by simp
  have kt : Only O w (w4.setCell ⟨c.d, 3, none⟩ (.slice (some ⟨g, 0, none⟩) (c.ac.length + 1) cap)) := (k4.mono (fun k _ e => h.oAct k e)).trans k5 (fun j _ e => e ▸ h.oD)
  refine ⟨rat_close (w4 := w4) (ownN_only h.files k4 (fun b e => ne (ownN_typed h.files e) (by decide))) h.fsm (fun p hp => ownN_only (h.bytes p hp) k4 (fun b e => ne (ownN_typed (h.bytes p hp) e) (by decide))) h.lens (ownN_only h.dir k4 (fun b e => ne (ownN_typed h.dir e) (by decide))) (ownN_only h.sure k4 (fun b e => ne (ownN_typed h.sure e) (by decide))) ?_ ?_ h.quota h.dirF hcell.typed k5 (hcell.set 3 _) (.inl h.oD) (fun k e => .inl (h.oF k e)) (fun p hp k e => .inl (h.oB p hp k e)) (fun k e => .inl (h.oDir k e)) (fun k e => .inl (h.oSure k e)) (fun k e => ?_) (fun k hk => ?_), kt⟩
  · show World.ownsRow _ _ _ _ _ (c.ac ++ [a]).length _
    rw [hln]
    exact hrow
  · show (c.ac ++ [a]).map plainAct = m.acts ++ [plainAct a]
    rw [List.map_append, h.acm]
    rfl
  · have : g = k := by simpa [Value.ownBlock] using e
    subst this
    rcases hg with e2 | e2
    · exact .inl (h.oAct _ e2)
    · exact .inr ⟨e2, Nat.lt_of_lt_of_le hgl k5.size⟩
  · rcases hk with hk | hk
    · exact Nat.lt_of_lt_of_le (h.top k hk) kt.size
    · exact hk.2

/-- Another directory. -/
theorem RAt.newDir {w6 : World} {v : Value} {d : DDir} (h : RAt w c O m) (k : Kept w w6) (hv : EntAt w6 w.heap.size v d) (hF : ∀ p ∈ d, p.2 < m.files.length) :
    RAt (w6.setCell ⟨c.d, 1, none⟩ v) { c with dv := v } (Grow O w (w6.setCell ⟨c.d, 1, none⟩ v)) { m with dir := d } ∧ Only O w (w6.setCell ⟨c.d, 1, none⟩ v) := by
  have k5 : Only (· = c.d) w6 (w6.setCell ⟨c.d, 1, none⟩ v) := (Only.refl (fun x => x = c.d) w6).setCell (fun _ => rfl) _
  have h6 := h.stay k
  have kt : Only O w (w6.setCell ⟨c.d, 1, none⟩ v) := (k.mono (fun _ _ f => f.elim)).trans k5 (fun j _ e => e ▸ h.oD)
  refine ⟨rat_close (w4 := w6) h6.files h6.fsm h6.bytes h6.lens (ownN_base hv (Nat.zero_le _)) h6.sure h6.acts h6.acm h6.quota hF h6.cells.typed k5 (h6.cells.set 1 v) (.inl h.oD) (fun k e => .inl (h.oF k e)) (fun p hp k e => .inl (h.oB p hp k e)) (fun j e => ?_) (fun k e => .inl (h.oSure k e)) (fun k e => .inl (h.oAct k e)) (fun j hj => ?_), kt⟩
  · have := ownN_lt hv e
    exact .inr ⟨this.1, Nat.lt_of_lt_of_le this.2 k5.size⟩
  · rcases hj with hj | hj
    · exact Nat.lt_of_lt_of_le (h.top j hj) kt.size
    · exact hj.2
end
end Go.Proofs.Ytpjedcfdchebgaa
