/-
  The document's own disk: what a step that is done has come to, piece by piece.
-/
import Derived.Test.YtpjedcfdchebgaaEstep
import Derived.Test.YtpjedcfdchebgaaDlast
namespace Go.Proofs.Ytpjedcfdchebgaa
open Go.RowKit Go.Proofs.Lys Go.Maps Go.Shelf
set_option linter.unusedVariables false

theorem wp_append_run {P : Program} {o : Oper} {a : Act} {w : World} {K : Act → World → Prop} {Q : Exit → Act → World → Prop} (s x : Operand) (t : TypeId) (ho : o.op = .call { callee := .builtin .append, args := #[s, x], argTypes := #[t, t] }) (sv xv : Value) (hs : a.eval s = sv) (hx : a.eval x = xv) {v : Value} {w' : World}
    (hrun : Hid ((Builtin.append_ #[t, t] 0 #[sv, xv]).run P w = .ok v w')) (h : K (a.put o.dst v) w') : o.wp P a w K Q := by
  have hr : (Builtin.append_ #[t, t] o.type #[sv, xv]).run P w = .ok v w' := hrun.out
  unfold Oper.wp
  simp [execOp, ho, resolve, invoke, builtin, hs, hx, hr, Result.andThen]
  exact h

/-- The disk within a step: its rows, what has turned, the step's own words. -/
structure Now (w : World) (c : RConc) (O : Nat → Prop) (vs : List Value) (w5 : World) (c5 : RConc) (m5 : DModel) : Prop where
  at5 : RAt w5 c5 (Grow O w w5) m5
  d : c5.d = c.d
  only : Only O w w5
  big : w.heap.size < w5.heap.size
  op : Blk w5 w.heap.size vs 31
  top : ∀ k, O k → k < w.heap.size

section
variable {w w5 w6 : World} {c c5 c6 : RConc} {O : Nat → Prop} {m m5 m6 : DModel} {vs : List Value}
theorem Now.start (h : RAt w c O m) (M : Mid w c O m vs w5) : Now w c O vs w5 c m.count :=
  ⟨M.at3.mono (fun k h => .inl h) (fun k hk => hk.elim (M.at3.top k) (·.2)), rfl, M.only, M.big, M.op, h.top⟩
theorem Now.stay (N : Now w c O vs w5 c5 m5) (k : Kept w5 w6) : Now w c O vs w6 c5 m5 :=
  ⟨(N.at5.stay k).mono (fun j hj => hj.elim .inl (fun h => .inr ⟨h.1, Nat.lt_of_lt_of_le h.2 k.size⟩)) (fun j hj => hj.elim (fun h => Nat.lt_of_lt_of_le (Nat.lt_trans (N.top j h) N.big) k.size) (·.2)), N.d, N.only.trans k (fun _ _ f => f.elim), Nat.lt_of_lt_of_le N.big k.size, k.blk N.op (fun f => f), N.top⟩
theorem Now.step (N : Now w c O vs w5 c5 m5) (h6 : RAt w6 c6 (Grow (Grow O w w5) w5 w6) m6) (hd : c6.d = c5.d) (k6 : Only (Grow O w w5) w5 w6) (hop : Blk w6 w.heap.size vs 31) : Now w c O vs w6 c6 m6 := by
  have hb := N.big
  have hs := k6.size
  refine ⟨h6.mono (fun j hj => ?_) (fun j hj => ?_), hd.trans N.d, N.only.trans k6 (fun j hj e => ?_), by omega, hop, N.top⟩
  · rcases hj with (hj | hj) | hj
    · exact .inl hj
    · exact .inr ⟨hj.1, by omega⟩
    · exact .inr ⟨by omega, hj.2⟩
  · rcases hj with hj | hj
    · have := N.top j hj
      omega
    · exact hj.2
  · rcases e with e | e
    · exact e
    · omega
theorem Now.post (N : Now w c O vs w5 c5 m5) {o : DOp} (hE : m.doOp o = (0, m.count.done o)) (hm : m5 = m.count.done o) : RPost w c O m o (.returned (.int .i64 ((0 : Nat) : Int))) w5 := by
  unfold RPost
  rw [hE]
  subst hm
  exact ⟨rfl, N.only, c5, N.d, N.at5⟩

/-- An act more. -/
theorem Now.act (N : Now w c O vs w5 c5 m5) (a : DAct) (hl : c5.ac.length ≤ 100000) :
    ∃ g gcap w6, Hid ((Builtin.append_ #[68, 68] 0 #[c5.av, .slice (some ⟨w5.heap.size, 0, none⟩) 1 1]).run Try.prog (w5.drew.alloc (.cells #[.int .i64 (a.kind : Int), .string ⟨a.name.toArray⟩, .string ⟨a.to.toArray⟩, .int .i64 (a.file : Int)] 80)) = .ok (.slice (some ⟨g, 0, none⟩) (c5.ac.length + 1) gcap) w6) ∧
      Hid (Blk w6 c.d (RCells c5 m5) 70) ∧ Hid (Blk w6 w.heap.size vs 31) ∧
      Hid (Now w c O vs (w6.setCell ⟨c.d, 3, none⟩ (.slice (some ⟨g, 0, none⟩) (c5.ac.length + 1) gcap)) { c5 with av := .slice (some ⟨g, 0, none⟩) (c5.ac.length + 1) gcap, ac := c5.ac ++ [a] } { m5 with acts := m5.acts ++ [plainAct a] }) := by
  obtain ⟨g, gcap, w6, Hr, hrow, k6, hg, hgl⟩ := act_step N.at5 a hl
  have hadd := N.at5.addAct a hrow k6 hg hgl
  have ne : ∀ {e : TypeId} {k : Nat}, Typed w5 k e → e ≠ 80 → ¬ c5.av.ownBlock = some k := fun ht hne e => ht.ne (ownN_typed N.at5.acts e) hne rfl
  have hcl := k6.blk N.at5.cells (ne N.at5.cells.typed (by decide))
  have hop := k6.blk N.op (ne N.op.typed (by decide))
  have hd := N.d
  refine ⟨g, gcap, w6, Hr, ?_, ?_, ?_⟩
  · rw [← hd]
    exact hcl
  · exact hop
  · rw [← hd]
    exact N.step hadd.1 rfl hadd.2 (hop.other (hop.ne hcl (by decide)) _)

/-- Another directory. -/
theorem Now.dir (N : Now w c O vs w5 c5 m5) {v : Value} {dn : DDir} (k : Kept w5 w6) (hv : EntAt w6 w5.heap.size v dn) (hF : ∀ p ∈ dn, p.2 < m5.files.length) :
    Blk w6 c.d (RCells c5 m5) 70 ∧ Blk w6 w.heap.size vs 31 ∧ Now w c O vs (w6.setCell ⟨c.d, 1, none⟩ v) { c5 with dv := v } { m5 with dir := dn } := by
  have hnew := N.at5.newDir k hv hF
  have h6 := N.stay k
  have hd := N.d
  rw [← hd]
  exact ⟨h6.at5.cells, h6.op, N.step hnew.1 rfl hnew.2 (h6.op.other (h6.op.ne h6.at5.cells (by decide)) _)⟩

theorem Try.infoF : (Try.prog.info? 77).map (fun i => (i.zero, i.size, i.bytes)) = some (some (.agg #[.slice none 0 0, .int .i64 0]), 2, 32) := by kernel_rfl

/-- A file more. -/
theorem Now.file (N : Now w c O vs w5 c5 m5) (hl : c5.fs.length ≤ 100000) :
    ∃ g gcap w6, Hid ((Builtin.append_ #[66, 66] 0 #[c5.fv, .slice (some ⟨w5.heap.size, 0, none⟩) 1 1]).run Try.prog (w5.alloc (.cells #[.slice none 0 0, .int .i64 0] 77)) = .ok (.slice (some ⟨g, 0, none⟩) (c5.fs.length + 1) gcap) w6) ∧
      (∃ u, w6.cell? ⟨c.d, 0, none⟩ = some u) ∧ w6.frozen? ⟨c.d, 0, none⟩ = false ∧
      Hid (Now w c O vs (w6.setCell ⟨c.d, 0, none⟩ (.slice (some ⟨g, 0, none⟩) (c5.fs.length + 1) gcap)) { c5 with fv := .slice (some ⟨g, 0, none⟩) (c5.fs.length + 1) gcap, fs := c5.fs ++ [(.slice none 0 0, ⟨[], 0⟩)] } { m5 with files := m5.files ++ [⟨[], 0⟩] }) := by
  obtain ⟨i0, hi0, hz0, hz1, hz2⟩ := info_parts Try.infoF
  have h := N.at5
  have k1 : Kept w5 (w5.alloc (.cells #[.slice none 0 0, .int .i64 0] 77)) := (Only.refl _ w5).alloc _
  have hb := Blk.new w5 [.slice none 0 0, .int .i64 0] 77
  have hm : c5.fs.length + 1 ≤ maxLen := by unfold maxLen; omega
  obtain ⟨v', w6, hr, h2, h3, _, h5⟩ := run_append_own_at (P := Try.prog) _ 0 66 0 _ i0 _ 2 32 Try.underlying66 hi0 hz0 hz1 hz2 rfl (by decide) c5.fv c5.fs.length (filL c5.fs) (ownN_stay h.files k1) ⟨w5.heap.size, 0, none⟩ 1 1 [.slice none 0 0, .int .i64 0] rfl
    (fun j u hu => by rw [add_none, Nat.zero_add]; exact hb.cell j hu) (by intro u hu; simp at hu; rcases hu with rfl | rfl <;> rfl) hm (by omega) (Nat.zero_le _)
  obtain ⟨g, cap, rfl⟩ := ownN_some h2 (by omega)
  have k6 : Only (fun k => c5.fv.ownBlock = some k) w5 w6 := (k1.mono (fun _ _ f => f.elim)).grown h3 (fun j hj _ => hj)
  have hgl := (ownN_lt h2 rfl).2
  have hg : c5.fv.ownBlock = some g ∨ w5.heap.size ≤ g := by
    rcases h5 with e | e
    · exact .inl e.symm
    · right
      have : g = (w5.alloc (.cells #[.slice none 0 0, .int .i64 0] 77)).heap.size := by simpa [Value.ownBlock] using e
      rw [this]
      exact k1.size
  have ne : ∀ {e : TypeId} {k : Nat}, Typed w5 k e → e ≠ 77 → ¬ c5.fv.ownBlock = some k := fun ht hne e => ht.ne (ownN_typed h.files e) hne rfl
  have hcl := k6.blk h.cells (ne h.cells.typed (by decide))
  have hop := k6.blk N.op (ne N.op.typed (by decide))
  have hd := N.d
  refine ⟨g, cap, w6, hr, ?_, ?_, ?_⟩
  · rw [← hd]
    exact ⟨_, hcl.cell 0 rfl⟩
  · rw [← hd]
    exact hcl.frozen 0
  · rw [← hd]
    have k7 : Only (· = c5.d) w6 (w6.setCell ⟨c5.d, 0, none⟩ (.slice (some ⟨g, 0, none⟩) (c5.fs.length + 1) cap)) := (Only.refl (fun x => x = c5.d) w6).setCell (fun _ => rfl) _
    have kt : Only (Grow O w w5) w5 (w6.setCell ⟨c5.d, 0, none⟩ (.slice (some ⟨g, 0, none⟩) (c5.fs.length + 1) cap)) := (k6.mono (fun k _ e => h.oF k e)).trans k7 (fun j _ e => e ▸ h.oD)
    have hln : (c5.fs ++ [((.slice none 0 0 : Value), (⟨[], 0⟩ : DFile))]).length = c5.fs.length + 1 := by simp
    have hmem : ∀ p ∈ c5.fs ++ [((.slice none 0 0 : Value), (⟨[], 0⟩ : DFile))], p ∈ c5.fs ∨ p = (.slice none 0 0, ⟨[], 0⟩) := fun p hp => (List.mem_append.1 hp).imp id List.mem_singleton.1
    refine N.step (c6 := { c5 with fv := .slice (some ⟨g, 0, none⟩) (c5.fs.length + 1) cap, fs := c5.fs ++ [(.slice none 0 0, ⟨[], 0⟩)] }) (rat_close (w4 := w6) ?_ ?_ (fun p hp => ?_) (fun p hp => ?_) (ownN_only h.dir k6 (fun b e => ne (ownN_typed h.dir e) (by decide))) (ownN_only h.sure k6 (fun b e => ne (ownN_typed h.sure e) (by decide))) (ownN_only h.acts k6 (fun b e => ne (ownN_typed h.acts e) (by decide))) h.acm h.quota (fun p hp => ?_) hcl.typed k7 (hcl.set 0 _) (.inl h.oD) (fun k e => ?_) (fun p hp k e => ?_) (fun k e => .inl (h.oDir k e)) (fun k e => .inl (h.oSure k e)) (fun k e => .inl (h.oAct k e)) (fun k hk => ?_)) rfl kt (hop.other (hop.ne hcl (by decide)) _)
    · show World.ownsRow _ _ _ _ _ (c5.fs ++ [_]).length _
      rw [hln, filL_app]
      exact h2
    · show (c5.fs ++ [((.slice none 0 0 : Value), (⟨[], 0⟩ : DFile))]).map (fun p => p.2) = m5.files ++ [⟨[], 0⟩]
      rw [List.map_append, h.fsm]
      rfl
    · rcases hmem p hp with hp | rfl
      · exact ownN_only (h.bytes p hp) k6 (fun b e => ne (ownN_typed (h.bytes p hp) e) (by decide))
      · exact ⟨rfl, .inl ⟨rfl, rfl⟩⟩
    · rcases hmem p hp with hp | rfl
      · exact h.lens p hp
      · exact ⟨Nat.zero_le _, Nat.le_refl _⟩
    · have := h.dirF p hp
      show p.2 < (m5.files ++ [_]).length
      rw [List.length_append]
      omega
    · have : g = k := by simpa [Value.ownBlock] using e
      subst this
      rcases hg with e2 | e2
      · exact .inl (h.oF _ e2)
      · exact .inr ⟨e2, Nat.lt_of_lt_of_le hgl k7.size⟩
    · rcases hmem p hp with hp | rfl
      · exact .inl (h.oB p hp k e)
      · cases e
    · rcases hk with hk | hk
      · exact Nat.lt_of_lt_of_le (h.top k hk) kt.size
      · exact hk.2
end
end Go.Proofs.Ytpjedcfdchebgaa
