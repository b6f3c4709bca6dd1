/-
  Dappend.
-/
import Derived.Test.YtfmdnaagdhpcpaaQ06

/-
  The step append.
-/
namespace Go.Proofs.Ytfmdnaagdhpcpaa
open Go.RowKit Go.Proofs.Lys Go.Maps Go.Shelf
set_option linter.unusedVariables false

/-- An append whose run is known, in a region that draws its order. -/
theorem step_append_run {P : Program} (w : World) {ops : Array Oper} {o : Oper} {a : Act} {K : Act → World → Prop} {Q : Exit → Act → World → Prop} {E : Prop} (hgd : o.guard = none) (s x : Operand) (t : TypeId)
    (ho : o.op = .call { callee := .builtin .append, args := #[s, x], argTypes := #[t, t] }) (sv xv : Value) (hs : a.eval s = sv) (hx : a.eval x = xv) (v : Value) (w' : World)
    (hrun : Hid ((Builtin.append_ #[t, t] 0 #[sv, xv]).run P w = .ok v w')) (h : K (a.put o.dst v) w') : if Region.wanted o (yielded ops a.tmps) = true then Oper.wp P o a w K Q else E := by
  have hw : Region.wanted o (yielded ops a.tmps) = true := by simp [Region.wanted, hgd]
  rw [if_pos hw]
  have hr : (Builtin.append_ #[t, t] o.type #[sv, xv]).run P w = .ok v w' := hrun.out
  unfold Oper.wp execOp
  simp only [ho, resolve, invoke, builtin, Sem.run_bind, Sem.run_pure, Result.andThen_ok, List.map_toArray, List.map_cons, List.map_nil, hs, hx, hr]
  exact h

section
variable {w : World} {c : Conc} {O : Nat → Prop} {m : DModel}

set_option maxRecDepth 100000 in
set_option maxHeartbeats 1600000 in
theorem append_fin (h : DiskAt w c O m) (f : Nat) (hf : f < m.files.length) {bs : List UInt8} {kv nv tv bv : Value} (hsrc : SrcAt w bv bs) (fv ob : Nat) (hfv : Blk w fv [.pointer (some ⟨c.blk.getD f 0, 0, none⟩)] 82) (hob : Blk w ob [kv, nv, tv, bv] 31)
    (hlen : (m.fileAt f).b.length + bs.length ≤ 16777216) :
    Calls Try.prog 55 #[.pointer (some ⟨fv, 0, none⟩), .pointer (some ⟨ob, 0, none⟩)] w fun e w' => e = .returned (.tuple #[]) ∧ Only O w w' ∧
      ∃ c', c'.d = c.d ∧ DiskAt w' c' (Grow O w w') { m with files := m.files.set f ⟨(m.fileAt f).b ++ bs, (m.fileAt f).sure⟩ } := by
  have R := h.rest
  have hF := R.file f hf
  have hB := R.bytes f hf
  obtain ⟨v', w1, hrun, hown1, hgrow, hat⟩ := append_run hB.drew (hsrc.kept (w' := w.drew) (fun _ _ _ hc _ => hc)) (by omega)
  obtain ⟨a', cap', hv'⟩ := row_slice hown1
  have Hr := Hid.mk hrun
  clear hrun
  have f0 : w.cell? ⟨c.blk[f]?.getD 0, 0, none⟩ = some (c.bs f) := hF.cell 0 rfl
  have v0 : w.cell? ⟨fv, 0, none⟩ = some (.pointer (some ⟨c.blk[f]?.getD 0, 0, none⟩)) := hfv.cell 0 rfl
  have o3 := hob.cell 3 rfl
  have hne : (c.bs f).ownBlock ≠ some (c.blk.getD f 0) := fun e => (row_typed hB e).ne hF.typed (by decide) rfl
  have hF1 : Blk w1 (c.blk.getD f 0) [c.bs f, .int .i64 ((m.fileAt f).sure : Int)] 87 := hF.of_block (hgrow.block _ hF.lt (Ne.symm hne))
  have g0 : w1.cell? ⟨c.blk[f]?.getD 0, 0, none⟩ = some (c.bs f) := hF1.cell 0 rfl
  have gf : w1.frozen? ⟨c.blk[f]?.getD 0, 0, none⟩ = false := hF1.frozen 0
  have hfv1 : Blk w1 fv [.pointer (some ⟨c.blk.getD f 0, 0, none⟩)] 82 := hfv.of_block (hgrow.block _ hfv.lt (fun e => (row_typed hB e.symm).ne hfv.typed (by decide) rfl))
  have v1 : w1.cell? ⟨fv, 0, none⟩ = some (.pointer (some ⟨c.blk[f]?.getD 0, 0, none⟩)) := hfv1.cell 0 rfl
  have hclose : Only O w (w1.setCell ⟨c.blk.getD f 0, 0, none⟩ v') ∧ ∃ c', c'.d = c.d ∧ DiskAt (w1.setCell ⟨c.blk.getD f 0, 0, none⟩ v') c' (Grow O w (w1.setCell ⟨c.blk.getD f 0, 0, none⟩ v')) { m with files := m.files.set f ⟨(m.fileAt f).b ++ bs, (m.fileAt f).sure⟩ } := by
    have hs := hgrow.size
    refine ⟨((Only.refl O w).drew.grown hgrow (fun k e _ => R.oBs f k hf e)).setCell (fun _ => R.oBlk f hf) _, _, ?_, h.setFile f hf ⟨(m.fileAt f).b ++ bs, (m.fileAt f).sure⟩ v' ?_ (by simpa using hs) ?_ ?_ ⟨by simpa using hlen, by have := (R.lens f hf).2; simp; omega⟩ ?_⟩
    · rfl
    · intro k ho h1 h2
      exact (Below.heap_setCell w1 _ _ k h1).trans (hgrow.block k (h.top k ho) (Ne.symm h2))
    · exact hF1.set 0 v'
    · have hv' : ∀ k, v'.ownBlock = some k → k ≠ c.blk.getD f 0 := by
        intro k e e'
        rcases hat with e1 | e1
        · exact hne (by rw [← e1, e, e'])
        · rw [e] at e1
          have : k = w.heap.size := by simpa using e1
          have := hF.lt
          omega
      have := row_block (w' := w1.setCell ⟨c.blk.getD f 0, 0, none⟩ v') hown1 (fun k e => Below.heap_setCell w1 _ _ k (hv' k e))
      simpa using this
    · intro k e
      rcases hat with e1 | e1
      · exact .inl (by rw [← e1]; exact e)
      · rw [e] at e1
        have e2 : k = w.heap.size := by simpa using e1
        have e3 := hown1.lt k e
        exact .inr ⟨by omega, by simpa using e3.2⟩
  have HC := Hid.mk hclose
  clear hclose
  subst hv'
  go_enter Try.func55, Try.ntmps55
  go_wp2_with fail
  go_region_law
    ((refine step_append_run _ (by rfl) _ _ _ (by rfl) (c.bs f) bv (by rfl) (by rfl) _ w1 Hr ?_))
  all_goals
    go_end0
    exact ⟨rfl, HC.out⟩
end
end Go.Proofs.Ytfmdnaagdhpcpaa
