/-
  Dacting, Dfile, Dsync, Dspoil.
-/
import Derived.Test.YtfmdnaagdhpcpaaQ02
import Derived.Deep.RegionHeld3
import Derived.Deep.AppendLies
import Derived.Deep.RegionLaw
import Derived.Shelf.Abstract
import Derived.Maps.AppendAt

/-
  acting: what it hands back does an act to the directory as it is, and has it pending.
-/
namespace Go.Proofs.Ytfmdnaagdhpcpaa
open Go.RowKit Go.Proofs.Lys Go.Maps Go.Shelf
set_option linter.unusedVariables false

/-- A call of a function value at one argument, in a region that draws its order. -/
theorem step_value1 {P : Program} (w : World) {ops : Array Oper} {o : Oper} {a : Act} {K : Act → World → Prop} {Q : Exit → Act → World → Prop} {E : Prop} (hgd : o.guard = none) (s x : Operand) (ts : Array TypeId)
    (ho : o.op = .call { callee := .value s, args := #[x], argTypes := ts }) (f : FuncId) (cap : Array Value) (xv : Value) (hs : a.eval s = .func (.func f) #[] cap) (hx : a.eval x = xv)
    (hent : ∀ args u, (callFunc f args).run P u = .ok (.enter f args) u) (v : Value) (R : World → Prop) (hc : Calls P f (#[xv] ++ cap) w fun e w' => e = .returned v ∧ R w') (h : ∀ w', R w' → K (a.put o.dst v) w') :
    if Region.wanted o (yielded ops a.tmps) = true then Oper.wp P o a w K Q else E := by
  have hw : Region.wanted o (yielded ops a.tmps) = true := by simp [Region.wanted, hgd]
  rw [if_pos hw]
  have hr : (execOp a.eval o).run P w = .ok (.enter f (#[xv] ++ cap)) w := by
    unfold execOp
    simp only [ho]
    simp [resolve, invoke, Deferred.ofValue, hs, hx, hent]
  unfold Oper.wp
  rw [hr]
  refine hc.mono ?_
  rintro e w' ⟨rfl, hR⟩
  exact h w' hR

section
variable {w : World} {c : Conc} {O : Nat → Prop} {m : DModel}

/-- Calling an act at a directory. -/
theorem act_call {blk : List Nat} {v : Value} {a : DAct} (h : ActAt w O blk v a) : ∃ (f : FuncId) (cap : Array Value), v = .func (.func f) #[] cap ∧ (∀ args u, (callFunc f args).run Try.prog u = .ok (.enter f args) u) ∧
    ∀ (w1 : World) (b : Nat) (l : DDir), (∀ k, O k → k ≠ b → w1.heap[k]? = w.heap[k]?) → w.heap.size ≤ w1.heap.size → w1.ownsMap Try.prog 9 ptrE b l.length (dirD blk l) → (∀ vs T, ¬ Blk w b vs T) → l.length < 1000000 →
      Calls Try.prog f (#[.map (some b)] ++ cap) w1 fun e w2 => e = .returned (.tuple #[]) ∧ w2.ownsMap Try.prog 9 ptrE b (DD.act l a).length (dirD blk (DD.act l a)) ∧ Only (· = b) w1 w2 := by
  rcases h with ⟨h0, bn, be, s, hv, h1, h2, h3, h4, o1, o2⟩ | ⟨h0, b1, b2, s1, s2, hv, h1, h2, h3, h4, h5, h6, o1, o2⟩ | ⟨h0, b1, s1, hv, h1, h2, h3, o1⟩
  · refine ⟨_, _, hv, enters_of Try.func53 (by kernel_rfl) rfl, fun w1 b l hk hsz hm hb hl => ?_⟩
    have g1 := h1.of_block (hk _ o1 (fun e => hb _ _ (e ▸ h1)))
    have g2 := h4.of_block (hk _ o2 (fun e => hb _ _ (e ▸ h4)))
    have e1 : DD.act l a = DD.put l s.data.toList a.file := by unfold DD.act; rw [if_pos h0, h2]
    rw [e1]
    exact create_act bn be a.file hm hl h3 g1 g2
  · refine ⟨_, _, hv, enters_of Try.func57 (by kernel_rfl) rfl, fun w1 b l hk hsz hm hb hl => ?_⟩
    have g1 := h1.of_block (hk _ o1 (fun e => hb _ _ (e ▸ h1)))
    have g2 := h4.of_block (hk _ o2 (fun e => hb _ _ (e ▸ h4)))
    cases hf : DD.look l s1.data.toList with
    | none =>
      have e1 : DD.act l a = l := by unfold DD.act; rw [if_neg (by omega), if_pos h0, ← h2, hf]
      rw [e1]
      exact (rename_act_none b1 b2 hm h3 g1 hf).mono (fun e w2 ⟨x, y⟩ => ⟨x, y ▸ hm, y ▸ Only.refl _ _⟩)
    | some f =>
      have e1 : DD.act l a = DD.put (DD.drop l s1.data.toList) s2.data.toList f := by unfold DD.act; rw [if_neg (by omega), if_pos h0, ← h2, ← h5, hf]
      rw [e1]
      exact rename_act_some b1 b2 f hm hl h3 h6 g1 g2 hf
  · refine ⟨_, _, hv, enters_of Try.func58 (by kernel_rfl) rfl, fun w1 b l hk hsz hm hb hl => ?_⟩
    have g1 := h1.of_block (hk _ o1 (fun e => hb _ _ (e ▸ h1)))
    have e1 : DD.act l a = DD.drop l s1.data.toList := by unfold DD.act; rw [if_neg (by omega), if_neg (by omega), h2]
    rw [e1]
    exact remove_act b1 hm h3 g1

theorem acting_any (p : Option Addr) (fn : Fn) (first cap : Array Value) (w : World) : Calls Try.prog 52 #[.pointer p, .func fn first cap] w fun e w' =>
    e = .returned (.func (.func 72) #[] #[.pointer (some ⟨w.heap.size + 1, 0, none⟩), .pointer (some ⟨w.heap.size, 0, none⟩)]) ∧ w' = (w.alloc (.cells #[.pointer p] 25)).alloc (.cells #[.func fn first cap] 95) := by
  have hmf : ∀ (fn : Fn) (first cap : Array Value) (w : World), (Instr.makeFunc fn first cap).run Try.prog w = .ok (.func fn first cap) w := fun _ _ _ _ => rfl
  go_enter Try.func52, Try.ntmps52
  go_wp2
  go_ret
  exact ⟨rfl, rfl⟩

theorem Try.infoAct : (Try.prog.info? 95).map (fun i => (i.zero, i.size, i.bytes)) = some (some .nilFunc, 1, 8) := by kernel_rfl

end

theorem mem_ins {x p : List UInt8 × Nat} : ∀ {l : DDir}, p ∈ DD.ins x l → p = x ∨ p ∈ l
  | [], h => by
    simp [DD.ins] at h
    exact .inl h
  | y :: r, h => by
    unfold DD.ins at h
    split at h
    · rcases List.mem_cons.1 h with h | h
      · exact .inl h
      · exact .inr h
    · rcases List.mem_cons.1 h with h | h
      · exact .inr (h ▸ List.mem_cons_self)
      · rcases mem_ins h with h | h
        · exact .inl h
        · exact .inr (List.mem_cons_of_mem _ h)
theorem mem_drop {p : List UInt8 × Nat} {l : DDir} {n : List UInt8} (h : p ∈ DD.drop l n) : p ∈ l := (List.mem_filter.1 h).1
theorem look_mem {l : DDir} {n : List UInt8} {f : Nat} (h : DD.look l n = some f) : (n, f) ∈ l := by
  unfold DD.look at h
  cases hf : l.find? (fun p => p.1 == n) with
  | none => rw [hf] at h; cases h
  | some p =>
    rw [hf] at h
    cases h
    have h1 := List.mem_of_find?_eq_some hf
    have h2 := List.find?_some hf
    have h3 : p.1 = n := by simpa using h2
    rw [← h3]
    exact h1
theorem act_range {l : DDir} {a : DAct} {N : Nat} (hl : ∀ p ∈ l, p.2 < N) (ha : a.kind = 0 → a.file < N) : ∀ p ∈ DD.act l a, p.2 < N := by
  intro p hp
  unfold DD.act at hp
  split at hp
  · rename_i h0
    rcases mem_ins hp with h | h
    · rw [h]; exact ha h0
    · exact hl _ (mem_drop h)
  · split at hp
    · split at hp
      · rename_i f hf
        rcases mem_ins hp with h | h
        · rw [h]; exact hl (a.name, f) (look_mem hf)
        · exact hl _ (mem_drop (mem_drop h))
      · exact hl _ hp
    · exact hl _ (mem_drop hp)

section
variable {w : World} {c : Conc} {O : Nat → Prop} {m : DModel}

/-- An act's own blocks are none of a disk's first block, of a map, of an array of acts. -/
theorem ActAt.far {w' : World} {O' : Nat → Prop} {blk : List Nat} {v : Value} {a : DAct} (h : ActAt w O blk v a) (hO : ∀ k, O k → O' k) (hk : ∀ k T, O k → Typed w k T → T = 9 ∨ T = 82 → w'.heap[k]? = w.heap[k]?) : ActAt w' O' blk v a := by
  rcases h with ⟨h0, bn, be, s, hv, h1, h2, h3, h4, o1, o2⟩ | ⟨h0, b1, b2, s1, s2, hv, h1, h2, h3, h4, h5, h6, o1, o2⟩ | ⟨h0, b1, s1, hv, h1, h2, h3, o1⟩
  · exact .inl ⟨h0, bn, be, s, hv, h1.of_block (hk _ _ o1 h1.typed (.inl rfl)), h2, h3, h4.of_block (hk _ _ o2 h4.typed (.inr rfl)), hO _ o1, hO _ o2⟩
  · exact .inr (.inl ⟨h0, b1, b2, s1, s2, hv, h1.of_block (hk _ _ o1 h1.typed (.inl rfl)), h2, h3, h4.of_block (hk _ _ o2 h4.typed (.inl rfl)), h5, h6, hO _ o1, hO _ o2⟩)
  · exact .inr (.inr ⟨h0, b1, s1, hv, h1.of_block (hk _ _ o1 h1.typed (.inl rfl)), h2, h3, hO _ o1⟩)

/-- The directory as it is and the acts have turned, and nothing else. -/
theorem DRest.redo {w' : World} {O' : Nat → Prop} {dir' : DDir} {acts' : List DAct} {pv' : Value} {pl' : List Value} (h : DRest w c O m) (hd : Typed w c.d 58) (hO : ∀ k, O k → O' k)
    (hk : ∀ k, O k → k ≠ c.d → k ≠ c.mi → c.pv.ownBlock ≠ some k → w'.heap[k]? = w.heap[k]?)
    (hm : w'.ownsMap Try.prog 9 ptrE c.mi dir'.length (dirD c.blk dir')) (hdF : ∀ p ∈ dir', p.2 < m.files.length)
    (hp : w'.ownsRow 0 95 1 pv' acts'.length pl') (ha : ∀ i a, acts'[i]? = some a → ActAt w' O' c.blk (pl'.getD i .nilFunc) a) (haF : ∀ a ∈ acts', a.kind = 0 → a.file < m.files.length) (hsy : acts'.foldl DD.act m.sure = dir')
    (hpv : ∀ k, pv'.ownBlock = some k → O' k) : DRest w' { c with pv := pv', pl := pl' } O' { m with dir := dir', acts := acts' } := by
  have hx : ∀ {k T}, O k → Typed w k T → T ≠ 58 → T ≠ 95 → w'.heap[k]? = w.heap[k]? := fun {k T} ho ht h1 h2 =>
    hk k ho (ht.ne hd h1) (ht.ne_map h.isM) (fun e => (row_typed h.pend e).ne ht (fun e => h2 e.symm) rfl)
  exact { isM := hm, sureM := map_block h.sureM (hk _ h.oMs (fun e => hd.ne_map h.sureM e.symm) (fun e => h.apart e.symm) (fun e => (row_typed h.pend e).ne_map h.sureM rfl)), apart := h.apart, nblk := h.nblk, nbv := h.nbv, nodup := h.nodup
          file := fun i hi => (h.file i hi).of_block (hx (h.oBlk i hi) (h.file i hi).typed (by decide) (by decide))
          bytes := fun i hi => row_block (h.bytes i hi) (fun k e => hx (h.oBs i k hi e) (row_typed (h.bytes i hi) e) (by decide) (by decide))
          lens := h.lens, sole := h.sole, pend := hp, act := ha, dirF := hdF, sureF := h.sureF, actF := haF, synced := hsy
          oMi := hO _ h.oMi, oMs := hO _ h.oMs, oBlk := fun i hi => hO _ (h.oBlk i hi), oBs := fun i k hi e => hO _ (h.oBs i k hi e), oPv := hpv }

theorem acting_close (h : DiskAt w c O m) {a : DAct} {av : Value} (hact : ActAt w O c.blk av a) (haF : a.kind = 0 → a.file < m.files.length) {w1 w2 : World}
    (hm1 : w1.ownsMap Try.prog 9 ptrE c.mi (DD.act m.dir a).length (dirD c.blk (DD.act m.dir a))) (hk1 : Only (fun x => x = c.mi) w.drew w1) {g cap2 : Nat} {X : Obj}
    (hown2 : w2.ownsRow 0 95 1 (.slice (some ⟨g, 0, none⟩) (m.acts.length + 1) cap2) (m.acts.length + 1) (c.pl ++ [av])) (hgrow : (w1.alloc X).drew.grownBy w2 c.pv.ownBlock)
    (hat : c.pv.ownBlock = some g ∨ g = w1.heap.size + 1) (hlt : g < w2.heap.size) :
    Only O w (w2.setCell ⟨c.d, 9, none⟩ (.slice (some ⟨g, 0, none⟩) (m.acts.length + 1) cap2)) ∧ ∃ c', c'.d = c.d ∧ DiskAt (w2.setCell ⟨c.d, 9, none⟩ (.slice (some ⟨g, 0, none⟩) (m.acts.length + 1) cap2)) c' (Grow O w (w2.setCell ⟨c.d, 9, none⟩ (.slice (some ⟨g, 0, none⟩) (m.acts.length + 1) cap2))) { m with dir := DD.act m.dir a, acts := m.acts ++ [a] } := by
  have hs1 : w.heap.size ≤ w1.heap.size := hk1.size
  have hs2 : w1.heap.size + 1 ≤ w2.heap.size := by have := hgrow.size; simpa using this
  have hdm := h.cells.typed.ne_map h.rest.isM
  have ag : c.pv.ownBlock ≠ some c.d := fun e => (row_typed h.rest.pend e).ne h.cells.typed (by decide) rfl
  have step : ∀ k, k < w.heap.size → k ≠ c.mi → c.pv.ownBlock ≠ some k → w2.heap[k]? = w.heap[k]? := fun k hlt h1 h2 =>
    ((hgrow.block k (by simp; omega) (Ne.symm h2)).trans (Below.heap_alloc w1 X k (by omega))).trans (hk1.block k hlt h1)
  have step3 : ∀ k, k < w.heap.size → k ≠ c.d → k ≠ c.mi → c.pv.ownBlock ≠ some k → (w2.setCell ⟨c.d, 9, none⟩ (.slice (some ⟨g, 0, none⟩) (m.acts.length + 1) cap2)).heap[k]? = w.heap[k]? := fun k hlt h0 h1 h2 =>
    (Below.heap_setCell w2 ⟨c.d, 9, none⟩ _ k h0).trans (step k hlt h1 h2)
  have hD2 : Blk w2 c.d (DCells c m) 58 := h.cells.of_block (step c.d h.cells.lt hdm ag)
  have hD3 := hD2.set 9 (.slice (some ⟨g, 0, none⟩) (m.acts.length + 1) cap2)
  have hO1 : Only O w w1 := (Only.refl O w).drew.trans hk1 (fun j _ e => e ▸ h.rest.oMi)
  have hO2 : Only O w w2 := ((hO1.alloc X).drew).grown hgrow (fun k e hlt => h.rest.oPv k e)
  have htop : ∀ k, Grow O w (w2.setCell ⟨c.d, 9, none⟩ (.slice (some ⟨g, 0, none⟩) (m.acts.length + 1) cap2)) k → k < (w2.setCell ⟨c.d, 9, none⟩ (.slice (some ⟨g, 0, none⟩) (m.acts.length + 1) cap2)).heap.size := by
    rintro k (hk | ⟨_, hk⟩)
    · have := h.top k hk
      simp
      omega
    · exact hk
  have hmi2 : w2.ownsMap Try.prog 9 ptrE c.mi (DD.act m.dir a).length (dirD c.blk (DD.act m.dir a)) :=
    map_block hm1 ((hgrow.block c.mi (by have := hm1.lt; simp; omega) (fun e => (row_typed h.rest.pend e.symm).ne_map h.rest.isM rfl)).trans (Below.heap_alloc w1 X c.mi hm1.lt))
  have hg3 : g ≠ c.d := by
    rcases hat with e | e
    · exact fun e' => ag (e' ▸ e)
    · have := h.cells.lt
      omega
  refine ⟨hO2.setCell (fun _ => h.oD) _, { c with pv := .slice (some ⟨g, 0, none⟩) (m.acts.length + 1) cap2, pl := c.pl ++ [av] }, rfl, ?_⟩
  refine { cells := hD3, fuse := h.fuse, fault := h.fault, oD := .inl h.oD, top := htop, quota := h.quota, rest := ?_ }
  have hlen : c.pl.length = m.acts.length := by have := h.rest.pend.1; omega
  refine h.rest.redo h.cells.typed (fun k hk => .inl hk) (fun k ho h0 h1 h2 => step3 k (h.top k ho) h0 h1 h2) (map_block hmi2 (Below.heap_setCell w2 ⟨c.d, 9, none⟩ _ c.mi (fun e => hdm e.symm))) (act_range h.rest.dirF haF) ?_ ?_ ?_ (by rw [List.foldl_append, h.rest.synced]; rfl) ?_
  · have := row_block (w' := w2.setCell ⟨c.d, 9, none⟩ (.slice (some ⟨g, 0, none⟩) (m.acts.length + 1) cap2)) hown2 (fun k e => Below.heap_setCell w2 ⟨c.d, 9, none⟩ _ k (by cases e; exact hg3))
    simpa using this
  · intro i a' hi
    have far : ∀ k T, O k → Typed w k T → T = 9 ∨ T = 82 → (w2.setCell ⟨c.d, 9, none⟩ (.slice (some ⟨g, 0, none⟩) (m.acts.length + 1) cap2)).heap[k]? = w.heap[k]? := fun k T ho ht hT =>
      step3 k (h.top k ho) (ht.ne h.cells.typed (by rcases hT with rfl | rfl <;> decide)) (ht.ne_map h.rest.isM) (fun e => (row_typed h.rest.pend e).ne ht (by rcases hT with rfl | rfl <;> decide) rfl)
    by_cases hi2 : i < m.acts.length
    · rw [List.getElem?_append_left hi2] at hi
      rw [List.getD_eq_getElem?_getD, List.getElem?_append_left (by omega), ← List.getD_eq_getElem?_getD]
      exact (h.rest.act i a' hi).far (fun k hk => .inl hk) far
    · have hi3 : i = m.acts.length := by
        have := (List.getElem?_eq_some_iff.1 hi).1
        simp at this
        omega
      subst hi3
      rw [List.getElem?_append_right (Nat.le_refl _)] at hi
      simp at hi
      subst hi
      rw [List.getD_eq_getElem?_getD, List.getElem?_append_right (by omega), hlen]
      simp
      exact hact.far (fun k hk => .inl hk) far
  · intro a' ha' h0
    rcases List.mem_append.1 ha' with ha' | ha'
    · exact h.rest.actF a' ha' h0
    · simp at ha'
      subst ha'
      exact haF h0
  · intro k e
    have e' : g = k := by simpa [Value.ownBlock] using e
    subst e'
    rcases hat with e | e
    · exact .inl (h.rest.oPv _ e)
    · exact .inr ⟨by omega, by simp; omega⟩
end
end Go.Proofs.Ytfmdnaagdhpcpaa

/-
  One file's bytes: appended to, made sure; and what of the disk stays then.
-/
namespace Go.Proofs.Ytfmdnaagdhpcpaa
open Go.RowKit Go.Proofs.Lys Go.Maps Go.Shelf
set_option linter.unusedVariables false

/-- A slice of bytes that is read: nil, or its cells. -/
def SrcAt (w : World) (v : Value) (bs : List UInt8) : Prop :=
  (∃ a c, v = .slice a 0 c ∧ bs = []) ∨ ∃ b o c, v = .slice (some ⟨b, o, none⟩) bs.length c ∧ ∀ j u, bs[j]? = some u → w.cell? ⟨b, o + j, none⟩ = some (byteV u)

theorem SrcAt.len {w : World} {v : Value} {bs : List UInt8} (h : SrcAt w v bs) : ∃ a c, v = .slice a bs.length c := by
  rcases h with ⟨a, c, rfl, rfl⟩ | ⟨b, o, c, rfl, _⟩
  · exact ⟨a, c, rfl⟩
  · exact ⟨_, c, rfl⟩
theorem SrcAt.kept {w w' : World} {v : Value} {bs : List UInt8} (h : SrcAt w v bs) (hk : ∀ b o u, w.cell? ⟨b, o, none⟩ = some u → (∃ x, u = byteV x) → w'.cell? ⟨b, o, none⟩ = some u) : SrcAt w' v bs := by
  rcases h with h | ⟨b, o, c, rfl, hc⟩
  · exact .inl h
  · exact .inr ⟨b, o, c, rfl, fun j u hu => hk _ _ _ (hc j u hu) ⟨u, rfl⟩⟩
theorem SrcAt.stay {w w' : World} {v : Value} {bs : List UInt8} (h : SrcAt w v bs) (k : Stay w w') : SrcAt w' v bs :=
  h.kept (fun b o u hc _ => by
    have hlt := World.block_lt_of_cell? w ⟨b, o, none⟩ hc
    rw [World.cell?_of_block (w := w) (w' := w') (a := ⟨b, o, none⟩) (k.block b hlt (fun f => f))]
    exact hc)

theorem Try.infoU8 : (Try.prog.info? 5).map (fun i => (i.zero, i.size, i.bytes)) = some (some (.int .u8 0), 1, 1) := by kernel_rfl

theorem add_off (b o j : Nat) : (⟨b, o, none⟩ : Addr).add j = ⟨b, o + j, none⟩ := by
  unfold Addr.add
  split
  · simp_all
  · rfl

theorem append_run {w : World} {v xv : Value} {n : Nat} {xs : List Value} {bs : List UInt8} (hown : w.ownsRow 0 5 1 v n xs) (hsrc : SrcAt w xv bs) (hl : n + bs.length ≤ 100000000) :
    ∃ v' w', (Builtin.append_ #[29, 29] 0 #[v, xv]).run Try.prog w = .ok v' w' ∧ w'.ownsRow 0 5 1 v' (n + bs.length) (xs ++ bs.map byteV) ∧ w.grownBy w' v.ownBlock ∧ (v'.ownBlock = v.ownBlock ∨ v'.ownBlock = some w.heap.size) := by
  obtain ⟨i0, hi0, hz0, hz1, hz2⟩ := info_parts Try.infoU8
  have hm : n + bs.length ≤ maxLen := by unfold maxLen; omega
  rcases hsrc with ⟨_ | a, c, rfl, rfl⟩ | ⟨b, o, c, rfl, hc⟩
  · refine ⟨v, w, ?_, by simpa using hown, World.grownBy.refl _ _, .inl rfl⟩
    rcases hown.2 with ⟨rfl, rfl⟩ | ⟨g, cap, cur, rfl, hbg, hg, hnc, hcm, hcs, htake⟩
    · simp [Builtin.append_, run_underlying Try.underlying29, sizeOf, typeInfo, hi0, Builtin.lenOf, Builtin.firstCells]
    · simp [Builtin.append_, run_underlying Try.underlying29, sizeOf, typeInfo, hi0, Builtin.lenOf, Builtin.firstCells, hnc, storeCells]
  · obtain ⟨v', w', hr, h2, h3, _, h5⟩ := run_append_own_at (P := Try.prog) w 0 29 0 5 i0 (.int .u8 0) 1 1 Try.underlying29 hi0 hz0 hz1 hz2 rfl (by omega) v n xs hown a 0 c [] rfl (fun j u hu => by simp at hu) (fun u hu => by simp at hu) hm (by simp at hl; omega) (Nat.zero_le _)
    exact ⟨v', w', hr, h2, h3, h5⟩
  · obtain ⟨v', w', hr, h2, h3, _, h5⟩ := run_append_own_at (P := Try.prog) w 0 29 0 5 i0 (.int .u8 0) 1 1 Try.underlying29 hi0 hz0 hz1 hz2 rfl (by omega) v n xs hown ⟨b, o, none⟩ bs.length c (bs.map byteV) (by simp)
      (fun j u hu => by
        rw [add_off]
        rw [List.getElem?_map] at hu
        cases hb : bs[j]? with
        | none => rw [hb] at hu; cases hu
        | some x => rw [hb] at hu; cases hu; exact hc j x hb)
      (fun u hu => by
        obtain ⟨x, _, rfl⟩ := List.mem_map.1 hu
        rfl) hm (by omega) (Nat.zero_le _)
    exact ⟨v', w', hr, h2, h3, h5⟩

theorem nodup_getD {l : List Nat} (h : l.Nodup) {i j : Nat} (hi : i < l.length) (hj : j < l.length) (e : l.getD i 0 = l.getD j 0) : i = j := by
  rw [List.getD_eq_getElem?_getD, List.getD_eq_getElem?_getD, List.getElem?_eq_getElem hi, List.getElem?_eq_getElem hj] at e
  exact (List.getElem_inj h).1 (by simpa using e)

section
variable {w : World} {c : Conc} {O : Nat → Prop} {m : DModel}

/-- One file has turned, and nothing else. -/
theorem DiskAt.setFile {w' : World} (h : DiskAt w c O m) (i : Nat) (hi : i < m.files.length) (f' : DFile) (v' : Value)
    (hk : ∀ k, O k → k ≠ c.blk.getD i 0 → (c.bs i).ownBlock ≠ some k → w'.heap[k]? = w.heap[k]?) (hs : w.heap.size ≤ w'.heap.size)
    (hF : Blk w' (c.blk.getD i 0) [v', .int .i64 (f'.sure : Int)] 87) (hB : w'.ownsRow 0 5 1 v' f'.b.length (f'.b.map byteV)) (hl : f'.b.length ≤ 16777216 ∧ f'.sure ≤ f'.b.length)
    (hv : ∀ k, v'.ownBlock = some k → (c.bs i).ownBlock = some k ∨ (w.heap.size ≤ k ∧ k < w'.heap.size)) :
    DiskAt w' { c with bv := c.bv.set i v' } (Grow O w w') { m with files := m.files.set i f' } := by
  have R := h.rest
  have hx : ∀ {k T}, O k → Typed w k T → T ≠ 87 → T ≠ 5 → w'.heap[k]? = w.heap[k]? := fun {k T} ho ht h1 h2 =>
    hk k ho (ht.ne (R.file i hi).typed h1) (fun e => (row_typed (R.bytes i hi) e).ne ht (fun e => h2 e.symm) rfl)
  have hbs : ∀ j, ({ c with bv := c.bv.set i v' } : Conc).bs j = if j = i then v' else c.bs j := by
    intro j
    unfold Conc.bs
    simp only [List.getD_eq_getElem?_getD, List.getElem?_set]
    by_cases e : i = j
    · subst e
      have : i < c.bv.length := by rw [R.nbv]; exact hi
      simp [this]
    · simp [e, Ne.symm e]
  have hfa : ∀ j, ({ m with files := m.files.set i f' } : DModel).fileAt j = if j = i then f' else m.fileAt j := by
    intro j
    unfold DModel.fileAt
    simp only [List.getD_eq_getElem?_getD, List.getElem?_set]
    by_cases e : i = j
    · subst e
      simp [hi]
    · simp [e, Ne.symm e]
  have hmap : ∀ {b n : Nat} {D : DataW Unit}, O b → w.ownsMap Try.prog 9 ptrE b n D → w'.ownsMap Try.prog 9 ptrE b n D := fun {b n D} ho hm =>
    map_block hm (hk _ ho (fun e => (R.file i hi).typed.ne_map hm e.symm) (fun e => (row_typed (R.bytes i hi) e).ne_map hm rfl))
  refine { cells := h.cells.of_block (hx h.oD h.cells.typed (by decide) (by decide)), fuse := h.fuse, fault := h.fault, oD := .inl h.oD, top := ?_, quota := h.quota, rest := ?_ }
  · rintro k (ho | ⟨_, ho⟩)
    · exact Nat.lt_of_lt_of_le (h.top k ho) hs
    · exact ho
  · refine { isM := hmap R.oMi R.isM, sureM := hmap R.oMs R.sureM, apart := R.apart, nblk := by simpa using R.nblk, nbv := by simpa using R.nbv, nodup := R.nodup, file := ?_, bytes := ?_, lens := ?_, sole := ?_,
             pend := row_block R.pend (fun k e => hx (R.oPv k e) (row_typed R.pend e) (by decide) (by decide)), act := fun j a e => (R.act j a e).far (fun k hk => .inl hk) (fun k T ho ht hT => hx ho ht (by rcases hT with rfl | rfl <;> decide) (by rcases hT with rfl | rfl <;> decide)),
             dirF := by simpa using R.dirF, sureF := by simpa using R.sureF, actF := by simpa using R.actF, synced := R.synced, oMi := .inl R.oMi, oMs := .inl R.oMs, oBlk := fun j hj => .inl (R.oBlk j (by simpa using hj)), oBs := ?_, oPv := fun k e => .inl (R.oPv k e) }
    · intro j hj
      have hj' : j < m.files.length := by simpa using hj
      rw [hbs, hfa]
      by_cases e : j = i
      · subst e
        simpa using hF
      · rw [if_neg e, if_neg e]
        exact (R.file j hj').of_block (hk _ (R.oBlk j hj') (fun e' => e (nodup_getD R.nodup (by rw [R.nblk]; exact hj') (by rw [R.nblk]; exact hi) e')) (fun e' => (row_typed (R.bytes i hi) e').ne (R.file j hj').typed (by decide) rfl))
    · intro j hj
      have hj' : j < m.files.length := by simpa using hj
      rw [hbs, hfa]
      by_cases e : j = i
      · subst e
        simpa using hB
      · rw [if_neg e, if_neg e]
        exact row_block (R.bytes j hj') (fun k e' => hk _ (R.oBs j k hj' e') ((row_typed (R.bytes j hj') e').ne (R.file i hi).typed (by decide)) (fun e2 => e (R.sole j i k hj' hi e' e2)))
    · intro j hj
      have hj' : j < m.files.length := by simpa using hj
      rw [hfa]
      by_cases e : j = i
      · rw [if_pos e]; exact hl
      · rw [if_neg e]; exact R.lens j hj'
    · intro a b k ha hb h1 h2
      have ha' : a < m.files.length := by simpa using ha
      have hb' : b < m.files.length := by simpa using hb
      rw [hbs] at h1 h2
      have old : ∀ j, j < m.files.length → j ≠ i → (c.bs j).ownBlock = some k → v'.ownBlock = some k → False := by
        intro j hj hne e1 e2
        rcases hv k e2 with e3 | ⟨e3, _⟩
        · exact hne (R.sole j i k hj hi e1 e3)
        · have := h.top k (R.oBs j k hj e1)
          omega
      by_cases ea : a = i
      · by_cases eb : b = i
        · rw [ea, eb]
        · rw [if_pos ea] at h1
          rw [if_neg eb] at h2
          exact (old b hb' eb h2 h1).elim
      · by_cases eb : b = i
        · rw [if_neg ea] at h1
          rw [if_pos eb] at h2
          exact (old a ha' ea h1 h2).elim
        · rw [if_neg ea] at h1
          rw [if_neg eb] at h2
          exact R.sole a b k ha' hb' h1 h2
    · intro j k hj e
      have hj' : j < m.files.length := by simpa using hj
      rw [hbs] at e
      by_cases ej : j = i
      · rw [if_pos ej] at e
        rcases hv k e with e3 | e3
        · exact .inl (R.oBs i k hi e3)
        · exact .inr e3
      · rw [if_neg ej] at e
        exact .inl (R.oBs j k hj' e)
end
end Go.Proofs.Ytfmdnaagdhpcpaa

/-
  The step sync.
-/
namespace Go.Proofs.Ytfmdnaagdhpcpaa
open Go.RowKit Go.Proofs.Lys Go.Maps Go.Shelf
set_option linter.unusedVariables false

section
variable {w : World} {c : Conc} {O : Nat → Prop} {m : DModel}

theorem secure_any {fb n cap : Nat} {a : Option Addr} {s : Int} (h : Blk w fb [.slice a n cap, .int .i64 s] 87) :
    Calls Try.prog 56 #[.pointer (some ⟨fb, 0, none⟩)] w fun e w' => e = .returned (.tuple #[]) ∧ w' = w.setCell ⟨fb, 1, none⟩ (.int .i64 (n : Int)) := by
  have c0 := h.cell 0 rfl
  have c1 := h.cell 1 rfl
  have cf := h.frozen
  go_enter Try.func56, Try.ntmps56
  go_wp2
  go_end0
  exact ⟨rfl, rfl⟩

/-- A row that is owned is a slice. -/
theorem row_slice {e : TypeId} {v : Value} {n : Nat} {xs : List Value} (h : w.ownsRow 0 e 1 v n xs) : ∃ a cap, v = .slice a n cap := by
  obtain ⟨_, ⟨rfl, rfl⟩ | ⟨g, cap, cur, rfl, _⟩⟩ := h
  · exact ⟨none, 0, rfl⟩
  · exact ⟨_, cap, rfl⟩

/-- A file's bytes are made sure. -/
theorem DiskAt.secure (h : DiskAt w c O m) (f : Nat) (hf : f < m.files.length) :
    Calls Try.prog 56 #[.pointer (some ⟨c.blk.getD f 0, 0, none⟩)] w fun e w' => e = .returned (.tuple #[]) ∧ Only O w w' ∧
      ∃ c', c'.d = c.d ∧ DiskAt w' c' (Grow O w w') { m with files := m.files.set f ⟨(m.fileAt f).b, (m.fileAt f).b.length⟩ } := by
  have R := h.rest
  have hF := R.file f hf
  have hB := R.bytes f hf
  obtain ⟨a, cap, hv⟩ := row_slice hB
  rw [hv] at hF
  refine (secure_any hF).mono ?_
  rintro e w' ⟨rfl, rfl⟩
  refine ⟨rfl, (Only.refl O w).setCell (fun _ => R.oBlk f hf) _, { c with bv := c.bv.set f (c.bs f) }, rfl, ?_⟩
  refine h.setFile f hf ⟨(m.fileAt f).b, (m.fileAt f).b.length⟩ (c.bs f) (fun k ho h1 h2 => Below.heap_setCell w _ _ k h1) (by simp) ?_ ?_ ⟨(R.lens f hf).1, Nat.le_refl _⟩ (fun k e => .inl e)
  · have := hF.set 1 (.int .i64 ((m.fileAt f).b.length : Int))
    rw [hv]
    exact this
  · exact row_block hB (fun k e => Below.heap_setCell w _ _ k ((row_typed hB e).ne (R.file f hf).typed (by decide)))

theorem own_sync (m : DModel) {o : DOp} (hk : o.kind = 2) : m.own o = if (DD.look m.dir o.name).isSome then 0 else 6 := by
  unfold DModel.own
  simp [hk]
theorem done_sync (m : DModel) {o : DOp} (hk : o.kind = 2) {f : Nat} (hf : DD.look m.dir o.name = some f) : m.done o = { m with files := m.files.set f ⟨(m.fileAt f).b, (m.fileAt f).b.length⟩ } := by
  unfold DModel.done
  simp [hk, hf]

/-- What is handed on behind other, new blocks. -/
theorem grow_mono {w0 w1 w2 : World} (h : DiskAt w2 c (Grow O w1 w2) m) (hs : w0.heap.size ≤ w1.heap.size) (ht : ∀ k, O k → k < w2.heap.size) : DiskAt w2 c (Grow O w0 w2) m :=
  h.mono (fun k hk => by
    rcases hk with hk | ⟨a, b⟩
    · exact .inl hk
    · exact .inr ⟨by omega, b⟩) (fun k hk => by
    rcases hk with hk | ⟨a, b⟩
    · exact ht k hk
    · exact b)

set_option maxHeartbeats 800000 in
theorem sync_ok (h : DiskAt w c O m) (o : DOp) (hk : o.kind = 2) {s : ByteArray} (hs : s.size ≤ maxLen) (hn : s.data.toList = o.name) (kv tv bv : Value) :
    StepOk 30 c O m o (.agg #[kv, .string s, tv, bv]) w := by
  have hmf : ∀ (fn : Fn) (first cap : Array Value) (w : World), (Instr.makeFunc fn first cap).run Try.prog w = .ok (.func fn first cap) w := fun _ _ _ _ => rfl
  have hst : Stay w (w.alloc (.cells #[kv, .string s, tv, bv] 31)) := (Only.refl _ w).alloc _
  have h1 := h.stay hst
  constructor
  · intro howe
    rw [own_sync m hk] at howe ⊢
    cases hl : DD.look m.dir o.name with
    | some f => rw [hl] at howe; simp at howe
    | none =>
      simp only [Option.isSome_none, Bool.false_eq_true, if_false]
      go_enter Try.func30, Try.ntmps30
      go_wp2_with fail
      refine (find_none h1 hs (by rw [hn]; exact hl)).mono ?_
      rintro e w1 ⟨rfl, rfl⟩
      exact ⟨rfl, rfl, hst⟩
  · intro howe
    rw [own_sync m hk] at howe
    cases hl : DD.look m.dir o.name with
    | none => rw [hl] at howe; simp at howe
    | some f =>
      rw [done_sync m hk hl]
      have hf : f < m.files.length := h.rest.dirF _ (look_mem hl)
      go_enter Try.func30, Try.ntmps30
      go_wp2_with fail
      refine (find_some h1 hs (by rw [hn]; exact hl)).mono ?_
      rintro e w1 ⟨rfl, rfl⟩
      go_wp2_with fail
      go_ret
      refine ⟨56, #[.pointer (some ⟨c.blk.getD f 0, 0, none⟩)], #[], rfl, hst, enters_of Try.func56 (by kernel_rfl) rfl, fun w2 hs2 => ?_⟩
      have h2 := h1.stay hs2
      refine (h2.secure f hf).mono ?_
      rintro e w3 ⟨rfl, hk3, c', hc', h3⟩
      have hsz : w.heap.size ≤ w2.heap.size := Nat.le_trans hst.size hs2.size
      exact ⟨rfl, hk3.mono (fun k _ ho => .inl ho), c', hc', grow_mono h3 hsz (fun k ho => Nat.lt_of_lt_of_le (h2.top k ho) hk3.size)⟩
end
end Go.Proofs.Ytfmdnaagdhpcpaa

/-
  spoil: the tail's bytes in the last sector are turned.
-/
namespace Go.Proofs.Ytfmdnaagdhpcpaa
open Go.RowKit Go.Proofs.Lys Go.Maps Go.Shelf
set_option linter.unusedVariables false

theorem xor_byte (x : UInt8) : bits .xor .u8 (x.toNat : Int) 165 = ((x ^^^ 165).toNat : Int) := by
  have h : ∀ n : Fin 256, bits .xor .u8 (n.val : Int) 165 = ((n.val ^^^ 165 : Nat) : Int) := by decide +kernel
  have h1 := h ⟨x.toNat, x.toNat_lt⟩
  simp only at h1
  rw [h1]
  simp

/-- Bytes whose places from s up to k are turned. -/
def turnTo (bs : List UInt8) (s k : Nat) : List UInt8 := bs.mapIdx fun i x => if s ≤ i ∧ i < k then x ^^^ 165 else x

theorem turn_none (bs : List UInt8) (s : Nat) : turnTo bs s s = bs := by
  unfold turnTo
  apply List.ext_getElem
  · simp
  · intro i h1 h2
    simp
    omega
theorem turn_len (bs : List UInt8) (s k : Nat) : (turnTo bs s k).length = bs.length := by simp [turnTo]
theorem turn_all (bs : List UInt8) (su : Nat) : turnTo bs (max ((bs.length - 1) / 512 * 512) su) bs.length = DModel.spoil bs su := by
  unfold turnTo DModel.spoil
  apply List.ext_getElem
  · simp
  · intro i h1 h2
    simp at h1 ⊢
    by_cases h : su ≤ i ∧ (bs.length - 1) / 512 * 512 ≤ i
    · rw [if_pos (by omega), if_pos h]
    · rw [if_neg (by omega), if_neg h]
theorem turn_past (bs : List UInt8) (s k : Nat) (h : bs.length ≤ s) : turnTo bs s k = bs := by
  unfold turnTo
  apply List.ext_getElem
  · simp
  · intro i h1 h2
    simp at h1 ⊢
    omega
theorem turn_step (bs : List UInt8) (s k : Nat) (hs : s ≤ k) (x : UInt8) (hx : bs[k]? = some x) : turnTo bs s (k + 1) = (turnTo bs s k).set k (x ^^^ 165) := by
  obtain ⟨hk, rfl⟩ := List.getElem?_eq_some_iff.1 hx
  unfold turnTo
  apply List.ext_getElem
  · simp
  · intro i h1 h2
    simp at h1
    rw [List.getElem_set]
    by_cases e : k = i
    · subst e
      simp
      omega
    · rw [if_neg e]
      simp
      by_cases h : s ≤ i ∧ i < k + 1
      · rw [if_pos h, if_pos (by omega)]
      · rw [if_neg h, if_neg (by omega)]
theorem turn_at (bs : List UInt8) (s k : Nat) (x : UInt8) (hx : bs[k]? = some x) : (turnTo bs s k)[k]? = some x := by
  obtain ⟨hk, rfl⟩ := List.getElem?_eq_some_iff.1 hx
  unfold turnTo
  simp [hk]

section
variable {w : World}

/-- A cell of a row of bytes, and a store into it. -/
theorem row_store {g n cap : Nat} {ls : List UInt8} (h : w.ownsRow 0 5 1 (.slice (some ⟨g, 0, none⟩) n cap) n (ls.map byteV)) (k : Nat) (hk : k < ls.length) (y : UInt8) :
    (w.setCell ⟨g, k, none⟩ (byteV y)).ownsRow 0 5 1 (.slice (some ⟨g, 0, none⟩) n cap) n ((ls.set k y).map byteV) ∧ w.frozen? ⟨g, k, none⟩ = false := by
  obtain ⟨hl, ⟨h1, _⟩ | ⟨g', cap', cur, hv, hb, hg, hn, hm, hc, ht⟩⟩ := h
  · cases h1
  · cases hv
    have hB : Blk w g cur.toList 5 := by simpa [Blk] using hg
    have hB2 := hB.set k (byteV y)
    unfold Blk at hB2
    refine ⟨⟨by simpa using hl, .inr ⟨g, cap, _, rfl, hb, hB2, hn, hm, by simpa using hc, ?_⟩⟩, hB.frozen k⟩
    simp only [Nat.mul_one] at ht ⊢
    simp
    rw [← ht, List.take_set]

theorem row_cell0 {e : TypeId} {v : Value} {n : Nat} {xs : List Value} (h : w.ownsRow 0 e 1 v n xs) {k : Nat} {u : Value} (hk : xs[k]? = some u) : ∃ g cap, v = .slice (some ⟨g, 0, none⟩) n cap ∧ w.cell? ⟨g, k, none⟩ = some u := by
  obtain ⟨hl, ⟨rfl, rfl⟩ | ⟨g, cap, cur, rfl, _, hg, hn, _, hc, ht⟩⟩ := h
  · have : xs = [] := List.eq_nil_of_length_eq_zero (by simpa using hl)
    subst this
    simp at hk
  · refine ⟨g, cap, rfl, ?_⟩
    simp only [World.cell?, hg]
    rw [← ht] at hk
    rw [List.getElem?_take] at hk
    split at hk
    · simpa using hk
    · cases hk

set_option maxHeartbeats 1600000 in
theorem spoil_raw {fb su : Nat} {v : Value} {bs : List UInt8} (hF : Blk w fb [v, .int .i64 (su : Int)] 87) (hB : w.ownsRow 0 5 1 v bs.length (bs.map byteV)) (hsu : su ≤ bs.length) (hl : bs.length ≤ 16777216) :
    Calls Try.prog 71 #[.pointer (some ⟨fb, 0, none⟩)] w fun e w' => e = .returned (.tuple #[]) ∧ w'.ownsRow 0 5 1 v bs.length ((DModel.spoil bs su).map byteV) ∧ Only (fun k => v.ownBlock = some k) w w' := by
  obtain ⟨a, cap, rfl⟩ := row_slice hB
  have f0 := hF.cell 0 rfl
  have f1 := hF.cell 1 rfl
  have hbs : ∀ k, k < bs.length → ∃ g, a = some ⟨g, 0, none⟩ := by
    intro k hk
    obtain ⟨g, cap', hv, _⟩ := row_cell0 hB (k := k) (u := byteV bs[k]) (by simp [hk])
    cases hv
    exact ⟨g, rfl⟩
  have hsp := Hid.mk (turn_all bs su)
  have hst0 := Hid.mk (turn_none bs)
  have hstep := Hid.mk (turn_step bs)
  have hpast := Hid.mk (turn_past bs)
  have hat := Hid.mk (turn_at bs)
  have hq : ((bs.length : Int) - 1).tdiv 512 = (((bs.length - 1) / 512 : Nat) : Int) := by
    by_cases h0 : bs.length = 0
    · rw [h0]; rfl
    · have : ((bs.length : Int) - 1) = ((bs.length - 1 : Nat) : Int) := by omega
      rw [this]
      rfl
  have hT : (bs.length - 1) / 512 * 512 ≤ bs.length := by omega
  generalize hn : bs.length = n at *
  have HN := Hid.mk hn
  clear hn
  generalize hqq : (n - 1) / 512 = q at *
  clear hqq
  have hq2 : (q : Int) * 512 ≤ 16777216 := by omega
  have hq3 : (0 : Int) ≤ (q : Int) * 512 := by omega
  have fin : ∀ st : Nat, st = max (q * 512) su → ∀ wr : World, wr.ownsRow 0 5 1 (.slice a n cap) n ((turnTo bs st (max n st)).map byteV) → wr.ownsRow 0 5 1 (.slice a n cap) n ((DModel.spoil bs su).map byteV) := by
    intro st e wr hr
    rw [← hsp.out, ← e]
    have e2 := HN.out
    by_cases h : st ≤ n
    · rw [show max n st = n by omega] at hr
      exact hr
    · rw [hpast.out st n (by omega)]
      rw [hpast.out st _ (by omega)] at hr
      exact hr
  have FIN := Hid.mk fin
  clear fin
  by_cases hc : su ≤ q * 512
  · have hc2 : (su : Int) ≤ (q : Int) * 512 := by omega
    go_enter Try.func71, Try.ntmps71
    go_wp2_with fail
    go_loopw [4] (fun i wr => ∃ k : Nat, q * 512 ≤ k ∧ k ≤ max n (q * 512) ∧ i = .int .i64 (k : Int) ∧ wr.ownsRow 0 5 1 (.slice a n cap) n ((turnTo bs (q * 512) k).map byteV) ∧ Only (fun j => (Value.slice a n cap).ownBlock = some j) w wr)
      (fun i _ => n - (intOf i).toNat)
    case atStart => exact ⟨q * 512, Nat.le_refl _, by omega, by simp, by rw [hst0.out]; exact hB, Only.refl _ _⟩
    case round =>
      obtain ⟨k, hk1, hk2, rfl, hr, hor⟩ := hrel
      have hFr := hor.blk hF (fun e => (row_typed hB e).ne hF.typed (by decide) rfl)
      clear f0 f1
      have f0 := hFr.cell 0 rfl
      by_cases hlt : k < n
      · have hx : bs[k]? = some (bs.getD k 0) := by
          have e := HN.out
          rw [List.getD_eq_getElem?_getD, List.getElem?_eq_getElem (by omega)]
          rfl
        obtain ⟨g, hg⟩ := hbs k hlt
        subst hg
        obtain ⟨g', cap', hv, hcell⟩ := row_cell0 hr (k := k) (u := byteV (bs.getD k 0)) (by rw [List.getElem?_map, hat.out _ k _ hx]; rfl)
        cases hv
        obtain ⟨hr2, hfz⟩ := row_store hr k (by rw [turn_len, HN.out]; exact hlt) (bs.getD k 0 ^^^ 165)
        have hst2 := Hid.mk (hstep.out (q * 512) k hk1 _ hx)
        have hxor := xor_byte (bs.getD k 0)
        have H2 := Hid.mk hr2
        clear hr2 hx
        unfold byteV at hcell
        generalize bs.getD k 0 = y at *
        go_wp2_with fail
        go_roundw
        case rel => exact ⟨k + 1, by omega, by omega, by go_num, by rw [hst2.out]; exact H2.out, hor.setCell (p := ⟨g, k, none⟩) (fun _ => rfl) _⟩
        case measure => simp [intOf]; omega
      · have hkn : k = max n (q * 512) := by omega
        have FF := Hid.mk (FIN.out (q * 512) (by omega) wr (by rw [← hkn]; exact hr))
        go_wp2
        go_end0
        exact ⟨rfl, FF.out, hor⟩
  · have hc2 : ¬ ((su : Int) ≤ (q : Int) * 512) := by omega
    go_enter Try.func71, Try.ntmps71
    go_wp2_with fail
    go_loopw [4] (fun i wr => ∃ k : Nat, su ≤ k ∧ k ≤ max n su ∧ i = .int .i64 (k : Int) ∧ wr.ownsRow 0 5 1 (.slice a n cap) n ((turnTo bs su k).map byteV) ∧ Only (fun j => (Value.slice a n cap).ownBlock = some j) w wr)
      (fun i _ => n - (intOf i).toNat)
    case atStart => exact ⟨su, Nat.le_refl _, by omega, by simp, by rw [hst0.out]; exact hB, Only.refl _ _⟩
    case round =>
      obtain ⟨k, hk1, hk2, rfl, hr, hor⟩ := hrel
      have hFr := hor.blk hF (fun e => (row_typed hB e).ne hF.typed (by decide) rfl)
      clear f0 f1
      have f0 := hFr.cell 0 rfl
      by_cases hlt : k < n
      · have hx : bs[k]? = some (bs.getD k 0) := by
          have e := HN.out
          rw [List.getD_eq_getElem?_getD, List.getElem?_eq_getElem (by omega)]
          rfl
        obtain ⟨g, hg⟩ := hbs k hlt
        subst hg
        obtain ⟨g', cap', hv, hcell⟩ := row_cell0 hr (k := k) (u := byteV (bs.getD k 0)) (by rw [List.getElem?_map, hat.out _ k _ hx]; rfl)
        cases hv
        obtain ⟨hr2, hfz⟩ := row_store hr k (by rw [turn_len, HN.out]; exact hlt) (bs.getD k 0 ^^^ 165)
        have hst2 := Hid.mk (hstep.out su k hk1 _ hx)
        have hxor := xor_byte (bs.getD k 0)
        have H2 := Hid.mk hr2
        clear hr2 hx
        unfold byteV at hcell
        generalize bs.getD k 0 = y at *
        go_wp2_with fail
        go_roundw
        case rel => exact ⟨k + 1, by omega, by omega, by go_num, by rw [hst2.out]; exact H2.out, hor.setCell (p := ⟨g, k, none⟩) (fun _ => rfl) _⟩
        case measure => simp [intOf]; omega
      · have hkn : k = max n su := by omega
        have FF := Hid.mk (FIN.out su (by omega) wr (by rw [← hkn]; exact hr))
        go_wp2
        go_end0
        exact ⟨rfl, FF.out, hor⟩
end
end Go.Proofs.Ytfmdnaagdhpcpaa
