/-
  acting: what it hands back does an act to the directory as it is, and has it pending.
-/
import Derived.Test.YtpjedcfdchebgaaDtry
import Derived.Deep.RegionHeld3
import Derived.Deep.AppendLies
import Derived.Deep.RegionLaw
import Derived.Shelf.Abstract
namespace Go.Proofs.Ytpjedcfdchebgaa
open Go.RowKit Go.Proofs.Lys Go.Maps Go.Shelf
set_option linter.unusedVariables false

/-- A call of a function value at one argument, in a region that draws its order. -/
theorem step_value1 {P : Program} (w : World) {ops : Array Oper} {o : Oper} {a : Act} {K : Act → World → Prop} {Q : Exit → Act → World → Prop} {E : Prop} (hgd : o.guard = none) (s x : Operand) (ts : Array TypeId)
    (ho : o.op = .call { callee := .value s, args := #[x], argTypes := ts }) (f : FuncId) (cap : Array Value) (xv : Value) (hs : a.eval s = .func (.func f) #[] cap) (hx : a.eval x = xv)
    (hent : ∀ args u, (callFunc f args).run P u = .ok (.enter f args) u) (v : Value) (R : World → Prop) (hc : Calls P f (#[xv] ++ cap) w fun e w' => e = .returned v ∧ R w') (h : ∀ w', R w' → K (a.put o.dst v) w') :
    if Region.wanted o (yielded ops a.tmps) = true then Oper.wp P o a w K Q else E := by
  have hw : Region.wanted o (yielded ops a.tmps) = true := by simp [Region.wanted, hgd]
  rw [if_pos hw]
  have hr : (execOp a.eval o).run P w = .ok (.enter f (#[xv] ++ cap)) w := by
    unfold execOp
    simp only [ho]
    simp [resolve, invoke, Deferred.ofValue, hs, hx, hent]
  unfold Oper.wp
  rw [hr]
  refine hc.mono ?_
  rintro e w' ⟨rfl, hR⟩
  exact h w' hR

section
variable {w : World} {c : Conc} {O : Nat → Prop} {m : DModel}

/-- Calling an act at a directory. -/
theorem act_call {blk : List Nat} {v : Value} {a : DAct} (h : ActAt w O blk v a) : ∃ (f : FuncId) (cap : Array Value), v = .func (.func f) #[] cap ∧ (∀ args u, (callFunc f args).run Try.prog u = .ok (.enter f args) u) ∧
    ∀ (w1 : World) (b : Nat) (l : DDir), (∀ k, O k → k ≠ b → w1.heap[k]? = w.heap[k]?) → w.heap.size ≤ w1.heap.size → w1.ownsMap Try.prog 9 ptrE b l.length (dirD blk l) → (∀ vs T, ¬ Blk w b vs T) → l.length < 1000000 →
      Calls Try.prog f (#[.map (some b)] ++ cap) w1 fun e w2 => e = .returned (.tuple #[]) ∧ w2.ownsMap Try.prog 9 ptrE b (DD.act l a).length (dirD blk (DD.act l a)) ∧ Only (· = b) w1 w2 := by
  rcases h with ⟨h0, bn, be, s, hv, h1, h2, h3, h4, o1, o2⟩ | ⟨h0, b1, b2, s1, s2, hv, h1, h2, h3, h4, h5, h6, o1, o2⟩ | ⟨h0, b1, s1, hv, h1, h2, h3, o1⟩
  · refine ⟨_, _, hv, enters_of Try.func70 (by kernel_rfl) rfl, fun w1 b l hk hsz hm hb hl => ?_⟩
    have g1 := h1.of_block (hk _ o1 (fun e => hb _ _ (e ▸ h1)))
    have g2 := h4.of_block (hk _ o2 (fun e => hb _ _ (e ▸ h4)))
    have e1 : DD.act l a = DD.put l s.data.toList a.file := by unfold DD.act; rw [if_pos h0, h2]
    rw [e1]
    exact create_act bn be a.file hm hl h3 g1 g2
  · refine ⟨_, _, hv, enters_of Try.func74 (by kernel_rfl) rfl, fun w1 b l hk hsz hm hb hl => ?_⟩
    have g1 := h1.of_block (hk _ o1 (fun e => hb _ _ (e ▸ h1)))
    have g2 := h4.of_block (hk _ o2 (fun e => hb _ _ (e ▸ h4)))
    cases hf : DD.look l s1.data.toList with
    | none =>
      have e1 : DD.act l a = l := by unfold DD.act; rw [if_neg (by omega), if_pos h0, ← h2, hf]
      rw [e1]
      exact (rename_act_none b1 b2 hm h3 g1 hf).mono (fun e w2 ⟨x, y⟩ => ⟨x, y ▸ hm, y ▸ Only.refl _ _⟩)
    | some f =>
      have e1 : DD.act l a = DD.put (DD.drop l s1.data.toList) s2.data.toList f := by unfold DD.act; rw [if_neg (by omega), if_pos h0, ← h2, ← h5, hf]
      rw [e1]
      exact rename_act_some b1 b2 f hm hl h3 h6 g1 g2 hf
  · refine ⟨_, _, hv, enters_of Try.func75 (by kernel_rfl) rfl, fun w1 b l hk hsz hm hb hl => ?_⟩
    have g1 := h1.of_block (hk _ o1 (fun e => hb _ _ (e ▸ h1)))
    have e1 : DD.act l a = DD.drop l s1.data.toList := by unfold DD.act; rw [if_neg (by omega), if_neg (by omega), h2]
    rw [e1]
    exact remove_act b1 hm h3 g1

theorem acting_any (p : Option Addr) (fn : Fn) (first cap : Array Value) (w : World) : Calls Try.prog 69 #[.pointer p, .func fn first cap] w fun e w' =>
    e = .returned (.func (.func 96) #[] #[.pointer (some ⟨w.heap.size + 1, 0, none⟩), .pointer (some ⟨w.heap.size, 0, none⟩)]) ∧ w' = (w.alloc (.cells #[.pointer p] 25)).alloc (.cells #[.func fn first cap] 124) := by
  have hmf : ∀ (fn : Fn) (first cap : Array Value) (w : World), (Instr.makeFunc fn first cap).run Try.prog w = .ok (.func fn first cap) w := fun _ _ _ _ => rfl
  go_enter Try.func69, Try.ntmps69
  go_wp2
  go_ret
  exact ⟨rfl, rfl⟩

theorem Try.infoAct : (Try.prog.info? 124).map (fun i => (i.zero, i.size, i.bytes)) = some (some .nilFunc, 1, 8) := by kernel_rfl

end

theorem mem_ins {x p : List UInt8 × Nat} : ∀ {l : DDir}, p ∈ DD.ins x l → p = x ∨ p ∈ l
  | [], h => by
    simp [DD.ins] at h
    exact .inl h
  | y :: r, h => by
    unfold DD.ins at h
    split at h
    · rcases List.mem_cons.1 h with h | h
      · exact .inl h
      · exact .inr h
    · rcases List.mem_cons.1 h with h | h
      · exact .inr (h ▸ List.mem_cons_self)
      · rcases mem_ins h with h | h
        · exact .inl h
        · exact .inr (List.mem_cons_of_mem _ h)
theorem mem_drop {p : List UInt8 × Nat} {l : DDir} {n : List UInt8} (h : p ∈ DD.drop l n) : p ∈ l := (List.mem_filter.1 h).1
theorem look_mem {l : DDir} {n : List UInt8} {f : Nat} (h : DD.look l n = some f) : (n, f) ∈ l := by
  unfold DD.look at h
  cases hf : l.find? (fun p => p.1 == n) with
  | none => rw [hf] at h; cases h
  | some p =>
    rw [hf] at h
    cases h
    have h1 := List.mem_of_find?_eq_some hf
    have h2 := List.find?_some hf
    have h3 : p.1 = n := by simpa using h2
    rw [← h3]
    exact h1
theorem act_range {l : DDir} {a : DAct} {N : Nat} (hl : ∀ p ∈ l, p.2 < N) (ha : a.kind = 0 → a.file < N) : ∀ p ∈ DD.act l a, p.2 < N := by
  intro p hp
  unfold DD.act at hp
  split at hp
  · rename_i h0
    rcases mem_ins hp with h | h
    · rw [h]; exact ha h0
    · exact hl _ (mem_drop h)
  · split at hp
    · split at hp
      · rename_i f hf
        rcases mem_ins hp with h | h
        · rw [h]; exact hl (a.name, f) (look_mem hf)
        · exact hl _ (mem_drop (mem_drop h))
      · exact hl _ hp
    · exact hl _ (mem_drop hp)

section
variable {w : World} {c : Conc} {O : Nat → Prop} {m : DModel}

/-- An act's own blocks are none of a disk's first block, of a map, of an array of acts. -/
theorem ActAt.far {w' : World} {O' : Nat → Prop} {blk : List Nat} {v : Value} {a : DAct} (h : ActAt w O blk v a) (hO : ∀ k, O k → O' k) (hk : ∀ k T, O k → Typed w k T → T = 9 ∨ T = 89 → w'.heap[k]? = w.heap[k]?) : ActAt w' O' blk v a := by
  rcases h with ⟨h0, bn, be, s, hv, h1, h2, h3, h4, o1, o2⟩ | ⟨h0, b1, b2, s1, s2, hv, h1, h2, h3, h4, h5, h6, o1, o2⟩ | ⟨h0, b1, s1, hv, h1, h2, h3, o1⟩
  · exact .inl ⟨h0, bn, be, s, hv, h1.of_block (hk _ _ o1 h1.typed (.inl rfl)), h2, h3, h4.of_block (hk _ _ o2 h4.typed (.inr rfl)), hO _ o1, hO _ o2⟩
  · exact .inr (.inl ⟨h0, b1, b2, s1, s2, hv, h1.of_block (hk _ _ o1 h1.typed (.inl rfl)), h2, h3, h4.of_block (hk _ _ o2 h4.typed (.inl rfl)), h5, h6, hO _ o1, hO _ o2⟩)
  · exact .inr (.inr ⟨h0, b1, s1, hv, h1.of_block (hk _ _ o1 h1.typed (.inl rfl)), h2, h3, hO _ o1⟩)

/-- The directory as it is and the acts have turned, and nothing else. -/
theorem DRest.redo {w' : World} {O' : Nat → Prop} {dir' : DDir} {acts' : List DAct} {pv' : Value} {pl' : List Value} (h : DRest w c O m) (hd : Typed w c.d 65) (hO : ∀ k, O k → O' k)
    (hk : ∀ k, O k → k ≠ c.d → k ≠ c.mi → c.pv.ownBlock ≠ some k → w'.heap[k]? = w.heap[k]?)
    (hm : w'.ownsMap Try.prog 9 ptrE c.mi dir'.length (dirD c.blk dir')) (hdF : ∀ p ∈ dir', p.2 < m.files.length)
    (hp : w'.ownsRow 0 124 1 pv' acts'.length pl') (ha : ∀ i a, acts'[i]? = some a → ActAt w' O' c.blk (pl'.getD i .nilFunc) a) (haF : ∀ a ∈ acts', a.kind = 0 → a.file < m.files.length) (hsy : acts'.foldl DD.act m.sure = dir')
    (hpv : ∀ k, pv'.ownBlock = some k → O' k) : DRest w' { c with pv := pv', pl := pl' } O' { m with dir := dir', acts := acts' } := by
  have hx : ∀ {k T}, O k → Typed w k T → T ≠ 65 → T ≠ 124 → w'.heap[k]? = w.heap[k]? := fun {k T} ho ht h1 h2 =>
    hk k ho (ht.ne hd h1) (ht.ne_map h.isM) (fun e => (row_typed h.pend e).ne ht (fun e => h2 e.symm) rfl)
  exact { isM := hm, sureM := map_block h.sureM (hk _ h.oMs (fun e => hd.ne_map h.sureM e.symm) (fun e => h.apart e.symm) (fun e => (row_typed h.pend e).ne_map h.sureM rfl)), apart := h.apart, nblk := h.nblk, nbv := h.nbv, nodup := h.nodup
          file := fun i hi => (h.file i hi).of_block (hx (h.oBlk i hi) (h.file i hi).typed (by decide) (by decide))
          bytes := fun i hi => row_block (h.bytes i hi) (fun k e => hx (h.oBs i k hi e) (row_typed (h.bytes i hi) e) (by decide) (by decide))
          lens := h.lens, sole := h.sole, pend := hp, act := ha, dirF := hdF, sureF := h.sureF, actF := haF, synced := hsy
          oMi := hO _ h.oMi, oMs := hO _ h.oMs, oBlk := fun i hi => hO _ (h.oBlk i hi), oBs := fun i k hi e => hO _ (h.oBs i k hi e), oPv := hpv }

theorem acting_close (h : DiskAt w c O m) {a : DAct} {av : Value} (hact : ActAt w O c.blk av a) (haF : a.kind = 0 → a.file < m.files.length) {w1 w2 : World}
    (hm1 : w1.ownsMap Try.prog 9 ptrE c.mi (DD.act m.dir a).length (dirD c.blk (DD.act m.dir a))) (hk1 : Only (fun x => x = c.mi) w.drew w1) {g cap2 : Nat} {X : Obj}
    (hown2 : w2.ownsRow 0 124 1 (.slice (some ⟨g, 0, none⟩) (m.acts.length + 1) cap2) (m.acts.length + 1) (c.pl ++ [av])) (hgrow : (w1.alloc X).drew.grownBy w2 c.pv.ownBlock)
    (hat : c.pv.ownBlock = some g ∨ g = w1.heap.size + 1) (hlt : g < w2.heap.size) :
    Only O w (w2.setCell ⟨c.d, 9, none⟩ (.slice (some ⟨g, 0, none⟩) (m.acts.length + 1) cap2)) ∧ ∃ c', c'.d = c.d ∧ DiskAt (w2.setCell ⟨c.d, 9, none⟩ (.slice (some ⟨g, 0, none⟩) (m.acts.length + 1) cap2)) c' (Grow O w (w2.setCell ⟨c.d, 9, none⟩ (.slice (some ⟨g, 0, none⟩) (m.acts.length + 1) cap2))) { m with dir := DD.act m.dir a, acts := m.acts ++ [a] } := by
  have hs1 : w.heap.size ≤ w1.heap.size := hk1.size
  have hs2 : w1.heap.size + 1 ≤ w2.heap.size := by have := hgrow.size; simpa using this
  have hdm := h.cells.typed.ne_map h.rest.isM
  have ag : c.pv.ownBlock ≠ some c.d := fun e => (row_typed h.rest.pend e).ne h.cells.typed (by decide) rfl
  have step : ∀ k, k < w.heap.size → k ≠ c.mi → c.pv.ownBlock ≠ some k → w2.heap[k]? = w.heap[k]? := fun k hlt h1 h2 =>
    ((hgrow.block k (by simp; omega) (Ne.symm h2)).trans (Below.heap_alloc w1 X k (by omega))).trans (hk1.block k hlt h1)
  have step3 : ∀ k, k < w.heap.size → k ≠ c.d → k ≠ c.mi → c.pv.ownBlock ≠ some k → (w2.setCell ⟨c.d, 9, none⟩ (.slice (some ⟨g, 0, none⟩) (m.acts.length + 1) cap2)).heap[k]? = w.heap[k]? := fun k hlt h0 h1 h2 =>
    (Below.heap_setCell w2 ⟨c.d, 9, none⟩ _ k h0).trans (step k hlt h1 h2)
  have hD2 : Blk w2 c.d (DCells c m) 65 := h.cells.of_block (step c.d h.cells.lt hdm ag)
  have hD3 := hD2.set 9 (.slice (some ⟨g, 0, none⟩) (m.acts.length + 1) cap2)
  have hO1 : Only O w w1 := (Only.refl O w).drew.trans hk1 (fun j _ e => e ▸ h.rest.oMi)
  have hO2 : Only O w w2 := ((hO1.alloc X).drew).grown hgrow (fun k e hlt => h.rest.oPv k e)
  have htop : ∀ k, Grow O w (w2.setCell ⟨c.d, 9, none⟩ (.slice (some ⟨g, 0, none⟩) (m.acts.length + 1) cap2)) k → k < (w2.setCell ⟨c.d, 9, none⟩ (.slice (some ⟨g, 0, none⟩) (m.acts.length + 1) cap2)).heap.size := by
    rintro k (hk | ⟨_, hk⟩)
    · have := h.top k hk
      simp
      omega
    · exact hk
  have hmi2 : w2.ownsMap Try.prog 9 ptrE c.mi (DD.act m.dir a).length (dirD c.blk (DD.act m.dir a)) :=
    map_block hm1 ((hgrow.block c.mi (by have := hm1.lt; simp; omega) (fun e => (row_typed h.rest.pend e.symm).ne_map h.rest.isM rfl)).trans (Below.heap_alloc w1 X c.mi hm1.lt))
  have hg3 : g ≠ c.d := by
    rcases hat with e | e
    · exact fun e' => ag (e' ▸ e)
    · have := h.cells.lt
      omega
  refine ⟨hO2.setCell (fun _ => h.oD) _, { c with pv := .slice (some ⟨g, 0, none⟩) (m.acts.length + 1) cap2, pl := c.pl ++ [av] }, rfl, ?_⟩
  refine { cells := hD3, fuse := h.fuse, fault := h.fault, oD := .inl h.oD, top := htop, quota := h.quota, rest := ?_ }
  have hlen : c.pl.length = m.acts.length := by have := h.rest.pend.1; omega
  refine h.rest.redo h.cells.typed (fun k hk => .inl hk) (fun k ho h0 h1 h2 => step3 k (h.top k ho) h0 h1 h2) (map_block hmi2 (Below.heap_setCell w2 ⟨c.d, 9, none⟩ _ c.mi (fun e => hdm e.symm))) (act_range h.rest.dirF haF) ?_ ?_ ?_ (by rw [List.foldl_append, h.rest.synced]; rfl) ?_
  · have := row_block (w' := w2.setCell ⟨c.d, 9, none⟩ (.slice (some ⟨g, 0, none⟩) (m.acts.length + 1) cap2)) hown2 (fun k e => Below.heap_setCell w2 ⟨c.d, 9, none⟩ _ k (by cases e; exact hg3))
    simpa using this
  · intro i a' hi
    have far : ∀ k T, O k → Typed w k T → T = 9 ∨ T = 89 → (w2.setCell ⟨c.d, 9, none⟩ (.slice (some ⟨g, 0, none⟩) (m.acts.length + 1) cap2)).heap[k]? = w.heap[k]? := fun k T ho ht hT =>
      step3 k (h.top k ho) (ht.ne h.cells.typed (by rcases hT with rfl | rfl <;> decide)) (ht.ne_map h.rest.isM) (fun e => (row_typed h.rest.pend e).ne ht (by rcases hT with rfl | rfl <;> decide) rfl)
    by_cases hi2 : i < m.acts.length
    · rw [List.getElem?_append_left hi2] at hi
      rw [List.getD_eq_getElem?_getD, List.getElem?_append_left (by omega), ← List.getD_eq_getElem?_getD]
      exact (h.rest.act i a' hi).far (fun k hk => .inl hk) far
    · have hi3 : i = m.acts.length := by
        have := (List.getElem?_eq_some_iff.1 hi).1
        simp at this
        omega
      subst hi3
      rw [List.getElem?_append_right (Nat.le_refl _)] at hi
      simp at hi
      subst hi
      rw [List.getD_eq_getElem?_getD, List.getElem?_append_right (by omega), hlen]
      simp
      exact hact.far (fun k hk => .inl hk) far
  · intro a' ha' h0
    rcases List.mem_append.1 ha' with ha' | ha'
    · exact h.rest.actF a' ha' h0
    · simp at ha'
      subst ha'
      exact haF h0
  · intro k e
    have e' : g = k := by simpa [Value.ownBlock] using e
    subst e'
    rcases hat with e | e
    · exact .inl (h.rest.oPv _ e)
    · exact .inr ⟨by omega, by simp; omega⟩
end
end Go.Proofs.Ytpjedcfdchebgaa
