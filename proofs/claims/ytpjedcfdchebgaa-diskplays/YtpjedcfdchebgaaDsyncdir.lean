/-
  The step syncDir: all acts that are pending, done one by one to the sure directory.
-/
import Derived.Test.YtpjedcfdchebgaaDappok
namespace Go.Proofs.Ytpjedcfdchebgaa
open Go.RowKit Go.Proofs.Lys Go.Maps Go.Shelf
set_option linter.unusedVariables false

section
variable {w : World} {c : Conc} {O : Nat → Prop} {m : DModel}

theorem len_fold : ∀ (ac : List DAct) (l : DDir), (ac.foldl DD.act l).length ≤ l.length + ac.length
  | [], l => by simp
  | a :: r, l => by
    have h1 := len_fold r (DD.act l a)
    have h2 := len_act l a
    simp only [List.foldl_cons, List.length_cons]
    omega

theorem take_fold (ac : List DAct) (l : DDir) (k : Nat) (a : DAct) (h : ac[k]? = some a) : (ac.take (k + 1)).foldl DD.act l = DD.act ((ac.take k).foldl DD.act l) a := by
  have hk := (List.getElem?_eq_some_iff.1 h).1
  rw [List.take_succ_eq_append_getElem hk, List.foldl_append]
  have : ac[k] = a := (List.getElem?_eq_some_iff.1 h).2
  rw [this]
  rfl

/-- An element of a row that is owned. -/
theorem row_cell {e : TypeId} {v : Value} {n : Nat} {xs : List Value} (h : w.ownsRow 0 e 1 v n xs) {k : Nat} {u : Value} (hk : xs[k]? = some u) : ∃ g cap, v = .slice (some ⟨g, 0, none⟩) n cap ∧ w.cell? ⟨g, k, none⟩ = some u ∧ k < n := by
  obtain ⟨hl, ⟨rfl, rfl⟩ | ⟨g, cap, cur, rfl, _, hg, hn, _, hc, ht⟩⟩ := h
  · have : xs = [] := List.eq_nil_of_length_eq_zero (by simpa using hl)
    subst this
    simp at hk
  · have hlt := (List.getElem?_eq_some_iff.1 hk).1
    refine ⟨g, cap, rfl, ?_, by omega⟩
    simp only [World.cell?, hg]
    rw [← ht] at hk
    rw [List.getElem?_take] at hk
    split at hk
    · simpa using hk
    · cases hk

set_option maxHeartbeats 1600000 in
theorem syncdir_fin (h : DiskAt w c O m) (bd : Nat) (hbd : Blk w bd [.pointer (some ⟨c.d, 0, none⟩)] 25) (hnd : ¬ O bd) (hl : m.sure.length + m.acts.length < 1000000) :
    Calls Try.prog 76 #[.pointer (some ⟨bd, 0, none⟩)] w fun e w' => e = .returned (.tuple #[]) ∧ Only O w w' ∧ DiskAt w' { c with pv := .slice none 0 0, pl := [] } O { m with sure := m.dir, acts := [] } := by
  have R := h.rest
  have hdm := h.cells.typed.ne_map R.sureM
  have hbm := hbd.typed.ne_map R.sureM
  obtain ⟨pa, pc, hpv⟩ := row_slice R.pend
  have hlen : c.pl.length = m.acts.length := by have := R.pend.1; omega
  obtain ⟨c0, c1, c2, c3, c4, c5, c6, c7, c8, c9, cf⟩ := dfacts h.cells
  clear c0 c1 c2 c3 c4 c5 c6 c7
  have b0 := hbd.cell 0 rfl
  rw [hpv] at c9
  go_enter Try.func76, Try.ntmps76
  go_wp2_with fail
  go_loopw [8] (fun i wr => ∃ k : Nat, k ≤ m.acts.length ∧ i = .int .i64 (k : Int) ∧ wr.ownsMap Try.prog 9 ptrE c.ms ((m.acts.take k).foldl DD.act m.sure).length (dirD c.blk ((m.acts.take k).foldl DD.act m.sure)) ∧ Only (fun x => x = c.ms) w wr)
    (fun i _ => m.acts.length - (intOf i).toNat)
  case atStart => exact ⟨0, Nat.zero_le _, rfl, R.sureM, Only.refl _ _⟩
  case round =>
    obtain ⟨k, hk, rfl, hmr, hor⟩ := hrel
    clear c8 c9 cf b0
    have hDr := hor.blk h.cells hdm
    have hBr := hor.blk hbd hbm
    obtain ⟨c0, c1, c2, c3, c4, c5, c6, c7, c8, c9, cf⟩ := dfacts hDr
    clear c0 c1 c2 c3 c4 c5 c6 c7
    have b0 := hBr.cell 0 rfl
    rw [hpv] at c9
    by_cases hlt : k < m.acts.length
    · have ha : m.acts[k]? = some m.acts[k] := List.getElem?_eq_getElem hlt
      have hpk : c.pl[k]? = some (c.pl.getD k .nilFunc) := by rw [List.getD_eq_getElem?_getD, List.getElem?_eq_getElem (by omega)]; rfl
      obtain ⟨g, cap, hv, hcell, _⟩ := row_cell R.pend hpk
      obtain ⟨f, cl, hcl, hent, hcall⟩ := act_call (R.act k m.acts[k] ha)
      rw [hcl] at hcell
      rw [hpv] at hv
      have e1 : pa = some ⟨g, 0, none⟩ := by cases hv; rfl
      subst e1
      have hgt : Typed w g 124 := row_typed R.pend (by rw [hpv]; rfl)
      have hcr : wr.cell? ⟨g, k, none⟩ = some (.func (.func f) #[] cl) := by
        rw [World.cell?_of_block (w := w) (a := ⟨g, k, none⟩) (hor.block g (World.block_lt_of_cell? w ⟨g, k, none⟩ hcell) (fun e => hgt.ne_map R.sureM e))]
        exact hcell
      have hfold := Hid.mk (take_fold m.acts m.sure k m.acts[k] ha)
      have hlf := len_fold (m.acts.take k) m.sure
      have hlk : (m.acts.take k).length ≤ m.acts.length := by rw [List.length_take]; omega
      have hC := Hid.mk (hcall wr c.ms _ (fun j ho hne => hor.block j (h.top j ho) hne) hor.size hmr (fun vs T hb => hb.typed.ne_map R.sureM rfl) (by omega))
      clear hcall hlf hlk hpk ha
      go_wp2_with fail
      refine hC.out.mono ?_
      rintro e w1 ⟨rfl, hm1, hk1⟩
      go_wp2_with fail
      go_roundw
      case rel => exact ⟨k + 1, by omega, by go_num, by rw [hfold.out]; exact hm1, hor.trans hk1 (fun _ _ e => e)⟩
      case measure => simp [intOf]; omega
    · have hkn : k = m.acts.length := by omega
      subst hkn
      rw [List.take_length, R.synced] at hmr
      have hclose : DiskAt (wr.setCell ⟨c.d, 9, none⟩ (.slice none 0 0)) { c with pv := .slice none 0 0, pl := [] } O { m with sure := m.dir, acts := [] } := by
        have hd9 := hDr.set 9 (.slice none 0 0)
        have same : ∀ j, O j → j ≠ c.d → j ≠ c.ms → (wr.setCell ⟨c.d, 9, none⟩ (.slice none 0 0)).heap[j]? = w.heap[j]? := fun j ho h1 h2 =>
          (Below.heap_setCell wr ⟨c.d, 9, none⟩ _ j h1).trans (hor.block j (h.top j ho) h2)
        have ty : ∀ {j T}, O j → Typed w j T → T ≠ 65 → (wr.setCell ⟨c.d, 9, none⟩ (.slice none 0 0)).heap[j]? = w.heap[j]? := fun {j T} ho ht hT => same j ho (ht.ne h.cells.typed hT) (ht.ne_map R.sureM)
        refine { cells := hd9, fuse := h.fuse, fault := h.fault, oD := h.oD, top := fun j ho => by have := h.top j ho; have := hor.size; simp; omega, quota := h.quota, rest := ?_ }
        exact { isM := map_block R.isM (same _ R.oMi (fun e => h.cells.typed.ne_map R.isM e.symm) R.apart), sureM := map_block hmr (Below.heap_setCell wr ⟨c.d, 9, none⟩ _ c.ms (fun e => hdm e.symm)), apart := R.apart, nblk := R.nblk, nbv := R.nbv, nodup := R.nodup
                file := fun i hi => (R.file i hi).of_block (ty (R.oBlk i hi) (R.file i hi).typed (by decide))
                bytes := fun i hi => row_block (R.bytes i hi) (fun j e => ty (R.oBs i j hi e) (row_typed (R.bytes i hi) e) (by decide))
                lens := R.lens, sole := R.sole, pend := World.ownsRow_nil _ _ _ _, act := fun i a e => by simp at e, dirF := R.dirF, sureF := R.dirF, actF := fun a ha => by simp at ha, synced := rfl
                oMi := R.oMi, oMs := R.oMs, oBlk := R.oBlk, oBs := R.oBs, oPv := fun j e => by cases e }
      have HC := Hid.mk hclose
      have hO := Hid.mk ((hor.mono (O' := O) (fun j _ e => e ▸ R.oMs)).setCell (p := ⟨c.d, 9, none⟩) (fun _ => h.oD) (.slice none 0 0))
      clear hclose
      go_wp2
      go_end0
      exact ⟨rfl, hO.out, HC.out⟩

theorem own_syncdir (m : DModel) {o : DOp} (hk : o.kind = 5) : m.own o = 0 := by
  unfold DModel.own
  simp [hk]
theorem done_syncdir (m : DModel) {o : DOp} (hk : o.kind = 5) : m.done o = { m with sure := m.dir, acts := [] } := by
  unfold DModel.done
  simp [hk]

set_option maxHeartbeats 800000 in
theorem syncdir_ok (h : DiskAt w c O m) (o : DOp) (hk : o.kind = 5) (hl : m.sure.length + m.acts.length < 1000000) (kv nv tv bv : Value) :
    StepOk 39 c O m o (.agg #[kv, nv, tv, bv]) w := by
  have hmf : ∀ (fn : Fn) (first cap : Array Value) (w : World), (Instr.makeFunc fn first cap).run Try.prog w = .ok (.func fn first cap) w := fun _ _ _ _ => rfl
  constructor
  · intro howe
    exact absurd (own_syncdir m hk) howe
  · intro howe
    rw [done_syncdir m hk]
    go_enter Try.func39, Try.ntmps39
    go_wp2_with fail
    go_ret
    have hst : Stay w ((w.alloc (.cells #[.pointer (some ⟨c.d, 0, none⟩)] 25)).alloc (.cells #[kv, nv, tv, bv] 31)) := ((Only.refl _ w).alloc _).alloc _
    refine ⟨_, _, _, rfl, hst, enters_of Try.func76 (by kernel_rfl) rfl, fun w2 hs2 => ?_⟩
    have hst2 : Stay w w2 := hst.trans hs2 (fun _ _ f => f)
    have hb : Blk w2 w.heap.size [.pointer (some ⟨c.d, 0, none⟩)] 25 := hs2.blk ((Blk.new w [.pointer (some ⟨c.d, 0, none⟩)] 25).alloc _) (fun f => f)
    refine (syncdir_fin (h.stay hst2) w.heap.size hb (fun ho => by have := h.top _ ho; omega) hl).mono ?_
    rintro e w3 ⟨rfl, hk3, h3⟩
    have h4 := h3.mono (O' := Grow O w w3) (fun k ho => .inl ho) (by
      rintro k (ho | ⟨_, ho⟩)
      · exact h3.top k ho
      · exact ho)
    exact ⟨rfl, hk3.mono (fun k _ ho => .inl ho), { c with pv := .slice none 0 0, pl := [] }, rfl, h4⟩
end
end Go.Proofs.Ytpjedcfdchebgaa
