/-
  Dappok, Dsyncdir, Dsettle, Dlast.
-/
import Derived.Test.YtfmdnaagdhpcpaaQ08
import Derived.Test.YtfmdnaagdhpcpaaQ06
import Derived.Deep.RegionHeld3

/-
  The step append: its own errors, and what it hands back.
-/
namespace Go.Proofs.Ytfmdnaagdhpcpaa
open Go.RowKit Go.Proofs.Lys Go.Maps Go.Shelf
set_option linter.unusedVariables false

section
variable {w : World} {c : Conc} {O : Nat → Prop} {m : DModel}

theorem own_append (m : DModel) {o : DOp} (hk : o.kind = 1) : m.own o = match DD.look m.dir o.name with
    | none => 6
    | some f => if 16777216 < (m.fileAt f).b.length + o.bytes.length then 2 else if m.quota < m.used + o.bytes.length then 11 else 0 := by
  unfold DModel.own
  cases DD.look m.dir o.name <;> simp [hk]
theorem done_append (m : DModel) {o : DOp} (hk : o.kind = 1) {f : Nat} (hf : DD.look m.dir o.name = some f) : m.done o = { m with files := m.files.set f ⟨(m.fileAt f).b ++ o.bytes, (m.fileAt f).sure⟩ } := by
  unfold DModel.done
  simp [hk, hf]

set_option maxHeartbeats 1600000 in
theorem append_ok (h : DiskAt w c O m) (o : DOp) (hk : o.kind = 1) (hl : m.dir.length < 1000000) {s : ByteArray} (hs : s.size ≤ maxLen) (hn : s.data.toList = o.name) (kv tv : Value) {bv : Value} (hsrc : SrcAt w bv o.bytes) (hbl : o.bytes.length ≤ 140737488355328) :
    StepOk 29 c O m o (.agg #[kv, .string s, tv, bv]) w := by
  have hmf : ∀ (fn : Fn) (first cap : Array Value) (w : World), (Instr.makeFunc fn first cap).run Try.prog w = .ok (.func fn first cap) w := fun _ _ _ _ => rfl
  obtain ⟨ba, bc, rfl⟩ := hsrc.len
  have hst : Stay w (w.alloc (.cells #[kv, .string s, tv, .slice ba o.bytes.length bc] 31)) := (Only.refl _ w).alloc _
  have h1 := h.stay hst
  cases hlo : DD.look m.dir o.name with
  | none =>
    constructor
    · intro howe
      rw [own_append m hk, hlo]
      go_enter Try.func29, Try.ntmps29
      go_wp2_with fail
      refine (find_none h1 hs (by rw [hn]; exact hlo)).mono ?_
      rintro e w1 ⟨rfl, rfl⟩
      exact ⟨rfl, rfl, hst⟩
    · intro howe
      rw [own_append m hk, hlo] at howe
      simp at howe
  | some f =>
    have hf : f < m.files.length := h.rest.dirF _ (look_mem hlo)
    have hlf := (h.rest.lens f hf).1
    obtain ⟨fa, fc, hfv⟩ := row_slice (h.rest.bytes f hf)
    have hlt := (h.rest.file f hf).lt
    have hF := h.rest.file f hf
    rw [hfv] at hF
    have f0 : w.cell? ⟨c.blk.getD f 0, 0, none⟩ = some (.slice fa (m.fileAt f).b.length fc) := hF.cell 0 rfl
    have hfind := Hid.mk (find_some h1 hs (by rw [hn]; exact hlo))
    have hwrap : IntKind.i64.wrap (((m.fileAt f).b.length : Int) + (o.bytes.length : Int)) = ((m.fileAt f).b.length : Int) + (o.bytes.length : Int) := by
      rw [IntKind.wrap_i64]
      omega
    by_cases hlong : 16777216 < (m.fileAt f).b.length + o.bytes.length
    · constructor
      · intro howe
        rw [own_append m hk, hlo]
        simp only [hlong, if_true]
        exact append_core_long w c.d (c.blk.getD f 0) (m.fileAt f).b.length o.bytes.length fc bc fa ba kv tv s hfind hlt f0 (by unfold Hid; rw [hwrap]; simp; omega)
      · intro howe
        rw [own_append m hk, hlo] at howe
        simp [hlong] at howe
    · have hT : Hid (decide ((16777216 : Int) < IntKind.i64.wrap (((m.fileAt f).b.length : Int) + (o.bytes.length : Int))) = false) := by unfold Hid; rw [hwrap]; simp; omega
      have hroom : Hid (∀ W, Stay w W → Calls Try.prog 25 #[.pointer (some ⟨c.d, 0, none⟩)] W fun e w' => e = .returned (.int .i64 ((m.quota : Int) - (m.used : Int))) ∧ Stay W w') := fun W hW => room_any (h.stay hW) hl
      by_cases hq : m.quota < m.used + o.bytes.length
      · constructor
        · intro howe
          rw [own_append m hk, hlo]
          simp only [hlong, if_false, hq, if_true]
          exact append_core_full w c.d (c.blk.getD f 0) (m.fileAt f).b.length o.bytes.length fc bc fa ba kv tv s _ hfind hroom hlt f0 hT (by unfold Hid; simp; omega)
        · intro howe
          rw [own_append m hk, hlo] at howe
          simp [hlong, hq] at howe
      · constructor
        · intro howe
          rw [own_append m hk, hlo] at howe
          simp [hlong, hq] at howe
        · intro howe
          rw [done_append m hk hlo]
          refine (append_core_ok w c.d (c.blk.getD f 0) (m.fileAt f).b.length o.bytes.length fc bc fa ba kv tv s _ hfind hroom hlt f0 hT (by unfold Hid; simp; omega)).mono ?_
          rintro e w1 ⟨rfl, hs1⟩
          have hst1 : Stay w w1 := (appS w (c.blk.getD f 0) kv (.string s) tv (.slice ba o.bytes.length bc)).trans hs1 (fun _ _ f => f)
          refine ⟨_, _, _, rfl, hst1, enters_of Try.func55 (by kernel_rfl) rfl, fun w2 hs2 => ?_⟩
          have hst2 : Stay w w2 := hst1.trans hs2 (fun _ _ f => f)
          have hs12 : Stay (appW w (c.blk.getD f 0) kv (.string s) tv (.slice ba o.bytes.length bc)) w2 := hs1.trans hs2 (fun _ _ f => f)
          refine (append_fin (h.stay hst2) f hf (hsrc.stay hst2) (w.heap.size + 1) w.heap.size (hs12.blk (appV w _ kv (.string s) tv (.slice ba o.bytes.length bc)) (fun f => f)) (hs12.blk (appO w _ kv (.string s) tv (.slice ba o.bytes.length bc)) (fun f => f)) (by omega)).mono ?_
          rintro e w3 ⟨rfl, hk3, c', hc', h3⟩
          exact ⟨rfl, hk3.mono (fun k _ ho => .inl ho), c', hc', grow_mono h3 hst2.size (fun k ho => Nat.lt_of_lt_of_le (h.top k ho) (Nat.le_trans hst2.size hk3.size))⟩
end
end Go.Proofs.Ytfmdnaagdhpcpaa

/-
  The step syncDir: all acts that are pending, done one by one to the sure directory.
-/
namespace Go.Proofs.Ytfmdnaagdhpcpaa
open Go.RowKit Go.Proofs.Lys Go.Maps Go.Shelf
set_option linter.unusedVariables false

section
variable {w : World} {c : Conc} {O : Nat → Prop} {m : DModel}

theorem len_fold : ∀ (ac : List DAct) (l : DDir), (ac.foldl DD.act l).length ≤ l.length + ac.length
  | [], l => by simp
  | a :: r, l => by
    have h1 := len_fold r (DD.act l a)
    have h2 := len_act l a
    simp only [List.foldl_cons, List.length_cons]
    omega

theorem take_fold (ac : List DAct) (l : DDir) (k : Nat) (a : DAct) (h : ac[k]? = some a) : (ac.take (k + 1)).foldl DD.act l = DD.act ((ac.take k).foldl DD.act l) a := by
  have hk := (List.getElem?_eq_some_iff.1 h).1
  rw [List.take_succ_eq_append_getElem hk, List.foldl_append]
  have : ac[k] = a := (List.getElem?_eq_some_iff.1 h).2
  rw [this]
  rfl

/-- An element of a row that is owned. -/
theorem row_cell {e : TypeId} {v : Value} {n : Nat} {xs : List Value} (h : w.ownsRow 0 e 1 v n xs) {k : Nat} {u : Value} (hk : xs[k]? = some u) : ∃ g cap, v = .slice (some ⟨g, 0, none⟩) n cap ∧ w.cell? ⟨g, k, none⟩ = some u ∧ k < n := by
  obtain ⟨hl, ⟨rfl, rfl⟩ | ⟨g, cap, cur, rfl, _, hg, hn, _, hc, ht⟩⟩ := h
  · have : xs = [] := List.eq_nil_of_length_eq_zero (by simpa using hl)
    subst this
    simp at hk
  · have hlt := (List.getElem?_eq_some_iff.1 hk).1
    refine ⟨g, cap, rfl, ?_, by omega⟩
    simp only [World.cell?, hg]
    rw [← ht] at hk
    rw [List.getElem?_take] at hk
    split at hk
    · simpa using hk
    · cases hk

set_option maxHeartbeats 1600000 in
theorem syncdir_fin (h : DiskAt w c O m) (bd : Nat) (hbd : Blk w bd [.pointer (some ⟨c.d, 0, none⟩)] 25) (hnd : ¬ O bd) (hl : m.sure.length + m.acts.length < 1000000) :
    Calls Try.prog 59 #[.pointer (some ⟨bd, 0, none⟩)] w fun e w' => e = .returned (.tuple #[]) ∧ Only O w w' ∧ DiskAt w' { c with pv := .slice none 0 0, pl := [] } O { m with sure := m.dir, acts := [] } := by
  have R := h.rest
  have hdm := h.cells.typed.ne_map R.sureM
  have hbm := hbd.typed.ne_map R.sureM
  obtain ⟨pa, pc, hpv⟩ := row_slice R.pend
  have hlen : c.pl.length = m.acts.length := by have := R.pend.1; omega
  obtain ⟨c0, c1, c2, c3, c4, c5, c6, c7, c8, c9, cf⟩ := dfacts h.cells
  clear c0 c1 c2 c3 c4 c5 c6 c7
  have b0 := hbd.cell 0 rfl
  rw [hpv] at c9
  go_enter Try.func59, Try.ntmps59
  go_wp2_with fail
  go_loopw [8] (fun i wr => ∃ k : Nat, k ≤ m.acts.length ∧ i = .int .i64 (k : Int) ∧ wr.ownsMap Try.prog 9 ptrE c.ms ((m.acts.take k).foldl DD.act m.sure).length (dirD c.blk ((m.acts.take k).foldl DD.act m.sure)) ∧ Only (fun x => x = c.ms) w wr)
    (fun i _ => m.acts.length - (intOf i).toNat)
  case atStart => exact ⟨0, Nat.zero_le _, rfl, R.sureM, Only.refl _ _⟩
  case round =>
    obtain ⟨k, hk, rfl, hmr, hor⟩ := hrel
    clear c8 c9 cf b0
    have hDr := hor.blk h.cells hdm
    have hBr := hor.blk hbd hbm
    obtain ⟨c0, c1, c2, c3, c4, c5, c6, c7, c8, c9, cf⟩ := dfacts hDr
    clear c0 c1 c2 c3 c4 c5 c6 c7
    have b0 := hBr.cell 0 rfl
    rw [hpv] at c9
    by_cases hlt : k < m.acts.length
    · have ha : m.acts[k]? = some m.acts[k] := List.getElem?_eq_getElem hlt
      have hpk : c.pl[k]? = some (c.pl.getD k .nilFunc) := by rw [List.getD_eq_getElem?_getD, List.getElem?_eq_getElem (by omega)]; rfl
      obtain ⟨g, cap, hv, hcell, _⟩ := row_cell R.pend hpk
      obtain ⟨f, cl, hcl, hent, hcall⟩ := act_call (R.act k m.acts[k] ha)
      rw [hcl] at hcell
      rw [hpv] at hv
      have e1 : pa = some ⟨g, 0, none⟩ := by cases hv; rfl
      subst e1
      have hgt : Typed w g 95 := row_typed R.pend (by rw [hpv]; rfl)
      have hcr : wr.cell? ⟨g, k, none⟩ = some (.func (.func f) #[] cl) := by
        rw [World.cell?_of_block (w := w) (a := ⟨g, k, none⟩) (hor.block g (World.block_lt_of_cell? w ⟨g, k, none⟩ hcell) (fun e => hgt.ne_map R.sureM e))]
        exact hcell
      have hfold := Hid.mk (take_fold m.acts m.sure k m.acts[k] ha)
      have hlf := len_fold (m.acts.take k) m.sure
      have hlk : (m.acts.take k).length ≤ m.acts.length := by rw [List.length_take]; omega
      have hC := Hid.mk (hcall wr c.ms _ (fun j ho hne => hor.block j (h.top j ho) hne) hor.size hmr (fun vs T hb => hb.typed.ne_map R.sureM rfl) (by omega))
      clear hcall hlf hlk hpk ha
      go_wp2_with fail
      refine hC.out.mono ?_
      rintro e w1 ⟨rfl, hm1, hk1⟩
      go_wp2_with fail
      go_roundw
      case rel => exact ⟨k + 1, by omega, by go_num, by rw [hfold.out]; exact hm1, hor.trans hk1 (fun _ _ e => e)⟩
      case measure => simp [intOf]; omega
    · have hkn : k = m.acts.length := by omega
      subst hkn
      rw [List.take_length, R.synced] at hmr
      have hclose : DiskAt (wr.setCell ⟨c.d, 9, none⟩ (.slice none 0 0)) { c with pv := .slice none 0 0, pl := [] } O { m with sure := m.dir, acts := [] } := by
        have hd9 := hDr.set 9 (.slice none 0 0)
        have same : ∀ j, O j → j ≠ c.d → j ≠ c.ms → (wr.setCell ⟨c.d, 9, none⟩ (.slice none 0 0)).heap[j]? = w.heap[j]? := fun j ho h1 h2 =>
          (Below.heap_setCell wr ⟨c.d, 9, none⟩ _ j h1).trans (hor.block j (h.top j ho) h2)
        have ty : ∀ {j T}, O j → Typed w j T → T ≠ 58 → (wr.setCell ⟨c.d, 9, none⟩ (.slice none 0 0)).heap[j]? = w.heap[j]? := fun {j T} ho ht hT => same j ho (ht.ne h.cells.typed hT) (ht.ne_map R.sureM)
        refine { cells := hd9, fuse := h.fuse, fault := h.fault, oD := h.oD, top := fun j ho => by have := h.top j ho; have := hor.size; simp; omega, quota := h.quota, rest := ?_ }
        exact { isM := map_block R.isM (same _ R.oMi (fun e => h.cells.typed.ne_map R.isM e.symm) R.apart), sureM := map_block hmr (Below.heap_setCell wr ⟨c.d, 9, none⟩ _ c.ms (fun e => hdm e.symm)), apart := R.apart, nblk := R.nblk, nbv := R.nbv, nodup := R.nodup
                file := fun i hi => (R.file i hi).of_block (ty (R.oBlk i hi) (R.file i hi).typed (by decide))
                bytes := fun i hi => row_block (R.bytes i hi) (fun j e => ty (R.oBs i j hi e) (row_typed (R.bytes i hi) e) (by decide))
                lens := R.lens, sole := R.sole, pend := World.ownsRow_nil _ _ _ _, act := fun i a e => by simp at e, dirF := R.dirF, sureF := R.dirF, actF := fun a ha => by simp at ha, synced := rfl
                oMi := R.oMi, oMs := R.oMs, oBlk := R.oBlk, oBs := R.oBs, oPv := fun j e => by cases e }
      have HC := Hid.mk hclose
      have hO := Hid.mk ((hor.mono (O' := O) (fun j _ e => e ▸ R.oMs)).setCell (p := ⟨c.d, 9, none⟩) (fun _ => h.oD) (.slice none 0 0))
      clear hclose
      go_wp2
      go_end0
      exact ⟨rfl, hO.out, HC.out⟩

theorem own_syncdir (m : DModel) {o : DOp} (hk : o.kind = 5) : m.own o = 0 := by
  unfold DModel.own
  simp [hk]
theorem done_syncdir (m : DModel) {o : DOp} (hk : o.kind = 5) : m.done o = { m with sure := m.dir, acts := [] } := by
  unfold DModel.done
  simp [hk]

set_option maxHeartbeats 800000 in
theorem syncdir_ok (h : DiskAt w c O m) (o : DOp) (hk : o.kind = 5) (hl : m.sure.length + m.acts.length < 1000000) (kv nv tv bv : Value) :
    StepOk 33 c O m o (.agg #[kv, nv, tv, bv]) w := by
  have hmf : ∀ (fn : Fn) (first cap : Array Value) (w : World), (Instr.makeFunc fn first cap).run Try.prog w = .ok (.func fn first cap) w := fun _ _ _ _ => rfl
  constructor
  · intro howe
    exact absurd (own_syncdir m hk) howe
  · intro howe
    rw [done_syncdir m hk]
    go_enter Try.func33, Try.ntmps33
    go_wp2_with fail
    go_ret
    have hst : Stay w ((w.alloc (.cells #[.pointer (some ⟨c.d, 0, none⟩)] 25)).alloc (.cells #[kv, nv, tv, bv] 31)) := ((Only.refl _ w).alloc _).alloc _
    refine ⟨_, _, _, rfl, hst, enters_of Try.func59 (by kernel_rfl) rfl, fun w2 hs2 => ?_⟩
    have hst2 : Stay w w2 := hst.trans hs2 (fun _ _ f => f)
    have hb : Blk w2 w.heap.size [.pointer (some ⟨c.d, 0, none⟩)] 25 := hs2.blk ((Blk.new w [.pointer (some ⟨c.d, 0, none⟩)] 25).alloc _) (fun f => f)
    refine (syncdir_fin (h.stay hst2) w.heap.size hb (fun ho => by have := h.top _ ho; omega) hl).mono ?_
    rintro e w3 ⟨rfl, hk3, h3⟩
    have h4 := h3.mono (O' := Grow O w w3) (fun k ho => .inl ho) (by
      rintro k (ho | ⟨_, ho⟩)
      · exact h3.top k ho
      · exact ho)
    exact ⟨rfl, hk3.mono (fun k _ ho => .inl ho), { c with pv := .slice none 0 0, pl := [] }, rfl, h4⟩
end
end Go.Proofs.Ytfmdnaagdhpcpaa

/-
  settle: the acts that are kept are done to a copy of the sure directory, which is the only one then.
-/
namespace Go.Proofs.Ytfmdnaagdhpcpaa
open Go.RowKit Go.Proofs.Lys Go.Maps Go.Shelf
set_option linter.unusedVariables false

theorem odd_free (n : Int) (w : World) : Calls Try.prog 68 #[.int .i64 n] w fun e w' => e = .returned (.bool (DModel.oddB n)) ∧ w' = w := by
  go_enter Try.func68, Try.ntmps68
  go_wp2
  go_ret
  exact ⟨ret_bool (by
    unfold DModel.oddB
    rw [Bool.eq_iff_iff]
    have e : n.tmod 2 = 0 ↔ n % 2 = 0 := by rw [← Int.dvd_iff_tmod_eq_zero, ← Int.dvd_iff_emod_eq_zero]
    simp [e]), rfl⟩

/-- A directory that may be nil. -/
def SureAt (w : World) (blk : List Nat) (sv : Value) (l : DDir) : Prop := (sv = .map none ∧ l = []) ∨ ∃ b, sv = .map (some b) ∧ w.ownsMap Try.prog 9 ptrE b l.length (dirD blk l)

section
variable {w : World} {blk : List Nat} {O : Nat → Prop}

theorem copied_sure {sv : Value} {l : DDir} (h : SureAt w blk sv l) (hl : l.length < 1000000) :
    Calls Try.prog 67 #[sv] w fun e w' => e = .returned (.map (some w.heap.size)) ∧ w'.ownsMap Try.prog 9 ptrE w.heap.size l.length (dirD blk l) ∧ Stay w w' := by
  rcases h with ⟨rfl, rfl⟩ | ⟨b, rfl, hb⟩
  · exact copied_nil
  · exact copied_any b hb hl

theorem keep_snoc : ∀ (ac : List DAct) (a : DAct) (l : List Int) (d : DDir), DModel.keepActs (ac ++ [a]) l d =
    ((if DModel.oddB ((DModel.keepActs ac l d).2.headD 0) then DD.act (DModel.keepActs ac l d).1 a else (DModel.keepActs ac l d).1), (DModel.keepActs ac l d).2.tail)
  | [], a, l, d => rfl
  | b :: r, a, l, d => keep_snoc r a l.tail _

theorem keep_take (ac : List DAct) (k : Nat) (a : DAct) (h : ac[k]? = some a) (l : List Int) (d : DDir) : DModel.keepActs (ac.take (k + 1)) l d =
    ((if DModel.oddB ((DModel.keepActs (ac.take k) l d).2.headD 0) then DD.act (DModel.keepActs (ac.take k) l d).1 a else (DModel.keepActs (ac.take k) l d).1), (DModel.keepActs (ac.take k) l d).2.tail) := by
  have hk := (List.getElem?_eq_some_iff.1 h).1
  rw [List.take_succ_eq_append_getElem hk]
  have : ac[k] = a := (List.getElem?_eq_some_iff.1 h).2
  rw [this]
  exact keep_snoc _ _ _ _

theorem len_keep : ∀ (ac : List DAct) (l : List Int) (d : DDir), (DModel.keepActs ac l d).1.length ≤ d.length + ac.length
  | [], l, d => by simp [DModel.keepActs]
  | a :: r, l, d => by
    unfold DModel.keepActs
    refine Nat.le_trans (len_keep r _ _) ?_
    have := len_act d a
    split <;> simp only [List.length_cons] <;> omega

def sCells (q st : Int) (on fl : Bool) (fw : Int) (al : Bool) (aw : Int) (iv sv pv : Value) : List Value :=
  [.int .i64 q, .int .i64 st, .bool on, .bool fl, .int .i64 fw, .bool al, .int .i64 aw, iv, sv, pv]

set_option maxHeartbeats 1600000 in
theorem settle_core {d nb : Nat} {q st : Int} {on fl : Bool} {fw : Int} {al : Bool} {aw : Int} {iv sv pv : Value} {sure : DDir} {acts : List DAct} {pl : List Value} {keep : List Int}
    (hD : Blk w d (sCells q st on fl fw al aw iv sv pv) 58) (hiv : iv = .map none ∨ ∃ b, iv = .map (some b)) (hS : SureAt w blk sv sure) (hP : w.ownsRow 0 95 1 pv acts.length pl) (hA : ∀ i a, acts[i]? = some a → ActAt w O blk (pl.getD i .nilFunc) a)
    (hN : NumsAt w O nb keep) (hNO : ¬ O nb) (hOd : O d) (hsm : sure.length + acts.length < 1000000) (htop : ∀ k, O k → k < w.heap.size) :
    Calls Try.prog 41 #[.pointer (some ⟨d, 0, none⟩), .func (.func 66) #[] #[.pointer (some ⟨nb, 0, none⟩)]] w fun e w' => e = .returned (.tuple #[]) ∧
      ∃ mi ms, w.heap.size ≤ mi ∧ w.heap.size ≤ ms ∧ mi ≠ ms ∧ w'.ownsMap Try.prog 9 ptrE mi (DModel.keepActs acts keep sure).1.length (dirD blk (DModel.keepActs acts keep sure).1) ∧
        w'.ownsMap Try.prog 9 ptrE ms (DModel.keepActs acts keep sure).1.length (dirD blk (DModel.keepActs acts keep sure).1) ∧
        Blk w' d (sCells q st on fl fw al aw (.map (some mi)) (.map (some ms)) (.slice none 0 0)) 58 ∧ NumsAt w' O nb (DModel.keepActs acts keep sure).2 ∧ Only (fun x => x = d ∨ x = nb) w w' := by
  obtain ⟨pa, pc, rfl⟩ := row_slice hP
  have hlen : pl.length = acts.length := by have := hP.1; omega
  have hnd : nb ≠ d := by
    obtain ⟨v, hb, _⟩ := hN
    exact hb.typed.ne hD.typed (by decide)
  have c7 := hD.cell 7 rfl
  have c8 := hD.cell 8 rfl
  have c9 := hD.cell 9 rfl
  have cf := hD.frozen
  go_enter Try.func41, Try.ntmps41
  go_wp2_with fail
  refine (copied_sure hS (by omega)).mono ?_
  rintro e w1 ⟨rfl, hm1, hs1⟩
  have hD1 := hs1.blk hD (fun f => f)
  clear c7 c8 c9 cf
  have c9 := hD1.cell 9 rfl
  go_wp2_with fail
  go_loopw [17] (fun i wr => ∃ k : Nat, k ≤ acts.length ∧ i = .int .i64 (k : Int) ∧
      wr.ownsMap Try.prog 9 ptrE w.heap.size (DModel.keepActs (acts.take k) keep sure).1.length (dirD blk (DModel.keepActs (acts.take k) keep sure).1) ∧ NumsAt wr (fun j => O j ∨ w.heap.size ≤ j) nb (DModel.keepActs (acts.take k) keep sure).2 ∧ Only (fun x => x = nb) w wr)
    (fun i _ => acts.length - (intOf i).toNat)
  case atStart => exact ⟨0, Nat.zero_le _, rfl, hm1, hN.old.only hs1 (fun f => f) (fun _ _ f => f.elim), hs1.mono (fun _ _ f => f.elim)⟩
  case round =>
    obtain ⟨k, hk, rfl, hmr, hNr, hor⟩ := hrel
    clear c9
    have hDr := hor.blk hD (fun e => hnd e.symm)
    have hnb : nb < w.heap.size := by
      obtain ⟨v, hb, _⟩ := hN
      exact hb.lt
    by_cases hlt : k < acts.length
    · have ha : acts[k]? = some acts[k] := List.getElem?_eq_getElem hlt
      have hpk : pl[k]? = some (pl.getD k .nilFunc) := by rw [List.getD_eq_getElem?_getD, List.getElem?_eq_getElem (by omega)]; rfl
      obtain ⟨g, cap, hv, hcell, _⟩ := row_cell hP hpk
      obtain ⟨f, cl, hcl, hent, hcall⟩ := act_call (hA k acts[k] ha)
      rw [hcl] at hcell
      have e1 : pa = some ⟨g, 0, none⟩ := by cases hv; rfl
      subst e1
      have hgt : Typed w g 95 := row_typed hP rfl
      have hgn : g ≠ nb := by
        obtain ⟨v, hb, _⟩ := hN
        exact hgt.ne hb.typed (by decide)
      have hcr : wr.cell? ⟨g, k, none⟩ = some (.func (.func f) #[] cl) := by
        rw [World.cell?_of_block (w := w) (a := ⟨g, k, none⟩) (hor.block g (World.block_lt_of_cell? w ⟨g, k, none⟩ hcell) hgn)]
        exact hcell
      have hfold := Hid.mk (keep_take acts k acts[k] ha keep sure)
      have hlf := len_keep (acts.take k) keep sure
      have hlk : (acts.take k).length ≤ acts.length := by rw [List.length_take]; omega
      have hl3 : (DModel.keepActs (acts.take k) keep sure).1.length < 1000000 := by omega
      have hnx := Hid.mk (next_any hNr)
      clear hlf hlk hpk ha hv hcell
      go_wp2_with fail
      refine hnx.out.mono ?_
      rintro e w2 ⟨rfl, hk2, hN2⟩
      clear hnx
      generalize hgx : (DModel.keepActs (acts.take k) keep sure).2.headD 0 = x at *
      clear hgx
      go_wp2_with fail
      refine (odd_free _ _).mono ?_
      rintro e w2' ⟨rfl, rfl⟩
      have hor2 : Only (fun x => x = nb) w w2' := hor.trans hk2 (fun _ _ e => e)
      have hm2 := hk2.map hmr (fun e => by omega)
      cases hodd : DModel.oddB x
      · go_wp2_with fail
        go_roundw
        case rel => exact ⟨k + 1, by omega, by go_num, by rw [hfold.out, hodd]; exact hm2, by rw [hfold.out]; exact hN2, hor2⟩
        case measure => simp [intOf]; omega
      · have hC := Hid.mk (hcall w2' w.heap.size _ (fun j ho hne => hor2.block j (htop j ho) (fun e => hNO (e ▸ ho))) hor2.size hm2 (fun vs T hb => by have := hb.lt; omega) hl3)
        go_wp2_with fail
        refine hC.out.mono ?_
        rintro e w3 ⟨rfl, hm3, hk3⟩
        go_wp2_with fail
        go_roundw
        case rel => exact ⟨k + 1, by omega, by go_num, by rw [hfold.out, hodd]; exact hm3, by rw [hfold.out]; exact hN2.only hk3 (fun e => by omega) (fun j hj e => .inr (by omega)), hor2.trans hk3 (fun j hj e => by omega)⟩
        case measure => simp [intOf]; omega
    · have hkn : k = acts.length := by omega
      subst hkn
      rw [List.take_length] at hmr hNr
      have hlf := len_keep acts keep sure
      have hl3 : (DModel.keepActs acts keep sure).1.length < 1000000 := by omega
      have hcp := Hid.mk (copied_any w.heap.size hmr hl3)
      have c7 := hDr.cell 7 rfl
      have c8 := hDr.cell 8 rfl
      have c9 := hDr.cell 9 rfl
      have cf := hDr.frozen
      clear hlf
      go_wp2_with fail
      refine hcp.out.mono ?_
      rintro e w2 ⟨rfl, hm2, hs2⟩
      have hD2 := hs2.blk hDr (fun f => f)
      have hS2 := hs2.map hmr (fun f => f)
      clear c7 c8 c9 cf
      have c7 := hD2.cell 7 rfl
      have c8 := hD2.cell 8 rfl
      have c9 := hD2.cell 9 rfl
      have cf := hD2.frozen
      have hdl := hD.lt
      have hszr := hor.size
      have hfin : ∃ mi ms, w.heap.size ≤ mi ∧ w.heap.size ≤ ms ∧ mi ≠ ms ∧ (((w2.setCell ⟨d, 8, none⟩ (.map (some w.heap.size))).setCell ⟨d, 7, none⟩ (.map (some wr.heap.size))).setCell ⟨d, 9, none⟩ (.slice none 0 0)).ownsMap Try.prog 9 ptrE mi (DModel.keepActs acts keep sure).1.length (dirD blk (DModel.keepActs acts keep sure).1) ∧
          (((w2.setCell ⟨d, 8, none⟩ (.map (some w.heap.size))).setCell ⟨d, 7, none⟩ (.map (some wr.heap.size))).setCell ⟨d, 9, none⟩ (.slice none 0 0)).ownsMap Try.prog 9 ptrE ms (DModel.keepActs acts keep sure).1.length (dirD blk (DModel.keepActs acts keep sure).1) ∧
          Blk (((w2.setCell ⟨d, 8, none⟩ (.map (some w.heap.size))).setCell ⟨d, 7, none⟩ (.map (some wr.heap.size))).setCell ⟨d, 9, none⟩ (.slice none 0 0)) d (sCells q st on fl fw al aw (.map (some mi)) (.map (some ms)) (.slice none 0 0)) 58 ∧
          NumsAt (((w2.setCell ⟨d, 8, none⟩ (.map (some w.heap.size))).setCell ⟨d, 7, none⟩ (.map (some wr.heap.size))).setCell ⟨d, 9, none⟩ (.slice none 0 0)) O nb (DModel.keepActs acts keep sure).2 ∧
          Only (fun x => x = d ∨ x = nb) w (((w2.setCell ⟨d, 8, none⟩ (.map (some w.heap.size))).setCell ⟨d, 7, none⟩ (.map (some wr.heap.size))).setCell ⟨d, 9, none⟩ (.slice none 0 0)) := by
        have hk3 : Only (fun x => x = d) w2 (((w2.setCell ⟨d, 8, none⟩ (.map (some w.heap.size))).setCell ⟨d, 7, none⟩ (.map (some wr.heap.size))).setCell ⟨d, 9, none⟩ (.slice none 0 0)) := (((Only.refl (fun x => x = d) w2).setCell (fun _ => rfl) _).setCell (fun _ => rfl) _).setCell (fun _ => rfl) _
        have hml := hmr.lt
        refine ⟨wr.heap.size, w.heap.size, hszr, Nat.le_refl _, by omega, hk3.map hm2 (fun e => by omega), hk3.map hS2 (fun e => by omega), ((hD2.set 8 _).set 7 _).set 9 _, ?_, ?_⟩
        · have hN2 := hNr.only hs2 (fun f => f) (fun _ _ f => f.elim)
          exact (hN2.only hk3 hnd (fun j _ e => .inl (e ▸ hOd))).less (fun k hk => .inl hk)
        · exact ((hor.mono (O' := fun x => x = d ∨ x = nb) (fun j _ e => .inr e)).trans hs2 (fun _ _ f => f.elim)).trans hk3 (fun j _ e => .inl e)
      have HF := Hid.mk hfin
      clear hfin
      go_wp2
      go_end0
      exact ⟨rfl, HF.out⟩
end
end Go.Proofs.Ytfmdnaagdhpcpaa

/-
  A region that draws its order, and whose last operation (it waits for the others) may change what the loads have read: the loads are taken first all the same.
-/
namespace Go.Proofs.Lys
open Go

section
variable {P : Program} {ops : Array Oper} {Q : Exit → Act → World → Prop} {md : Region.Mode} {S : World → Prop} {L : Nat}

/-- Whatever order is picked: S holds behind every operation but number L. -/
def wpAnyL (P : Program) (md : Region.Mode) (ops : Array Oper) (Q : Exit → Act → World → Prop) (S : World → Prop) (L : Nat) : Nat → Array Bool → Act → World → Prop
  | 0, listed, a, w => Region.ready md ops listed = [] ∧ Q .normal a w
  | fuel + 1, listed, a, w =>
    (Region.ready md ops listed = [] → Q .normal a w) ∧
    ∀ i ∈ Region.ready md ops listed, wpOp P ops Q i (fun a' w' => (i ≠ L → S w') ∧ wpAnyL P md ops Q S L fuel (listed.setIfInBounds i true) a' w') a w

theorem wpAny_of_last : ∀ (fuel : Nat) (listed : Array Bool) (a : Act) (w : World), wpAnyL P md ops Q S L fuel listed a w → wpAny P md ops Q fuel listed a w
  | 0, _, _, _, h => h
  | fuel + 1, _, _, _, h => ⟨h.1, fun i hi => wpOp_mono (fun a' w' h' => wpAny_of_last fuel _ a' w' h'.2) (h.2 i hi)⟩

/-- Number L waits for number i. -/
def waits (md : Region.Mode) (ops : Array Oper) (L i : Nat) : Bool :=
  match ops[L]? with
  | some o => o.after.any fun e => Region.binds md e && e.on == i
  | none => false

/-- What has come up had its own before it. -/
def Closed (md : Region.Mode) (ops : Array Oper) (listed : Array Bool) : Prop := ∀ m o, ops[m]? = some o → listed.getD m false = true → ∀ e ∈ o.after, Region.binds md e = true → listed.getD e.on false = true

def closedB (md : Region.Mode) (ops : Array Oper) (listed : Array Bool) : Bool :=
  (List.range ops.size).all fun m => !(listed.getD m false) || (match ops[m]? with | some o => o.after.all (fun e => !(Region.binds md e) || listed.getD e.on false) | none => true)

theorem closed_spec {listed : Array Bool} (h : closedB md ops listed = true) : Closed md ops listed := by
  intro m o ho hm e he hb
  unfold closedB at h
  have hlt : m < ops.size := (Array.getElem?_eq_some_iff.1 ho).1
  have h1 := List.all_eq_true.1 h m (by simpa using hlt)
  rw [hm, ho] at h1
  simp only [Bool.not_true, Bool.false_or] at h1
  have h2 := Array.all_eq_true'.1 h1 e he
  rw [hb] at h2
  simpa using h2

theorem closed_set {listed : Array Bool} {j : Nat} (h : Closed md ops listed) (hj : j ∈ Region.ready md ops listed) : Closed md ops (listed.setIfInBounds j true) := by
  intro m o ho hm e he hb
  obtain ⟨hjun, oj, hoj, hall⟩ := mem_ready.1 hj
  by_cases hmj : j = m
  · subst hmj
    rw [hoj] at ho
    cases ho
    exact getD_set_true (hall e he hb)
  · rw [getD_set_ne false hmj] at hm
    exact getD_set_true (h m o ho hm e he hb)

/-- Number L waits for number i, or for one that does. -/
def waits2 (md : Region.Mode) (ops : Array Oper) (L i : Nat) : Bool := waits md ops L i || (List.range ops.size).any fun m => waits md ops L m && waits md ops m i

theorem waits_listed {listed : Array Bool} {a b : Nat} (h : waits md ops a b = true) (ha : ∀ o, ops[a]? = some o → ∀ e ∈ o.after, Region.binds md e = true → listed.getD e.on false = true) : listed.getD b false = true := by
  unfold waits at h
  split at h
  · rename_i o ho
    obtain ⟨e, he, hb⟩ := Array.any_eq_true'.1 h
    simp at hb
    have := ha o ho e he hb.1
    rw [hb.2] at this
    exact this
  · cases h

theorem waits_spec {i : Nat} {listed : Array Bool} (h : waits2 md ops L i = true) (hc : Closed md ops listed) (hi : i ∈ Region.ready md ops listed) : L ∉ Region.ready md ops listed := by
  intro hL
  obtain ⟨hun, oi, hoi, _⟩ := mem_ready.1 hi
  obtain ⟨_, oL, hoL, hall⟩ := mem_ready.1 hL
  have haL : ∀ o, ops[L]? = some o → ∀ e ∈ o.after, Region.binds md e = true → listed.getD e.on false = true := fun o ho => by rw [hoL] at ho; cases ho; exact hall
  have hil : listed.getD i false = true := by
    unfold waits2 at h
    rcases Bool.or_eq_true_iff.1 h with h | h
    · exact waits_listed h haL
    · obtain ⟨m, _, hm⟩ := List.any_eq_true.1 h
      simp at hm
      have hml := waits_listed hm.1 haL
      exact waits_listed hm.2 (fun o ho => hc m o ho hml)
  rcases Nat.lt_or_ge i listed.size with h' | h'
  · simp [h'] at hun hil
    rw [hun] at hil
    cases hil
  · simp [Array.getElem?_eq_none h'] at hil

theorem wpAnyL_first {i : Nat} {oi : Oper} {v : Value} (hi : ops[i]? = some oi) (hsel : ∀ (j : Nat) (o : Oper) cs b, ops[j]? = some o → o.op ≠ .select cs b)
    (hQ : ∀ c a w, Q (.panic c) (a.put oi.dst v) w → Q (.panic c) a w) (hwt : waits2 md ops L i = true) :
    ∀ (fuel : Nat) (listed : Array Bool) (a : Act) (w : World), Closed md ops listed →
      (∀ j oj, ops[j]? = some oj → j ≠ i → listed.getD j true = false → (∀ e ∈ oj.after, Region.binds md e = true → e.on ≠ i) → oi.apart ops oj = true) →
      i ∈ Region.ready md ops listed → YieldsIf P ops S oi v a → S w →
      wpAnyL P md ops Q S L fuel (listed.setIfInBounds i true) (a.put oi.dst v) w → wpAnyL P md ops Q S L (fuel + 1) listed a w := by
  intro fuel
  induction fuel with
  | zero =>
    intro listed a w hcl _ hr hy hS H
    refine ⟨fun h => (by rw [h] at hr; cases hr), fun j hj => ?_⟩
    by_cases hji : j = i
    · subst hji; exact hy.wpOp hi hS ⟨fun _ => hS, H⟩
    · have := ready_mono hj hji
      rw [H.1] at this
      cases this
  | succ fuel ih =>
    intro listed a w hcl hfree hr hy hS H
    refine ⟨fun h => (by rw [h] at hr; cases hr), fun j hj => ?_⟩
    by_cases hji : j = i
    · subst hji; exact hy.wpOp hi hS ⟨fun _ => hS, H⟩
    · have hjL : j ≠ L := fun e => waits_spec hwt hcl hr (e ▸ hj)
      have h1 := H.2 j (ready_mono hj hji)
      obtain ⟨hjun, oj, hoj, hall⟩ := mem_ready.1 hj
      have hnot : ∀ e ∈ oj.after, Region.binds md e = true → e.on ≠ i := fun e he hb heq => by
        have h1 := hall e he hb
        have h0 := (mem_ready.1 hr).1
        rw [heq] at h1
        rcases Nat.lt_or_ge i listed.size with h' | h'
        · simp [h'] at h0 h1; rw [h0] at h1; cases h1
        · simp [Array.getElem?_eq_none h'] at h1
      have h2 := wpOp_putIf hoj (hfree j oj hoj hji hjun hnot) (fun cs b => hsel i oi cs b hi) (fun cs b => hsel j oj cs b hoj) hQ hy h1
      have hfree' : ∀ k ok, ops[k]? = some ok → k ≠ i → (listed.setIfInBounds j true).getD k true = false →
          (∀ e ∈ ok.after, Region.binds md e = true → e.on ≠ i) → oi.apart ops ok = true := fun k ok hk hki hun hno => by
        refine hfree k ok hk hki ?_ hno
        by_cases hjk : j = k
        · subst hjk; exact hjun
        · rw [getD_set_ne true hjk] at hun; exact hun
      refine wpOp_mono (fun a' w' h3 => ⟨fun _ => h3.2.1 hjL, ih (listed.setIfInBounds j true) a' w' (closed_set hcl hj) hfree' (ready_mono hr (Ne.symm hji)) h3.1 (h3.2.1 hjL) ?_⟩) h2
      rw [Array.setIfInBounds_comm _ _ hji]
      exact h3.2.2

/-- Take number i first. -/
theorem wpAnyL_take {i : Nat} {oi : Oper} {v : Value} {fuel : Nat} {listed : Array Bool} {a : Act} {w : World} (hi : ops[i]? = some oi)
    (hs : Region.noSelect ops = true) (hf : Region.free md ops listed i = true) (hr : (Region.ready md ops listed).contains i = true) (hwt : waits2 md ops L i = true) (hcl : closedB md ops listed = true)
    (hQ : ∀ c a w, Q (.panic c) (a.put oi.dst v) w → Q (.panic c) a w) (hy : YieldsIf P ops S oi v a) (hS : S w)
    (h : wpAnyL P md ops Q S L fuel (listed.setIfInBounds i true) (a.put oi.dst v) w) : wpAnyL P md ops Q S L (fuel + 1) listed a w :=
  wpAnyL_first hi (Region.noSelect_spec hs) hQ hwt fuel listed a w (closed_spec hcl) (Region.free_spec hi hf) (by simpa using hr) hy hS h

/-- One alone may come up, and it is not the last. -/
theorem wpAnyL_one {i : Nat} {o : Oper} {fuel : Nat} {listed : Array Bool} {a : Act} {w : World} (hr : Region.ready md ops listed = [i]) (ho : ops[i]? = some o) (hw : Region.wanted o (yielded ops a.tmps) = true)
    (h : Oper.wp P o a w (fun a' w' => S w' ∧ wpAnyL P md ops Q S L fuel (listed.setIfInBounds i true) a' w') Q) : wpAnyL P md ops Q S L (fuel + 1) listed a w := by
  refine ⟨fun h0 => (by rw [hr] at h0; cases h0), fun j hj => ?_⟩
  rw [hr] at hj
  have e : j = i := by simpa using hj
  subst e
  refine wpOp_step ho (fun K hK => ?_)
  rw [if_pos hw]
  exact Oper.wp_mono (fun a' w' h' => hK a' w' ⟨fun _ => h'.1, h'.2⟩) h

/-- The last. -/
theorem wpAnyL_last {o : Oper} {fuel : Nat} {listed : Array Bool} {a : Act} {w : World} (hr : Region.ready md ops listed = [L]) (hd : Region.ready md ops (listed.setIfInBounds L true) = []) (ho : ops[L]? = some o) (hw : Region.wanted o (yielded ops a.tmps) = true)
    (h : Oper.wp P o a w (fun a' w' => Q .normal a' w') Q) : wpAnyL P md ops Q S L (fuel + 1) listed a w := by
  refine ⟨fun h0 => (by rw [hr] at h0; cases h0), fun j hj => ?_⟩
  rw [hr] at hj
  have e : j = L := by simpa using hj
  subst e
  refine wpOp_step ho (fun K hK => ?_)
  rw [if_pos hw]
  refine Oper.wp_mono (fun a' w' h' => hK a' w' ⟨fun hne => absurd rfl hne, ?_⟩) h
  cases fuel with
  | zero => exact ⟨hd, h'⟩
  | succ n => exact ⟨fun _ => h', by rw [hd]; simp⟩

theorem wp_region_last {id : Nat} {a : Act} {w : World} (hm : P.follows .mixedOrders = true) (h : wpAnyL P .any ops Q S L ops.size (Array.replicate ops.size false) a w.drew) : (Code.region id ops true).wp P Q a w :=
  wp_region_any hm (wpAny_of_last _ _ _ _ h)
end
end Go.Proofs.Lys
