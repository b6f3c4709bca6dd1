/-
  Dcalls, Dmodel2, Dup, Dalive, Lsure, Lcalls.
-/
import Derived.Test.YtfmdnaagdhpcpaaQ13
import Derived.Test.YtfmdnaagdhpcpaaQ01
import Derived.Test.YtfmdnaagdhpcpaaQ12
import Derived.Laws.IdiomStrings
import Derived.Laws.BytesArg
import Derived.Lib.SlBytesConst
import Derived.Deep.QuietTactic
import Derived.BigQuiet
import Derived.Deep.RegionHeld3
import Derived.Deep.Slices
import Derived.OpenShut

/-
  The calls by name: each is the step that Do is told.
-/
namespace Go.Proofs.Ytfmdnaagdhpcpaa
open Go.RowKit Go.Proofs.Lys Go.Maps Go.Shelf
set_option linter.unusedVariables false

section
variable {w : World} {c : Conc} {O : Nat → Prop} {m : DModel}

/-- What a step comes to. -/
abbrev DPost (w : World) (c : Conc) (O : Nat → Prop) (m : DModel) (o : DOp) (e : Ending) (w' : World) : Prop :=
  e = .returned (.int .i64 ((m.doOp o).1 : Int)) ∧ Only O w w' ∧ ∃ c', c'.d = c.d ∧ DiskAt w' c' (Grow O w w') (m.doOp o).2

theorem empty_size : (ByteArray.mk #[]).size ≤ maxLen := by unfold maxLen; decide

set_option maxHeartbeats 400000 in
theorem create_any (h : DiskAt w c O m) {s : ByteArray} (hs : s.size ≤ maxLen) (hsteps : m.steps ≤ 1000000000) (hsmall : m.dir.length + m.sure.length + m.acts.length < 1000000) :
    Calls Try.prog 9 #[.pointer (some ⟨c.d, 0, none⟩), .string s] w (DPost w c O m ⟨0, s.data.toList, [], []⟩) := by
  have F := Hid.mk (do_any h ⟨0, s.data.toList, [], []⟩ hs rfl empty_size rfl (bv := .slice none 0 0) (.inl ⟨none, 0, rfl, rfl⟩) (by simp) hsteps hsmall)
  clear hs hsteps hsmall
  go_enter Try.func9, Try.ntmps9
  go_wp2_with fail
  refine F.out.mono ?_
  rintro e w1 ⟨rfl, hk, hc⟩
  go_wp2_with fail
  go_ret
  exact ⟨rfl, hk, hc⟩

set_option maxHeartbeats 400000 in
theorem append_any (h : DiskAt w c O m) {s : ByteArray} (hs : s.size ≤ maxLen) {bv : Value} {bs : List UInt8} (hsrc : SrcAt w bv bs) (hbl : bs.length ≤ 140737488355328) (hsteps : m.steps ≤ 1000000000) (hsmall : m.dir.length + m.sure.length + m.acts.length < 1000000) :
    Calls Try.prog 20 #[.pointer (some ⟨c.d, 0, none⟩), .string s, bv] w (DPost w c O m ⟨1, s.data.toList, [], bs⟩) := by
  have F := Hid.mk (do_any h ⟨1, s.data.toList, [], bs⟩ hs rfl empty_size rfl hsrc hbl hsteps hsmall)
  obtain ⟨ba, bc, rfl⟩ := hsrc.len
  clear hs hsteps hsmall hsrc
  go_enter Try.func20, Try.ntmps20
  go_wp2_with fail
  refine F.out.mono ?_
  rintro e w1 ⟨rfl, hk, hc⟩
  go_wp2_with fail
  go_ret
  exact ⟨rfl, hk, hc⟩

set_option maxHeartbeats 400000 in
theorem sync_any (h : DiskAt w c O m) {s : ByteArray} (hs : s.size ≤ maxLen) (hsteps : m.steps ≤ 1000000000) (hsmall : m.dir.length + m.sure.length + m.acts.length < 1000000) :
    Calls Try.prog 21 #[.pointer (some ⟨c.d, 0, none⟩), .string s] w (DPost w c O m ⟨2, s.data.toList, [], []⟩) := by
  have F := Hid.mk (do_any h ⟨2, s.data.toList, [], []⟩ hs rfl empty_size rfl (bv := .slice none 0 0) (.inl ⟨none, 0, rfl, rfl⟩) (by simp) hsteps hsmall)
  clear hs hsteps hsmall
  go_enter Try.func21, Try.ntmps21
  go_wp2_with fail
  refine F.out.mono ?_
  rintro e w1 ⟨rfl, hk, hc⟩
  go_wp2_with fail
  go_ret
  exact ⟨rfl, hk, hc⟩

set_option maxHeartbeats 400000 in
theorem rename_any (h : DiskAt w c O m) {s s2 : ByteArray} (hs : s.size ≤ maxLen) (hs2 : s2.size ≤ maxLen) (hsteps : m.steps ≤ 1000000000) (hsmall : m.dir.length + m.sure.length + m.acts.length < 1000000) :
    Calls Try.prog 22 #[.pointer (some ⟨c.d, 0, none⟩), .string s, .string s2] w (DPost w c O m ⟨3, s.data.toList, s2.data.toList, []⟩) := by
  have F := Hid.mk (do_any h ⟨3, s.data.toList, s2.data.toList, []⟩ hs rfl hs2 rfl (bv := .slice none 0 0) (.inl ⟨none, 0, rfl, rfl⟩) (by simp) hsteps hsmall)
  clear hs hs2 hsteps hsmall
  go_enter Try.func22, Try.ntmps22
  go_wp2_with fail
  refine F.out.mono ?_
  rintro e w1 ⟨rfl, hk, hc⟩
  go_wp2_with fail
  go_ret
  exact ⟨rfl, hk, hc⟩

set_option maxHeartbeats 400000 in
theorem remove_any (h : DiskAt w c O m) {s : ByteArray} (hs : s.size ≤ maxLen) (hsteps : m.steps ≤ 1000000000) (hsmall : m.dir.length + m.sure.length + m.acts.length < 1000000) :
    Calls Try.prog 23 #[.pointer (some ⟨c.d, 0, none⟩), .string s] w (DPost w c O m ⟨4, s.data.toList, [], []⟩) := by
  have F := Hid.mk (do_any h ⟨4, s.data.toList, [], []⟩ hs rfl empty_size rfl (bv := .slice none 0 0) (.inl ⟨none, 0, rfl, rfl⟩) (by simp) hsteps hsmall)
  clear hs hsteps hsmall
  go_enter Try.func23, Try.ntmps23
  go_wp2_with fail
  refine F.out.mono ?_
  rintro e w1 ⟨rfl, hk, hc⟩
  go_wp2_with fail
  go_ret
  exact ⟨rfl, hk, hc⟩

set_option maxHeartbeats 400000 in
theorem syncdir_any (h : DiskAt w c O m) (hsteps : m.steps ≤ 1000000000) (hsmall : m.dir.length + m.sure.length + m.acts.length < 1000000) :
    Calls Try.prog 24 #[.pointer (some ⟨c.d, 0, none⟩)] w (DPost w c O m ⟨5, [], [], []⟩) := by
  have F := Hid.mk (do_any h ⟨5, [], [], []⟩ empty_size rfl empty_size rfl (bv := .slice none 0 0) (.inl ⟨none, 0, rfl, rfl⟩) (by simp) hsteps hsmall)
  clear hsteps hsmall
  go_enter Try.func24, Try.ntmps24
  go_wp2_with fail
  refine F.out.mono ?_
  rintro e w1 ⟨rfl, hk, hc⟩
  go_wp2_with fail
  go_ret
  exact ⟨rfl, hk, hc⟩
end
end Go.Proofs.Ytfmdnaagdhpcpaa

/-
  What Read answers of the document's disk as plain data; so few steps and names. No program is named here.
-/
namespace Go.Proofs.Lys

/-- What Read answers. -/
def DModel.read (m : DModel) (n : List UInt8) : Nat × List UInt8 := if m.off then (12, []) else match DD.look m.dir n with | none => (6, []) | some f => (0, (m.fileAt f).b)

/-- So few steps and names. -/
def DModel.few (m : DModel) : Prop := m.steps ≤ 1000000000 ∧ m.dir.length + m.sure.length + m.acts.length < 1000000

theorem do_own {m : DModel} {o : DOp} (h1 : 0 ≤ o.kind) (h1' : o.kind ≤ 5) (h2 : m.off = false) (h3 : m.fuse ≠ some 0) (h4 : m.own o ≠ 0) : m.doOp o = (m.own o, m) := by
  unfold DModel.doOp
  rw [if_neg (by omega), if_neg (by rw [h2]; decide), if_neg h3, if_pos h4]
theorem do_done {m : DModel} {o : DOp} (h1 : 0 ≤ o.kind) (h1' : o.kind ≤ 5) (h2 : m.off = false) (h3 : m.fuse ≠ some 0) (h4 : m.own o = 0) (h5 : m.fault ≠ some 0) : m.doOp o = (0, (m.done o).count) := by
  unfold DModel.doOp
  rw [if_neg (by omega), if_neg (by rw [h2]; decide), if_neg h3, if_neg (by rw [h4]; decide), if_neg h5]
theorem do_fault {m : DModel} {o : DOp} (h1 : 0 ≤ o.kind) (h1' : o.kind ≤ 5) (h2 : m.off = false) (h3 : m.fuse ≠ some 0) (h4 : m.own o = 0) (h5 : m.fault = some 0) : m.doOp o = (10, { m with fault := none }) := by
  unfold DModel.doOp
  rw [if_neg (by omega), if_neg (by rw [h2]; decide), if_neg h3, if_neg (by rw [h4]; decide), if_pos h5]
theorem do_blown {m : DModel} {o : DOp} (h1 : 0 ≤ o.kind) (h1' : o.kind ≤ 5) (h2 : m.off = false) (h3 : m.fuse = some 0) : m.doOp o = (12, { m with off := true }) := by
  unfold DModel.doOp
  rw [if_neg (by omega), if_neg (by rw [h2]; decide), if_pos h3]
theorem do_off {m : DModel} {o : DOp} (h1 : 0 ≤ o.kind) (h1' : o.kind ≤ 5) (h2 : m.off = true) : m.doOp o = (12, m) := by
  unfold DModel.doOp
  rw [if_neg (by omega), if_pos h2]
end Go.Proofs.Lys

/-
  A disk in memory that is new since some world, call by call.
-/
namespace Go.Proofs.Ytfmdnaagdhpcpaa
open Go.RowKit Go.Proofs.Lys Go.Maps Go.Shelf
set_option linter.unusedVariables false

/-- At D lies a disk that is as m tells, in memory that is new since w0, and no older memory has turned. -/
def Up (w0 W : World) (D : Nat) (m : DModel) : Prop := ∃ c O, c.d = D ∧ DiskAt W c O m ∧ Kept w0 W ∧ ∀ k, O k → w0.heap.size ≤ k

section
variable {w0 W W' : World} {D : Nat} {m : DModel}

theorem Up.kept (h : Up w0 W D m) : Kept w0 W := by
  obtain ⟨c, O, _, _, hk, _⟩ := h
  exact hk
theorem Up.stay (h : Up w0 W D m) (k : Kept W W') : Up w0 W' D m := by
  obtain ⟨c, O, rfl, hD, hk, hO⟩ := h
  exact ⟨c, O, rfl, hD.stay k, hk.trans k (fun _ _ f => f), hO⟩
theorem Up.lt (h : Up w0 W D m) : w0.heap.size ≤ D ∧ D < W.heap.size := by
  obtain ⟨c, O, rfl, hD, hk, hO⟩ := h
  exact ⟨hO _ hD.oD, hD.top _ hD.oD⟩

theorem up_new (h : Kept w0 W) (q : Int) : Calls Try.prog 7 #[.int .i64 q] W fun e w' => e = .returned (.pointer (some ⟨W.heap.size, 0, none⟩)) ∧ Up w0 w' W.heap.size (DModel.start q) := by
  refine (new_any q W).mono ?_
  rintro e w' ⟨rfl, hk, c, hc, hD⟩
  exact ⟨rfl, c, _, hc, hD, h.trans hk (fun _ _ f => f), fun k ho => Nat.le_trans h.size ho.1⟩

theorem up_post {c : Conc} {O : Nat → Prop} {o : DOp} {e : Ending} (hk : Kept w0 W) (hO : ∀ k, O k → w0.heap.size ≤ k) (hp : DPost W c O m o e W') : e = .returned (.int .i64 ((m.doOp o).1 : Int)) ∧ Up w0 W' c.d (m.doOp o).2 := by
  obtain ⟨rfl, h1, c', hc, hD⟩ := hp
  refine ⟨rfl, c', _, hc, hD, hk.trans h1 (fun j hj ho => by have := hO j ho; omega), fun k ho => ?_⟩
  rcases ho with ho | ho
  · exact hO k ho
  · exact Nat.le_trans hk.size ho.1

theorem up_create (h : Up w0 W D m) {s : ByteArray} (hs : s.size ≤ maxLen) (hf : m.few) :
    Calls Try.prog 9 #[.pointer (some ⟨D, 0, none⟩), .string s] W fun e w' => e = .returned (.int .i64 ((m.doOp ⟨0, s.data.toList, [], []⟩).1 : Int)) ∧ Up w0 w' D (m.doOp ⟨0, s.data.toList, [], []⟩).2 := by
  obtain ⟨c, O, rfl, hD, hk, hO⟩ := h
  exact (create_any hD hs hf.1 hf.2).mono (fun e w' hp => up_post hk hO hp)
theorem up_append (h : Up w0 W D m) {s : ByteArray} (hs : s.size ≤ maxLen) {bv : Value} {bs : List UInt8} (hsrc : SrcAt W bv bs) (hbl : bs.length ≤ 140737488355328) (hf : m.few) :
    Calls Try.prog 20 #[.pointer (some ⟨D, 0, none⟩), .string s, bv] W fun e w' => e = .returned (.int .i64 ((m.doOp ⟨1, s.data.toList, [], bs⟩).1 : Int)) ∧ Up w0 w' D (m.doOp ⟨1, s.data.toList, [], bs⟩).2 := by
  obtain ⟨c, O, rfl, hD, hk, hO⟩ := h
  exact (append_any hD hs hsrc hbl hf.1 hf.2).mono (fun e w' hp => up_post hk hO hp)
theorem up_sync (h : Up w0 W D m) {s : ByteArray} (hs : s.size ≤ maxLen) (hf : m.few) :
    Calls Try.prog 21 #[.pointer (some ⟨D, 0, none⟩), .string s] W fun e w' => e = .returned (.int .i64 ((m.doOp ⟨2, s.data.toList, [], []⟩).1 : Int)) ∧ Up w0 w' D (m.doOp ⟨2, s.data.toList, [], []⟩).2 := by
  obtain ⟨c, O, rfl, hD, hk, hO⟩ := h
  exact (sync_any hD hs hf.1 hf.2).mono (fun e w' hp => up_post hk hO hp)
theorem up_rename (h : Up w0 W D m) {s s2 : ByteArray} (hs : s.size ≤ maxLen) (hs2 : s2.size ≤ maxLen) (hf : m.few) :
    Calls Try.prog 22 #[.pointer (some ⟨D, 0, none⟩), .string s, .string s2] W fun e w' => e = .returned (.int .i64 ((m.doOp ⟨3, s.data.toList, s2.data.toList, []⟩).1 : Int)) ∧ Up w0 w' D (m.doOp ⟨3, s.data.toList, s2.data.toList, []⟩).2 := by
  obtain ⟨c, O, rfl, hD, hk, hO⟩ := h
  exact (rename_any hD hs hs2 hf.1 hf.2).mono (fun e w' hp => up_post hk hO hp)
theorem up_remove (h : Up w0 W D m) {s : ByteArray} (hs : s.size ≤ maxLen) (hf : m.few) :
    Calls Try.prog 23 #[.pointer (some ⟨D, 0, none⟩), .string s] W fun e w' => e = .returned (.int .i64 ((m.doOp ⟨4, s.data.toList, [], []⟩).1 : Int)) ∧ Up w0 w' D (m.doOp ⟨4, s.data.toList, [], []⟩).2 := by
  obtain ⟨c, O, rfl, hD, hk, hO⟩ := h
  exact (remove_any hD hs hf.1 hf.2).mono (fun e w' hp => up_post hk hO hp)
theorem up_syncdir (h : Up w0 W D m) (hf : m.few) :
    Calls Try.prog 24 #[.pointer (some ⟨D, 0, none⟩)] W fun e w' => e = .returned (.int .i64 ((m.doOp ⟨5, [], [], []⟩).1 : Int)) ∧ Up w0 w' D (m.doOp ⟨5, [], [], []⟩).2 := by
  obtain ⟨c, O, rfl, hD, hk, hO⟩ := h
  exact (syncdir_any hD hf.1 hf.2).mono (fun e w' hp => up_post hk hO hp)

theorem up_crash {kv : Value} {keep : List Int} (h : Up w0 W D m) (hI : ∀ O : Nat → Prop, (∀ c m, DiskAt W c O m → (∀ k, O k → w0.heap.size ≤ k) → IntsAt W O kv keep)) (hf : m.few) :
    Calls Try.prog 17 #[.pointer (some ⟨D, 0, none⟩), kv] W fun e w' => e = .returned (.tuple #[]) ∧ Up w0 w' D (m.crash keep) := by
  obtain ⟨c, O, rfl, hD, hk, hO⟩ := h
  refine (crash_any hD (hI O c m hD hO) (by have := hf.2; omega)).mono ?_
  rintro e w' ⟨rfl, h1, c', hc, hD'⟩
  refine ⟨rfl, c', _, hc, hD', hk.trans h1 (fun j hj ho => by have := hO j ho; omega), fun k ho => ?_⟩
  rcases ho with ho | ho
  · exact hO k ho
  · exact Nat.le_trans hk.size ho.1

/-- .. numbers that were laid just now. -/
theorem up_crash_lit {keep : List Int} (h : Up w0 W D m) (hf : m.few) (hl : keep ≠ []) {vs : Array Value} (hv : vs = (keep.map (Value.int .i64)).toArray) :
    Calls Try.prog 17 #[.pointer (some ⟨D, 0, none⟩), .slice (some ⟨W.heap.size, 0, none⟩) keep.length keep.length] (W.alloc (.cells vs 3)) fun e w' => e = .returned (.tuple #[]) ∧ Up w0 w' D (m.crash keep) := by
  subst hv
  obtain ⟨c, O, rfl, hD, hk, hO⟩ := h
  have hb := Blk.new W (keep.map (Value.int .i64)) 3
  have hD1 : DiskAt (W.alloc (.cells (keep.map (Value.int .i64)).toArray 3)) c O m := hD.stay ((Only.refl _ W).alloc _)
  refine (crash_any hD1 (keep := keep) ⟨some ⟨W.heap.size, 0, none⟩, keep.length, rfl, Nat.le_refl _, fun _ => ⟨W.heap.size, 0, rfl, fun ho => by have := hD.top _ ho; omega, fun i x hi => ?_⟩⟩ (by have := hf.2; omega)).mono ?_
  · rw [Nat.zero_add]
    exact hb.cell i (by rw [List.getElem?_map, hi]; rfl)
  · rintro e w' ⟨rfl, h1, c', hc, hD'⟩
    have hk2 : Kept w0 (W.alloc (.cells (keep.map (Value.int .i64)).toArray 3)) := hk.alloc _
    refine ⟨rfl, c', _, hc, hD', hk2.trans h1 (fun j hj ho => by have := hO j ho; omega), fun k ho => ?_⟩
    rcases ho with ho | ho
    · exact hO k ho
    · exact Nat.le_trans hk2.size ho.1

theorem up_read (h : Up w0 W D m) {s : ByteArray} (hs : s.size ≤ maxLen) :
    Calls Try.prog 27 #[.pointer (some ⟨D, 0, none⟩), .string s] W fun e w' => ∃ v, e = .returned (.tuple #[v, .int .i64 ((m.read s.data.toList).1 : Int)]) ∧ w'.ownsRow W.heap.size 5 1 v (m.read s.data.toList).2.length ((m.read s.data.toList).2.map bV) ∧ Kept W w' ∧ Up w0 w' D m := by
  have hU := h
  obtain ⟨c, O, rfl, hD, hk, hO⟩ := h
  cases hoff : m.off
  · cases hl : DD.look m.dir s.data.toList with
    | none =>
      have e1 : m.read s.data.toList = (6, []) := by unfold DModel.read; rw [hoff, hl]; rfl
      rw [e1]
      refine (read_none hD hoff hs hl).mono ?_
      rintro e w' ⟨rfl, rfl⟩
      exact ⟨_, rfl, World.ownsRow_nil _ _ _ _, Only.refl _ _, hU⟩
    | some f =>
      have e1 : m.read s.data.toList = (0, (m.fileAt f).b) := by unfold DModel.read; rw [hoff, hl]; rfl
      rw [e1]
      refine (read_some hD hoff hs hl).mono ?_
      rintro e w' ⟨v, rfl, ho, hk⟩
      exact ⟨v, rfl, ho, hk, hU.stay hk⟩
  · have e1 : m.read s.data.toList = (12, []) := by unfold DModel.read; rw [hoff]; rfl
    rw [e1]
    refine (read_off hD hoff s).mono ?_
    rintro e w' ⟨rfl, rfl⟩
    exact ⟨_, rfl, World.ownsRow_nil _ _ _ _, Only.refl _ _, hU⟩

theorem up_list (h : Up w0 W D m) (hf : m.few) :
    Calls Try.prog 42 #[.pointer (some ⟨D, 0, none⟩)] W fun e w' => ∃ v, e = .returned v ∧ w'.ownsRow W.heap.size 9 1 v m.list.length (m.list.map encStr) ∧ Kept W w' ∧ Up w0 w' D m := by
  have hU := h
  obtain ⟨c, O, rfl, hD, hk, hO⟩ := h
  refine (list_any hD (by have := hf.2; omega)).mono ?_
  rintro e w' ⟨v, rfl, ho, _, hk⟩
  exact ⟨v, rfl, ho, hk, hU.stay hk⟩

theorem up_room (h : Up w0 W D m) (hf : m.few) :
    Calls Try.prog 25 #[.pointer (some ⟨D, 0, none⟩)] W fun e w' => e = .returned (.int .i64 ((m.quota : Int) - (m.used : Int))) ∧ Kept W w' ∧ Up w0 w' D m := by
  have hU := h
  obtain ⟨c, O, rfl, hD, hk, hO⟩ := h
  refine (room_any hD (by have := hf.2; omega)).mono ?_
  rintro e w' ⟨rfl, hk⟩
  exact ⟨rfl, hk, hU.stay hk⟩
theorem up_steps (h : Up w0 W D m) : Calls Try.prog 26 #[.pointer (some ⟨D, 0, none⟩)] W fun e w' => e = .returned (.int .i64 (m.steps : Int)) ∧ w' = W := by
  obtain ⟨c, O, rfl, hD, hk, hO⟩ := h
  exact steps_any hD
theorem up_on (h : Up w0 W D m) : Calls Try.prog 45 #[.pointer (some ⟨D, 0, none⟩)] W fun e w' => e = .returned (.bool (!m.off)) ∧ w' = W := by
  obtain ⟨c, O, rfl, hD, hk, hO⟩ := h
  exact on_any hD
theorem up_fuse (h : Up w0 W D m) (n : Int) (hn : n ≤ 9223372036854775807) : Calls Try.prog 13 #[.pointer (some ⟨D, 0, none⟩), .int .i64 n] W fun e w' => e = .returned (.tuple #[]) ∧ Up w0 w' D { m with fuse := DModel.lay n } := by
  obtain ⟨c, O, rfl, hD, hk, hO⟩ := h
  refine (fuse_any hD n hn).mono ?_
  rintro e w' ⟨rfl, h1, hD'⟩
  exact ⟨rfl, { c with fw := n }, O, rfl, hD', hk.trans h1 (fun j hj ho => by have := hO j ho; omega), hO⟩
theorem up_fault (h : Up w0 W D m) (n : Int) (hn : n ≤ 9223372036854775807) : Calls Try.prog 15 #[.pointer (some ⟨D, 0, none⟩), .int .i64 n] W fun e w' => e = .returned (.tuple #[]) ∧ Up w0 w' D { m with fault := DModel.lay n } := by
  obtain ⟨c, O, rfl, hD, hk, hO⟩ := h
  refine (fault_any hD n hn).mono ?_
  rintro e w' ⟨rfl, h1, hD'⟩
  exact ⟨rfl, { c with aw := n }, O, rfl, hD', hk.trans h1 (fun j hj ho => by have := hO j ho; omega), hO⟩
theorem num3_any (n : Int) (w : World) : Calls Try.prog 11 #[.int .i64 n] w fun e w' => e = .returned (.int .i64 n) ∧ w' = w := by
  go_enter Try.func11, Try.ntmps11
  go_wp2
  go_ret
  exact ⟨rfl, rfl⟩
/-- Bytes that were laid just now. -/
theorem src_lit (bs : List UInt8) (W : World) {vs : Array Value} {fz : Nat × Nat} (hv : vs = (bs.map byteV).toArray) : SrcAt (W.alloc (.cells vs 5 fz)) (.slice (some ⟨W.heap.size, 0, none⟩) bs.length bs.length) bs := by
  subst hv
  refine .inr ⟨W.heap.size, 0, bs.length, rfl, fun j u hu => ?_⟩
  rw [Nat.zero_add]
  have : (W.alloc (.cells (bs.map byteV).toArray 5 fz)).heap[W.heap.size]? = some (.cells (bs.map byteV).toArray 5 fz) := heap_alloc_new W _
  simp only [World.cell?, this]
  simp [hu]
end
end Go.Proofs.Ytfmdnaagdhpcpaa

/-
  The document's example of a disk.
-/
namespace Go.Proofs.Ytfmdnaagdhpcpaa
open Go.RowKit Go.Proofs.Lys Go.Maps Go.Shelf
set_option linter.unusedVariables false

/-- The text of bytes that are owned. -/
theorem text_own {w : World} {base : Nat} {v : Value} {n : Nat} {bs : List UInt8} (h : w.ownsRow base 5 1 v n (bs.map bV)) : (convert 29 9 v).run Try.prog w = .ok (.string ⟨bs.toArray⟩) w := by
  have hl := own_len h
  rw [List.length_map] at hl
  subst hl
  rcases h.2 with ⟨rfl, h0⟩ | ⟨g, cap, cur, rfl, _⟩
  · have : bs = [] := List.length_eq_zero_iff.1 h0
    subst this
    exact run_convert_bytes_nil (P := Try.prog) w 29 5 Try.underlying29 Try.underlying5 0 0 9 Try.underlying9
  · refine run_convert_bytes_back (P := Try.prog) w 29 9 5 ⟨g, 0, none⟩ cap bs Try.underlying29 Try.underlying5 Try.underlying9 (fun j hj => ?_)
    rw [add_none, Nat.zero_add, h.cellAt j (by omega), List.getElem?_map, List.getElem?_eq_getElem hj]
    rfl

def al1 : DModel := ((DModel.start 1000).doOp ⟨0, [97], [], []⟩).2
def al2 : DModel := (al1.doOp ⟨1, [97], [], [97, 98, 99]⟩).2
def al3 : DModel := (al2.doOp ⟨2, [97], [], []⟩).2
def al4 : DModel := (al3.doOp ⟨5, [], [], []⟩).2
def al5 : DModel := (al4.doOp ⟨1, [97], [], [100, 101]⟩).2
def al6 : DModel := al5.crash [1, 1]
theorem al0_few : (DModel.start 1000).few := by unfold DModel.few; decide +kernel
theorem al1_few : al1.few := by unfold DModel.few; decide +kernel
theorem al2_few : al2.few := by unfold DModel.few; decide +kernel
theorem al3_few : al3.few := by unfold DModel.few; decide +kernel
theorem al4_few : al4.few := by unfold DModel.few; decide +kernel
theorem al5_few : al5.few := by unfold DModel.few; decide +kernel
theorem al6_read : al6.read [97] = (0, [97, 98, 99, 193]) := by decide +kernel
theorem al6_steps : al6.steps = 5 := by decide +kernel
theorem small (a : Array UInt8) (h : a.size ≤ 100) : (⟨a⟩ : ByteArray).size ≤ maxLen := by
  have : (⟨a⟩ : ByteArray).size = a.size := rfl
  unfold maxLen
  omega

set_option maxRecDepth 100000 in
set_option maxHeartbeats 1600000 in
theorem alive3_any (w : World) : Calls Try.prog 5 #[] w fun e w' => e = .returned (.bool true) ∧ Kept w w' := by
  have hcv := fun (w : World) (C : Array Value) (n c : Nat) => Lib.run_convert_bytes_const (P := Try.prog) w 29 5 C n c Try.underlying29 Try.underlying5
  go_enter Try.func5, Try.ntmps5
  go_wp2_with fail
  refine (up_new (Only.refl (fun _ => False) w) 1000).mono ?_
  rintro e w1 ⟨rfl, h1⟩
  have H1 := Hid.mk h1
  clear h1
  go_wp2_with fail
  refine (up_create H1.out (small _ (by decide)) al0_few).mono ?_
  rintro e w2 ⟨rfl, h2⟩
  have H2 : Hid (Up w w2 w.heap.size al1) := h2
  clear h2 H1
  go_wp2_with fail
  refine (up_append (m := al1) (H2.out.stay ((Only.refl _ _).alloc _)) (small _ (by decide)) (src_lit [97, 98, 99] w2 rfl) (by decide) al1_few).mono ?_
  rintro e w3 ⟨rfl, h3⟩
  have H3 : Hid (Up w w3 w.heap.size al2) := h3
  clear h3 H2
  go_wp2_with fail
  refine (up_sync H3.out (small _ (by decide)) al2_few).mono ?_
  rintro e w4 ⟨rfl, h4⟩
  have H4 : Hid (Up w w4 w.heap.size al3) := h4
  clear h4 H3
  go_wp2_with fail
  refine (up_syncdir H4.out al3_few).mono ?_
  rintro e w5 ⟨rfl, h5⟩
  have H5 : Hid (Up w w5 w.heap.size al4) := h5
  clear h5 H4
  go_wp2_with fail
  refine (up_append (m := al4) (H5.out.stay ((Only.refl _ _).alloc _)) (small _ (by decide)) (src_lit [100, 101] w5 rfl) (by decide) al4_few).mono ?_
  rintro e w6 ⟨rfl, h6⟩
  have H6 : Hid (Up w w6 w.heap.size al5) := h6
  clear h6 H5
  go_wp2_with fail
  refine (up_crash_lit (keep := [1, 1]) H6.out al5_few (by simp) rfl).mono ?_
  rintro e w7 ⟨rfl, h7⟩
  have H7 : Hid (Up w w7 w.heap.size al6) := h7
  clear h7 H6
  go_wp2_with fail
  refine (up_read H7.out (small _ (by decide))).mono ?_
  rintro e w8 ⟨v, rfl, ho, hk, h8⟩
  have er : al6.read (⟨#[97]⟩ : ByteArray).data.toList = (0, [97, 98, 99, 193]) := al6_read
  rw [er] at ho ⊢
  have H8 := Hid.mk h8
  have hc := text_own ho
  clear h8 ho hk H7 er
  go_wp2_with (go_at_call 11; refine (num3_any _ _).mono ?_; rintro e w' ⟨rfl, hw⟩; replace hw := hw.symm; subst hw)
  have hst := up_steps H8.out
  rw [al6_steps] at hst
  refine hst.mono ?_
  rintro e w9 ⟨rfl, hw⟩
  replace hw := hw.symm
  subst hw
  go_wp2_with fail
  go_ret
  exact ⟨rfl, H8.out.kept⟩
end Go.Proofs.Ytfmdnaagdhpcpaa

/-
  The walk of the law DiskSure.
-/
namespace Go.Proofs.Ytfmdnaagdhpcpaa
open Go.RowKit Go.Proofs.Lys Go.Maps Go.Shelf
set_option linter.unusedVariables false

theorem src_at {w : World} {v : Value} {bs : List UInt8} (h : SrcOf w v (bs.map bV)) : SrcAt w v bs := by
  rcases h.shape with ⟨e, a, c, rfl⟩ | ⟨_, b, o, c, e, hc⟩
  · exact .inl ⟨a, c, rfl, by simpa using e⟩
  · refine .inr ⟨b, o, c, by rw [e, List.length_map], fun j u hu => hc j (byteV u) (by rw [List.getElem?_map, hu]; rfl)⟩
theorem SrcOf.conv {w : World} {v : Value} {bs : List UInt8} (h : SrcOf w v (bs.map bV)) : (convert 29 9 v).run Try.prog w = .ok (.string ⟨bs.toArray⟩) w := by
  rcases h with ⟨rfl, h0⟩ | ⟨a, c, rfl, hc⟩
  · have : bs = [] := by simpa using h0
    subst this
    exact run_convert_bytes_nil (P := Try.prog) w 29 5 Try.underlying29 Try.underlying5 0 0 9 Try.underlying9
  · rw [List.length_map]
    refine run_convert_bytes_back (P := Try.prog) w 29 9 5 a c bs Try.underlying29 Try.underlying5 Try.underlying9 (fun j hj => ?_)
    exact hc j _ (by rw [List.getElem?_map, List.getElem?_eq_getElem hj]; rfl)
theorem SrcOf.ints {w0 W : World} {v : Value} {l : List Int} (h : SrcOf w0 v (l.map (Value.int .i64))) (hcap : ∃ a c, v = .slice a l.length c ∧ l.length ≤ c) (hk : Kept w0 W) {O : Nat → Prop} (hO : ∀ k, O k → w0.heap.size ≤ k) : IntsAt W O v l := by
  obtain ⟨a, c, rfl, hc⟩ := hcap
  refine ⟨a, c, rfl, hc, fun hne => ?_⟩
  rcases h.shape with ⟨e, _⟩ | ⟨_, b, o, c', e, hcell⟩
  · exact absurd (by simpa using e) hne
  · have e1 : a = some ⟨b, o, none⟩ := by injection e
    subst e1
    have h1 : ∀ i x, l[i]? = some x → w0.cell? ⟨b, o + i, none⟩ = some (.int .i64 x) := fun i x hi => hcell i _ (by rw [List.getElem?_map, hi]; rfl)
    refine ⟨b, o, rfl, fun ho => ?_, fun i x hi => ?_⟩
    · cases l with
      | nil => exact hne rfl
      | cons x r =>
        have := World.block_lt_of_cell? w0 _ (h1 0 x rfl)
        have := hO b ho
        simp at *
        omega
    · have h2 := h1 i x hi
      rw [World.cell?_of_block (w := w0) (w' := W) (a := ⟨b, o + i, none⟩) (hk.block b (World.block_lt_of_cell? w0 _ h2) (fun f => f))]
      exact h2

theorem spoil_take (b : List UInt8) (u : Nat) : (DModel.spoil b u).take u = b.take u := by
  apply List.ext_getElem?
  intro i
  rw [List.getElem?_take, List.getElem?_take]
  by_cases h : i < u
  · rw [if_pos h, if_pos h]
    unfold DModel.spoil
    rw [List.getElem?_mapIdx]
    cases b[i]? with
    | none => rfl
    | some x =>
      have hn : ¬ (u ≤ i ∧ (b.length - 1) / 512 * 512 ≤ i) := fun e => by omega
      simp [hn]
  · rw [if_neg h, if_neg h]
theorem settle_sure (S M : List UInt8) (l : List Int) : S.length ≤ (DModel.settleF ⟨S ++ M, S.length⟩ l).1.b.length ∧ (DModel.settleF ⟨S ++ M, S.length⟩ l).1.b.length ≤ S.length + M.length ∧ (DModel.settleF ⟨S ++ M, S.length⟩ l).1.b.take S.length = S := by
  unfold DModel.settleF
  split
  · show S.length ≤ (S ++ M).length ∧ (S ++ M).length ≤ _ ∧ (S ++ M).take S.length = S
    rw [List.length_append, List.take_left]
    exact ⟨by omega, by omega, rfl⟩
  · have hst : DModel.stays (l.headD 0) ((S ++ M).length - S.length) ≤ M.length := by
      unfold DModel.stays
      rw [List.length_append]
      split <;> omega
    show S.length ≤ (if DModel.oddB (l.tail.headD 0) = true then DModel.spoil ((S ++ M).take (S.length + DModel.stays (l.headD 0) ((S ++ M).length - S.length))) S.length else (S ++ M).take (S.length + DModel.stays (l.headD 0) ((S ++ M).length - S.length))).length ∧
      (if DModel.oddB (l.tail.headD 0) = true then DModel.spoil ((S ++ M).take (S.length + DModel.stays (l.headD 0) ((S ++ M).length - S.length))) S.length else (S ++ M).take (S.length + DModel.stays (l.headD 0) ((S ++ M).length - S.length))).length ≤ S.length + M.length ∧
      (if DModel.oddB (l.tail.headD 0) = true then DModel.spoil ((S ++ M).take (S.length + DModel.stays (l.headD 0) ((S ++ M).length - S.length))) S.length else (S ++ M).take (S.length + DModel.stays (l.headD 0) ((S ++ M).length - S.length))).take S.length = S
    generalize DModel.stays (l.headD 0) ((S ++ M).length - S.length) = q at hst
    have h1 : ((S ++ M).take (S.length + q)).length = S.length + q := by rw [List.length_take, List.length_append]; omega
    have h2 : ((S ++ M).take (S.length + q)).take S.length = S := by rw [List.take_take, Nat.min_eq_left (by omega), List.take_left]
    split
    · rw [spoil_take, DModel.spoil, List.length_mapIdx, h1]
      exact ⟨by omega, by omega, h2⟩
    · rw [h1]
      exact ⟨by omega, by omega, h2⟩

def suA (s : Nat) (B : List UInt8) (u : Nat) : DModel := ⟨[⟨B, u⟩], [([97], 0)], [], [⟨0, [97], [], 0⟩], 10000, s, false, none, none⟩
def suB (s : Nat) (B : List UInt8) (u : Nat) : DModel := ⟨[⟨B, u⟩], [([97], 0)], [([97], 0)], [], 10000, s, false, none, none⟩
def suC (s : Nat) (B : List UInt8) (u : Nat) : DModel := ⟨[⟨B, u⟩, ⟨[], 0⟩], [([97], 0), ([98], 1)], [([97], 0)], [⟨0, [98], [], 1⟩], 10000, s, false, none, none⟩
theorem su_start : DModel.start 10000 = ⟨[], [], [], [], 10000, 0, false, none, none⟩ := by kernel_rfl
theorem su_one : (DModel.mk [] [] [] [] 10000 0 false none none).doOp ⟨0, [97], [], []⟩ = (0, suA 1 [] 0) := by kernel_rfl
theorem su_appA (s : Nat) (B bs : List UInt8) (u : Nat) (h : B.length + bs.length ≤ 10000) : (suA s B u).doOp ⟨1, [97], [], bs⟩ = (0, suA (s + 1) (B ++ bs) u) := by
  have hu : (suA s B u).used = B.length := by show B.length + 0 = _; omega
  have ho : (suA s B u).own ⟨1, [97], [], bs⟩ = 0 := by
    show (if 16777216 < B.length + bs.length then 2 else if 10000 < (suA s B u).used + bs.length then 11 else 0) = _
    rw [if_neg (by omega), hu, if_neg (by omega)]
  rw [do_done (show (0 : Int) ≤ 1 by decide) (show (1 : Int) ≤ 5 by decide) rfl (fun e => by cases e) ho (fun e => by cases e)]
  rfl
theorem su_appB (s : Nat) (B bs : List UInt8) (u : Nat) (h : B.length + bs.length ≤ 10000) : (suB s B u).doOp ⟨1, [97], [], bs⟩ = (0, suB (s + 1) (B ++ bs) u) := by
  have hu : (suB s B u).used = B.length := by show B.length + 0 = _; omega
  have ho : (suB s B u).own ⟨1, [97], [], bs⟩ = 0 := by
    show (if 16777216 < B.length + bs.length then 2 else if 10000 < (suB s B u).used + bs.length then 11 else 0) = _
    rw [if_neg (by omega), hu, if_neg (by omega)]
  rw [do_done (show (0 : Int) ≤ 1 by decide) (show (1 : Int) ≤ 5 by decide) rfl (fun e => by cases e) ho (fun e => by cases e)]
  rfl
theorem su_sync (s : Nat) (B : List UInt8) (u : Nat) : (suA s B u).doOp ⟨2, [97], [], []⟩ = (0, suA (s + 1) B B.length) := by kernel_rfl
theorem su_dir (s : Nat) (B : List UInt8) (u : Nat) : (suA s B u).doOp ⟨5, [], [], []⟩ = (0, suB (s + 1) B u) := by kernel_rfl
theorem su_two (s : Nat) (B : List UInt8) (u : Nat) : (suB s B u).doOp ⟨0, [98], [], []⟩ = (0, suC (s + 1) B u) := by kernel_rfl
def suD (odd : Bool) : DDir := if odd then [([97], 0), ([98], 1)] else [([97], 0)]
theorem su_crash (s : Nat) (B : List UInt8) (u : Nat) (k : List Int) : (suC s B u).crash k = ⟨[(DModel.settleF ⟨B, u⟩ k.tail).1, ⟨[], 0⟩], suD (DModel.oddB (k.headD 0)), suD (DModel.oddB (k.headD 0)), [], 10000, s, false, none, none⟩ := by
  unfold DModel.crash
  have e : DModel.keepActs (suC s B u).acts k (suC s B u).sure = (suD (DModel.oddB (k.headD 0)), k.tail) := by
    show ((if DModel.oddB (k.headD 0) = true then [([97], 0), ([98], 1)] else [([97], 0)]), k.tail) = _
    rfl
  simp only [e]
  cases DModel.oddB (k.headD 0)
  · rfl
  · rfl
theorem few_a (s : Nat) (B : List UInt8) (u : Nat) (h : s ≤ 100) : (suA s B u).few := ⟨by show s ≤ _; omega, by show 1 + 0 + 1 < _; decide⟩
theorem few_b (s : Nat) (B : List UInt8) (u : Nat) (h : s ≤ 100) : (suB s B u).few := ⟨by show s ≤ _; omega, by show 1 + 1 + 0 < _; decide⟩
theorem few_c (s : Nat) (B : List UInt8) (u : Nat) (h : s ≤ 100) : (suC s B u).few := ⟨by show s ≤ _; omega, by show 2 + 1 + 1 < _; decide⟩

theorem Kept.drewN' {w w' : World} (h : Kept w w') (n : Nat) : Kept w (w'.drewN n) := ⟨h.os, h.tape, h.output, h.size, h.block⟩

/-- A slice of numbers that came in. -/
def NumSrc (w : World) (v : Value) (l : List Int) : Prop := SrcOf w v (l.map (Value.int .i64)) ∧ ∃ a c, v = .slice a l.length c ∧ l.length ≤ c

open Go.ChangeShapes in
theorem open_row {H : Type} {enc : TypeId × Value → H} {w : World} {spare : Nat → Bool} {held : Bool} {base : Nat} {a0 : Option Addr} {len0 cap0 : Nat} {x : DataW H × List MemPlace} {t e : TypeId} {k : IntKind} (ht : Try.prog.underlying t = some (.slice e)) (he : Try.prog.underlying e = some (.int k)) (hc : Try.prog.cellsOf e = 1)
    (h : ∃ m, DataW.trod enc Try.prog w base spare held m t (Value.slice a0 len0 cap0).cells.toList = some x) : ∃ zs : List Int, SrcOf w (.slice a0 len0 cap0) (zs.map (Value.int k)) ∧ zs.length = len0 ∧ len0 ≤ cap0 ∧ ∀ n ∈ zs, (Lit.int k n).wf = true := by
  obtain ⟨fuel, hf⟩ := h
  rcases open_ints ht he hc hf with ⟨hcs, _⟩ | ⟨a, l, c, zs, hcs, _, hl, hm, hz, _, hcell, hwz⟩
  · simp [Value.cells] at hcs
    obtain ⟨rfl, rfl, rfl⟩ := hcs
    exact ⟨[], .inl ⟨rfl, rfl⟩, rfl, Nat.le_refl _, by simp⟩
  · simp [Value.cells] at hcs
    obtain ⟨rfl, rfl, rfl⟩ := hcs
    have hzl : len0 ≤ zs.length := by rw [hz]; split <;> omega
    have hlen : (zs.take len0).length = len0 := by rw [List.length_take]; omega
    refine ⟨zs.take len0, .inr ⟨a, cap0, by rw [List.length_map, hlen], fun j u hu => ?_⟩, hlen, hl, fun n hn => hwz n (List.mem_of_mem_take hn)⟩
    rw [List.getElem?_map, List.getElem?_take] at hu
    split at hu
    · rw [List.getElem?_eq_getElem (by omega)] at hu
      cases hu
      rw [hcell j (by omega), List.getD_eq_getElem?_getD, List.getElem?_eq_getElem (by omega)]
      rfl
    · cases hu
theorem open_bytes {H : Type} {enc : TypeId × Value → H} {w : World} {spare : Nat → Bool} {held : Bool} {base : Nat} {a0 : Option Addr} {len0 cap0 : Nat} {x : DataW H × List MemPlace}
    (h : ∃ m, DataW.trod enc Try.prog w base spare held m 29 (Value.slice a0 len0 cap0).cells.toList = some x) : ∃ bs : List UInt8, SrcOf w (.slice a0 len0 cap0) (bs.map bV) := by
  obtain ⟨zs, h1, _, _, h2⟩ := open_row Try.underlying29 Try.underlying5 (by kernel_rfl) h
  obtain ⟨bs, _, hb⟩ := bytes_src h1 h2
  exact ⟨bs, hb⟩
theorem open_nums {H : Type} {enc : TypeId × Value → H} {w : World} {spare : Nat → Bool} {held : Bool} {base : Nat} {a0 : Option Addr} {len0 cap0 : Nat} {x : DataW H × List MemPlace}
    (h : ∃ m, DataW.trod enc Try.prog w base spare held m 32 (Value.slice a0 len0 cap0).cells.toList = some x) : ∃ l : List Int, NumSrc w (.slice a0 len0 cap0) l := by
  obtain ⟨zs, h1, h2, h3, _⟩ := open_row Try.underlying32 Try.underlying3 (by kernel_rfl) h
  exact ⟨zs, h1, a0, cap0, by rw [h2], by omega⟩

theorem cut_nil (a : Option Addr) (c : Nat) (w : World) : (Instr.sliceAt 29 (.slice none 0 0) none (some (.int .i64 ((0 : Nat) : Int))) none).run Try.prog w = .ok (.slice none 0 0) w := by kernel_rfl

/-- The beginning of bytes that are owned, as a text. -/
theorem cut_own {w : World} {base : Nat} {v : Value} {n k : Nat} {B S : List UInt8} (h : w.ownsRow base 5 1 v n (B.map bV)) (hk : k ≤ n) (hS : B.take k = S) :
    ∃ v', (∀ W, (Instr.sliceAt 29 v none (some (.int .i64 (k : Int))) none).run Try.prog W = .ok v' W) ∧ (∀ m, (convert 29 9 v').run Try.prog (w.drewN m) = .ok (.string ⟨S.toArray⟩) (w.drewN m)) := by
  have hl := own_len h
  rw [List.length_map] at hl
  subst hl
  have hSl : S.length = k := by rw [← hS, List.length_take]; omega
  rcases h.2 with ⟨rfl, h0⟩ | ⟨g, cap, cur, hv, _, _, hcap, _⟩
  · have hk0 : k = 0 := by omega
    subst hk0
    have hS0 : S = [] := List.length_eq_zero_iff.1 hSl
    subst hS0
    exact ⟨.slice none 0 0, fun W => cut_nil none 0 W, fun m => run_convert_bytes_nil (P := Try.prog) (w.drewN m) 29 5 Try.underlying29 Try.underlying5 0 0 9 Try.underlying9⟩
  · subst hv
    have hcv : ∀ m, (convert 29 9 (.slice (some ⟨g, 0, none⟩) k cap)).run Try.prog (w.drewN m) = .ok (.string ⟨S.toArray⟩) (w.drewN m) := fun m => by
      have := run_convert_bytes_back (P := Try.prog) (w.drewN m) 29 9 5 ⟨g, 0, none⟩ cap S Try.underlying29 Try.underlying5 Try.underlying9 (fun j hj => by
        rw [add_none, Nat.zero_add, World.cell?_drewN, h.cellAt j (by omega), List.getElem?_map, List.getElem?_eq_getElem (by omega)]
        have : S[j] = B[j]'(by omega) := by simp [← hS]
        rw [this]
        rfl)
      rw [hSl] at this
      exact this
    refine ⟨.slice (some ⟨g, 0, none⟩) k cap, fun W => ?_, hcv⟩
    by_cases hc0 : cap = 0
    · have hk0 : k = 0 := by omega
      subst hc0
      subst hk0
      have hB0 : B.length = 0 := by omega
      rw [hB0]
      have hs : (sizeOf 5).run Try.prog W = .ok 1 W := by kernel_rfl
      simp [Instr.sliceAt, Instr.slice, Instr.sliceBounds, Instr.sliceBound, run_underlying Try.underlying29, asIntOf, hs, Result.andThen]
    · exact slice_to g B.length cap k (k : Int) rfl (by omega) hc0 W
end Go.Proofs.Ytfmdnaagdhpcpaa

/-
  Calls that came in as data; two disks with nothing in common; how a disk of few steps grows.
-/
namespace Go.Proofs.Ytfmdnaagdhpcpaa
open Go.RowKit Go.Proofs.Lys Go.Maps Go.Shelf
set_option linter.unusedVariables false

/-- A call that came in: its kind, two names, its bytes and where they lie. -/
structure COp where
  k : Int
  n : ByteArray
  t : ByteArray
  v : Value
  bs : List UInt8

def COp.op (o : COp) : DOp := ⟨o.k, o.n.data.toList, o.t.data.toList, o.bs⟩
structure COp.ok (w : World) (o : COp) : Prop where
  lo : -9223372036854775808 ≤ o.k
  hi : o.k ≤ 9223372036854775807
  n : o.n.size ≤ maxLen
  t : o.t.size ≤ maxLen
  src : SrcOf w o.v (o.bs.map bV)

/-- Calls that are read. -/
def OpsSrc (w : World) (v : Value) (ps : List COp) : Prop :=
  (∃ a c, v = .slice a 0 c ∧ ps = []) ∨
  (0 < ps.length ∧ ∃ b o c, v = .slice (some ⟨b, o, none⟩) ps.length c ∧ ∀ i (hi : i < ps.length), w.cell? ⟨b, o + i * 4, none⟩ = some (.int .i64 ps[i].k) ∧ w.cell? ⟨b, o + i * 4 + 1, none⟩ = some (.string ps[i].n) ∧ w.cell? ⟨b, o + i * 4 + 2, none⟩ = some (.string ps[i].t) ∧ w.cell? ⟨b, o + i * 4 + 3, none⟩ = some ps[i].v ∧ ps[i].ok w)
theorem OpsSrc.len {w : World} {v : Value} {ps : List COp} (h : OpsSrc w v ps) : ∃ a c, v = .slice a ps.length c := by
  rcases h with ⟨a, c, rfl, rfl⟩ | ⟨_, b, o, c, rfl, _⟩
  · exact ⟨a, c, rfl⟩
  · exact ⟨_, c, rfl⟩

theorem Try.cellsOp : Try.prog.cellsOf 31 = 4 := by kernel_rfl
theorem Try.cellsInt : Try.prog.cellsOf 3 = 1 := by kernel_rfl
theorem Try.cellsStr : Try.prog.cellsOf 9 = 1 := by kernel_rfl
theorem Try.cellsBytes : Try.prog.cellsOf 29 = 1 := by kernel_rfl

theorem open_bytes1 {H : Type} {enc : TypeId × Value → H} {w : World} {spare : Nat → Bool} {held : Bool} {base fuel : Nat} {v : Value} {x : DataW H × List MemPlace}
    (h : DataW.trod enc Try.prog w base spare held fuel 29 [v] = some x) : ∃ bs : List UInt8, SrcOf w v (bs.map bV) := by
  have hv : ∃ a l c, v = .slice a l c := by
    rcases Deep.open_slice Try.underlying29 h with ⟨hcs, _⟩ | ⟨a, len, cap, m, n, D, Pl, hcs, _⟩
    · exact ⟨_, _, _, List.head_eq_of_cons_eq hcs⟩
    · exact ⟨_, _, _, List.head_eq_of_cons_eq hcs⟩
  obtain ⟨a, l, c, rfl⟩ := hv
  exact open_bytes ⟨fuel, h⟩

open Go.ChangeShapes in
set_option maxRecDepth 100000 in
theorem open_op {H : Type} {enc : TypeId × Value → H} {w : World} {spare : Nat → Bool} {held : Bool} {base fuel : Nat} {cs : List Value} {x : DataW H × List MemPlace}
    (h : DataW.trod enc Try.prog w base spare held fuel 31 cs = some x) : ∃ q : COp, q.ok w ∧ cs = [.int .i64 q.k, .string q.n, .string q.t, q.v] := by
  obtain ⟨xs, m, _, _, hlen, hxl, hf⟩ := DataW.trod_struct Try.underlying31 h
  rw [Try.cellsOp] at hlen
  have hxl4 : xs.length = 4 := hxl
  match cs, hlen with
  | [v0, v1, v2, v3], _ =>
    have g0 : DataW.trod enc Try.prog w base spare held m 3 ((([v0, v1, v2, v3] : List Value).drop 0).take (Try.prog.cellsOf 3)) = xs[0]? := hf 0 _ rfl
    have g1 : DataW.trod enc Try.prog w base spare held m 9 ((([v0, v1, v2, v3] : List Value).drop 1).take (Try.prog.cellsOf 9)) = xs[1]? := hf 1 _ rfl
    have g2 : DataW.trod enc Try.prog w base spare held m 9 ((([v0, v1, v2, v3] : List Value).drop 2).take (Try.prog.cellsOf 9)) = xs[2]? := hf 2 _ rfl
    have g3 : DataW.trod enc Try.prog w base spare held m 29 ((([v0, v1, v2, v3] : List Value).drop 3).take (Try.prog.cellsOf 29)) = xs[3]? := hf 3 _ rfl
    rw [Try.cellsInt, List.getElem?_eq_getElem (by omega)] at g0
    rw [Try.cellsStr, List.getElem?_eq_getElem (by omega)] at g1
    rw [Try.cellsStr, List.getElem?_eq_getElem (by omega)] at g2
    rw [Try.cellsBytes, List.getElem?_eq_getElem (by omega)] at g3
    obtain ⟨n0, e0, _, wf0⟩ := DataW.trod_int Try.underlying3 g0
    obtain ⟨s1, e1, _, z1⟩ := DataW.trod_string Try.underlying9 g1
    obtain ⟨s2, e2, _, z2⟩ := DataW.trod_string Try.underlying9 g2
    obtain ⟨bs, hb⟩ := open_bytes1 (v := v3) g3
    have f0 := List.head_eq_of_cons_eq e0
    have f1 := List.head_eq_of_cons_eq e1
    have f2 := List.head_eq_of_cons_eq e2
    subst f0 f1 f2
    obtain ⟨b1, b2⟩ := bounds_i64 wf0
    exact ⟨⟨n0, s1, s2, v3, bs⟩, ⟨b1, b2, z1, z2, hb⟩, rfl⟩

set_option maxRecDepth 100000 in
theorem open_ops {H : Type} {enc : TypeId × Value → H} {w : World} {spare : Nat → Bool} {held : Bool} {base : Nat} {a0 : Option Addr} {len0 cap0 : Nat} {x : DataW H × List MemPlace}
    (h : ∃ m, DataW.trod enc Try.prog w base spare held m 44 (Value.slice a0 len0 cap0).cells.toList = some x) : ∃ ps, OpsSrc w (.slice a0 len0 cap0) ps := by
  obtain ⟨fuel, hf⟩ := h
  rcases Deep.open_slice Try.underlying44 hf with ⟨hcs, _⟩ | ⟨a, len, cap, m, n, D, Pl, hcs, _, hl, hm, hmm, _, hx⟩
  · simp [Value.cells] at hcs
    obtain ⟨rfl, rfl, rfl⟩ := hcs
    exact ⟨[], .inl ⟨_, _, rfl, rfl⟩⟩
  · simp [Value.cells] at hcs
    obtain ⟨rfl, rfl, rfl⟩ := hcs
    have hlm : len0 ≤ m := by rw [hmm]; split <;> omega
    have each : ∀ i, i < len0 → ∃ q : COp, w.cell? (a.add (i * 4)) = some (.int .i64 q.k) ∧ w.cell? (a.add (i * 4 + 1)) = some (.string q.n) ∧ w.cell? (a.add (i * 4 + 2)) = some (.string q.t) ∧ w.cell? (a.add (i * 4 + 3)) = some q.v ∧ q.ok w := by
      intro i hi
      obtain ⟨cs', h1, h2⟩ := hx i (by omega)
      rw [Try.cellsOp] at h1
      obtain ⟨_, hlen, hcell⟩ := World.cells?_some h1
      obtain ⟨q, hq, rfl⟩ := open_op h2
      have c0 := hcell 0 (by omega)
      have c1 := hcell 1 (by omega)
      have c2 := hcell 2 (by omega)
      have c3 := hcell 3 (by omega)
      rw [Deep.add_add] at c0 c1 c2 c3
      exact ⟨q, by simpa using c0, by simpa using c1, by simpa using c2, by simpa using c3, hq⟩
    have hinh : Inhabited COp := ⟨⟨0, ⟨#[]⟩, ⟨#[]⟩, .slice none 0 0, []⟩⟩
    obtain ⟨q, hq⟩ := Deep.choose_lt each
    by_cases h0 : len0 = 0
    · subst h0
      exact ⟨[], .inl ⟨_, _, rfl, rfl⟩⟩
    · refine ⟨(List.range len0).map q, .inr ⟨by simp; omega, ?_⟩⟩
      obtain ⟨b, o, spot⟩ := a
      have hs : spot = none := by simpa [Addr.add] using World.cell?_spot (hq 0 (by omega)).1
      subst hs
      refine ⟨b, o, cap0, by simp, fun i hi => ?_⟩
      have hi' : i < len0 := by simpa using hi
      have := hq i hi'
      rw [add_none, add_none, add_none, add_none, ← Nat.add_assoc, ← Nat.add_assoc, ← Nat.add_assoc] at this
      simpa using this

/-- Two disks in memory that is new since w0, with nothing in common. -/
def Two (w0 W : World) (A B : Nat) (ma mb : DModel) : Prop := ∃ ca Oa cb Ob, ca.d = A ∧ cb.d = B ∧ DiskAt W ca Oa ma ∧ DiskAt W cb Ob mb ∧ Kept w0 W ∧ (∀ k, Oa k → w0.heap.size ≤ k) ∧ (∀ k, Ob k → w0.heap.size ≤ k) ∧ ∀ k, Oa k → ¬ Ob k

/-- .. and a block beside them. -/
def TwoH (w0 W : World) (A B : Nat) (ma mb : DModel) (E : Nat) (vs : List Value) : Prop := ∃ ca Oa cb Ob, ca.d = A ∧ cb.d = B ∧ DiskAt W ca Oa ma ∧ DiskAt W cb Ob mb ∧ Kept w0 W ∧ (∀ k, Oa k → w0.heap.size ≤ k) ∧ (∀ k, Ob k → w0.heap.size ≤ k) ∧ (∀ k, Oa k → ¬ Ob k) ∧ Blk W E vs 31 ∧ ¬ Oa E ∧ ¬ Ob E

section
variable {w0 W W' : World} {A B E : Nat} {ma mb : DModel} {vs : List Value}
theorem Two.kept (h : Two w0 W A B ma mb) : Kept w0 W := by
  obtain ⟨ca, Oa, cb, Ob, h1, h2, h3, h4, h5, h6, h7, h8⟩ := h
  exact h5
theorem Two.hold (h : Two w0 W A B ma mb) (vs : List Value) : TwoH w0 (W.alloc (.cells vs.toArray 31)) A B ma mb W.heap.size vs := by
  obtain ⟨ca, Oa, cb, Ob, h1, h2, h3, h4, h5, h6, h7, h8⟩ := h
  have k : Kept W (W.alloc (.cells vs.toArray 31)) := (Only.refl _ W).alloc _
  exact ⟨ca, Oa, cb, Ob, h1, h2, h3.stay k, h4.stay k, h5.trans k (fun _ _ f => f), h6, h7, h8, Blk.new W vs 31, fun ho => by have := h3.top _ ho; omega, fun ho => by have := h4.top _ ho; omega⟩
theorem TwoH.two (h : TwoH w0 W A B ma mb E vs) : Two w0 W A B ma mb := by
  obtain ⟨ca, Oa, cb, Ob, h1, h2, h3, h4, h5, h6, h7, h8, _⟩ := h
  exact ⟨ca, Oa, cb, Ob, h1, h2, h3, h4, h5, h6, h7, h8⟩
theorem TwoH.symm (h : TwoH w0 W A B ma mb E vs) : TwoH w0 W B A mb ma E vs := by
  obtain ⟨ca, Oa, cb, Ob, h1, h2, h3, h4, h5, h6, h7, h8, h9, ha, hb⟩ := h
  exact ⟨cb, Ob, ca, Oa, h2, h1, h4, h3, h5, h7, h6, fun k a b => h8 k b a, h9, hb, ha⟩
theorem TwoH.kept (h : TwoH w0 W A B ma mb E vs) : Kept w0 W := h.two.kept
theorem TwoH.blk (h : TwoH w0 W A B ma mb E vs) : Blk W E vs 31 := by
  obtain ⟨ca, Oa, cb, Ob, h1, h2, h3, h4, h5, h6, h7, h8, h9, ha, hb⟩ := h
  exact h9
theorem TwoH.up (h : TwoH w0 W A B ma mb E vs) : Up w0 W A ma := by
  obtain ⟨ca, Oa, cb, Ob, h1, h2, h3, h4, h5, h6, h7, h8, _⟩ := h
  exact ⟨ca, Oa, h1, h3, h5, h6⟩
theorem TwoH.stay (h : TwoH w0 W A B ma mb E vs) (k : Kept W W') : TwoH w0 W' A B ma mb E vs := by
  obtain ⟨ca, Oa, cb, Ob, h1, h2, h3, h4, h5, h6, h7, h8, h9, ha, hb⟩ := h
  exact ⟨ca, Oa, cb, Ob, h1, h2, h3.stay k, h4.stay k, h5.trans k (fun _ _ f => f), h6, h7, h8, k.blk h9 (fun f => f), ha, hb⟩
theorem two_of (h : TwoH w0 W A B ma mb E vs) {f : FuncId} {args : Array Value} {o : DOp} (hc : ∀ c O, c.d = A → DiskAt W c O ma → Calls Try.prog f args W (DPost W c O ma o)) :
    Calls Try.prog f args W fun e w' => e = .returned (.int .i64 ((ma.doOp o).1 : Int)) ∧ TwoH w0 w' A B (ma.doOp o).2 mb E vs := by
  obtain ⟨ca, Oa, cb, Ob, h1, h2, h3, h4, h5, h6, h7, h8, h9, ha, hb⟩ := h
  refine (hc ca Oa h1 h3).mono ?_
  rintro e w' ⟨rfl, hk, c', hc', hD⟩
  refine ⟨rfl, c', Grow Oa W w', cb, Ob, hc'.trans h1, h2, hD, h4.only hk (fun j hb ha => h8 j ha hb), h5.trans hk (fun j hj ho => by have := h6 j ho; omega), ?_, h7, ?_, hk.blk h9 ha, ?_, hb⟩
  · rintro k (ho | ho)
    · exact h6 k ho
    · exact Nat.le_trans h5.size ho.1
  · rintro k (ho | ho) hb
    · exact h8 k ho hb
    · have := h4.top k hb
      omega
  · rintro (ho | ho)
    · exact ha ho
    · have := h9.lt
      omega
theorem two_new (hA : Up w0 W A ma) (q : Int) : Calls Try.prog 7 #[.int .i64 q] W fun e w' => e = .returned (.pointer (some ⟨W.heap.size, 0, none⟩)) ∧ Two w0 w' A W.heap.size ma (DModel.start q) := by
  obtain ⟨c, O, h1, h2, h3, h4⟩ := hA
  refine (new_any q W).mono ?_
  rintro e w' ⟨rfl, hk, c', hc, hD⟩
  refine ⟨rfl, c, O, c', _, h1, hc, h2.stay hk, hD, h3.trans hk (fun _ _ f => f), h4, fun k ho => Nat.le_trans h3.size ho.1, fun k ha hb => ?_⟩
  have := h2.top k ha
  have := hb.1
  omega
theorem two_room (h : TwoH w0 W A B ma mb E vs) (hf : ma.few) : Calls Try.prog 25 #[.pointer (some ⟨A, 0, none⟩)] W fun e w' => e = .returned (.int .i64 ((ma.quota : Int) - (ma.used : Int))) ∧ TwoH w0 w' A B ma mb E vs := by
  refine (up_room h.up hf).mono ?_
  rintro e w' ⟨rfl, hk, _⟩
  exact ⟨rfl, h.stay hk⟩
theorem two_do (h : TwoH w0 W A B ma mb E vs) (hf : ma.few) (o : COp) (ho : o.ok W) (hl : o.bs.length ≤ 140737488355328) : Calls Try.prog 10 #[.pointer (some ⟨A, 0, none⟩), .agg #[.int .i64 o.k, .string o.n, .string o.t, o.v]] W fun e w' => e = .returned (.int .i64 ((ma.doOp o.op).1 : Int)) ∧ TwoH w0 w' A B (ma.doOp o.op).2 mb E vs :=
  two_of h (fun c O hc hD => by subst hc; exact do_any hD o.op ho.n rfl ho.t rfl (src_at ho.src) hl hf.1 hf.2)
theorem two_create (h : TwoH w0 W A B ma mb E vs) (hf : ma.few) {s : ByteArray} (hs : s.size ≤ maxLen) : Calls Try.prog 9 #[.pointer (some ⟨A, 0, none⟩), .string s] W fun e w' => e = .returned (.int .i64 ((ma.doOp ⟨0, s.data.toList, [], []⟩).1 : Int)) ∧ TwoH w0 w' A B (ma.doOp ⟨0, s.data.toList, [], []⟩).2 mb E vs :=
  two_of h (fun c O hc hD => by subst hc; exact create_any hD hs hf.1 hf.2)
theorem two_append (h : TwoH w0 W A B ma mb E vs) (hf : ma.few) {s : ByteArray} (hs : s.size ≤ maxLen) {bv : Value} {bs : List UInt8} (hsrc : SrcAt W bv bs) (hl : bs.length ≤ 140737488355328) : Calls Try.prog 20 #[.pointer (some ⟨A, 0, none⟩), .string s, bv] W fun e w' => e = .returned (.int .i64 ((ma.doOp ⟨1, s.data.toList, [], bs⟩).1 : Int)) ∧ TwoH w0 w' A B (ma.doOp ⟨1, s.data.toList, [], bs⟩).2 mb E vs :=
  two_of h (fun c O hc hD => by subst hc; exact append_any hD hs hsrc hl hf.1 hf.2)
theorem two_sync (h : TwoH w0 W A B ma mb E vs) (hf : ma.few) {s : ByteArray} (hs : s.size ≤ maxLen) : Calls Try.prog 21 #[.pointer (some ⟨A, 0, none⟩), .string s] W fun e w' => e = .returned (.int .i64 ((ma.doOp ⟨2, s.data.toList, [], []⟩).1 : Int)) ∧ TwoH w0 w' A B (ma.doOp ⟨2, s.data.toList, [], []⟩).2 mb E vs :=
  two_of h (fun c O hc hD => by subst hc; exact sync_any hD hs hf.1 hf.2)
theorem two_rename (h : TwoH w0 W A B ma mb E vs) (hf : ma.few) {s : ByteArray} (hs : s.size ≤ maxLen) {s2 : ByteArray} (hs2 : s2.size ≤ maxLen) : Calls Try.prog 22 #[.pointer (some ⟨A, 0, none⟩), .string s, .string s2] W fun e w' => e = .returned (.int .i64 ((ma.doOp ⟨3, s.data.toList, s2.data.toList, []⟩).1 : Int)) ∧ TwoH w0 w' A B (ma.doOp ⟨3, s.data.toList, s2.data.toList, []⟩).2 mb E vs :=
  two_of h (fun c O hc hD => by subst hc; exact rename_any hD hs hs2 hf.1 hf.2)
theorem two_remove (h : TwoH w0 W A B ma mb E vs) (hf : ma.few) {s : ByteArray} (hs : s.size ≤ maxLen) : Calls Try.prog 23 #[.pointer (some ⟨A, 0, none⟩), .string s] W fun e w' => e = .returned (.int .i64 ((ma.doOp ⟨4, s.data.toList, [], []⟩).1 : Int)) ∧ TwoH w0 w' A B (ma.doOp ⟨4, s.data.toList, [], []⟩).2 mb E vs :=
  two_of h (fun c O hc hD => by subst hc; exact remove_any hD hs hf.1 hf.2)
theorem two_syncdir (h : TwoH w0 W A B ma mb E vs) (hf : ma.few) : Calls Try.prog 24 #[.pointer (some ⟨A, 0, none⟩)] W fun e w' => e = .returned (.int .i64 ((ma.doOp ⟨5, [], [], []⟩).1 : Int)) ∧ TwoH w0 w' A B (ma.doOp ⟨5, [], [], []⟩).2 mb E vs :=
  two_of h (fun c O hc hD => by subst hc; exact syncdir_any hD hf.1 hf.2)
end

/-- So many steps, names and acts at most. -/
def atMost (m : DModel) (i : Nat) : Prop := m.steps ≤ i ∧ m.dir.length ≤ i ∧ m.sure.length ≤ i ∧ m.acts.length ≤ i
theorem atMost.few {m : DModel} {i : Nat} (h : atMost m i) (hi : i ≤ 10000) : m.few := by
  obtain ⟨h1, h2, h3, h4⟩ := h
  exact ⟨by omega, by omega⟩
theorem drop_le (l : DDir) (n : List UInt8) : (DD.drop l n).length ≤ l.length := List.length_filter_le _ _
theorem ins_len (x : List UInt8 × Nat) (l : DDir) : (DD.ins x l).length = l.length + 1 := by
  induction l with
  | nil => rfl
  | cons y r ih =>
    unfold DD.ins
    split
    · rfl
    · rw [List.length_cons, ih]; rfl
theorem put_le (l : DDir) (n : List UInt8) (f : Nat) : (DD.put l n f).length ≤ l.length + 1 := by
  unfold DD.put
  rw [ins_len]
  have := drop_le l n
  omega
theorem act_le (l : DDir) (a : DAct) : (DD.act l a).length ≤ l.length + 1 := by
  unfold DD.act
  split
  · exact put_le _ _ _
  · split
    · split
      · have := put_le (DD.drop l a.name) a.to ‹_›
        have := drop_le l a.name
        omega
      · omega
    · have := drop_le l a.name
      omega
theorem atMost.mono {m : DModel} {i j : Nat} (h : atMost m i) (hij : i ≤ j) : atMost m j := by
  obtain ⟨h1, h2, h3, h4⟩ := h
  exact ⟨by omega, by omega, by omega, by omega⟩
theorem done_most {m : DModel} {i : Nat} (h : atMost m i) (o : DOp) : atMost (m.done o).count (i + 1) := by
  obtain ⟨h1, h2, h3, h4⟩ := h
  unfold DModel.done
  split
  · have := put_le m.dir o.name m.files.length
    exact ⟨by show m.steps + 1 ≤ _; omega, by show (DD.put m.dir o.name m.files.length).length ≤ _; omega, by show m.sure.length ≤ _; omega, by show (m.acts ++ [_]).length ≤ _; simp; omega⟩
  · split
    · exact ⟨by show m.steps + 1 ≤ _; omega, by show m.dir.length ≤ _; omega, by show m.sure.length ≤ _; omega, by show m.acts.length ≤ _; omega⟩
    · split
      · exact ⟨by show m.steps + 1 ≤ _; omega, by show m.dir.length ≤ _; omega, by show m.sure.length ≤ _; omega, by show m.acts.length ≤ _; omega⟩
      · split
        · have := act_le m.dir ⟨1, o.name, o.to, 0⟩
          exact ⟨by show m.steps + 1 ≤ _; omega, by show (DD.act m.dir ⟨1, o.name, o.to, 0⟩).length ≤ _; omega, by show m.sure.length ≤ _; omega, by show (m.acts ++ [_]).length ≤ _; simp; omega⟩
        · split
          · have := act_le m.dir ⟨2, o.name, [], 0⟩
            exact ⟨by show m.steps + 1 ≤ _; omega, by show (DD.act m.dir ⟨2, o.name, [], 0⟩).length ≤ _; omega, by show m.sure.length ≤ _; omega, by show (m.acts ++ [_]).length ≤ _; simp; omega⟩
          · exact ⟨by show m.steps + 1 ≤ _; omega, by show m.dir.length ≤ _; omega, by show m.dir.length ≤ _; omega, by show (0 : Nat) ≤ _; omega⟩
theorem do_most {m : DModel} {i : Nat} (h : atMost m i) (o : DOp) : atMost (m.doOp o).2 (i + 1) := by
  unfold DModel.doOp
  split
  · exact h.mono (by omega)
  · split
    · exact h.mono (by omega)
    · split
      · exact h.mono (by omega)
      · split
        · exact h.mono (by omega)
        · split
          · exact h.mono (by omega)
          · exact done_most h o

theorem do_kind0 (m : DModel) (n t b : List UInt8) : m.doOp ⟨0, n, [], []⟩ = m.doOp ⟨0, n, t, b⟩ := rfl
theorem do_kind1 (m : DModel) (n t b : List UInt8) : m.doOp ⟨1, n, [], b⟩ = m.doOp ⟨1, n, t, b⟩ := rfl
theorem do_kind2 (m : DModel) (n t b : List UInt8) : m.doOp ⟨2, n, [], []⟩ = m.doOp ⟨2, n, t, b⟩ := rfl
theorem do_kind3 (m : DModel) (n t b : List UInt8) : m.doOp ⟨3, n, t, []⟩ = m.doOp ⟨3, n, t, b⟩ := rfl
theorem do_kind4 (m : DModel) (n t b : List UInt8) : m.doOp ⟨4, n, [], []⟩ = m.doOp ⟨4, n, t, b⟩ := rfl
theorem do_kind5 (m : DModel) (n t b : List UInt8) : m.doOp ⟨5, [], [], []⟩ = m.doOp ⟨5, n, t, b⟩ := rfl
theorem do_odd (m : DModel) (k : Int) (n t b : List UInt8) (h : k < 0 ∨ 5 < k) : m.doOp ⟨k, n, t, b⟩ = (1, m) := by
  unfold DModel.doOp
  rw [if_pos h]
end Go.Proofs.Ytfmdnaagdhpcpaa
