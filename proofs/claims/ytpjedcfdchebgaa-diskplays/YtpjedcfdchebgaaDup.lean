/-
  A disk in memory that is new since some world, call by call.
-/
import Derived.Test.YtpjedcfdchebgaaDnew
import Derived.Test.YtpjedcfdchebgaaDcalls
import Derived.Test.YtpjedcfdchebgaaDmodel2
namespace Go.Proofs.Ytpjedcfdchebgaa
open Go.RowKit Go.Proofs.Lys Go.Maps Go.Shelf
set_option linter.unusedVariables false

/-- At D lies a disk that is as m tells, in memory that is new since w0, and no older memory has turned. -/
def Up (w0 W : World) (D : Nat) (m : DModel) : Prop := ∃ c O, c.d = D ∧ DiskAt W c O m ∧ Kept w0 W ∧ ∀ k, O k → w0.heap.size ≤ k

section
variable {w0 W W' : World} {D : Nat} {m : DModel}

theorem Up.kept (h : Up w0 W D m) : Kept w0 W := by
  obtain ⟨c, O, _, _, hk, _⟩ := h
  exact hk
theorem Up.stay (h : Up w0 W D m) (k : Kept W W') : Up w0 W' D m := by
  obtain ⟨c, O, rfl, hD, hk, hO⟩ := h
  exact ⟨c, O, rfl, hD.stay k, hk.trans k (fun _ _ f => f), hO⟩
theorem Up.lt (h : Up w0 W D m) : w0.heap.size ≤ D ∧ D < W.heap.size := by
  obtain ⟨c, O, rfl, hD, hk, hO⟩ := h
  exact ⟨hO _ hD.oD, hD.top _ hD.oD⟩

theorem up_new (h : Kept w0 W) (q : Int) : Calls Try.prog 9 #[.int .i64 q] W fun e w' => e = .returned (.pointer (some ⟨W.heap.size, 0, none⟩)) ∧ Up w0 w' W.heap.size (DModel.start q) := by
  refine (new_any q W).mono ?_
  rintro e w' ⟨rfl, hk, c, hc, hD⟩
  exact ⟨rfl, c, _, hc, hD, h.trans hk (fun _ _ f => f), fun k ho => Nat.le_trans h.size ho.1⟩

theorem up_post {c : Conc} {O : Nat → Prop} {o : DOp} {e : Ending} (hk : Kept w0 W) (hO : ∀ k, O k → w0.heap.size ≤ k) (hp : DPost W c O m o e W') : e = .returned (.int .i64 ((m.doOp o).1 : Int)) ∧ Up w0 W' c.d (m.doOp o).2 := by
  obtain ⟨rfl, h1, c', hc, hD⟩ := hp
  refine ⟨rfl, c', _, hc, hD, hk.trans h1 (fun j hj ho => by have := hO j ho; omega), fun k ho => ?_⟩
  rcases ho with ho | ho
  · exact hO k ho
  · exact Nat.le_trans hk.size ho.1

theorem up_create (h : Up w0 W D m) {s : ByteArray} (hs : s.size ≤ maxLen) (hf : m.few) :
    Calls Try.prog 11 #[.pointer (some ⟨D, 0, none⟩), .string s] W fun e w' => e = .returned (.int .i64 ((m.doOp ⟨0, s.data.toList, [], []⟩).1 : Int)) ∧ Up w0 w' D (m.doOp ⟨0, s.data.toList, [], []⟩).2 := by
  obtain ⟨c, O, rfl, hD, hk, hO⟩ := h
  exact (create_any hD hs hf.1 hf.2).mono (fun e w' hp => up_post hk hO hp)
theorem up_append (h : Up w0 W D m) {s : ByteArray} (hs : s.size ≤ maxLen) {bv : Value} {bs : List UInt8} (hsrc : SrcAt W bv bs) (hbl : bs.length ≤ 140737488355328) (hf : m.few) :
    Calls Try.prog 29 #[.pointer (some ⟨D, 0, none⟩), .string s, bv] W fun e w' => e = .returned (.int .i64 ((m.doOp ⟨1, s.data.toList, [], bs⟩).1 : Int)) ∧ Up w0 w' D (m.doOp ⟨1, s.data.toList, [], bs⟩).2 := by
  obtain ⟨c, O, rfl, hD, hk, hO⟩ := h
  exact (append_any hD hs hsrc hbl hf.1 hf.2).mono (fun e w' hp => up_post hk hO hp)
theorem up_sync (h : Up w0 W D m) {s : ByteArray} (hs : s.size ≤ maxLen) (hf : m.few) :
    Calls Try.prog 30 #[.pointer (some ⟨D, 0, none⟩), .string s] W fun e w' => e = .returned (.int .i64 ((m.doOp ⟨2, s.data.toList, [], []⟩).1 : Int)) ∧ Up w0 w' D (m.doOp ⟨2, s.data.toList, [], []⟩).2 := by
  obtain ⟨c, O, rfl, hD, hk, hO⟩ := h
  exact (sync_any hD hs hf.1 hf.2).mono (fun e w' hp => up_post hk hO hp)
theorem up_syncdir (h : Up w0 W D m) (hf : m.few) :
    Calls Try.prog 31 #[.pointer (some ⟨D, 0, none⟩)] W fun e w' => e = .returned (.int .i64 ((m.doOp ⟨5, [], [], []⟩).1 : Int)) ∧ Up w0 w' D (m.doOp ⟨5, [], [], []⟩).2 := by
  obtain ⟨c, O, rfl, hD, hk, hO⟩ := h
  exact (syncdir_any hD hf.1 hf.2).mono (fun e w' hp => up_post hk hO hp)

theorem up_crash {kv : Value} {keep : List Int} (h : Up w0 W D m) (hI : ∀ O : Nat → Prop, (∀ c m, DiskAt W c O m → (∀ k, O k → w0.heap.size ≤ k) → IntsAt W O kv keep)) (hf : m.few) :
    Calls Try.prog 19 #[.pointer (some ⟨D, 0, none⟩), kv] W fun e w' => e = .returned (.tuple #[]) ∧ Up w0 w' D (m.crash keep) := by
  obtain ⟨c, O, rfl, hD, hk, hO⟩ := h
  refine (crash_any hD (hI O c m hD hO) (by have := hf.2; omega)).mono ?_
  rintro e w' ⟨rfl, h1, c', hc, hD'⟩
  refine ⟨rfl, c', _, hc, hD', hk.trans h1 (fun j hj ho => by have := hO j ho; omega), fun k ho => ?_⟩
  rcases ho with ho | ho
  · exact hO k ho
  · exact Nat.le_trans hk.size ho.1

/-- .. numbers that were laid just now. -/
theorem up_crash_lit {keep : List Int} (h : Up w0 W D m) (hf : m.few) (hl : keep ≠ []) {vs : Array Value} (hv : vs = (keep.map (Value.int .i64)).toArray) :
    Calls Try.prog 19 #[.pointer (some ⟨D, 0, none⟩), .slice (some ⟨W.heap.size, 0, none⟩) keep.length keep.length] (W.alloc (.cells vs 3)) fun e w' => e = .returned (.tuple #[]) ∧ Up w0 w' D (m.crash keep) := by
  subst hv
  obtain ⟨c, O, rfl, hD, hk, hO⟩ := h
  have hb := Blk.new W (keep.map (Value.int .i64)) 3
  have hD1 : DiskAt (W.alloc (.cells (keep.map (Value.int .i64)).toArray 3)) c O m := hD.stay ((Only.refl _ W).alloc _)
  refine (crash_any hD1 (keep := keep) ⟨some ⟨W.heap.size, 0, none⟩, keep.length, rfl, Nat.le_refl _, fun _ => ⟨W.heap.size, 0, rfl, fun ho => by have := hD.top _ ho; omega, fun i x hi => ?_⟩⟩ (by have := hf.2; omega)).mono ?_
  · rw [Nat.zero_add]
    exact hb.cell i (by rw [List.getElem?_map, hi]; rfl)
  · rintro e w' ⟨rfl, h1, c', hc, hD'⟩
    have hk2 : Kept w0 (W.alloc (.cells (keep.map (Value.int .i64)).toArray 3)) := hk.alloc _
    refine ⟨rfl, c', _, hc, hD', hk2.trans h1 (fun j hj ho => by have := hO j ho; omega), fun k ho => ?_⟩
    rcases ho with ho | ho
    · exact hO k ho
    · exact Nat.le_trans hk2.size ho.1

theorem up_read (h : Up w0 W D m) {s : ByteArray} (hs : s.size ≤ maxLen) :
    Calls Try.prog 32 #[.pointer (some ⟨D, 0, none⟩), .string s] W fun e w' => ∃ v, e = .returned (.tuple #[v, .int .i64 ((m.read s.data.toList).1 : Int)]) ∧ w'.ownsRow W.heap.size 5 1 v (m.read s.data.toList).2.length ((m.read s.data.toList).2.map bV) ∧ Kept W w' ∧ Up w0 w' D m := by
  have hU := h
  obtain ⟨c, O, rfl, hD, hk, hO⟩ := h
  cases hoff : m.off
  · cases hl : DD.look m.dir s.data.toList with
    | none =>
      have e1 : m.read s.data.toList = (6, []) := by unfold DModel.read; rw [hoff, hl]; rfl
      rw [e1]
      refine (read_none hD hoff hs hl).mono ?_
      rintro e w' ⟨rfl, rfl⟩
      exact ⟨_, rfl, World.ownsRow_nil _ _ _ _, Only.refl _ _, hU⟩
    | some f =>
      have e1 : m.read s.data.toList = (0, (m.fileAt f).b) := by unfold DModel.read; rw [hoff, hl]; rfl
      rw [e1]
      refine (read_some hD hoff hs hl).mono ?_
      rintro e w' ⟨v, rfl, ho, hk⟩
      exact ⟨v, rfl, ho, hk, hU.stay hk⟩
  · have e1 : m.read s.data.toList = (12, []) := by unfold DModel.read; rw [hoff]; rfl
    rw [e1]
    refine (read_off hD hoff s).mono ?_
    rintro e w' ⟨rfl, rfl⟩
    exact ⟨_, rfl, World.ownsRow_nil _ _ _ _, Only.refl _ _, hU⟩

theorem up_list (h : Up w0 W D m) (hf : m.few) :
    Calls Try.prog 48 #[.pointer (some ⟨D, 0, none⟩)] W fun e w' => ∃ v, e = .returned v ∧ w'.ownsRow W.heap.size 9 1 v m.list.length (m.list.map encStr) ∧ Kept W w' ∧ Up w0 w' D m := by
  have hU := h
  obtain ⟨c, O, rfl, hD, hk, hO⟩ := h
  refine (list_any hD (by have := hf.2; omega)).mono ?_
  rintro e w' ⟨v, rfl, ho, _, hk⟩
  exact ⟨v, rfl, ho, hk, hU.stay hk⟩

theorem up_room (h : Up w0 W D m) (hf : m.few) :
    Calls Try.prog 53 #[.pointer (some ⟨D, 0, none⟩)] W fun e w' => e = .returned (.int .i64 ((m.quota : Int) - (m.used : Int))) ∧ Kept W w' ∧ Up w0 w' D m := by
  have hU := h
  obtain ⟨c, O, rfl, hD, hk, hO⟩ := h
  refine (room_any hD (by have := hf.2; omega)).mono ?_
  rintro e w' ⟨rfl, hk⟩
  exact ⟨rfl, hk, hU.stay hk⟩
theorem up_steps (h : Up w0 W D m) : Calls Try.prog 33 #[.pointer (some ⟨D, 0, none⟩)] W fun e w' => e = .returned (.int .i64 (m.steps : Int)) ∧ w' = W := by
  obtain ⟨c, O, rfl, hD, hk, hO⟩ := h
  exact steps_any hD
theorem up_on (h : Up w0 W D m) : Calls Try.prog 51 #[.pointer (some ⟨D, 0, none⟩)] W fun e w' => e = .returned (.bool (!m.off)) ∧ w' = W := by
  obtain ⟨c, O, rfl, hD, hk, hO⟩ := h
  exact on_any hD
theorem up_fuse (h : Up w0 W D m) (n : Int) (hn : n ≤ 9223372036854775807) : Calls Try.prog 15 #[.pointer (some ⟨D, 0, none⟩), .int .i64 n] W fun e w' => e = .returned (.tuple #[]) ∧ Up w0 w' D { m with fuse := DModel.lay n } := by
  obtain ⟨c, O, rfl, hD, hk, hO⟩ := h
  refine (fuse_any hD n hn).mono ?_
  rintro e w' ⟨rfl, h1, hD'⟩
  exact ⟨rfl, { c with fw := n }, O, rfl, hD', hk.trans h1 (fun j hj ho => by have := hO j ho; omega), hO⟩
theorem up_fault (h : Up w0 W D m) (n : Int) (hn : n ≤ 9223372036854775807) : Calls Try.prog 17 #[.pointer (some ⟨D, 0, none⟩), .int .i64 n] W fun e w' => e = .returned (.tuple #[]) ∧ Up w0 w' D { m with fault := DModel.lay n } := by
  obtain ⟨c, O, rfl, hD, hk, hO⟩ := h
  refine (fault_any hD n hn).mono ?_
  rintro e w' ⟨rfl, h1, hD'⟩
  exact ⟨rfl, { c with aw := n }, O, rfl, hD', hk.trans h1 (fun j hj ho => by have := hO j ho; omega), hO⟩
theorem num3_any (n : Int) (w : World) : Calls Try.prog 13 #[.int .i64 n] w fun e w' => e = .returned (.int .i64 n) ∧ w' = w := by
  go_enter Try.func13, Try.ntmps13
  go_wp2
  go_ret
  exact ⟨rfl, rfl⟩
/-- Bytes that were laid just now. -/
theorem src_lit (bs : List UInt8) (W : World) {vs : Array Value} {fz : Nat × Nat} (hv : vs = (bs.map byteV).toArray) : SrcAt (W.alloc (.cells vs 5 fz)) (.slice (some ⟨W.heap.size, 0, none⟩) bs.length bs.length) bs := by
  subst hv
  refine .inr ⟨W.heap.size, 0, bs.length, rfl, fun j u hu => ?_⟩
  rw [Nat.zero_add]
  have : (W.alloc (.cells (bs.map byteV).toArray 5 fz)).heap[W.heap.size]? = some (.cells (bs.map byteV).toArray 5 fz) := heap_alloc_new W _
  simp only [World.cell?, this]
  simp [hu]
end
end Go.Proofs.Ytpjedcfdchebgaa
