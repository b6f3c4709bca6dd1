/-
  Calls that came in as data; two disks with nothing in common; how a disk of few steps grows.
-/
import Derived.Test.YtpjedcfdchebgaaLsure
import Derived.Deep.Slices
import Derived.OpenShut
namespace Go.Proofs.Ytpjedcfdchebgaa
open Go.RowKit Go.Proofs.Lys Go.Maps Go.Shelf
set_option linter.unusedVariables false

/-- A call that came in: its kind, two names, its bytes and where they lie. -/
structure COp where
  k : Int
  n : ByteArray
  t : ByteArray
  v : Value
  bs : List UInt8

instance : Inhabited COp := ⟨⟨0, ⟨#[]⟩, ⟨#[]⟩, .slice none 0 0, []⟩⟩
def COp.op (o : COp) : DOp := ⟨o.k, o.n.data.toList, o.t.data.toList, o.bs⟩
structure COp.ok (w : World) (o : COp) : Prop where
  lo : -9223372036854775808 ≤ o.k
  hi : o.k ≤ 9223372036854775807
  n : o.n.size ≤ maxLen
  t : o.t.size ≤ maxLen
  src : SrcOf w o.v (o.bs.map bV)

/-- Calls that are read. -/
def OpsSrc (w : World) (v : Value) (ps : List COp) : Prop :=
  (∃ a c, v = .slice a 0 c ∧ ps = []) ∨
  (0 < ps.length ∧ ∃ b o c, v = .slice (some ⟨b, o, none⟩) ps.length c ∧ ∀ i (hi : i < ps.length), w.cell? ⟨b, o + i * 4, none⟩ = some (.int .i64 ps[i].k) ∧ w.cell? ⟨b, o + i * 4 + 1, none⟩ = some (.string ps[i].n) ∧ w.cell? ⟨b, o + i * 4 + 2, none⟩ = some (.string ps[i].t) ∧ w.cell? ⟨b, o + i * 4 + 3, none⟩ = some ps[i].v ∧ ps[i].ok w)
theorem OpsSrc.len {w : World} {v : Value} {ps : List COp} (h : OpsSrc w v ps) : ∃ a c, v = .slice a ps.length c := by
  rcases h with ⟨a, c, rfl, rfl⟩ | ⟨_, b, o, c, rfl, _⟩
  · exact ⟨a, c, rfl⟩
  · exact ⟨_, c, rfl⟩

theorem Try.cellsOp : Try.prog.cellsOf 31 = 4 := by kernel_rfl
theorem Try.cellsInt : Try.prog.cellsOf 3 = 1 := by kernel_rfl
theorem Try.cellsStr : Try.prog.cellsOf 9 = 1 := by kernel_rfl
theorem Try.cellsBytes : Try.prog.cellsOf 29 = 1 := by kernel_rfl

theorem open_bytes1 {H : Type} {enc : TypeId × Value → H} {w : World} {spare : Nat → Bool} {held : Bool} {base fuel : Nat} {v : Value} {x : DataW H × List MemPlace}
    (h : DataW.trod enc Try.prog w base spare held fuel 29 [v] = some x) : ∃ bs : List UInt8, SrcOf w v (bs.map bV) := by
  have hv : ∃ a l c, v = .slice a l c := by
    rcases Deep.open_slice Try.underlying29 h with ⟨hcs, _⟩ | ⟨a, len, cap, m, n, D, Pl, hcs, _⟩
    · exact ⟨_, _, _, List.head_eq_of_cons_eq hcs⟩
    · exact ⟨_, _, _, List.head_eq_of_cons_eq hcs⟩
  obtain ⟨a, l, c, rfl⟩ := hv
  exact open_bytes ⟨fuel, h⟩

open Go.ChangeShapes in
set_option maxRecDepth 100000 in
theorem open_op {H : Type} {enc : TypeId × Value → H} {w : World} {spare : Nat → Bool} {held : Bool} {base fuel : Nat} {cs : List Value} {x : DataW H × List MemPlace}
    (h : DataW.trod enc Try.prog w base spare held fuel 31 cs = some x) : ∃ q : COp, q.ok w ∧ cs = [.int .i64 q.k, .string q.n, .string q.t, q.v] := by
  obtain ⟨xs, m, _, _, hlen, hxl, hf⟩ := DataW.trod_struct Try.underlying31 h
  rw [Try.cellsOp] at hlen
  have hxl4 : xs.length = 4 := hxl
  match cs, hlen with
  | [v0, v1, v2, v3], _ =>
    have g0 : DataW.trod enc Try.prog w base spare held m 3 ((([v0, v1, v2, v3] : List Value).drop 0).take (Try.prog.cellsOf 3)) = xs[0]? := hf 0 _ rfl
    have g1 : DataW.trod enc Try.prog w base spare held m 9 ((([v0, v1, v2, v3] : List Value).drop 1).take (Try.prog.cellsOf 9)) = xs[1]? := hf 1 _ rfl
    have g2 : DataW.trod enc Try.prog w base spare held m 9 ((([v0, v1, v2, v3] : List Value).drop 2).take (Try.prog.cellsOf 9)) = xs[2]? := hf 2 _ rfl
    have g3 : DataW.trod enc Try.prog w base spare held m 29 ((([v0, v1, v2, v3] : List Value).drop 3).take (Try.prog.cellsOf 29)) = xs[3]? := hf 3 _ rfl
    rw [Try.cellsInt, List.getElem?_eq_getElem (by omega)] at g0
    rw [Try.cellsStr, List.getElem?_eq_getElem (by omega)] at g1
    rw [Try.cellsStr, List.getElem?_eq_getElem (by omega)] at g2
    rw [Try.cellsBytes, List.getElem?_eq_getElem (by omega)] at g3
    obtain ⟨n0, e0, _, wf0⟩ := DataW.trod_int Try.underlying3 g0
    obtain ⟨s1, e1, _, z1⟩ := DataW.trod_string Try.underlying9 g1
    obtain ⟨s2, e2, _, z2⟩ := DataW.trod_string Try.underlying9 g2
    obtain ⟨bs, hb⟩ := open_bytes1 (v := v3) g3
    have f0 := List.head_eq_of_cons_eq e0
    have f1 := List.head_eq_of_cons_eq e1
    have f2 := List.head_eq_of_cons_eq e2
    subst f0 f1 f2
    obtain ⟨b1, b2⟩ := bounds_i64 wf0
    exact ⟨⟨n0, s1, s2, v3, bs⟩, ⟨b1, b2, z1, z2, hb⟩, rfl⟩

/-- Two disks in memory that is new since w0, with nothing in common. -/
def Two (w0 W : World) (A B : Nat) (ma mb : DModel) : Prop := ∃ ca Oa cb Ob, ca.d = A ∧ cb.d = B ∧ DiskAt W ca Oa ma ∧ DiskAt W cb Ob mb ∧ Kept w0 W ∧ (∀ k, Oa k → w0.heap.size ≤ k) ∧ (∀ k, Ob k → w0.heap.size ≤ k) ∧ ∀ k, Oa k → ¬ Ob k

/-- .. and a block beside them. -/
def TwoH (w0 W : World) (A B : Nat) (ma mb : DModel) (E : Nat) (vs : List Value) : Prop := ∃ ca Oa cb Ob, ca.d = A ∧ cb.d = B ∧ DiskAt W ca Oa ma ∧ DiskAt W cb Ob mb ∧ Kept w0 W ∧ (∀ k, Oa k → w0.heap.size ≤ k) ∧ (∀ k, Ob k → w0.heap.size ≤ k) ∧ (∀ k, Oa k → ¬ Ob k) ∧ Blk W E vs 31 ∧ ¬ Oa E ∧ ¬ Ob E

section
variable {w0 W W' : World} {A B E : Nat} {ma mb : DModel} {vs : List Value}
theorem Two.kept (h : Two w0 W A B ma mb) : Kept w0 W := by
  obtain ⟨ca, Oa, cb, Ob, h1, h2, h3, h4, h5, h6, h7, h8⟩ := h
  exact h5
theorem Two.hold (h : Two w0 W A B ma mb) (vs : List Value) : TwoH w0 (W.alloc (.cells vs.toArray 31)) A B ma mb W.heap.size vs := by
  obtain ⟨ca, Oa, cb, Ob, h1, h2, h3, h4, h5, h6, h7, h8⟩ := h
  have k : Kept W (W.alloc (.cells vs.toArray 31)) := (Only.refl _ W).alloc _
  exact ⟨ca, Oa, cb, Ob, h1, h2, h3.stay k, h4.stay k, h5.trans k (fun _ _ f => f), h6, h7, h8, Blk.new W vs 31, fun ho => by have := h3.top _ ho; omega, fun ho => by have := h4.top _ ho; omega⟩
theorem TwoH.two (h : TwoH w0 W A B ma mb E vs) : Two w0 W A B ma mb := by
  obtain ⟨ca, Oa, cb, Ob, h1, h2, h3, h4, h5, h6, h7, h8, _⟩ := h
  exact ⟨ca, Oa, cb, Ob, h1, h2, h3, h4, h5, h6, h7, h8⟩
theorem TwoH.symm (h : TwoH w0 W A B ma mb E vs) : TwoH w0 W B A mb ma E vs := by
  obtain ⟨ca, Oa, cb, Ob, h1, h2, h3, h4, h5, h6, h7, h8, h9, ha, hb⟩ := h
  exact ⟨cb, Ob, ca, Oa, h2, h1, h4, h3, h5, h7, h6, fun k a b => h8 k b a, h9, hb, ha⟩
theorem TwoH.kept (h : TwoH w0 W A B ma mb E vs) : Kept w0 W := h.two.kept
theorem TwoH.blk (h : TwoH w0 W A B ma mb E vs) : Blk W E vs 31 := by
  obtain ⟨ca, Oa, cb, Ob, h1, h2, h3, h4, h5, h6, h7, h8, h9, ha, hb⟩ := h
  exact h9
theorem TwoH.up (h : TwoH w0 W A B ma mb E vs) : Up w0 W A ma := by
  obtain ⟨ca, Oa, cb, Ob, h1, h2, h3, h4, h5, h6, h7, h8, _⟩ := h
  exact ⟨ca, Oa, h1, h3, h5, h6⟩
theorem TwoH.stay (h : TwoH w0 W A B ma mb E vs) (k : Kept W W') : TwoH w0 W' A B ma mb E vs := by
  obtain ⟨ca, Oa, cb, Ob, h1, h2, h3, h4, h5, h6, h7, h8, h9, ha, hb⟩ := h
  exact ⟨ca, Oa, cb, Ob, h1, h2, h3.stay k, h4.stay k, h5.trans k (fun _ _ f => f), h6, h7, h8, k.blk h9 (fun f => f), ha, hb⟩
theorem two_of (h : TwoH w0 W A B ma mb E vs) {f : FuncId} {args : Array Value} {o : DOp} (hc : ∀ c O, c.d = A → DiskAt W c O ma → Calls Try.prog f args W (DPost W c O ma o)) :
    Calls Try.prog f args W fun e w' => e = .returned (.int .i64 ((ma.doOp o).1 : Int)) ∧ TwoH w0 w' A B (ma.doOp o).2 mb E vs := by
  obtain ⟨ca, Oa, cb, Ob, h1, h2, h3, h4, h5, h6, h7, h8, h9, ha, hb⟩ := h
  refine (hc ca Oa h1 h3).mono ?_
  rintro e w' ⟨rfl, hk, c', hc', hD⟩
  refine ⟨rfl, c', Grow Oa W w', cb, Ob, hc'.trans h1, h2, hD, h4.only hk (fun j hb ha => h8 j ha hb), h5.trans hk (fun j hj ho => by have := h6 j ho; omega), ?_, h7, ?_, hk.blk h9 ha, ?_, hb⟩
  · rintro k (ho | ho)
    · exact h6 k ho
    · exact Nat.le_trans h5.size ho.1
  · rintro k (ho | ho) hb
    · exact h8 k ho hb
    · have := h4.top k hb
      omega
  · rintro (ho | ho)
    · exact ha ho
    · have := h9.lt
      omega
theorem two_new (hA : Up w0 W A ma) (q : Int) : Calls Try.prog 9 #[.int .i64 q] W fun e w' => e = .returned (.pointer (some ⟨W.heap.size, 0, none⟩)) ∧ Two w0 w' A W.heap.size ma (DModel.start q) := by
  obtain ⟨c, O, h1, h2, h3, h4⟩ := hA
  refine (new_any q W).mono ?_
  rintro e w' ⟨rfl, hk, c', hc, hD⟩
  refine ⟨rfl, c, O, c', _, h1, hc, h2.stay hk, hD, h3.trans hk (fun _ _ f => f), h4, fun k ho => Nat.le_trans h3.size ho.1, fun k ha hb => ?_⟩
  have := h2.top k ha
  have := hb.1
  omega
theorem two_room (h : TwoH w0 W A B ma mb E vs) (hf : ma.few) : Calls Try.prog 53 #[.pointer (some ⟨A, 0, none⟩)] W fun e w' => e = .returned (.int .i64 ((ma.quota : Int) - (ma.used : Int))) ∧ TwoH w0 w' A B ma mb E vs := by
  refine (up_room h.up hf).mono ?_
  rintro e w' ⟨rfl, hk, _⟩
  exact ⟨rfl, h.stay hk⟩
theorem two_do (h : TwoH w0 W A B ma mb E vs) (hf : ma.few) (o : COp) (ho : o.ok W) (hl : o.bs.length ≤ 140737488355328) : Calls Try.prog 12 #[.pointer (some ⟨A, 0, none⟩), .agg #[.int .i64 o.k, .string o.n, .string o.t, o.v]] W fun e w' => e = .returned (.int .i64 ((ma.doOp o.op).1 : Int)) ∧ TwoH w0 w' A B (ma.doOp o.op).2 mb E vs :=
  two_of h (fun c O hc hD => by subst hc; exact do_any hD o.op ho.n rfl ho.t rfl (src_at ho.src) hl hf.1 hf.2)
theorem two_create (h : TwoH w0 W A B ma mb E vs) (hf : ma.few) {s : ByteArray} (hs : s.size ≤ maxLen) : Calls Try.prog 11 #[.pointer (some ⟨A, 0, none⟩), .string s] W fun e w' => e = .returned (.int .i64 ((ma.doOp ⟨0, s.data.toList, [], []⟩).1 : Int)) ∧ TwoH w0 w' A B (ma.doOp ⟨0, s.data.toList, [], []⟩).2 mb E vs :=
  two_of h (fun c O hc hD => by subst hc; exact create_any hD hs hf.1 hf.2)
theorem two_append (h : TwoH w0 W A B ma mb E vs) (hf : ma.few) {s : ByteArray} (hs : s.size ≤ maxLen) {bv : Value} {bs : List UInt8} (hsrc : SrcAt W bv bs) (hl : bs.length ≤ 140737488355328) : Calls Try.prog 29 #[.pointer (some ⟨A, 0, none⟩), .string s, bv] W fun e w' => e = .returned (.int .i64 ((ma.doOp ⟨1, s.data.toList, [], bs⟩).1 : Int)) ∧ TwoH w0 w' A B (ma.doOp ⟨1, s.data.toList, [], bs⟩).2 mb E vs :=
  two_of h (fun c O hc hD => by subst hc; exact append_any hD hs hsrc hl hf.1 hf.2)
theorem two_sync (h : TwoH w0 W A B ma mb E vs) (hf : ma.few) {s : ByteArray} (hs : s.size ≤ maxLen) : Calls Try.prog 30 #[.pointer (some ⟨A, 0, none⟩), .string s] W fun e w' => e = .returned (.int .i64 ((ma.doOp ⟨2, s.data.toList, [], []⟩).1 : Int)) ∧ TwoH w0 w' A B (ma.doOp ⟨2, s.data.toList, [], []⟩).2 mb E vs :=
  two_of h (fun c O hc hD => by subst hc; exact sync_any hD hs hf.1 hf.2)
theorem two_syncdir (h : TwoH w0 W A B ma mb E vs) (hf : ma.few) : Calls Try.prog 31 #[.pointer (some ⟨A, 0, none⟩)] W fun e w' => e = .returned (.int .i64 ((ma.doOp ⟨5, [], [], []⟩).1 : Int)) ∧ TwoH w0 w' A B (ma.doOp ⟨5, [], [], []⟩).2 mb E vs :=
  two_of h (fun c O hc hD => by subst hc; exact syncdir_any hD hf.1 hf.2)
end

/-- So many steps, names and acts at most. -/
def atMost (m : DModel) (i : Nat) : Prop := m.steps ≤ i ∧ m.dir.length ≤ i ∧ m.sure.length ≤ i ∧ m.acts.length ≤ i
theorem atMost.few {m : DModel} {i : Nat} (h : atMost m i) (hi : i ≤ 10000) : m.few := by
  obtain ⟨h1, h2, h3, h4⟩ := h
  exact ⟨by omega, by omega⟩
theorem drop_le (l : DDir) (n : List UInt8) : (DD.drop l n).length ≤ l.length := List.length_filter_le _ _
theorem ins_len (x : List UInt8 × Nat) (l : DDir) : (DD.ins x l).length = l.length + 1 := by
  induction l with
  | nil => rfl
  | cons y r ih =>
    unfold DD.ins
    split
    · rfl
    · rw [List.length_cons, ih]; rfl
theorem put_le (l : DDir) (n : List UInt8) (f : Nat) : (DD.put l n f).length ≤ l.length + 1 := by
  unfold DD.put
  rw [ins_len]
  have := drop_le l n
  omega
theorem act_le (l : DDir) (a : DAct) : (DD.act l a).length ≤ l.length + 1 := by
  unfold DD.act
  split
  · exact put_le _ _ _
  · split
    · split
      · have := put_le (DD.drop l a.name) a.to ‹_›
        have := drop_le l a.name
        omega
      · omega
    · have := drop_le l a.name
      omega
theorem atMost.mono {m : DModel} {i j : Nat} (h : atMost m i) (hij : i ≤ j) : atMost m j := by
  obtain ⟨h1, h2, h3, h4⟩ := h
  exact ⟨by omega, by omega, by omega, by omega⟩
theorem done_most {m : DModel} {i : Nat} (h : atMost m i) (o : DOp) : atMost (m.done o).count (i + 1) := by
  obtain ⟨h1, h2, h3, h4⟩ := h
  unfold DModel.done
  split
  · have := put_le m.dir o.name m.files.length
    exact ⟨by show m.steps + 1 ≤ _; omega, by show (DD.put m.dir o.name m.files.length).length ≤ _; omega, by show m.sure.length ≤ _; omega, by show (m.acts ++ [_]).length ≤ _; simp; omega⟩
  · split
    · exact ⟨by show m.steps + 1 ≤ _; omega, by show m.dir.length ≤ _; omega, by show m.sure.length ≤ _; omega, by show m.acts.length ≤ _; omega⟩
    · split
      · exact ⟨by show m.steps + 1 ≤ _; omega, by show m.dir.length ≤ _; omega, by show m.sure.length ≤ _; omega, by show m.acts.length ≤ _; omega⟩
      · split
        · have := act_le m.dir ⟨1, o.name, o.to, 0⟩
          exact ⟨by show m.steps + 1 ≤ _; omega, by show (DD.act m.dir ⟨1, o.name, o.to, 0⟩).length ≤ _; omega, by show m.sure.length ≤ _; omega, by show (m.acts ++ [_]).length ≤ _; simp; omega⟩
        · split
          · have := act_le m.dir ⟨2, o.name, [], 0⟩
            exact ⟨by show m.steps + 1 ≤ _; omega, by show (DD.act m.dir ⟨2, o.name, [], 0⟩).length ≤ _; omega, by show m.sure.length ≤ _; omega, by show (m.acts ++ [_]).length ≤ _; simp; omega⟩
          · exact ⟨by show m.steps + 1 ≤ _; omega, by show m.dir.length ≤ _; omega, by show m.dir.length ≤ _; omega, by show (0 : Nat) ≤ _; omega⟩
theorem do_most {m : DModel} {i : Nat} (h : atMost m i) (o : DOp) : atMost (m.doOp o).2 (i + 1) := by
  unfold DModel.doOp
  split
  · exact h.mono (by omega)
  · split
    · exact h.mono (by omega)
    · split
      · exact h.mono (by omega)
      · split
        · exact h.mono (by omega)
        · split
          · exact h.mono (by omega)
          · exact done_most h o

theorem do_kind0 (m : DModel) (n t b : List UInt8) : m.doOp ⟨0, n, [], []⟩ = m.doOp ⟨0, n, t, b⟩ := rfl
theorem do_kind1 (m : DModel) (n t b : List UInt8) : m.doOp ⟨1, n, [], b⟩ = m.doOp ⟨1, n, t, b⟩ := rfl
theorem do_kind2 (m : DModel) (n t b : List UInt8) : m.doOp ⟨2, n, [], []⟩ = m.doOp ⟨2, n, t, b⟩ := rfl
theorem do_kind3 (m : DModel) (n t b : List UInt8) : m.doOp ⟨3, n, t, []⟩ = m.doOp ⟨3, n, t, b⟩ := rfl
theorem do_kind4 (m : DModel) (n t b : List UInt8) : m.doOp ⟨4, n, [], []⟩ = m.doOp ⟨4, n, t, b⟩ := rfl
theorem do_kind5 (m : DModel) (n t b : List UInt8) : m.doOp ⟨5, [], [], []⟩ = m.doOp ⟨5, n, t, b⟩ := rfl
theorem do_odd (m : DModel) (k : Int) (n t b : List UInt8) (h : k < 0 ∨ 5 < k) : m.doOp ⟨k, n, t, b⟩ = (1, m) := by
  unfold DModel.doOp
  rw [if_pos h]
end Go.Proofs.Ytpjedcfdchebgaa
