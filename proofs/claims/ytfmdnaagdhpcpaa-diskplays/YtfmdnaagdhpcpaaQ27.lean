/-
  Ebeside, Eacts, Ebig, Eplay.
-/
import Derived.Test.YtfmdnaagdhpcpaaQ26
import Derived.Test.YtfmdnaagdhpcpaaQ14
import Derived.BigQuiet

/-
  The three disks and blocks beside them, which no call of a disk turns.
-/
namespace Go.Proofs.Ytfmdnaagdhpcpaa
open Go.RowKit Go.Proofs.Lys Go.Maps Go.Shelf
set_option linter.unusedVariables false

/-- The blocks Z are as they were. -/
def Same (Z : Nat → Prop) (W W' : World) : Prop := ∀ k, Z k → W'.heap[k]? = W.heap[k]?
def TriZ (w0 W : World) (A B R : Nat) (ma mb mr : DModel) (Z : Nat → Prop) : Prop :=
  ∃ ca Oa cb Ob cr Or, ca.d = A ∧ cb.d = B ∧ cr.d = R ∧ DiskAt W ca Oa ma ∧ DiskAt W cb Ob mb ∧ RAt W cr Or mr ∧ Kept w0 W ∧ (∀ k, Oa k → w0.heap.size ≤ k) ∧ (∀ k, Ob k → w0.heap.size ≤ k) ∧ (∀ k, Or k → w0.heap.size ≤ k ∧ k < W.heap.size) ∧ (∀ k, Oa k → ¬ Ob k) ∧ (∀ k, Oa k → ¬ Or k) ∧ (∀ k, Ob k → ¬ Or k) ∧ ∀ k, Z k → k < W.heap.size ∧ ¬ Oa k ∧ ¬ Ob k ∧ ¬ Or k

section
variable {w0 W W' : World} {A B R : Nat} {ma mb mr : DModel} {Z Z' : Nat → Prop}
theorem Same.blk (h : Same Z W W') {b : Nat} {vs : List Value} {T : TypeId} (hb : Blk W b vs T) (hz : Z b) : Blk W' b vs T := hb.of_block (h b hz)
theorem Same.row (h : Same Z W W') {base : Nat} {v : Value} {n : Nat} {xs : List Value} {e : TypeId} (hr : W.ownsRow base e 1 v n xs) (hz : ∀ k, v.ownBlock = some k → Z k) : W'.ownsRow base e 1 v n xs := own_block hr (fun k hk => h k (hz k hk))
theorem TriZ.tri (h : TriZ w0 W A B R ma mb mr Z) : Tri w0 W A B R ma mb mr := by
  obtain ⟨ca, Oa, cb, Ob, cr, Or, h1, h2, h3, h4, h5, h6, h7, h8, h9, h10, h11, h12, h13, _⟩ := h
  exact ⟨ca, Oa, cb, Ob, cr, Or, h1, h2, h3, h4, h5, h6, h7, h8, h9, h10, h11, h12, h13⟩
theorem Tri.none (h : Tri w0 W A B R ma mb mr) : TriZ w0 W A B R ma mb mr (fun _ => False) := by
  obtain ⟨ca, Oa, cb, Ob, cr, Or, h1, h2, h3, h4, h5, h6, h7, h8, h9, h10, h11, h12, h13⟩ := h
  exact ⟨ca, Oa, cb, Ob, cr, Or, h1, h2, h3, h4, h5, h6, h7, h8, h9, h10, h11, h12, h13, fun _ f => f.elim⟩
theorem TriZ.kept (h : TriZ w0 W A B R ma mb mr Z) : Kept w0 W := h.tri.kept
/-- What is made beside them lies beside them. -/
theorem TriZ.grow (h : TriZ w0 W A B R ma mb mr Z) (hw : ∀ j, Z j → w0.heap.size ≤ j) (k : Only (fun j => Z j) W W') (hZ : ∀ j, Z' j → Z j ∨ (W.heap.size ≤ j ∧ j < W'.heap.size)) : TriZ w0 W' A B R ma mb mr Z' := by
  obtain ⟨ca, Oa, cb, Ob, cr, Or, h1, h2, h3, h4, h5, h6, h7, h8, h9, h10, h11, h12, h13, h14⟩ := h
  refine ⟨ca, Oa, cb, Ob, cr, Or, h1, h2, h3, h4.only k (fun j ho hz => (h14 j hz).2.1 ho), h5.only k (fun j ho hz => (h14 j hz).2.2.1 ho), h6.only k (fun j ho hz => (h14 j hz).2.2.2 ho), ?_, h8, h9, fun j hj => ⟨(h10 j hj).1, Nat.lt_of_lt_of_le (h10 j hj).2 k.size⟩, h11, h12, h13, fun j hj => ?_⟩
  · exact h7.trans k (fun j hj hz => by have := hw j hz; omega)
  · rcases hZ j hj with hz | hz
    · have := h14 j hz
      exact ⟨Nat.lt_of_lt_of_le this.1 k.size, this.2⟩
    · refine ⟨hz.2, fun ho => ?_, fun ho => ?_, fun ho => ?_⟩
      · have := h4.top j ho
        omega
      · have := h5.top j ho
        omega
      · have := (h10 j ho).2
        omega
/-- A call that turns the first disk alone. -/
theorem triz_d (h : TriZ w0 W A B R ma mb mr Z) {f : FuncId} {args : Array Value} {v : Value} {m' : DModel}
    (hc : ∀ c O, c.d = A → DiskAt W c O ma → (∀ k, O k → w0.heap.size ≤ k) → (∀ k, Z k → ¬ O k) → Calls Try.prog f args W fun e w' => e = .returned v ∧ Only O W w' ∧ ∃ c', c'.d = c.d ∧ DiskAt w' c' (Grow O W w') m') :
    Calls Try.prog f args W fun e w' => e = .returned v ∧ TriZ w0 w' A B R m' mb mr Z ∧ Same Z W w' := by
  obtain ⟨ca, Oa, cb, Ob, cr, Or, h1, h2, h3, h4, h5, h6, h7, h8, h9, h10, h11, h12, h13, h14⟩ := h
  refine (hc ca Oa h1 h4 h8 (fun k hk => (h14 k hk).2.1)).mono ?_
  rintro e w' ⟨rfl, hk, c', hc', hD⟩
  refine ⟨rfl, ⟨c', Grow Oa W w', cb, Ob, cr, Or, hc'.trans h1, h2, h3, hD, h5.only hk (fun j hb ha => h11 j ha hb), h6.only hk (fun j hb ha => h12 j ha hb), h7.trans hk (fun j hj ho => by have := h8 j ho; omega), ?_, h9, fun j hj => ⟨(h10 j hj).1, Nat.lt_of_lt_of_le (h10 j hj).2 hk.size⟩, ?_, ?_, h13, ?_⟩, fun k hz => hk.block k (h14 k hz).1 (h14 k hz).2.1⟩
  · rintro k (ho | ho)
    · exact h8 k ho
    · exact Nat.le_trans h7.size ho.1
  · rintro k (ho | ho) hb
    · exact h11 k ho hb
    · have := h5.top k hb
      omega
  · rintro k (ho | ho) hb
    · exact h12 k ho hb
    · have := (h10 k hb).2
      omega
  · intro k hz
    have := h14 k hz
    refine ⟨Nat.lt_of_lt_of_le this.1 hk.size, ?_, this.2.2⟩
    rintro (ho | ho)
    · exact this.2.1 ho
    · omega
theorem TriZ.swap (h : TriZ w0 W A B R ma mb mr Z) : TriZ w0 W B A R mb ma mr Z := by
  obtain ⟨ca, Oa, cb, Ob, cr, Or, h1, h2, h3, h4, h5, h6, h7, h8, h9, h10, h11, h12, h13, h14⟩ := h
  exact ⟨cb, Ob, ca, Oa, cr, Or, h2, h1, h3, h5, h4, h6, h7, h9, h8, h10, fun k a b => h11 k b a, h13, h12, fun k hz => ⟨(h14 k hz).1, (h14 k hz).2.2.1, (h14 k hz).2.1, (h14 k hz).2.2.2⟩⟩
/-- A call that turns the second one alone. -/
theorem triz_o (h : TriZ w0 W A B R ma mb mr Z) {f : FuncId} {args : Array Value} {v : Value} {m' : DModel}
    (hc : ∀ c O, c.d = B → DiskAt W c O mb → (∀ k, O k → w0.heap.size ≤ k) → (∀ k, Z k → ¬ O k) → Calls Try.prog f args W fun e w' => e = .returned v ∧ Only O W w' ∧ ∃ c', c'.d = c.d ∧ DiskAt w' c' (Grow O W w') m') :
    Calls Try.prog f args W fun e w' => e = .returned v ∧ TriZ w0 w' A B R ma m' mr Z ∧ Same Z W w' :=
  (triz_d h.swap hc).mono (fun e w' h => ⟨h.1, h.2.1.swap, h.2.2⟩)
/-- A call that turns the document's own one alone. -/
theorem triz_r (h : TriZ w0 W A B R ma mb mr Z) {f : FuncId} {args : Array Value} {v : Value} {m' : DModel}
    (hc : ∀ c O, c.d = R → RAt W c O mr → (∀ k, O k → w0.heap.size ≤ k) → (∀ k, Z k → ¬ O k) → Calls Try.prog f args W fun e w' => e = .returned v ∧ Only O W w' ∧ ∃ c' : RConc, c'.d = c.d ∧ RAt w' c' (Grow O W w') m') :
    Calls Try.prog f args W fun e w' => e = .returned v ∧ TriZ w0 w' A B R ma mb m' Z ∧ Same Z W w' := by
  obtain ⟨ca, Oa, cb, Ob, cr, Or, h1, h2, h3, h4, h5, h6, h7, h8, h9, h10, h11, h12, h13, h14⟩ := h
  refine (hc cr Or h3 h6 (fun k hk => (h10 k hk).1) (fun k hk => (h14 k hk).2.2.2)).mono ?_
  rintro e w' ⟨rfl, hk, c', hc', hD⟩
  refine ⟨rfl, ⟨ca, Oa, cb, Ob, c', Grow Or W w', h1, h2, hc'.trans h3, h4.only hk (fun j ha hb => h12 j ha hb), h5.only hk (fun j ha hb => h13 j ha hb), hD, h7.trans hk (fun j hj ho => by have := (h10 j ho).1; omega), h8, h9, ?_, h11, ?_, ?_, ?_⟩, fun k hz => hk.block k (h14 k hz).1 (h14 k hz).2.2.2⟩
  · rintro k (ho | ho)
    · exact ⟨(h10 k ho).1, Nat.lt_of_lt_of_le (h10 k ho).2 hk.size⟩
    · exact ⟨Nat.le_trans h7.size ho.1, ho.2⟩
  · rintro k ha (ho | ho)
    · exact h12 k ha ho
    · have := h4.top k ha
      omega
  · rintro k ha (ho | ho)
    · exact h13 k ha ho
    · have := h5.top k ha
      omega
  · intro k hz
    have := h14 k hz
    refine ⟨Nat.lt_of_lt_of_le this.1 hk.size, this.2.1, this.2.2.1, ?_⟩
    rintro (ho | ho)
    · exact this.2.2.2 ho
    · omega
end

/-- The disks as they begin. -/
theorem tri_start {w1 wA wB wR : World} {q : Int} {ca cb : Conc} {cr : RConc} (kA : Kept w1 wA) (hA : ca.d = w1.heap.size ∧ DiskAt wA ca (Since w1 wA) (DModel.start q)) (kB : Kept wA wB) (hB : cb.d = wA.heap.size ∧ DiskAt wB cb (Since wA wB) (DModel.start q)) (kR : Kept wB wR) (hR : cr.d = wB.heap.size ∧ RAt wR cr (Since wB wR) (DModel.start q)) :
    Tri w1 wR w1.heap.size wA.heap.size wB.heap.size (DModel.start q) (DModel.start q) (DModel.start q) := by
  have s1 := kA.size
  have s2 := kB.size
  have s3 := kR.size
  refine ⟨ca, Since w1 wA, cb, Since wA wB, cr, Since wB wR, hA.1, hB.1, hR.1, (hA.2.stay kB).stay kR, hB.2.stay kR, hR.2, (kA.trans kB (fun _ _ f => f)).trans kR (fun _ _ f => f), fun k h => h.1, fun k h => Nat.le_trans s1 h.1, fun k h => ⟨by have := h.1; omega, h.2⟩, fun k a b => ?_, fun k a b => ?_, fun k a b => ?_⟩
  · have := a.2
    have := b.1
    omega
  · have := a.2
    have := b.1
    omega
  · have := a.2
    have := b.1
    omega
end Go.Proofs.Ytfmdnaagdhpcpaa

/-
  Rows of calls, fuses, faults and crashes that came in as data.
-/
namespace Go.Proofs.Ytfmdnaagdhpcpaa
open Go.RowKit Go.Proofs.Lys Go.Maps Go.Shelf
set_option linter.unusedVariables false

/-- An act that came in. -/
structure CAct where
  way : Int
  num : Int
  op : COp
  kv : Value
  keep : List Int
structure CAct.ok (w : World) (a : CAct) : Prop where
  w0 : -9223372036854775808 ≤ a.way
  w1 : a.way ≤ 9223372036854775807
  n0 : -9223372036854775808 ≤ a.num
  n1 : a.num ≤ 9223372036854775807
  op : a.op.ok w
  keep : NumSrc w a.kv a.keep

theorem Try.cellsAct : Try.prog.cellsOf 34 = 7 := by kernel_rfl
theorem Try.cellsNums : Try.prog.cellsOf 32 = 1 := by kernel_rfl
theorem open_nums1 {H : Type} {enc : TypeId × Value → H} {w : World} {spare : Nat → Bool} {held : Bool} {base fuel : Nat} {v : Value} {x : DataW H × List MemPlace}
    (h : DataW.trod enc Try.prog w base spare held fuel 32 [v] = some x) : ∃ l : List Int, NumSrc w v l := by
  have hv : ∃ a l c, v = .slice a l c := by
    rcases Deep.open_slice Try.underlying32 h with ⟨hcs, _⟩ | ⟨a, len, cap, m, n, D, Pl, hcs, _⟩
    · exact ⟨_, _, _, List.head_eq_of_cons_eq hcs⟩
    · exact ⟨_, _, _, List.head_eq_of_cons_eq hcs⟩
  obtain ⟨a, l, c, rfl⟩ := hv
  exact open_nums ⟨fuel, h⟩

open Go.ChangeShapes in
set_option maxRecDepth 100000 in
theorem open_act {H : Type} {enc : TypeId × Value → H} {w : World} {spare : Nat → Bool} {held : Bool} {base fuel : Nat} {cs : List Value} {x : DataW H × List MemPlace}
    (h : DataW.trod enc Try.prog w base spare held fuel 34 cs = some x) : ∃ q : CAct, q.ok w ∧ cs = [.int .i64 q.way, .int .i64 q.num, .int .i64 q.op.k, .string q.op.n, .string q.op.t, q.op.v, q.kv] := by
  obtain ⟨xs, m, _, _, hlen, hxl, hf⟩ := DataW.trod_struct Try.underlying34 h
  rw [Try.cellsAct] at hlen
  have hxl4 : xs.length = 4 := hxl
  match cs, hlen with
  | [v0, v1, v2, v3, v4, v5, v6], _ =>
    have g0 : DataW.trod enc Try.prog w base spare held m 3 ((([v0, v1, v2, v3, v4, v5, v6] : List Value).drop 0).take (Try.prog.cellsOf 3)) = xs[0]? := hf 0 _ rfl
    have g1 : DataW.trod enc Try.prog w base spare held m 3 ((([v0, v1, v2, v3, v4, v5, v6] : List Value).drop 1).take (Try.prog.cellsOf 3)) = xs[1]? := hf 1 _ rfl
    have g2 : DataW.trod enc Try.prog w base spare held m 31 ((([v0, v1, v2, v3, v4, v5, v6] : List Value).drop 2).take (Try.prog.cellsOf 31)) = xs[2]? := hf 2 _ rfl
    have g3 : DataW.trod enc Try.prog w base spare held m 32 ((([v0, v1, v2, v3, v4, v5, v6] : List Value).drop 6).take (Try.prog.cellsOf 32)) = xs[3]? := hf 3 _ rfl
    rw [Try.cellsInt, List.getElem?_eq_getElem (by omega)] at g0
    rw [Try.cellsInt, List.getElem?_eq_getElem (by omega)] at g1
    rw [Try.cellsOp, List.getElem?_eq_getElem (by omega)] at g2
    rw [Try.cellsNums, List.getElem?_eq_getElem (by omega)] at g3
    obtain ⟨n0, e0, _, wf0⟩ := DataW.trod_int Try.underlying3 g0
    obtain ⟨n1, e1, _, wf1⟩ := DataW.trod_int Try.underlying3 g1
    obtain ⟨q, hq, e2⟩ := open_op g2
    obtain ⟨l, hl⟩ := open_nums1 (v := v6) g3
    have f0 := List.head_eq_of_cons_eq e0
    have f1 := List.head_eq_of_cons_eq e1
    subst f0 f1
    obtain ⟨b1, b2⟩ := bounds_i64 wf0
    obtain ⟨b3, b4⟩ := bounds_i64 wf1
    have e2' : ([v2, v3, v4, v5] : List Value) = [.int .i64 q.k, .string q.n, .string q.t, q.v] := e2
    injection e2' with h2 e2'
    injection e2' with h3 e2'
    injection e2' with h4 e2'
    injection e2' with h5 e2'
    subst h2 h3 h4 h5
    exact ⟨⟨n0, n1, q, v6, l⟩, ⟨b1, b2, b3, b4, hq, hl⟩, rfl⟩

/-- Acts that are read. -/
def ActsSrc (w : World) (v : Value) (ps : List CAct) : Prop :=
  (∃ a c, v = .slice a 0 c ∧ ps = []) ∨
  (0 < ps.length ∧ ∃ b o c, v = .slice (some ⟨b, o, none⟩) ps.length c ∧ ∀ i (hi : i < ps.length), w.cell? ⟨b, o + i * 7, none⟩ = some (.int .i64 ps[i].way) ∧ w.cell? ⟨b, o + i * 7 + 1, none⟩ = some (.int .i64 ps[i].num) ∧ w.cell? ⟨b, o + i * 7 + 2, none⟩ = some (.int .i64 ps[i].op.k) ∧ w.cell? ⟨b, o + i * 7 + 3, none⟩ = some (.string ps[i].op.n) ∧ w.cell? ⟨b, o + i * 7 + 4, none⟩ = some (.string ps[i].op.t) ∧ w.cell? ⟨b, o + i * 7 + 5, none⟩ = some ps[i].op.v ∧ w.cell? ⟨b, o + i * 7 + 6, none⟩ = some ps[i].kv ∧ ps[i].ok w)
theorem ActsSrc.len {w : World} {v : Value} {ps : List CAct} (h : ActsSrc w v ps) : ∃ a c, v = .slice a ps.length c := by
  rcases h with ⟨a, c, rfl, rfl⟩ | ⟨_, b, o, c, rfl, _⟩
  · exact ⟨a, c, rfl⟩
  · exact ⟨_, c, rfl⟩

set_option maxRecDepth 100000 in
theorem open_acts {H : Type} {enc : TypeId × Value → H} {w : World} {spare : Nat → Bool} {held : Bool} {base : Nat} {a0 : Option Addr} {len0 cap0 : Nat} {x : DataW H × List MemPlace}
    (h : ∃ m, DataW.trod enc Try.prog w base spare held m 22 (Value.slice a0 len0 cap0).cells.toList = some x) : ∃ ps, ActsSrc w (.slice a0 len0 cap0) ps := by
  obtain ⟨fuel, hf⟩ := h
  rcases Deep.open_slice Try.underlying22 hf with ⟨hcs, _⟩ | ⟨a, len, cap, m, n, D, Pl, hcs, _, hl, hm, hmm, _, hx⟩
  · simp [Value.cells] at hcs
    obtain ⟨rfl, rfl, rfl⟩ := hcs
    exact ⟨[], .inl ⟨_, _, rfl, rfl⟩⟩
  · simp [Value.cells] at hcs
    obtain ⟨rfl, rfl, rfl⟩ := hcs
    have hlm : len0 ≤ m := by rw [hmm]; split <;> omega
    have each : ∀ i, i < len0 → ∃ q : CAct, w.cell? (a.add (i * 7)) = some (.int .i64 q.way) ∧ w.cell? (a.add (i * 7 + 1)) = some (.int .i64 q.num) ∧ w.cell? (a.add (i * 7 + 2)) = some (.int .i64 q.op.k) ∧ w.cell? (a.add (i * 7 + 3)) = some (.string q.op.n) ∧ w.cell? (a.add (i * 7 + 4)) = some (.string q.op.t) ∧ w.cell? (a.add (i * 7 + 5)) = some q.op.v ∧ w.cell? (a.add (i * 7 + 6)) = some q.kv ∧ q.ok w := by
      intro i hi
      obtain ⟨cs', h1, h2⟩ := hx i (by omega)
      rw [Try.cellsAct] at h1
      obtain ⟨_, hlen, hcell⟩ := World.cells?_some h1
      obtain ⟨q, hq, rfl⟩ := open_act h2
      have c0 := hcell 0 (by omega)
      have c1 := hcell 1 (by omega)
      have c2 := hcell 2 (by omega)
      have c3 := hcell 3 (by omega)
      have c4 := hcell 4 (by omega)
      have c5 := hcell 5 (by omega)
      have c6 := hcell 6 (by omega)
      rw [Deep.add_add] at c0 c1 c2 c3 c4 c5 c6
      exact ⟨q, by simpa using c0, by simpa using c1, by simpa using c2, by simpa using c3, by simpa using c4, by simpa using c5, by simpa using c6, hq⟩
    have hinh : Inhabited CAct := ⟨⟨0, 0, ⟨0, ⟨#[]⟩, ⟨#[]⟩, .slice none 0 0, []⟩, .slice none 0 0, []⟩⟩
    obtain ⟨q, hq⟩ := Deep.choose_lt each
    by_cases h0 : len0 = 0
    · subst h0
      exact ⟨[], .inl ⟨_, _, rfl, rfl⟩⟩
    · refine ⟨(List.range len0).map q, .inr ⟨by simp; omega, ?_⟩⟩
      obtain ⟨b, o, spot⟩ := a
      have hs : spot = none := by simpa [Addr.add] using World.cell?_spot (hq 0 (by omega)).1
      subst hs
      refine ⟨b, o, cap0, by simp, fun i hi => ?_⟩
      have hi' : i < len0 := by simpa using hi
      have := hq i hi'
      rw [add_none, add_none, add_none, add_none, add_none, add_none, add_none, ← Nat.add_assoc, ← Nat.add_assoc, ← Nat.add_assoc, ← Nat.add_assoc, ← Nat.add_assoc, ← Nat.add_assoc] at this
      simpa using this
end Go.Proofs.Ytfmdnaagdhpcpaa

/-
  Big: are calls too much to be played?
-/
namespace Go.Proofs.Ytfmdnaagdhpcpaa
open Go.RowKit Go.Proofs.Lys Go.Maps Go.Shelf
set_option linter.unusedVariables false

/-- So small that no sum of sizes leaves its bounds. -/
structure CAct.small (a : CAct) : Prop where
  bs : a.op.bs.length ≤ 281474976710656
  keep : a.keep.length ≤ 281474976710656
  n : a.op.n.size ≤ 281474976710656
  t : a.op.t.size ≤ 281474976710656
def CAct.bulk (a : CAct) : Nat := 20 + a.op.bs.length + a.keep.length + a.op.n.size + a.op.t.size

theorem kept_drewN3 {w w' : World} (h : Kept w w') (n : Nat) : Kept w (w'.drewN n) := by
  induction n with
  | zero => exact h
  | succ n ih => exact ih.drew
theorem kept_cell {w w' : World} (k : Kept w w') {a : Addr} {v : Value} (h : w.cell? a = some v) : w'.cell? a = some v := by
  rw [World.cell?_of_block (w := w) (w' := w') (a := a) (k.block a.block (World.block_lt_of_cell? w a h) (fun f => f))]
  exact h

/-- What Big answers. -/
def BigPost (w : World) (ps : List CAct) (e : Ending) (w' : World) : Prop := Kept w w' ∧ ∃ b, e = .returned (.bool b) ∧ (b = false → ∀ a ∈ ps, a.bulk ≤ 20000)

set_option maxRecDepth 100000 in
set_option maxHeartbeats 3200000 in
theorem big_any (w : World) (v : Value) (ps : List CAct) (h : ActsSrc w v ps) (hs : ∀ a ∈ ps, a.small) (hl : ps.length ≤ 281474976710656) :
    Calls Try.prog 6 #[v] w (BigPost w ps) := by
  rcases h with ⟨a, c, rfl, rfl⟩ | ⟨hpos, b, o, c, rfl, hc⟩
  · go_enter Try.func6, Try.ntmps6
    go_wp2
    refine wp_loop_rounds 1 ?_
    rw [rounds_succ]
    go_wp2
    go_ret
    exact ⟨Only.refl _ _, _, rfl, fun _ a ha => by cases ha⟩
  · obtain ⟨L, hL⟩ : ∃ L, ps.length = L := ⟨_, rfl⟩
    rw [hL] at hpos hl ⊢
    have HC := Hid.mk hc
    have HL := Hid.mk hL
    have HS := Hid.mk hs
    clear hc hL hs
    go_enter Try.func6, Try.ntmps6
    go_wp2
    go_loopw [3, 4] (fun s t wr => ∃ (n k : Nat), k ≤ L ∧ n ≤ 2000000000000000 ∧ s = .int .i64 (n : Int) ∧ t = .int .i64 (k : Int) ∧ Kept w wr ∧ (∀ i (hi : i < ps.length), i < k → (ps[i]).bulk ≤ n)) (fun _ t _ => L - (intOf t).toNat)
    case atStart => exact ⟨0, 0, by omega, by omega, rfl, rfl, Only.refl _ _, fun i _ h => absurd h (Nat.not_lt_zero i)⟩
    case round =>
      obtain ⟨n, k, hk, hn, rfl, rfl, kr, hb⟩ := hrel
      have HB := Hid.mk hb
      clear hb
      by_cases hlt : k < L
      · by_cases hbig : n ≤ 20000
        · have hkl : k < ps.length := by have := HL.out; omega
          obtain ⟨x0, x1, x2, x3, x4, x5, x6, hok⟩ := HC.out k hkl
          obtain ⟨s1, s2, s3, s4⟩ := HS.out _ (List.getElem_mem hkl)
          obtain ⟨a5, c5, e5⟩ := hok.op.src.len
          obtain ⟨_, a6, c6, e6, _⟩ := hok.keep
          rw [List.length_map] at e5
          rw [e5] at x5
          rw [e6] at x6
          have HU : Hid ((ps[k]).bulk = 20 + (ps[k]).op.bs.length + (ps[k]).keep.length + (ps[k]).op.n.size + (ps[k]).op.t.size) := rfl
          have y3 := kept_cell kr x3
          have y4 := kept_cell kr x4
          have y5 := kept_cell kr x5
          have y6 := kept_cell kr x6
          obtain ⟨nb, hnb⟩ : ∃ z, (ps[k]).op.bs.length = z := ⟨_, rfl⟩
          obtain ⟨nk, hnk⟩ : ∃ z, (ps[k]).keep.length = z := ⟨_, rfl⟩
          obtain ⟨sn, hsn⟩ : ∃ z, (ps[k]).op.n = z := ⟨_, rfl⟩
          obtain ⟨st, hst⟩ : ∃ z, (ps[k]).op.t = z := ⟨_, rfl⟩
          rw [hnb] at y5 s1 HU
          rw [hnk] at y6 s2 HU
          rw [hsn] at y3 s3 HU
          rw [hst] at y4 s4 HU
          have e39 : o + k * 7 + 2 + 1 = o + k * 7 + 3 := by omega
          have e44 : o + k * 7 + 2 + 2 = o + k * 7 + 4 := by omega
          have e21 : o + k * 7 + 2 + 3 = o + k * 7 + 5 := by omega
          clear x0 x1 x2 x3 x4 x5 x6 hok e5 e6 hnb hnk hsn hst
          have hnm : Hid (∀ i (hi : i < ps.length), i < k + 1 → (ps[i]).bulk ≤ n + 20 + nb + nk + sn.size + st.size) := fun i hi h => by
            by_cases e : i = k
            · subst e
              rw [HU.out]
              omega
            · have := HB.out i hi (by omega)
              omega
          obtain ⟨zn, hzn⟩ : ∃ z, sn.size = z := ⟨_, rfl⟩
          obtain ⟨zt, hzt⟩ : ∃ z, st.size = z := ⟨_, rfl⟩
          rw [hzn] at s3 hnm
          rw [hzt] at s4 hnm
          go_wp2_with fail
          go_quiet (fail)
          have HK := Hid.mk (kept_drewN3 kr nq)
          clear kr y3 y4 y5 y6 e39 e44 e21
          go_wp2_with fail
          go_roundw
          case rel => exact ⟨n + 20 + nb + nk + zn + zt, k + 1, by omega, by omega, by go_num, by go_num, HK.out, hnm.out⟩
          case measure => simp [intOf]; omega
        · have d2 : decide ((n : Int) ≤ 20000) = false := by simp; omega
          have hb1 : (20000 : Int) < (n : Int) := by omega
          go_wp2_with fail
          go_ret
          exact ⟨kr, true, rfl, fun h => by cases h⟩
      · by_cases hbig : n ≤ 20000
        · have hb1 : ¬ (20000 : Int) < (n : Int) := by omega
          go_wp2_with fail
          go_ret
          refine ⟨kr, false, rfl, fun _ a ha => ?_⟩
          obtain ⟨i, hi, rfl⟩ := List.getElem_of_mem ha
          have := HB.out i hi (by have := HL.out; omega)
          omega
        · have hb1 : (20000 : Int) < (n : Int) := by omega
          go_wp2_with fail
          go_ret
          exact ⟨kr, true, rfl, fun h => by cases h⟩
end Go.Proofs.Ytfmdnaagdhpcpaa

/-
  The walk of the law DiskPlays.
-/
namespace Go.Proofs.Ytfmdnaagdhpcpaa
open Go.RowKit Go.Proofs.Lys Go.Maps Go.Shelf
set_option linter.unusedVariables false

/-- What the document's own Crash does. -/
def RCrash : Prop := ∀ (w : World) (c : RConc) (O : Nat → Prop) (m : DModel), RAt w c O m → ∀ (ka : Option Addr) (kc : Nat) (keep : List Int), SrcOf w (.slice ka keep.length kc) (keep.map (Value.int .i64)) → (∀ a, ka = some a → 0 < keep.length → ¬ O a.block) → keep.length ≤ 1000000 → (∀ a ∈ m.acts, a.kind ≤ 2) → m.sure.length + m.acts.length ≤ 10000 → m.files.length ≤ 100000 →
    (∀ p ∈ (m.crash keep).dir, p.2 < m.files.length) → ((m.crash keep).dir.map (·.2)).Nodup →
    Calls Try.prog 18 #[.pointer (some ⟨c.d, 0, none⟩), .slice ka keep.length kc] w fun e w' => e = .returned (.tuple #[]) ∧ Only O w w' ∧ ∃ c' : RConc, c'.d = c.d ∧ RAt w' c' (Grow O w w') (m.crash keep)

/-- The three disks in play. -/
structure Play (w1 W : World) (A B R : Nat) (m mo : DModel) (k : Nat) : Prop where
  tri : Tri w1 W A B R m mo m
  fit : Fits m
  most : Most maxLen m k
  fito : Fits mo
  mosto : Most maxLen mo k
theorem Play.few {w1 W : World} {A B R : Nat} {m mo : DModel} {k : Nat} (h : Play w1 W A B R m mo k) (hk : k ≤ 1000) : m.few ∧ m.dir.length ≤ 10000 ∧ mo.few := ⟨h.most.few h.fit (by omega), by have := h.most.dir_len h.fit; omega, h.mosto.few h.fito (by omega)⟩

theorem play_same {w1 W : World} {A B R : Nat} {m mo : DModel} {k : Nat} (h : Play w1 W A B R m mo k) (hk : k ≤ 1000) :
    Calls Try.prog 19 #[.pointer (some ⟨A, 0, none⟩), .pointer (some ⟨R, 0, none⟩)] W fun e w' => e = .returned (.bool true) ∧ Kept W w' :=
  same3_any h.tri h.fit (h.few hk).1 (h.few hk).2.1 (h.most.dirN h.fit)

section
variable {w1 W : World} {A B R : Nat} {m mo mr : DModel} {Z : Nat → Prop}
theorem triz_fuse (h : TriZ w1 W A B R m mo mr Z) (n : Int) (hn : n ≤ 9223372036854775807) : Calls Try.prog 13 #[.pointer (some ⟨A, 0, none⟩), .int .i64 n] W fun e w' => e = .returned (.tuple #[]) ∧ TriZ w1 w' A B R { m with fuse := DModel.lay n } mo mr Z ∧ Same Z W w' :=
  triz_d h (fun c O hc hD _ _ => by
    subst hc
    refine (fuse_any hD n hn).mono ?_
    rintro e w' ⟨rfl, hk, hD'⟩
    exact ⟨rfl, hk, { c with fw := n }, rfl, hD'.mono (fun k ho => .inl ho) (fun k ho => by rcases ho with ho | ho; exact hD'.top k ho; exact ho.2)⟩)
theorem triz_fault (h : TriZ w1 W A B R m mo mr Z) (n : Int) (hn : n ≤ 9223372036854775807) : Calls Try.prog 15 #[.pointer (some ⟨A, 0, none⟩), .int .i64 n] W fun e w' => e = .returned (.tuple #[]) ∧ TriZ w1 w' A B R { m with fault := DModel.lay n } mo mr Z ∧ Same Z W w' :=
  triz_d h (fun c O hc hD _ _ => by
    subst hc
    refine (fault_any hD n hn).mono ?_
    rintro e w' ⟨rfl, hk, hD'⟩
    exact ⟨rfl, hk, { c with aw := n }, rfl, hD'.mono (fun k ho => .inl ho) (fun k ho => by rcases ho with ho | ho; exact hD'.top k ho; exact ho.2)⟩)
theorem triz_rfuse (h : TriZ w1 W A B R m mo mr Z) (n : Int) : Calls Try.prog 14 #[.pointer (some ⟨R, 0, none⟩), .int .i64 n] W fun e w' => e = .returned (.tuple #[]) ∧ TriZ w1 w' A B R m mo { mr with fuse := DModel.lay n } Z ∧ Same Z W w' :=
  triz_r h (fun c O hc hD _ _ => by
    subst hc
    refine (rfuse_any hD n).mono ?_
    rintro e w' ⟨rfl, hk, hD'⟩
    exact ⟨rfl, hk, c, rfl, hD'.mono (fun k ho => .inl ho) (fun k ho => by rcases ho with ho | ho; exact hD'.top k ho; exact ho.2)⟩)
theorem triz_rfault (h : TriZ w1 W A B R m mo mr Z) (n : Int) : Calls Try.prog 16 #[.pointer (some ⟨R, 0, none⟩), .int .i64 n] W fun e w' => e = .returned (.tuple #[]) ∧ TriZ w1 w' A B R m mo { mr with fault := DModel.lay n } Z ∧ Same Z W w' :=
  triz_r h (fun c O hc hD _ _ => by
    subst hc
    refine (rfault_any hD n).mono ?_
    rintro e w' ⟨rfl, hk, hD'⟩
    exact ⟨rfl, hk, c, rfl, hD'.mono (fun k ho => .inl ho) (fun k ho => by rcases ho with ho | ho; exact hD'.top k ho; exact ho.2)⟩)
theorem triz_create (h : TriZ w1 W A B R m mo mr Z) (hf : mo.few) {s : ByteArray} (hs : s.size ≤ maxLen) : Calls Try.prog 9 #[.pointer (some ⟨B, 0, none⟩), .string s] W fun e w' => e = .returned (.int .i64 ((mo.doOp ⟨0, s.data.toList, [], []⟩).1 : Int)) ∧ TriZ w1 w' A B R m (mo.doOp ⟨0, s.data.toList, [], []⟩).2 mr Z ∧ Same Z W w' :=
  triz_o h (fun c O hc hD _ _ => by
    subst hc
    exact create_any hD hs hf.1 hf.2)
theorem triz_rcrash (hRC : RCrash) (h : TriZ w1 W A B R m mo mr Z) (f : Fits mr) {k : Nat} (hm : Most maxLen mr k) (hk : k ≤ 1000) (ka : Option Addr) (kc : Nat) (keep : List Int) (hsrc : SrcOf W (.slice ka keep.length kc) (keep.map (Value.int .i64))) (hold : ∀ a, ka = some a → 0 < keep.length → a.block < w1.heap.size) (hl : keep.length ≤ 1000000) :
    Calls Try.prog 18 #[.pointer (some ⟨R, 0, none⟩), .slice ka keep.length kc] W fun e w' => e = .returned (.tuple #[]) ∧ TriZ w1 w' A B R m mo (mr.crash keep) Z ∧ Same Z W w' :=
  triz_r h (fun c O hc hD hO _ => by
    subst hc
    exact hRC W c O mr hD ka kc keep hsrc (fun a ha h0 ho => by have := hO _ ho; have := hold a ha h0; omega) hl f.kinds (by have := hm.acts; omega) (by have := hm.files; omega) (f.crash_there keep) (f.crash_nodup keep))
end
end Go.Proofs.Ytfmdnaagdhpcpaa
