/-
  slices.Insert of one label into labels that have room.
-/
import Derived.Test.YtcacoanhiphbiaaNname
import Derived.Shelf.RegionOpenPlain
import Derived.Laws.CopyRow
import Derived.Laws.Externs
import Derived.Lib.Overlaps
import Derived.Lib.SliceRun
namespace Go.Proofs.Ytcacoanhiphbiaa.N
open Go.RowKit Go.Proofs.Lys
set_option linter.unusedVariables false
set_option linter.unusedSimpArgs false

theorem Try.sizeLab : (Try.prog.info? 45).map (·.size) = some 2 := by kernel_rfl
theorem Try.sizeLabR : ∀ W, (sizeOf 45).run Try.prog W = .ok 2 W := fun W => by kernel_rfl

/-- copy, of labels into a row. -/
theorem copy_two (w : World) (ty : TypeId) (g o dLen dCap : Nat) (a : Addr) (sLen sCap : Nat) (cur : Array Value) (cs : List Value)
    (hg : w.heap[g]? = some (.cells cur 45 (0, 0))) (hn : cs.length = Nat.min sLen dLen * 2)
    (hsrc : ∀ j v, cs[j]? = some v → w.cell? (a.add j) = some v) (hfit : o + cs.length ≤ cur.size) (h1 : ∀ v ∈ cs, v.oneCell' = true) :
    (Builtin.copy_ #[26, 26] ty #[.slice (some ⟨g, o, none⟩) dLen dCap, .slice (some a) sLen sCap]).run Try.prog w =
      .ok (goInt (Nat.min sLen dLen)) (w.setRow g (cur.toList.take o ++ cs ++ cur.toList.drop (o + cs.length)).toArray) := by
  have hl := run_loadCells_list (P := Try.prog) w a cs hsrc
  have hst := run_storeCells_at Try.prog g o 45 cs 0 cur w hg (by simpa using hfit) h1
  simp only [Nat.add_zero] at hst
  rw [hn] at hl
  simp [Builtin.copy_, run_underlying Try.underlying26, Builtin.lenOf, Builtin.firstCells, hl, hst]

theorem copy_step {ops : Array Oper} {o : Oper} {a : Act} {w : World} {K : Act → World → Prop} {Q : Exit → Act → World → Prop} {E : Prop}
    (hg : o.guard = none) (d x : Operand) (dT sT : TypeId) (hop : o.op = Op.call { callee := Callee.builtin Builtin.copy, args := #[d, x], argTypes := #[dT, sT] })
    (v u : Value) (hd : a.eval d = v) (hx : a.eval x = u) {v' : Value} {w' : World} (hr : (Builtin.copy_ #[dT, sT] o.type #[v, u]).run Try.prog w = .ok v' w') (hK : K (a.put o.dst v') w') :
    if Region.wanted o (yielded ops a.tmps) = true then Oper.wp Try.prog o a w K Q else E := by
  rw [if_pos (by simp [Region.wanted, hg])]
  unfold Oper.wp
  simp [execOp, hop, resolve, invoke, builtin, hd, hx, hr, Result.andThen]
  exact hK
theorem wpList_copy {ops : Array Oper} {rest : List Oper} {o : Oper} {a : Act} {w : World} {Q : Exit → Act → World → Prop} (hgd : o.guard = none) (d s : Operand) (t t' : TypeId)
    (ho : o.op = .call { callee := .builtin .copy, args := #[d, s], argTypes := #[t, t'] }) (v u : Value) (hd : a.eval d = v) (hs : a.eval s = u) {v' : Value} {w' : World}
    (hr : (Builtin.copy_ #[t, t'] o.type #[v, u]).run Try.prog w = .ok v' w') (h : wpList Try.prog ops Q rest (a.put o.dst v') w') : wpList Try.prog ops Q (o :: rest) a w := by
  refine wpList_plain hgd fun K hK => ?_
  unfold Oper.wp
  simp [execOp, ho, resolve, invoke, builtin, hd, hs, hr, Result.andThen]
  exact hK _ _ h

theorem labL_drop (l : Labs) (i : Nat) : (labL l).drop (i * 2) = labL (l.drop i) := by
  induction i generalizing l with
  | zero => rfl
  | succ i ih =>
    cases l with
    | nil => simp [labL]
    | cons x r => rw [show (i + 1) * 2 = i * 2 + 2 by omega]; exact ih r
theorem labL_take (l : Labs) (i : Nat) : (labL l).take (i * 2) = labL (l.take i) := by
  induction i generalizing l with
  | zero => simp [labL]
  | succ i ih =>
    cases l with
    | nil => simp [labL]
    | cons x r =>
      rw [show (i + 1) * 2 = i * 2 + 2 by omega]
      show Value.string x.1 :: Value.string x.2 :: (labL r).take (i * 2) = _
      rw [ih r]
      rfl

theorem slice_lo {g cap n lo : Nat} (h1 : lo ≤ n) (h2 : n ≤ cap) (h3 : ¬ cap = lo) (W : World) :
    (Instr.sliceAt 26 (.slice (some ⟨g, 0, none⟩) n cap) (some (.int .i64 (lo : Int))) none none).run Try.prog W = .ok (.slice (some ⟨g, lo * 2, none⟩) (n - lo) (cap - lo)) W := by
  simp [Instr.sliceAt, Instr.slice, Instr.sliceBounds, Instr.sliceBound, run_underlying Try.underlying26, asIntOf, h1, h3, add_none, Result.andThen]
theorem slice_hi {g cap n hi : Nat} (h1 : hi ≤ cap) (h3 : ¬ cap = 0) (W : World) :
    (Instr.sliceAt 26 (.slice (some ⟨g, 0, none⟩) n cap) none (some (.int .i64 (hi : Int))) none).run Try.prog W = .ok (.slice (some ⟨g, 0, none⟩) hi cap) W := by
  simp [Instr.sliceAt, Instr.slice, Instr.sliceBounds, Instr.sliceBound, run_underlying Try.underlying26, asIntOf, h1, h3, add_none, Result.andThen]

/-- The cells behind both copies. -/
theorem ins_cells {C : List Value} {l : Labs} {x : Lab} {i cap : Nat} (hC : C.length = cap * 2) (ht : C.take (l.length * 2) = labL l) (hi : i < l.length) (hroom : l.length + 1 ≤ cap) :
    let C1 := C.take ((i + 1) * 2) ++ labL (l.drop i) ++ C.drop ((i + 1) * 2 + (labL (l.drop i)).length)
    let C2 := C1.take (i * 2) ++ [Value.string x.1, Value.string x.2] ++ C1.drop (i * 2 + 2)
    C1.length = cap * 2 ∧ C2.length = cap * 2 ∧ C2.take ((l.length + 1) * 2) = labL (l.take i ++ x :: l.drop i) := by
  intro C1 C2
  have hd : (labL (l.drop i)).length = (l.length - i) * 2 := by rw [labL_len, List.length_drop]
  have h1 : C1.length = cap * 2 := by
    simp only [C1, List.length_append, List.length_take, List.length_drop, hd]
    omega
  have t1 : C1.take (i * 2) = C.take (i * 2) := by
    simp only [C1, List.append_assoc]
    rw [List.take_append_of_le_length (by rw [List.length_take]; omega), List.take_take]
    congr 1
    omega
  have d1 : C1.drop (i * 2 + 2) = labL (l.drop i) ++ C.drop ((i + 1) * 2 + (labL (l.drop i)).length) := by
    simp only [C1, List.append_assoc]
    have e : i * 2 + 2 = (C.take ((i + 1) * 2)).length := by rw [List.length_take]; omega
    rw [e, List.drop_left]
  have h2 : C2.length = cap * 2 := by
    simp only [C2, List.length_append, List.length_take, List.length_drop, h1, List.length_cons, List.length_nil]
    omega
  refine ⟨h1, h2, ?_⟩
  have e2 : C2 = labL (l.take i ++ x :: l.drop i) ++ C.drop ((i + 1) * 2 + (labL (l.drop i)).length) := by
    simp only [C2, t1, d1]
    have : C.take (i * 2) = labL (l.take i) := by
      rw [← labL_take, ← ht, List.take_take]
      congr 1
      omega
    rw [this, labL_app]
    simp [labL]
  rw [e2, List.take_left']
  rw [labL_len, List.length_append, List.length_cons, List.length_take, List.length_drop]
  omega

end Go.Proofs.Ytcacoanhiphbiaa.N
