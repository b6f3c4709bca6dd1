/-
  Nins.
-/
import Derived.Test.YtllfanlhgnkcfaaGreatDoorQ17
import Derived.Shelf.RegionOpenPlain
import Derived.Laws.CopyRow
import Derived.Laws.Externs
import Derived.Lib.Overlaps
import Derived.Lib.SliceRun
namespace Go.Proofs.YtllfanlhgnkcfaaGreatDoor.N
open Go.RowKit Go.Proofs.Lys
set_option linter.unusedVariables false
set_option linter.unusedSimpArgs false
theorem Tryz.sizeLabR : ∀ W, (sizeOf 71).run Tryz.prog W = .ok 2 W := fun W => by kernel_rfl
theorem copy_two (w : World) (ty : TypeId) (g o dLen dCap : Nat) (a : Addr) (sLen sCap : Nat) (cur : Array Value) (cs : List Value)
  (hg : w.heap[g]? = some (.cells cur 71 (0, 0))) (hn : cs.length = Nat.min sLen dLen * 2)
  (hsrc : ∀ j v, cs[j]? = some v → w.cell? (a.add j) = some v) (hfit : o + cs.length ≤ cur.size) (h1 : ∀ v ∈ cs, v.oneCell' = true) :
  (Builtin.copy_ #[45, 45] ty #[.slice (some ⟨g, o, none⟩) dLen dCap, .slice (some a) sLen sCap]).run Tryz.prog w =
   .ok (goInt (Nat.min sLen dLen)) (w.setRow g (cur.toList.take o ++ cs ++ cur.toList.drop (o + cs.length)).toArray) := by
 have hl := run_loadCells_list (P := Tryz.prog) w a cs hsrc
 have hst := run_storeCells_at Tryz.prog g o 71 cs 0 cur w hg (by simpa using hfit) h1
 simp only [Nat.add_zero] at hst
 rw [hn] at hl
 simp [Builtin.copy_, run_underlying Tryz.underlying45, Builtin.lenOf, Builtin.firstCells, hl, hst]
theorem copy_step {ops : Array Oper} {o : Oper} {a : Act} {w : World} {K : Act → World → Prop} {Q : Exit → Act → World → Prop} {E : Prop}
  (hg : o.guard = none) (d x : Operand) (dT sT : TypeId) (hop : o.op = Op.call { callee := Callee.builtin Builtin.copy, args := #[d, x], argTypes := #[dT, sT] })
  (v u : Value) (hd : a.eval d = v) (hx : a.eval x = u) {v' : Value} {w' : World} (hr : (Builtin.copy_ #[dT, sT] o.type #[v, u]).run Tryz.prog w = .ok v' w') (hK : K (a.put o.dst v') w') :
  if Region.wanted o (yielded ops a.tmps) = true then Oper.wp Tryz.prog o a w K Q else E := by
 rw [if_pos (by simp [Region.wanted, hg])]
 unfold Oper.wp
 simp [execOp, hop, resolve, invoke, builtin, hd, hx, hr, Result.andThen]
 exact hK
theorem wpList_copy {ops : Array Oper} {rest : List Oper} {o : Oper} {a : Act} {w : World} {Q : Exit → Act → World → Prop} (hgd : o.guard = none) (d s : Operand) (t t' : TypeId)
  (ho : o.op = .call { callee := .builtin .copy, args := #[d, s], argTypes := #[t, t'] }) (v u : Value) (hd : a.eval d = v) (hs : a.eval s = u) {v' : Value} {w' : World}
  (hr : (Builtin.copy_ #[t, t'] o.type #[v, u]).run Tryz.prog w = .ok v' w') (h : wpList Tryz.prog ops Q rest (a.put o.dst v') w') : wpList Tryz.prog ops Q (o :: rest) a w := by
 refine wpList_plain hgd fun K hK => ?_
 unfold Oper.wp
 simp [execOp, ho, resolve, invoke, builtin, hd, hs, hr, Result.andThen]
 exact hK _ _ h
theorem labL_drop (l : Labs) (i : Nat) : (labL l).drop (i * 2) = labL (l.drop i) := by
 induction i generalizing l with
 | zero => rfl
 | succ i ih =>
  cases l with
  | nil => simp [labL]
  | cons x r => rw [show (i + 1) * 2 = i * 2 + 2 by omega]; exact ih r
theorem labL_take (l : Labs) (i : Nat) : (labL l).take (i * 2) = labL (l.take i) := by
 induction i generalizing l with
 | zero => simp [labL]
 | succ i ih =>
  cases l with
  | nil => simp [labL]
  | cons x r =>
   rw [show (i + 1) * 2 = i * 2 + 2 by omega]
   show Value.string x.1 :: Value.string x.2 :: (labL r).take (i * 2) = _
   rw [ih r]
   rfl
theorem slice_lo {g cap n lo : Nat} (h1 : lo ≤ n) (h2 : n ≤ cap) (h3 : ¬ cap = lo) (W : World) :
  (Instr.sliceAt 45 (.slice (some ⟨g, 0, none⟩) n cap) (some (.int .i64 (lo : Int))) none none).run Tryz.prog W = .ok (.slice (some ⟨g, lo * 2, none⟩) (n - lo) (cap - lo)) W := by
 simp [Instr.sliceAt, Instr.slice, Instr.sliceBounds, Instr.sliceBound, run_underlying Tryz.underlying45, asIntOf, h1, h3, add_none, Result.andThen]
theorem slice_hi {g cap n hi : Nat} (h1 : hi ≤ cap) (h3 : ¬ cap = 0) (W : World) :
  (Instr.sliceAt 45 (.slice (some ⟨g, 0, none⟩) n cap) none (some (.int .i64 (hi : Int))) none).run Tryz.prog W = .ok (.slice (some ⟨g, 0, none⟩) hi cap) W := by
 simp [Instr.sliceAt, Instr.slice, Instr.sliceBounds, Instr.sliceBound, run_underlying Tryz.underlying45, asIntOf, h1, h3, add_none, Result.andThen]
theorem ins_cells {C : List Value} {l : Labs} {x : Lab} {i cap : Nat} (hC : C.length = cap * 2) (ht : C.take (l.length * 2) = labL l) (hi : i < l.length) (hroom : l.length + 1 ≤ cap) :
  let C1 := C.take ((i + 1) * 2) ++ labL (l.drop i) ++ C.drop ((i + 1) * 2 + (labL (l.drop i)).length)
  let C2 := C1.take (i * 2) ++ [Value.string x.1, Value.string x.2] ++ C1.drop (i * 2 + 2)
  C1.length = cap * 2 ∧ C2.length = cap * 2 ∧ C2.take ((l.length + 1) * 2) = labL (l.take i ++ x :: l.drop i) := by
 intro C1 C2
 have hd : (labL (l.drop i)).length = (l.length - i) * 2 := by rw [labL_len, List.length_drop]
 have h1 : C1.length = cap * 2 := by
  simp only [C1, List.length_append, List.length_take, List.length_drop, hd]
  omega
 have t1 : C1.take (i * 2) = C.take (i * 2) := by
  simp only [C1, List.append_assoc]
  rw [List.take_append_of_le_length (by rw [List.length_take]; omega), List.take_take]
  congr 1
  omega
 have d1 : C1.drop (i * 2 + 2) = labL (l.drop i) ++ C.drop ((i + 1) * 2 + (labL (l.drop i)).length) := by
  simp only [C1, List.append_assoc]
  have e : i * 2 + 2 = (C.take ((i + 1) * 2)).length := by rw [List.length_take]; omega
  rw [e, List.drop_left]
 have h2 : C2.length = cap * 2 := by
  simp only [C2, List.length_append, List.length_take, List.length_drop, h1, List.length_cons, List.length_nil]
  omega
 refine ⟨h1, h2, ?_⟩
 have e2 : C2 = labL (l.take i ++ x :: l.drop i) ++ C.drop ((i + 1) * 2 + (labL (l.drop i)).length) := by
  simp only [C2, t1, d1]
  have : C.take (i * 2) = labL (l.take i) := by
   rw [← labL_take, ← ht, List.take_take]
   congr 1
   omega
  rw [this, labL_app]
  simp [labL]
 rw [e2, List.take_left']
 rw [labL_len, List.length_append, List.length_cons, List.length_take, List.length_drop]
 omega
set_option maxRecDepth 100000 in
set_option maxHeartbeats 4000000 in
theorem insert_any {w : World} {B g cap i xb : Nat} {l : Labs} {x : Lab} (h : LabAt w B (.slice (some ⟨g, 0, none⟩) l.length cap) l) (hi : i < l.length) (hroom : l.length + 1 ≤ cap) (hx : Blk w xb [.string x.1, .string x.2] 71) (hne : xb ≠ g) :
  Calls Tryz.prog 92 #[.slice (some ⟨g, 0, none⟩) l.length cap, .int .i64 (i : Int), .slice (some ⟨xb, 0, none⟩) 1 1] w fun e w' =>
   e = .returned (.slice (some ⟨g, 0, none⟩) (l.length + 1) cap) ∧ LabAt w' B (.slice (some ⟨g, 0, none⟩) (l.length + 1) cap) (l.take i ++ x :: l.drop i) ∧ Only (fun k => k = g) w w' := by
 obtain ⟨hl, hrest⟩ := h
 obtain ⟨cur, hb, hg, hcm, hcs, htake⟩ : ∃ cur, B ≤ g ∧ w.heap[g]? = some (.cells cur 71 (0, 0)) ∧ cap ≤ maxLen ∧ cur.size = cap * 2 ∧ cur.toList.take (l.length * 2) = labL l := by
  rcases hrest with ⟨e, _⟩ | ⟨g', cap', cur, hv, hb, hg, _, hm, hs, ht⟩
  ·cases e
  ·simp only [Value.slice.injEq, Option.some.injEq, Addr.mk.injEq] at hv
   obtain ⟨⟨rfl, _⟩, _, rfl⟩ := hv
   exact ⟨cur, hb, hg, hm, hs, ht⟩
 clear hrest
 have hC : cur.toList.length = cap * 2 := by rw [Array.length_toList]; exact hcs
 obtain ⟨q1, q2, q3⟩ := ins_cells (C := cur.toList) (x := x) hC htake hi hroom
 generalize hC1 : cur.toList.take ((i + 1) * 2) ++ labL (l.drop i) ++ cur.toList.drop ((i + 1) * 2 + (labL (l.drop i)).length) = C1 at q1 q2 q3
 have hdl : (labL (l.drop i)).length = (l.length - i) * 2 := by rw [labL_len, List.length_drop]
 have cellw : ∀ j v, (labL l)[j]? = some v → w.cell? ⟨g, j, none⟩ = some v := fun j v hj => by
  have hj2 : j < (labL l).length := (List.getElem?_eq_some_iff.1 hj).1
  rw [labL_len] at hj2
  rw [← htake, List.getElem?_take, if_pos (by omega)] at hj
  simp [World.cell?, hg]
  simpa using hj
 have hm63 : cap ≤ 9223372036854775807 := by unfold maxLen at hcm; omega
 have s1 := fun W => slice_lo (g := g) (cap := cap) (n := l.length) (lo := i) (by omega) (by omega) (by omega) W
 have s2 : ∀ W, (Instr.sliceAt 45 (.slice (some ⟨g, 0, none⟩) l.length cap) none (some (.int .i64 ((l.length : Int) + 1))) none).run Tryz.prog W = .ok (.slice (some ⟨g, 0, none⟩) (l.length + 1) cap) W := fun W => slice_hi (n := l.length) (hi := l.length + 1) hroom (by omega) W
 have s3 : ∀ W, (Instr.sliceAt 45 (.slice (some ⟨g, 0, none⟩) (l.length + 1) cap) (some (.int .i64 ((i : Int) + 1))) none none).run Tryz.prog W = .ok (.slice (some ⟨g, (i + 1) * 2, none⟩) (l.length - i) (cap - (i + 1))) W := fun W => by
  have := slice_lo (g := g) (cap := cap) (n := l.length + 1) (lo := i + 1) (by omega) (by omega) (by omega) W
  rw [Nat.add_sub_add_right] at this
  exact this
 have s4 := fun W => slice_lo (g := g) (cap := cap) (n := l.length + 1) (lo := i) (by omega) (by omega) (by omega) W
 have hov : ∀ lb cb, (callFunc 109 #[.slice (some ⟨xb, 0, none⟩) 1 1, .slice (some ⟨g, (i + 1) * 2, none⟩) lb cb]).run Tryz.prog w = .ok (.value (.bool false)) w := fun lb cb => by
  have hsa : w.shape? xb = some (71, 2) := by unfold Blk at hx; simp [World.shape?, hx]
  have hsb : w.shape? g = some (71, cap * 2) := by simp [World.shape?, hg, hcs]
  rw [run_callFunc_extern Tryz.func109 (by kernel_rfl) (by kernel_rfl) (by kernel_rfl) (e := Extern.SlicesOverlaps.overlaps #[45, 45] #[4]) (by kernel_rfl),
   Lib.run_overlaps_apart w 45 4 71 Tryz.underlying45 2 Tryz.sizeLabR ⟨xb, 0, none⟩ ⟨g, (i + 1) * 2, none⟩ 1 1 lb cb hne _ _ _ _ hsa hsb (by omega) (hx.frozen 0) (hx.frozen 2)]
  rfl
 have hcp1 : ∀ ty dc sc, (Builtin.copy_ #[45, 45] ty #[.slice (some ⟨g, (i + 1) * 2, none⟩) (l.length - i) dc, .slice (some ⟨g, i * 2, none⟩) (l.length + 1 - i) sc]).run Tryz.prog w.drew = .ok (goInt ((l.length - i : Nat) : Int)) (w.drew.setRow g C1.toArray) := fun ty dc sc => by
  have hmin : Nat.min (l.length + 1 - i) (l.length - i) = l.length - i := Nat.min_eq_right (by omega)
  have := copy_two w.drew ty g ((i + 1) * 2) (l.length - i) dc ⟨g, i * 2, none⟩ (l.length + 1 - i) sc cur (labL (l.drop i)) hg (by rw [hmin, hdl])
   (fun j v hj => by
    rw [add_none]
    refine cellw (i * 2 + j) v ?_
    rw [← labL_drop, List.getElem?_drop] at hj
    exact hj) (by rw [hdl]; omega) (labL_one _)
  rw [hmin, hC1] at this
  exact this
 obtain ⟨W1, hW1⟩ : ∃ W1, W1 = w.drew.setRow g C1.toArray := ⟨_, rfl⟩
 have hg1 : W1.heap[g]? = some (.cells C1.toArray 71 (0, 0)) := by rw [hW1]; exact setRow_heap w.drew g cur _ _ _ hg
 have hx1 : Blk W1 xb [.string x.1, .string x.2] 71 := by
  refine hx.of_block ?_
  rw [hW1]
  exact setRow_other w.drew g xb _ hne
 have hcp2 : ∀ ty dc, (Builtin.copy_ #[45, 45] ty #[.slice (some ⟨g, i * 2, none⟩) (l.length + 1 - i) dc, .slice (some ⟨xb, 0, none⟩) 1 1]).run Tryz.prog W1 = .ok (goInt 1) (W1.setRow g (C1.take (i * 2) ++ [Value.string x.1, Value.string x.2] ++ C1.drop (i * 2 + 2)).toArray) := fun ty dc => by
  have hmin : Nat.min 1 (l.length + 1 - i) = 1 := Nat.min_eq_left (by omega)
  have := copy_two W1 ty g (i * 2) (l.length + 1 - i) dc ⟨xb, 0, none⟩ 1 1 C1.toArray [.string x.1, .string x.2] hg1 (by rw [hmin]; rfl)
   (fun j v hj => by
    rw [add_none, Nat.zero_add]
    exact hx1.cell j hj) (by simp [q1]; omega) (by intro v hv; simp at hv; rcases hv with rfl | rfl <;> rfl)
  rw [hmin] at this
  simpa using this
 rw [← hW1] at hcp1
 have HF : Hid (∀ W, W = W1.setRow g (C1.take (i * 2) ++ [Value.string x.1, Value.string x.2] ++ C1.drop (i * 2 + 2)).toArray → LabAt W B (.slice (some ⟨g, 0, none⟩) (l.length + 1) cap) (l.take i ++ x :: l.drop i) ∧ Only (fun k => k = g) w W) := fun W hW => by
  have hlen : (l.take i ++ x :: l.drop i).length = l.length + 1 := by simp; omega
  refine ⟨⟨labL_len _, .inr ⟨g, cap, _, by rw [hlen], hb, by rw [hW]; exact setRow_heap W1 g _ _ _ _ hg1, by rw [hlen]; exact hroom, hcm, by simpa using q2, by rw [hlen]; exact q3⟩⟩, ?_⟩
  rw [hW, hW1]
  exact ⟨rfl, rfl, rfl, by simp, fun k hk hn => by rw [setRow_other _ _ _ _ hn, setRow_other _ _ _ _ hn]; rfl⟩
 have HW := hid hW1
 clear q1 q2 q3 hC1 hdl cellw hg hg1 hx hx1 htake hC hcs hW1 hl hcm hb hne
 generalize l.length = n at s1 s2 s3 s4 hcp1 hcp2 hi hroom HF ⊢
 go_enter Tryz.func92, Tryz.ntmps92
 go_wp2_with fail
 have hw1 : IntKind.i64.wrap ((i : Int) + 1) = (i : Int) + 1 := by rw [IntKind.wrap_i64]; omega
 have hb1 : (0 : Int) ≤ (i : Int) + 1 := by omega
 have hin : i ≤ n := by omega
 have htn : ((i : Int) + 1).toNat = i + 1 := by omega
 have hb2 : ¬ (cap = i + 1) := by omega
 have hb3 : (i : Int) ≤ (n : Int) + 1 := by omega
 have hb4 : ¬ (cap = i) := by omega
 have mixed : Tryz.prog.follows Departure.mixedOrders = true := by kernel_rfl
 clear s1 s2 s3 s4
 go_region_law_o (refine copy_step rfl _ _ 45 45 rfl _ _ (by simp [Act.eval, Act.put]) (by simp [Act.eval, Act.put]) (hcp1 _ _ _) ?_)
 go_wp2_with (at_builtin; refine wpList_copy rfl _ _ 45 45 rfl _ _ rfl rfl (hcp2 _ _) ?_)
 go_ret
 refine ⟨rfl, HF.out _ ?_⟩
 simp
end Go.Proofs.YtllfanlhgnkcfaaGreatDoor.N
