/-
  Rows that a law cuts and joins; two operations of a region that may come up in either order.
-/
import Derived.Test.YtoagncilbaaefaaHopen2
namespace Go.Proofs.Lys
open Go Go.RowKit
section
variable {P : Program} {ops : Array Oper} {Q : Exit → Act → World → Prop} {md : Region.Mode} {S : World → Prop} {L : Nat}
/-- Two may come up. -/
theorem wpAnyL_two {i j : Nat} {oi oj : Oper} {fuel : Nat} {listed : Array Bool} {a : Act} {w : World} (hr : Region.ready md ops listed = [i, j]) (hoi : ops[i]? = some oi) (hoj : ops[j]? = some oj) (hwi : Region.wanted oi (yielded ops a.tmps) = true) (hwj : Region.wanted oj (yielded ops a.tmps) = true)
    (h1 : Oper.wp P oi a w (fun a' w' => S w' ∧ wpAnyL P md ops Q S L fuel (listed.setIfInBounds i true) a' w') Q)
    (h2 : Oper.wp P oj a w (fun a' w' => S w' ∧ wpAnyL P md ops Q S L fuel (listed.setIfInBounds j true) a' w') Q) : wpAnyL P md ops Q S L (fuel + 1) listed a w := by
  refine ⟨fun h0 => (by rw [hr] at h0; cases h0), fun q hq => ?_⟩
  rw [hr] at hq
  have e : q = i ∨ q = j := by simpa using hq
  rcases e with rfl | rfl
  · refine wpOp_step hoi (fun K hK => ?_)
    rw [if_pos hwi]
    exact Oper.wp_mono (fun a' w' h' => hK a' w' ⟨fun _ => h'.1, h'.2⟩) h1
  · refine wpOp_step hoj (fun K hK => ?_)
    rw [if_pos hwj]
    exact Oper.wp_mono (fun a' w' h' => hK a' w' ⟨fun _ => h'.1, h'.2⟩) h2
end
/-- A region whose ways meet again: what it leaves is told once. -/
theorem wp_region_then {P : Program} {id : Nat} {ops : Array Oper} {b : Bool} {Q : Exit → Act → World → Prop} {a : Act} {w : World} {A : Nat → Nat → Value → Value → Value → Act} (D : Value → World → Prop)
    (h1 : (Code.region id ops b).wp P (fun e a' w' => e = .normal ∧ ∃ bl br v3 v4 v5, a' = A bl br v3 v4 v5 ∧ D v5 w') a w) (h2 : ∀ bl br v3 v4 v5 w', D v5 w' → Q .normal (A bl br v3 v4 v5) w') : (Code.region id ops b).wp P Q a w :=
  Code.wp_mono (fun e a' w' h => by obtain ⟨rfl, bl, br, v3, v4, v5, rfl, hD⟩ := h; exact h2 bl br v3 v4 v5 w' hD) h1
theorem oper_appendH {P : Program} {w : World} {o : Oper} {a : Act} {K : Act → World → Prop} {Q : Exit → Act → World → Prop} (s x : Operand) (t : TypeId)
    (ho : o.op = .call { callee := .builtin .append, args := #[s, x], argTypes := #[t, t] }) {sv xv : Value} (hs : a.eval s = sv) (hx : a.eval x = xv) {v : Value} {w' : World}
    (hrun : Hid ((Builtin.append_ #[t, t] 0 #[sv, xv]).run P w = .ok v w')) (h : K (a.put o.dst v) w') : Oper.wp P o a w K Q := by
  have hr : (Builtin.append_ #[t, t] o.type #[sv, xv]).run P w = .ok v w' := hrun.out
  unfold Oper.wp execOp
  simp only [ho, resolve, invoke, builtin, Sem.run_bind, Sem.run_pure, Result.andThen_ok, List.map_toArray, List.map_cons, List.map_nil, hs, hx, hr]
  exact h
end Go.Proofs.Lys
namespace Go.Proofs.Ytoagncilbaaefaa.Hd
open Go Go.RowKit Go.Proofs.Lys Go.Proofs.Ytoagncilbaaefaa.N
set_option linter.unusedVariables false
set_option linter.unusedSimpArgs false

/-- Rows that came in, and their room. -/
structure RowsCap (w : World) (v : Value) (rs : List Row) : Prop where
  in_ : RowsIn w v rs
  cap : ∃ a c, v = .slice a rs.length c ∧ rs.length ≤ c
section
variable {H : Type} {enc : TypeId × Value → H} {w : World} {spare : Nat → Bool} {held : Bool} {base fuel : Nat}
theorem open_rowsC {a0 : Option Addr} {len0 cap0 : Nat} {x : DataW H × List MemPlace}
    (h : ∃ m, DataW.trod enc Try.prog w base spare held m 34 (Value.slice a0 len0 cap0).cells.toList = some x) (hz : ∀ n ∈ x.1.weights Try.prog 34, n ≤ reachBytes) : ∃ l : List Row, RowsCap w (.slice a0 len0 cap0) l := by
  have hc : len0 ≤ cap0 := by
    obtain ⟨fuel, hf⟩ := h
    rcases Deep.open_slice Try.underlying34 hf with ⟨hcs, _⟩ | ⟨a, len, cap, m, n, D, Pl, hcs, _, hl, _⟩
    · simp [Value.cells] at hcs
      omega
    · simp [Value.cells] at hcs
      omega
  obtain ⟨l, hl⟩ := open_rows h hz
  obtain ⟨a, c, e⟩ := hl.src.len
  refine ⟨l, hl, a, c, e, ?_⟩
  simp only [Value.slice.injEq] at e
  omega
end

/-- A part of the rows. -/
theorem row_part {w : World} {Z : Nat → Prop} {a : Option Addr} {c : Nat} {rs : List Row} (hs : RowSrc w Z (.slice a rs.length c) rs) (hc : rs.length ≤ c) {lo hi : Nat} (h1 : lo ≤ hi) (h2 : hi ≤ rs.length) :
    RowSrc w Z (.slice (if c = lo then a else a.map (·.add (lo * 3))) (hi - lo) (c - lo)) ((rs.take hi).drop lo) := by
  have hlen : ((rs.take hi).drop lo).length = hi - lo := by rw [List.length_drop, List.length_take]; omega
  by_cases h0 : hi - lo = 0
  · have hn : (rs.take hi).drop lo = [] := List.length_eq_zero_iff.1 (by rw [hlen]; exact h0)
    rw [hn, h0]
    exact .inl ⟨_, _, rfl, rfl⟩
  · rcases hs with ⟨x, y, hv, hn⟩ | ⟨hp, b, o, c2, hv, hZ, hcell⟩
    · rw [hn] at h2
      simp at h2
      omega
    · simp only [Value.slice.injEq] at hv
      obtain ⟨rfl, _, rfl⟩ := hv
      rw [if_neg (by omega)]
      refine .inr ⟨by rw [hlen]; omega, b, o + lo * 3, c - lo, by rw [hlen, Option.map_some, add_none], hZ, fun i hi' => ?_⟩
      rw [hlen] at hi'
      have := hcell (lo + i) (by omega)
      have e5 : ((rs.take hi).drop lo)[i]'(by rw [hlen]; exact hi') = rs[lo + i]'(by omega) := by
        rw [List.getElem_drop, List.getElem_take]
      rw [e5, show o + lo * 3 + i * 3 = o + (lo + i) * 3 by omega]
      exact this
theorem Try.sizeRow (W : World) : (sizeOf 32).run Try.prog W = .ok 3 W := by kernel_rfl
theorem row_sub {w : World} {Z : Nat → Prop} {a : Option Addr} {c : Nat} {rs : List Row} (hs : RowSrc w Z (.slice a rs.length c) rs) (hc : rs.length ≤ c) {lo hi : Nat} (h1 : lo ≤ hi) (h2 : hi ≤ rs.length) :
    ∃ a' c', (∀ W, (Instr.sliceAt 34 (.slice a rs.length c) (some (.int .i64 (lo : Int))) (some (.int .i64 (hi : Int))) none).run Try.prog W = .ok (.slice a' (hi - lo) c') W) ∧ RowSrc w Z (.slice a' (hi - lo) c') ((rs.take hi).drop lo) := by
  have e2 : hi ≤ c := by omega
  refine ⟨_, _, fun W => ?_, row_part hs hc h1 h2⟩
  simp [Instr.sliceAt, Instr.slice, Instr.sliceBounds, Instr.sliceBound, run_underlying Try.underlying34, asIntOf, h1, e2, Try.sizeRow, Result.andThen]
theorem row_to {w : World} {Z : Nat → Prop} {a : Option Addr} {c : Nat} {rs : List Row} (hs : RowSrc w Z (.slice a rs.length c) rs) (hc : rs.length ≤ c) {hi : Nat} (h2 : hi ≤ rs.length) :
    ∃ a' c', (∀ W, (Instr.sliceAt 34 (.slice a rs.length c) none (some (.int .i64 (hi : Int))) none).run Try.prog W = .ok (.slice a' hi c') W) ∧ RowSrc w Z (.slice a' hi c') (rs.take hi) := by
  have e2 : hi ≤ c := by omega
  refine ⟨_, _, fun W => ?_, by have := row_part hs hc (Nat.zero_le hi) h2; simpa using this⟩
  simp [Instr.sliceAt, Instr.slice, Instr.sliceBounds, Instr.sliceBound, run_underlying Try.underlying34, asIntOf, e2, Try.sizeRow, Result.andThen]
theorem row_from {w : World} {Z : Nat → Prop} {a : Option Addr} {c : Nat} {rs : List Row} (hs : RowSrc w Z (.slice a rs.length c) rs) (hc : rs.length ≤ c) {lo : Nat} (h2 : lo ≤ rs.length) :
    ∃ a' c', (∀ W, (Instr.sliceAt 34 (.slice a rs.length c) (some (.int .i64 (lo : Int))) none none).run Try.prog W = .ok (.slice a' (rs.length - lo) c') W) ∧ RowSrc w Z (.slice a' (rs.length - lo) c') (rs.drop lo) := by
  refine ⟨_, _, fun W => ?_, by have := row_part hs hc h2 (Nat.le_refl _); rw [List.take_length] at this; exact this⟩
  simp [Instr.sliceAt, Instr.slice, Instr.sliceBounds, Instr.sliceBound, run_underlying Try.underlying34, asIntOf, h2, hc, Try.sizeRow, Result.andThen]

/-! ### Rows of cells -/
def rowL : List RowC → List Value
  | [] => []
  | q :: r => q.lv :: .int .i64 q.r.2.1 :: .int .i64 q.r.2.2 :: rowL r
theorem rowL_len (l : List RowC) : (rowL l).length = l.length * 3 := by
  induction l with
  | nil => rfl
  | cons p l ih => simp only [rowL, List.length_cons, ih]; omega
theorem rowL_app (l r : List RowC) : rowL (l ++ r) = rowL l ++ rowL r := by
  induction l with
  | nil => rfl
  | cons p l ih => rw [List.cons_append, rowL, ih, rowL]; rfl
theorem rowL_at (l : List RowC) (i : Nat) (h : i < l.length) : (rowL l)[i * 3]? = some l[i].lv ∧ (rowL l)[i * 3 + 1]? = some (.int .i64 l[i].r.2.1) ∧ (rowL l)[i * 3 + 2]? = some (.int .i64 l[i].r.2.2) := by
  induction l generalizing i with
  | nil => simp at h
  | cons p r ih =>
    cases i with
    | zero => exact ⟨rfl, rfl, rfl⟩
    | succ i =>
      have := ih i (by simpa using h)
      rw [show (i + 1) * 3 = i * 3 + 3 by omega]
      exact this
theorem Try.infoRow : (Try.prog.info? 32).map (fun i => (i.zero, i.size, i.bytes)) = some (some (.agg #[.slice none 0 0, .int .i64 0, .int .i64 0]), 3, 40) := by kernel_rfl
/-- Rows that a slice reads, cell by cell. -/
def RowCells (w : World) (v : Value) (qs : List RowC) : Prop :=
  (∃ a c, v = .slice a 0 c ∧ qs = []) ∨ ∃ b o c, v = .slice (some ⟨b, o, none⟩) qs.length c ∧ ∀ i (hi : i < qs.length), w.cell? ⟨b, o + i * 3, none⟩ = some qs[i].lv ∧ w.cell? ⟨b, o + i * 3 + 1, none⟩ = some (.int .i64 qs[i].r.2.1) ∧ w.cell? ⟨b, o + i * 3 + 2, none⟩ = some (.int .i64 qs[i].r.2.2)
/-- Each row's labels are there. -/
def RowLabs (w : World) (Z : Nat → Prop) (qs : List RowC) : Prop := ∀ q ∈ qs, LabSrc w q.lv q.r.1 ∧ InZ Z q.lv
theorem labsrc_slice {w : World} {v : Value} {l : Labs} (h : LabSrc w v l) : ∃ a n c, v = .slice a n c := by
  rcases h with ⟨a, c, rfl, _⟩ | ⟨_, b, o, c, rfl, _⟩
  · exact ⟨_, _, _, rfl⟩
  · exact ⟨_, _, _, rfl⟩
theorem rowL_one {w : World} {Z : Nat → Prop} {qs : List RowC} (h : RowLabs w Z qs) : ∀ u ∈ rowL qs, u.oneCell' = true := by
  induction qs with
  | nil => intro u hu; cases hu
  | cons p r ih =>
    intro u hu
    rw [rowL] at hu
    simp only [List.mem_cons] at hu
    rcases hu with rfl | rfl | rfl | hu
    · obtain ⟨a, n, c, e⟩ := labsrc_slice (h p (List.mem_cons_self ..)).1
      rw [e]; rfl
    · rfl
    · rfl
    · exact ih (fun q hq => h q (List.mem_cons_of_mem _ hq)) u hu
theorem row_list {w : World} {Z : Nat → Prop} {v : Value} {rs : List Row} (h : RowSrc w Z v rs) : ∃ qs : List RowC, qs.map (·.r) = rs ∧ RowLabs w Z qs ∧ RowCells w v qs := by
  rcases h with ⟨a, c, rfl, rfl⟩ | ⟨hp, b, o, c, rfl, hZ, hc⟩
  · exact ⟨[], rfl, fun q hq => (by cases hq), .inl ⟨a, c, rfl, rfl⟩⟩
  · have hinh : Inhabited Value := ⟨.slice none 0 0⟩
    have hget : ∀ i (hi : i < rs.length), rs.getD i ([], (0, 0)) = rs[i] := fun i hi => by simp [hi]
    have hc' : ∀ i, i < rs.length → ∃ lv, w.cell? ⟨b, o + i * 3, none⟩ = some lv ∧ w.cell? ⟨b, o + i * 3 + 1, none⟩ = some (.int .i64 (rs.getD i ([], (0, 0))).2.1) ∧ w.cell? ⟨b, o + i * 3 + 2, none⟩ = some (.int .i64 (rs.getD i ([], (0, 0))).2.2) ∧ LabSrc w lv (rs.getD i ([], (0, 0))).1 ∧ InZ Z lv := fun i hi => by rw [hget i hi]; exact hc i hi
    obtain ⟨f, hf⟩ := Deep.choose_lt hc'
    have hll : ((List.range rs.length).map (fun i => (⟨f i, rs.getD i ([], (0, 0))⟩ : RowC))).length = rs.length := by simp
    refine ⟨(List.range rs.length).map (fun i => ⟨f i, rs.getD i ([], (0, 0))⟩), ?_, fun q hq => ?_, .inr ⟨b, o, c, by rw [hll], fun i hi => ?_⟩⟩
    · refine List.ext_getElem (by simp) (fun i h1 h2 => ?_)
      simp [h2]
    · obtain ⟨i, hi, rfl⟩ := List.mem_map.1 hq
      have hi' : i < rs.length := List.mem_range.1 hi
      have := hf i hi'
      exact ⟨this.2.2.2.1, this.2.2.2.2⟩
    · have hi' : i < rs.length := by rw [hll] at hi; exact hi
      have := hf i hi'
      simp only [List.getElem_map, List.getElem_range]
      exact ⟨this.1, this.2.1, this.2.2.1⟩
/-- Rows that are owned. -/
abbrev RowAt (w : World) (B : Nat) (v : Value) (qs : List RowC) : Prop := w.ownsRow B 32 3 v qs.length (rowL qs)
theorem RowAt.src {w : World} {B : Nat} {Z : Nat → Prop} {v : Value} {qs : List RowC} (h : RowAt w B v qs) (hl : RowLabs w Z qs) (hZ : ∀ j, B ≤ j → Z j) : RowSrc w Z v (qs.map (·.r)) := by
  have hll : (qs.map (·.r)).length = qs.length := List.length_map _
  by_cases h0 : qs.length = 0
  · have : qs = [] := List.length_eq_zero_iff.1 h0
    subst this
    obtain ⟨a, c, rfl⟩ := ownN_slice h
    exact .inl ⟨a, c, rfl, rfl⟩
  · obtain ⟨g, cap, rfl⟩ := ownN_some h (by omega)
    refine .inr ⟨by omega, g, 0, cap, by rw [hll], hZ g (ownN_lt h rfl).1, fun i hi => ?_⟩
    rw [hll] at hi
    have hx := rowL_at qs i hi
    have hq := hl _ (List.getElem_mem hi)
    rw [Nat.zero_add]
    simp only [List.getElem_map]
    exact ⟨_, by rw [h.cellAt (i * 3) (by omega)]; exact hx.1, by rw [h.cellAt (i * 3 + 1) (by omega)]; exact hx.2.1, by rw [h.cellAt (i * 3 + 2) (by omega)]; exact hx.2.2, hq.1, hq.2⟩
theorem row_append {w : World} {B : Nat} {Z : Nat → Prop} {v xv : Value} {l q : List RowC} (hown : RowAt w B v l) (hsrc : RowCells w xv q) (hq : RowLabs w Z q) (hl : l.length + q.length ≤ 1000000) (hB : B ≤ w.heap.size) :
    ∃ v' w', (Builtin.append_ #[34, 34] 0 #[v, xv]).run Try.prog w = .ok v' w' ∧ RowAt w' B v' (l ++ q) ∧ w.grownBy w' v.ownBlock ∧ (v'.ownBlock = v.ownBlock ∨ v'.ownBlock = some w.heap.size) := by
  obtain ⟨i0, hi0, hz0, hz1, hz2⟩ := info_parts Try.infoRow
  have hm : l.length + q.length ≤ maxLen := by unfold maxLen; omega
  have ht := Try.underlying34
  have hll : (l ++ q).length = l.length + q.length := List.length_append
  have main : ∀ (a : Addr) (c : Nat), xv = .slice (some a) q.length c → (∀ j u, (rowL q)[j]? = some u → w.cell? (a.add j) = some u) → ∃ v' w', (Builtin.append_ #[34, 34] 0 #[v, xv]).run Try.prog w = .ok v' w' ∧ RowAt w' B v' (l ++ q) ∧ w.grownBy w' v.ownBlock ∧ (v'.ownBlock = v.ownBlock ∨ v'.ownBlock = some w.heap.size) := by
    intro a c e hc
    subst e
    obtain ⟨v', w', hr, h2, h3, _, h5⟩ := run_append_own_at (P := Try.prog) w B _ 0 _ i0 _ 3 40 ht hi0 hz0 hz1 hz2 rfl (by decide) v l.length (rowL l) hown a q.length c (rowL q) (rowL_len q)
      hc (rowL_one hq) hm (by omega) hB
    refine ⟨v', w', hr, ?_, h3, h5⟩
    unfold RowAt
    rw [hll, rowL_app]
    exact h2
  rcases hsrc with ⟨a, c, rfl, rfl⟩ | ⟨b, o, c, rfl, hc⟩
  · cases a with
    | none =>
      refine ⟨v, w, ?_, by rw [List.append_nil]; exact hown, World.grownBy.refl _ _, .inl rfl⟩
      rcases hown.2 with ⟨rfl, h0⟩ | ⟨g, cap, cur, rfl, hbg, hg, hnc, hcm, hcs, htake⟩
      · simp [Builtin.append_, run_underlying ht, sizeOf, typeInfo, hi0, Builtin.lenOf, Builtin.firstCells]
      · simp [Builtin.append_, run_underlying ht, sizeOf, typeInfo, hi0, Builtin.lenOf, Builtin.firstCells, hnc, storeCells]
    | some a => exact main a c rfl (fun j u hu => by simp [rowL] at hu)
  · refine main _ c rfl (fun j u hu => ?_)
    rw [add_none]
    have hj : j < (rowL q).length := (List.getElem?_eq_some_iff.1 hu).1
    rw [rowL_len] at hj
    have hx := rowL_at q (j / 3) (by omega)
    have hcc := hc (j / 3) (by omega)
    have h3 : j % 3 = 0 ∨ j % 3 = 1 ∨ j % 3 = 2 := by omega
    rcases h3 with hp | hp | hp
    · have ej : j = j / 3 * 3 := by omega
      rw [ej] at hu ⊢
      rw [hx.1] at hu
      cases hu
      exact hcc.1
    · have ej : j = j / 3 * 3 + 1 := by omega
      rw [ej] at hu ⊢
      rw [hx.2.1] at hu
      cases hu
      rw [← Nat.add_assoc]
      exact hcc.2.1
    · have ej : j = j / 3 * 3 + 2 := by omega
      rw [ej] at hu ⊢
      rw [hx.2.2] at hu
      cases hu
      rw [← Nat.add_assoc]
      exact hcc.2.2

/-! ### The batch with a bad row -/
abbrev badL : Labs := [(⟨#[]⟩, ⟨#[]⟩)]
abbrev badR : Row := (badL, (0, 0))
theorem bad_make : makeL badL = none := by decide +kernel
theorem RowLabs.stay {w W : World} {Z : Nat → Prop} {qs : List RowC} (h : RowLabs w Z qs) (k : Kept w W) : RowLabs W Z qs := fun q hq => ⟨(h q hq).1.stay k, (h q hq).2⟩
theorem RowLabs.weak {w : World} {Z Z' : Nat → Prop} {qs : List RowC} (h : RowLabs w Z qs) (hz : ∀ j, Z j → Z' j) : RowLabs w Z' qs := fun q hq => ⟨(h q hq).1, fun a n c e hn => hz _ ((h q hq).2 a n c e hn)⟩
theorem RowCells.stay {w W : World} {v : Value} {qs : List RowC} (h : RowCells w v qs) (k : Kept w W) : RowCells W v qs := by
  rcases h with h | ⟨b, o, c, e, hc⟩
  · exact .inl h
  · exact .inr ⟨b, o, c, e, fun i hi => ⟨only_cell k (fun f => f) (hc i hi).1, only_cell k (fun f => f) (hc i hi).2.1, only_cell k (fun f => f) (hc i hi).2.2⟩⟩
theorem RowLabs.take {w : World} {Z : Nat → Prop} {qs : List RowC} (h : RowLabs w Z qs) (k : Nat) : RowLabs w Z (qs.take k) := fun q hq => h q (List.mem_of_mem_take hq)
/-- What stands when all parts of the batch lie there. -/
structure BadP (w X : World) (v : Value) (bl br : Nat) (q1 : List RowC) : Prop where
  own : RowAt X w.heap.size v q1
  kept : Kept w X
  lab : Blk X bl [.string ⟨#[]⟩, .string ⟨#[]⟩] 39
  row : Blk X br [.slice (some ⟨bl, 0, none⟩) 1 1, .int .i64 0, .int .i64 0] 32
  hbl : w.heap.size ≤ bl
/-- The batch. -/
def BadD (w : World) (Z : Nat → Prop) (rs : List Row) (k : Nat) (v : Value) (X : World) : Prop := RowSrc X (fun j => Z j ∨ w.heap.size ≤ j) v (rs.take k ++ badR :: rs.drop k) ∧ Kept w X
theorem bad_copy {w : World} {Z : Nat → Prop} {v1 : Value} {r1 : List Row} (hs : RowSrc w Z v1 r1) (hl : r1.length ≤ 1000) :
    ∃ q1 : List RowC, q1.map (·.r) = r1 ∧ RowLabs w Z q1 ∧ ∀ X, Kept w X → ∃ v X', Hid ((Builtin.append_ #[34, 34] 0 #[.slice none 0 0, v1]).run Try.prog X = .ok v X') ∧ RowAt X' w.heap.size v q1 ∧ Kept X X' ∧ (∀ g, v.ownBlock = some g → X.heap.size ≤ g) := by
  obtain ⟨q1, e1, hq1, hc1⟩ := row_list hs
  have hl1 : q1.length ≤ 1000 := by rw [← e1, List.length_map] at hl; exact hl
  refine ⟨q1, e1, hq1, fun X k => ?_⟩
  obtain ⟨v, X', hr, h1, h2, h3⟩ := row_append (w := X) (B := X.heap.size) (v := .slice none 0 0) (l := []) ⟨rfl, .inl ⟨rfl, rfl⟩⟩ (hc1.stay k) (hq1.stay k) (by simp; omega) (Nat.le_refl _)
  rw [List.nil_append] at h1
  exact ⟨v, X', hr, ownN_base h1 k.size, (Only.refl _ X).grown h2 (fun j hj => by cases hj), fun g hg => (ownN_lt h1 hg).1⟩
theorem bad_tail {w : World} {Z : Nat → Prop} {rs : List Row} {k : Nat} {q1 : List RowC} (e1 : q1.map (·.r) = rs.take k) (hq1 : RowLabs w Z q1) {v2 : Value} (hs2 : RowSrc w Z v2 (rs.drop k)) (hl : rs.length ≤ 1000) {X : World} {v : Value} {bl br : Nat} (hP : BadP w X v bl br q1) :
    ∃ v4 X4 v5 X5, Hid ((Builtin.append_ #[34, 34] 0 #[v, .slice (some ⟨br, 0, none⟩) 1 1]).run Try.prog X = .ok v4 X4) ∧ Hid ((Builtin.append_ #[34, 34] 0 #[v4, v2]).run Try.prog X4 = .ok v5 X5) ∧ Hid (BadD w Z rs k v5 X5) := by
  obtain ⟨q2, e2, hq2, hc2⟩ := row_list hs2
  have hl1 : q1.length ≤ 1000 := by
    have : (q1.map (·.r)).length = (rs.take k).length := by rw [e1]
    rw [List.length_map, List.length_take] at this
    omega
  have hl2 : q2.length ≤ 1000 := by
    have : (q2.map (·.r)).length = (rs.drop k).length := by rw [e2]
    rw [List.length_map, List.length_drop] at this
    omega
  let q : RowC := ⟨.slice (some ⟨bl, 0, none⟩) 1 1, badR⟩
  have hlab : LabSrc X q.lv badL := .inr ⟨by simp, bl, 0, 1, rfl, fun i hi => by
    have : i = 0 := by simpa using hi
    subst this
    exact ⟨hP.lab.cell 0 rfl, hP.lab.cell 1 rfl⟩⟩
  have hqL : RowLabs X (fun j => Z j ∨ w.heap.size ≤ j) [q] := fun x hx => by
    rw [List.mem_singleton.1 hx]
    exact ⟨hlab, fun a n c e _ => by cases e; exact .inr hP.hbl⟩
  have hcell : RowCells X (.slice (some ⟨br, 0, none⟩) 1 1) [q] := .inr ⟨br, 0, 1, rfl, fun i hi => by
    have : i = 0 := by simpa using hi
    subst this
    exact ⟨hP.row.cell 0 rfl, hP.row.cell 1 rfl, hP.row.cell 2 rfl⟩⟩
  obtain ⟨v4, X4, r4, h4, g4, o4⟩ := row_append hP.own hcell hqL (by simp; omega) hP.kept.size
  have k4 : Kept w X4 := hP.kept.grown g4 (fun j hj hlt => by have := (ownN_lt hP.own hj).1; omega)
  obtain ⟨v5, X5, r5, h5, g5, o5⟩ := row_append h4 (hc2.stay k4) (hq2.stay k4) (by simp; omega) k4.size
  have k5 : Kept w X5 := k4.grown g5 (fun j hj hlt => by have := (ownN_lt h4 hj).1; omega)
  have O4 : Only (fun j => v.ownBlock = some j) X X4 := (Only.refl _ X).grown g4 (fun j e _ => e)
  have O5 : Only (fun j => v4.ownBlock = some j) X4 X5 := (Only.refl _ X4).grown g5 (fun j e _ => e)
  have hlab5 : LabSrc X5 q.lv badL := by
    have hn : ¬ v.ownBlock = some bl := fun e => hP.lab.typed.ne (ownN_typed hP.own e) (by decide) rfl
    have hlt : bl < X.heap.size := World.block_lt_of_cell? X _ (hP.lab.cell 0 rfl)
    have hn2 : ¬ v4.ownBlock = some bl := fun e => by
      rcases o4 with h | h
      · rw [h] at e; exact hn e
      · rw [h] at e
        simp only [Option.some.injEq] at e
        omega
    exact LabSrc.only (LabSrc.only hlab O4 (fun a n c e _ => by cases e; exact hn)) O5 (fun a n c e _ => by cases e; exact hn2)
  refine ⟨v4, X4, v5, X5, r4, r5, ?_, k5⟩
  have hall : RowLabs X5 (fun j => Z j ∨ w.heap.size ≤ j) (q1 ++ [q] ++ q2) := fun x hx => by
    rcases List.mem_append.1 hx with hx | hx
    · rcases List.mem_append.1 hx with hx | hx
      · exact ((hq1.stay k5).weak (fun _ h => .inl h)) x hx
      · rw [List.mem_singleton.1 hx]
        exact ⟨hlab5, fun a n c e _ => by cases e; exact .inr hP.hbl⟩
    · exact ((hq2.stay k5).weak (fun _ h => .inl h)) x hx
  have := RowAt.src h5 hall (fun j h => .inr h)
  rw [List.map_append, List.map_append, e1, e2] at this
  simpa [q] using this
end Go.Proofs.Ytoagncilbaaefaa.Hd
