/-
  The document's own head, first part.
-/
import Derived.Test.YtnbfbnhiikliaaaGreatHopen2
import Derived.Test.YtnbfbnhiikliaaaGreatHlaw2
import Derived.Test.YtnbfbnhiikliaaaGreatHgather
import Derived.Test.YtnbfbnhiikliaaaGreatNrmake
import Derived.BigQuiet
import Derived.Test.YtnbfbnhiikliaaaGreatLcut13
import Derived.Test.YtnbfbnhiikliaaaGreatHclone

/-
  Rows that a law cuts and joins; two operations of a region that may come up in either order.
-/
namespace Go.Proofs.Lys
open Go Go.RowKit
section
variable {P : Program} {ops : Array Oper} {Q : Exit → Act → World → Prop} {md : Region.Mode} {S : World → Prop} {L : Nat}
/-- Two may come up. -/
theorem wpAnyL_two {i j : Nat} {oi oj : Oper} {fuel : Nat} {listed : Array Bool} {a : Act} {w : World} (hr : Region.ready md ops listed = [i, j]) (hoi : ops[i]? = some oi) (hoj : ops[j]? = some oj) (hwi : Region.wanted oi (yielded ops a.tmps) = true) (hwj : Region.wanted oj (yielded ops a.tmps) = true)
    (h1 : Oper.wp P oi a w (fun a' w' => S w' ∧ wpAnyL P md ops Q S L fuel (listed.setIfInBounds i true) a' w') Q)
    (h2 : Oper.wp P oj a w (fun a' w' => S w' ∧ wpAnyL P md ops Q S L fuel (listed.setIfInBounds j true) a' w') Q) : wpAnyL P md ops Q S L (fuel + 1) listed a w := by
  refine ⟨fun h0 => (by rw [hr] at h0; cases h0), fun q hq => ?_⟩
  rw [hr] at hq
  have e : q = i ∨ q = j := by simpa using hq
  rcases e with rfl | rfl
  · refine wpOp_step hoi (fun K hK => ?_)
    rw [if_pos hwi]
    exact Oper.wp_mono (fun a' w' h' => hK a' w' ⟨fun _ => h'.1, h'.2⟩) h1
  · refine wpOp_step hoj (fun K hK => ?_)
    rw [if_pos hwj]
    exact Oper.wp_mono (fun a' w' h' => hK a' w' ⟨fun _ => h'.1, h'.2⟩) h2
end
/-- A region whose ways meet again: what it leaves is told once. -/
theorem wp_region_then {P : Program} {id : Nat} {ops : Array Oper} {b : Bool} {Q : Exit → Act → World → Prop} {a : Act} {w : World} {A : Nat → Nat → Value → Value → Value → Act} (D : Value → World → Prop)
    (h1 : (Code.region id ops b).wp P (fun e a' w' => e = .normal ∧ ∃ bl br v3 v4 v5, a' = A bl br v3 v4 v5 ∧ D v5 w') a w) (h2 : ∀ bl br v3 v4 v5 w', D v5 w' → Q .normal (A bl br v3 v4 v5) w') : (Code.region id ops b).wp P Q a w :=
  Code.wp_mono (fun e a' w' h => by obtain ⟨rfl, bl, br, v3, v4, v5, rfl, hD⟩ := h; exact h2 bl br v3 v4 v5 w' hD) h1
theorem oper_appendH {P : Program} {w : World} {o : Oper} {a : Act} {K : Act → World → Prop} {Q : Exit → Act → World → Prop} (s x : Operand) (t : TypeId)
    (ho : o.op = .call { callee := .builtin .append, args := #[s, x], argTypes := #[t, t] }) {sv xv : Value} (hs : a.eval s = sv) (hx : a.eval x = xv) {v : Value} {w' : World}
    (hrun : Hid ((Builtin.append_ #[t, t] 0 #[sv, xv]).run P w = .ok v w')) (h : K (a.put o.dst v) w') : Oper.wp P o a w K Q := by
  have hr : (Builtin.append_ #[t, t] o.type #[sv, xv]).run P w = .ok v w' := hrun.out
  unfold Oper.wp execOp
  simp only [ho, resolve, invoke, builtin, Sem.run_bind, Sem.run_pure, Result.andThen_ok, List.map_toArray, List.map_cons, List.map_nil, hs, hx, hr]
  exact h
end Go.Proofs.Lys
namespace Go.Proofs.YtnbfbnhiikliaaaGreat.Hd
open Go Go.RowKit Go.Proofs.Lys Go.Proofs.YtnbfbnhiikliaaaGreat.N
set_option linter.unusedVariables false
set_option linter.unusedSimpArgs false

/-- Rows that came in, and their room. -/
structure RowsCap (w : World) (v : Value) (rs : List Row) : Prop where
  in_ : RowsIn w v rs
  cap : ∃ a c, v = .slice a rs.length c ∧ rs.length ≤ c
section
variable {H : Type} {enc : TypeId × Value → H} {w : World} {spare : Nat → Bool} {held : Bool} {base fuel : Nat}
theorem open_rowsC {a0 : Option Addr} {len0 cap0 : Nat} {x : DataW H × List MemPlace}
    (h : ∃ m, DataW.trod enc Tryz.prog w base spare held m 26 (Value.slice a0 len0 cap0).cells.toList = some x) (hz : ∀ n ∈ x.1.weights Tryz.prog 26, n ≤ reachBytes) : ∃ l : List Row, RowsCap w (.slice a0 len0 cap0) l := by
  have hc : len0 ≤ cap0 := by
    obtain ⟨fuel, hf⟩ := h
    rcases Deep.open_slice Tryz.underlying26 hf with ⟨hcs, _⟩ | ⟨a, len, cap, m, n, D, Pl, hcs, _, hl, _⟩
    · simp [Value.cells] at hcs
      omega
    · simp [Value.cells] at hcs
      omega
  obtain ⟨l, hl⟩ := open_rows h hz
  obtain ⟨a, c, e⟩ := hl.src.len
  refine ⟨l, hl, a, c, e, ?_⟩
  simp only [Value.slice.injEq] at e
  omega
end

/-- A part of the rows. -/
theorem row_part {w : World} {Z : Nat → Prop} {a : Option Addr} {c : Nat} {rs : List Row} (hs : RowSrc w Z (.slice a rs.length c) rs) (hc : rs.length ≤ c) {lo hi : Nat} (h1 : lo ≤ hi) (h2 : hi ≤ rs.length) :
    RowSrc w Z (.slice (if c = lo then a else a.map (·.add (lo * 3))) (hi - lo) (c - lo)) ((rs.take hi).drop lo) := by
  have hlen : ((rs.take hi).drop lo).length = hi - lo := by rw [List.length_drop, List.length_take]; omega
  by_cases h0 : hi - lo = 0
  · have hn : (rs.take hi).drop lo = [] := List.length_eq_zero_iff.1 (by rw [hlen]; exact h0)
    rw [hn, h0]
    exact .inl ⟨_, _, rfl, rfl⟩
  · rcases hs with ⟨x, y, hv, hn⟩ | ⟨hp, b, o, c2, hv, hZ, hcell⟩
    · rw [hn] at h2
      simp at h2
      omega
    · simp only [Value.slice.injEq] at hv
      obtain ⟨rfl, _, rfl⟩ := hv
      rw [if_neg (by omega)]
      refine .inr ⟨by rw [hlen]; omega, b, o + lo * 3, c - lo, by rw [hlen, Option.map_some, add_none], hZ, fun i hi' => ?_⟩
      rw [hlen] at hi'
      have := hcell (lo + i) (by omega)
      have e5 : ((rs.take hi).drop lo)[i]'(by rw [hlen]; exact hi') = rs[lo + i]'(by omega) := by
        rw [List.getElem_drop, List.getElem_take]
      rw [e5, show o + lo * 3 + i * 3 = o + (lo + i) * 3 by omega]
      exact this
theorem Tryz.sizeRow (W : World) : (sizeOf 40).run Tryz.prog W = .ok 3 W := by kernel_rfl
theorem row_sub {w : World} {Z : Nat → Prop} {a : Option Addr} {c : Nat} {rs : List Row} (hs : RowSrc w Z (.slice a rs.length c) rs) (hc : rs.length ≤ c) {lo hi : Nat} (h1 : lo ≤ hi) (h2 : hi ≤ rs.length) :
    ∃ a' c', (∀ W, (Instr.sliceAt 26 (.slice a rs.length c) (some (.int .i64 (lo : Int))) (some (.int .i64 (hi : Int))) none).run Tryz.prog W = .ok (.slice a' (hi - lo) c') W) ∧ RowSrc w Z (.slice a' (hi - lo) c') ((rs.take hi).drop lo) := by
  have e2 : hi ≤ c := by omega
  refine ⟨_, _, fun W => ?_, row_part hs hc h1 h2⟩
  simp [Instr.sliceAt, Instr.slice, Instr.sliceBounds, Instr.sliceBound, run_underlying Tryz.underlying26, asIntOf, h1, e2, Tryz.sizeRow, Result.andThen]
theorem row_to {w : World} {Z : Nat → Prop} {a : Option Addr} {c : Nat} {rs : List Row} (hs : RowSrc w Z (.slice a rs.length c) rs) (hc : rs.length ≤ c) {hi : Nat} (h2 : hi ≤ rs.length) :
    ∃ a' c', (∀ W, (Instr.sliceAt 26 (.slice a rs.length c) none (some (.int .i64 (hi : Int))) none).run Tryz.prog W = .ok (.slice a' hi c') W) ∧ RowSrc w Z (.slice a' hi c') (rs.take hi) := by
  have e2 : hi ≤ c := by omega
  refine ⟨_, _, fun W => ?_, by have := row_part hs hc (Nat.zero_le hi) h2; simpa using this⟩
  simp [Instr.sliceAt, Instr.slice, Instr.sliceBounds, Instr.sliceBound, run_underlying Tryz.underlying26, asIntOf, e2, Tryz.sizeRow, Result.andThen]
theorem row_from {w : World} {Z : Nat → Prop} {a : Option Addr} {c : Nat} {rs : List Row} (hs : RowSrc w Z (.slice a rs.length c) rs) (hc : rs.length ≤ c) {lo : Nat} (h2 : lo ≤ rs.length) :
    ∃ a' c', (∀ W, (Instr.sliceAt 26 (.slice a rs.length c) (some (.int .i64 (lo : Int))) none none).run Tryz.prog W = .ok (.slice a' (rs.length - lo) c') W) ∧ RowSrc w Z (.slice a' (rs.length - lo) c') (rs.drop lo) := by
  refine ⟨_, _, fun W => ?_, by have := row_part hs hc h2 (Nat.le_refl _); rw [List.take_length] at this; exact this⟩
  simp [Instr.sliceAt, Instr.slice, Instr.sliceBounds, Instr.sliceBound, run_underlying Tryz.underlying26, asIntOf, h2, hc, Tryz.sizeRow, Result.andThen]

/-! ### Rows of cells -/
def rowL : List RowC → List Value
  | [] => []
  | q :: r => q.lv :: .int .i64 q.r.2.1 :: .int .i64 q.r.2.2 :: rowL r
theorem rowL_len (l : List RowC) : (rowL l).length = l.length * 3 := by
  induction l with
  | nil => rfl
  | cons p l ih => simp only [rowL, List.length_cons, ih]; omega
theorem rowL_app (l r : List RowC) : rowL (l ++ r) = rowL l ++ rowL r := by
  induction l with
  | nil => rfl
  | cons p l ih => rw [List.cons_append, rowL, ih, rowL]; rfl
theorem rowL_at (l : List RowC) (i : Nat) (h : i < l.length) : (rowL l)[i * 3]? = some l[i].lv ∧ (rowL l)[i * 3 + 1]? = some (.int .i64 l[i].r.2.1) ∧ (rowL l)[i * 3 + 2]? = some (.int .i64 l[i].r.2.2) := by
  induction l generalizing i with
  | nil => simp at h
  | cons p r ih =>
    cases i with
    | zero => exact ⟨rfl, rfl, rfl⟩
    | succ i =>
      have := ih i (by simpa using h)
      rw [show (i + 1) * 3 = i * 3 + 3 by omega]
      exact this
theorem Tryz.infoRow : (Tryz.prog.info? 40).map (fun i => (i.zero, i.size, i.bytes)) = some (some (.agg #[.slice none 0 0, .int .i64 0, .int .i64 0]), 3, 40) := by kernel_rfl
/-- Rows that a slice reads, cell by cell. -/
def RowCells (w : World) (v : Value) (qs : List RowC) : Prop :=
  (∃ a c, v = .slice a 0 c ∧ qs = []) ∨ ∃ b o c, v = .slice (some ⟨b, o, none⟩) qs.length c ∧ ∀ i (hi : i < qs.length), w.cell? ⟨b, o + i * 3, none⟩ = some qs[i].lv ∧ w.cell? ⟨b, o + i * 3 + 1, none⟩ = some (.int .i64 qs[i].r.2.1) ∧ w.cell? ⟨b, o + i * 3 + 2, none⟩ = some (.int .i64 qs[i].r.2.2)
/-- Each row's labels are there. -/
def RowLabs (w : World) (Z : Nat → Prop) (qs : List RowC) : Prop := ∀ q ∈ qs, LabSrc w q.lv q.r.1 ∧ InZ Z q.lv
theorem labsrc_slice {w : World} {v : Value} {l : Labs} (h : LabSrc w v l) : ∃ a n c, v = .slice a n c := by
  rcases h with ⟨a, c, rfl, _⟩ | ⟨_, b, o, c, rfl, _⟩
  · exact ⟨_, _, _, rfl⟩
  · exact ⟨_, _, _, rfl⟩
theorem rowL_one {w : World} {Z : Nat → Prop} {qs : List RowC} (h : RowLabs w Z qs) : ∀ u ∈ rowL qs, u.oneCell' = true := by
  induction qs with
  | nil => intro u hu; cases hu
  | cons p r ih =>
    intro u hu
    rw [rowL] at hu
    simp only [List.mem_cons] at hu
    rcases hu with rfl | rfl | rfl | hu
    · obtain ⟨a, n, c, e⟩ := labsrc_slice (h p (List.mem_cons_self ..)).1
      rw [e]; rfl
    · rfl
    · rfl
    · exact ih (fun q hq => h q (List.mem_cons_of_mem _ hq)) u hu
theorem row_list {w : World} {Z : Nat → Prop} {v : Value} {rs : List Row} (h : RowSrc w Z v rs) : ∃ qs : List RowC, qs.map (·.r) = rs ∧ RowLabs w Z qs ∧ RowCells w v qs := by
  rcases h with ⟨a, c, rfl, rfl⟩ | ⟨hp, b, o, c, rfl, hZ, hc⟩
  · exact ⟨[], rfl, fun q hq => (by cases hq), .inl ⟨a, c, rfl, rfl⟩⟩
  · have hinh : Inhabited Value := ⟨.slice none 0 0⟩
    have hget : ∀ i (hi : i < rs.length), rs.getD i ([], (0, 0)) = rs[i] := fun i hi => by simp [hi]
    have hc' : ∀ i, i < rs.length → ∃ lv, w.cell? ⟨b, o + i * 3, none⟩ = some lv ∧ w.cell? ⟨b, o + i * 3 + 1, none⟩ = some (.int .i64 (rs.getD i ([], (0, 0))).2.1) ∧ w.cell? ⟨b, o + i * 3 + 2, none⟩ = some (.int .i64 (rs.getD i ([], (0, 0))).2.2) ∧ LabSrc w lv (rs.getD i ([], (0, 0))).1 ∧ InZ Z lv := fun i hi => by rw [hget i hi]; exact hc i hi
    obtain ⟨f, hf⟩ := Deep.choose_lt hc'
    have hll : ((List.range rs.length).map (fun i => (⟨f i, rs.getD i ([], (0, 0))⟩ : RowC))).length = rs.length := by simp
    refine ⟨(List.range rs.length).map (fun i => ⟨f i, rs.getD i ([], (0, 0))⟩), ?_, fun q hq => ?_, .inr ⟨b, o, c, by rw [hll], fun i hi => ?_⟩⟩
    · refine List.ext_getElem (by simp) (fun i h1 h2 => ?_)
      simp [h2]
    · obtain ⟨i, hi, rfl⟩ := List.mem_map.1 hq
      have hi' : i < rs.length := List.mem_range.1 hi
      have := hf i hi'
      exact ⟨this.2.2.2.1, this.2.2.2.2⟩
    · have hi' : i < rs.length := by rw [hll] at hi; exact hi
      have := hf i hi'
      simp only [List.getElem_map, List.getElem_range]
      exact ⟨this.1, this.2.1, this.2.2.1⟩
/-- Rows that are owned. -/
abbrev RowAt (w : World) (B : Nat) (v : Value) (qs : List RowC) : Prop := w.ownsRow B 40 3 v qs.length (rowL qs)
theorem RowAt.src {w : World} {B : Nat} {Z : Nat → Prop} {v : Value} {qs : List RowC} (h : RowAt w B v qs) (hl : RowLabs w Z qs) (hZ : ∀ j, B ≤ j → Z j) : RowSrc w Z v (qs.map (·.r)) := by
  have hll : (qs.map (·.r)).length = qs.length := List.length_map _
  by_cases h0 : qs.length = 0
  · have : qs = [] := List.length_eq_zero_iff.1 h0
    subst this
    obtain ⟨a, c, rfl⟩ := ownN_slice h
    exact .inl ⟨a, c, rfl, rfl⟩
  · obtain ⟨g, cap, rfl⟩ := ownN_some h (by omega)
    refine .inr ⟨by omega, g, 0, cap, by rw [hll], hZ g (ownN_lt h rfl).1, fun i hi => ?_⟩
    rw [hll] at hi
    have hx := rowL_at qs i hi
    have hq := hl _ (List.getElem_mem hi)
    rw [Nat.zero_add]
    simp only [List.getElem_map]
    exact ⟨_, by rw [h.cellAt (i * 3) (by omega)]; exact hx.1, by rw [h.cellAt (i * 3 + 1) (by omega)]; exact hx.2.1, by rw [h.cellAt (i * 3 + 2) (by omega)]; exact hx.2.2, hq.1, hq.2⟩
theorem row_append {w : World} {B : Nat} {Z : Nat → Prop} {v xv : Value} {l q : List RowC} (hown : RowAt w B v l) (hsrc : RowCells w xv q) (hq : RowLabs w Z q) (hl : l.length + q.length ≤ 1000000) (hB : B ≤ w.heap.size) :
    ∃ v' w', (Builtin.append_ #[26, 26] 0 #[v, xv]).run Tryz.prog w = .ok v' w' ∧ RowAt w' B v' (l ++ q) ∧ w.grownBy w' v.ownBlock ∧ (v'.ownBlock = v.ownBlock ∨ v'.ownBlock = some w.heap.size) := by
  obtain ⟨i0, hi0, hz0, hz1, hz2⟩ := info_parts Tryz.infoRow
  have hm : l.length + q.length ≤ maxLen := by unfold maxLen; omega
  have ht := Tryz.underlying26
  have hll : (l ++ q).length = l.length + q.length := List.length_append
  have main : ∀ (a : Addr) (c : Nat), xv = .slice (some a) q.length c → (∀ j u, (rowL q)[j]? = some u → w.cell? (a.add j) = some u) → ∃ v' w', (Builtin.append_ #[26, 26] 0 #[v, xv]).run Tryz.prog w = .ok v' w' ∧ RowAt w' B v' (l ++ q) ∧ w.grownBy w' v.ownBlock ∧ (v'.ownBlock = v.ownBlock ∨ v'.ownBlock = some w.heap.size) := by
    intro a c e hc
    subst e
    obtain ⟨v', w', hr, h2, h3, _, h5⟩ := run_append_own_at (P := Tryz.prog) w B _ 0 _ i0 _ 3 40 ht hi0 hz0 hz1 hz2 rfl (by decide) v l.length (rowL l) hown a q.length c (rowL q) (rowL_len q)
      hc (rowL_one hq) hm (by omega) hB
    refine ⟨v', w', hr, ?_, h3, h5⟩
    unfold RowAt
    rw [hll, rowL_app]
    exact h2
  rcases hsrc with ⟨a, c, rfl, rfl⟩ | ⟨b, o, c, rfl, hc⟩
  · cases a with
    | none =>
      refine ⟨v, w, ?_, by rw [List.append_nil]; exact hown, World.grownBy.refl _ _, .inl rfl⟩
      rcases hown.2 with ⟨rfl, h0⟩ | ⟨g, cap, cur, rfl, hbg, hg, hnc, hcm, hcs, htake⟩
      · simp [Builtin.append_, run_underlying ht, sizeOf, typeInfo, hi0, Builtin.lenOf, Builtin.firstCells]
      · simp [Builtin.append_, run_underlying ht, sizeOf, typeInfo, hi0, Builtin.lenOf, Builtin.firstCells, hnc, storeCells]
    | some a => exact main a c rfl (fun j u hu => by simp [rowL] at hu)
  · refine main _ c rfl (fun j u hu => ?_)
    rw [add_none]
    have hj : j < (rowL q).length := (List.getElem?_eq_some_iff.1 hu).1
    rw [rowL_len] at hj
    have hx := rowL_at q (j / 3) (by omega)
    have hcc := hc (j / 3) (by omega)
    have h3 : j % 3 = 0 ∨ j % 3 = 1 ∨ j % 3 = 2 := by omega
    rcases h3 with hp | hp | hp
    · have ej : j = j / 3 * 3 := by omega
      rw [ej] at hu ⊢
      rw [hx.1] at hu
      cases hu
      exact hcc.1
    · have ej : j = j / 3 * 3 + 1 := by omega
      rw [ej] at hu ⊢
      rw [hx.2.1] at hu
      cases hu
      rw [← Nat.add_assoc]
      exact hcc.2.1
    · have ej : j = j / 3 * 3 + 2 := by omega
      rw [ej] at hu ⊢
      rw [hx.2.2] at hu
      cases hu
      rw [← Nat.add_assoc]
      exact hcc.2.2

/-! ### The batch with a bad row -/
abbrev badL : Labs := [(⟨#[]⟩, ⟨#[]⟩)]
abbrev badR : Row := (badL, (0, 0))
theorem bad_make : makeL badL = none := by decide +kernel
theorem RowLabs.stay {w W : World} {Z : Nat → Prop} {qs : List RowC} (h : RowLabs w Z qs) (k : Kept w W) : RowLabs W Z qs := fun q hq => ⟨(h q hq).1.stay k, (h q hq).2⟩
theorem RowLabs.weak {w : World} {Z Z' : Nat → Prop} {qs : List RowC} (h : RowLabs w Z qs) (hz : ∀ j, Z j → Z' j) : RowLabs w Z' qs := fun q hq => ⟨(h q hq).1, fun a n c e hn => hz _ ((h q hq).2 a n c e hn)⟩
theorem RowCells.stay {w W : World} {v : Value} {qs : List RowC} (h : RowCells w v qs) (k : Kept w W) : RowCells W v qs := by
  rcases h with h | ⟨b, o, c, e, hc⟩
  · exact .inl h
  · exact .inr ⟨b, o, c, e, fun i hi => ⟨only_cell k (fun f => f) (hc i hi).1, only_cell k (fun f => f) (hc i hi).2.1, only_cell k (fun f => f) (hc i hi).2.2⟩⟩
theorem RowLabs.take {w : World} {Z : Nat → Prop} {qs : List RowC} (h : RowLabs w Z qs) (k : Nat) : RowLabs w Z (qs.take k) := fun q hq => h q (List.mem_of_mem_take hq)
/-- What stands when all parts of the batch lie there. -/
structure BadP (w X : World) (v : Value) (bl br : Nat) (q1 : List RowC) : Prop where
  own : RowAt X w.heap.size v q1
  kept : Kept w X
  lab : Blk X bl [.string ⟨#[]⟩, .string ⟨#[]⟩] 46
  row : Blk X br [.slice (some ⟨bl, 0, none⟩) 1 1, .int .i64 0, .int .i64 0] 40
  hbl : w.heap.size ≤ bl
/-- The batch. -/
def BadD (w : World) (Z : Nat → Prop) (rs : List Row) (k : Nat) (v : Value) (X : World) : Prop := RowSrc X (fun j => Z j ∨ w.heap.size ≤ j) v (rs.take k ++ badR :: rs.drop k) ∧ Kept w X
theorem bad_copy {w : World} {Z : Nat → Prop} {v1 : Value} {r1 : List Row} (hs : RowSrc w Z v1 r1) (hl : r1.length ≤ 1000) :
    ∃ q1 : List RowC, q1.map (·.r) = r1 ∧ RowLabs w Z q1 ∧ ∀ X, Kept w X → ∃ v X', Hid ((Builtin.append_ #[26, 26] 0 #[.slice none 0 0, v1]).run Tryz.prog X = .ok v X') ∧ RowAt X' w.heap.size v q1 ∧ Kept X X' ∧ (∀ g, v.ownBlock = some g → X.heap.size ≤ g) := by
  obtain ⟨q1, e1, hq1, hc1⟩ := row_list hs
  have hl1 : q1.length ≤ 1000 := by rw [← e1, List.length_map] at hl; exact hl
  refine ⟨q1, e1, hq1, fun X k => ?_⟩
  obtain ⟨v, X', hr, h1, h2, h3⟩ := row_append (w := X) (B := X.heap.size) (v := .slice none 0 0) (l := []) ⟨rfl, .inl ⟨rfl, rfl⟩⟩ (hc1.stay k) (hq1.stay k) (by simp; omega) (Nat.le_refl _)
  rw [List.nil_append] at h1
  exact ⟨v, X', hr, ownN_base h1 k.size, (Only.refl _ X).grown h2 (fun j hj => by cases hj), fun g hg => (ownN_lt h1 hg).1⟩
theorem bad_tail {w : World} {Z : Nat → Prop} {rs : List Row} {k : Nat} {q1 : List RowC} (e1 : q1.map (·.r) = rs.take k) (hq1 : RowLabs w Z q1) {v2 : Value} (hs2 : RowSrc w Z v2 (rs.drop k)) (hl : rs.length ≤ 1000) {X : World} {v : Value} {bl br : Nat} (hP : BadP w X v bl br q1) :
    ∃ v4 X4 v5 X5, Hid ((Builtin.append_ #[26, 26] 0 #[v, .slice (some ⟨br, 0, none⟩) 1 1]).run Tryz.prog X = .ok v4 X4) ∧ Hid ((Builtin.append_ #[26, 26] 0 #[v4, v2]).run Tryz.prog X4 = .ok v5 X5) ∧ Hid (BadD w Z rs k v5 X5) := by
  obtain ⟨q2, e2, hq2, hc2⟩ := row_list hs2
  have hl1 : q1.length ≤ 1000 := by
    have : (q1.map (·.r)).length = (rs.take k).length := by rw [e1]
    rw [List.length_map, List.length_take] at this
    omega
  have hl2 : q2.length ≤ 1000 := by
    have : (q2.map (·.r)).length = (rs.drop k).length := by rw [e2]
    rw [List.length_map, List.length_drop] at this
    omega
  let q : RowC := ⟨.slice (some ⟨bl, 0, none⟩) 1 1, badR⟩
  have hlab : LabSrc X q.lv badL := .inr ⟨by simp, bl, 0, 1, rfl, fun i hi => by
    have : i = 0 := by simpa using hi
    subst this
    exact ⟨hP.lab.cell 0 rfl, hP.lab.cell 1 rfl⟩⟩
  have hqL : RowLabs X (fun j => Z j ∨ w.heap.size ≤ j) [q] := fun x hx => by
    rw [List.mem_singleton.1 hx]
    exact ⟨hlab, fun a n c e _ => by cases e; exact .inr hP.hbl⟩
  have hcell : RowCells X (.slice (some ⟨br, 0, none⟩) 1 1) [q] := .inr ⟨br, 0, 1, rfl, fun i hi => by
    have : i = 0 := by simpa using hi
    subst this
    exact ⟨hP.row.cell 0 rfl, hP.row.cell 1 rfl, hP.row.cell 2 rfl⟩⟩
  obtain ⟨v4, X4, r4, h4, g4, o4⟩ := row_append hP.own hcell hqL (by simp; omega) hP.kept.size
  have k4 : Kept w X4 := hP.kept.grown g4 (fun j hj hlt => by have := (ownN_lt hP.own hj).1; omega)
  obtain ⟨v5, X5, r5, h5, g5, o5⟩ := row_append h4 (hc2.stay k4) (hq2.stay k4) (by simp; omega) k4.size
  have k5 : Kept w X5 := k4.grown g5 (fun j hj hlt => by have := (ownN_lt h4 hj).1; omega)
  have O4 : Only (fun j => v.ownBlock = some j) X X4 := (Only.refl _ X).grown g4 (fun j e _ => e)
  have O5 : Only (fun j => v4.ownBlock = some j) X4 X5 := (Only.refl _ X4).grown g5 (fun j e _ => e)
  have hlab5 : LabSrc X5 q.lv badL := by
    have hn : ¬ v.ownBlock = some bl := fun e => hP.lab.typed.ne (ownN_typed hP.own e) (by decide) rfl
    have hlt : bl < X.heap.size := World.block_lt_of_cell? X _ (hP.lab.cell 0 rfl)
    have hn2 : ¬ v4.ownBlock = some bl := fun e => by
      rcases o4 with h | h
      · rw [h] at e; exact hn e
      · rw [h] at e
        simp only [Option.some.injEq] at e
        omega
    exact LabSrc.only (LabSrc.only hlab O4 (fun a n c e _ => by cases e; exact hn)) O5 (fun a n c e _ => by cases e; exact hn2)
  refine ⟨v4, X4, v5, X5, r4, r5, ?_, k5⟩
  have hall : RowLabs X5 (fun j => Z j ∨ w.heap.size ≤ j) (q1 ++ [q] ++ q2) := fun x hx => by
    rcases List.mem_append.1 hx with hx | hx
    · rcases List.mem_append.1 hx with hx | hx
      · exact ((hq1.stay k5).weak (fun _ h => .inl h)) x hx
      · rw [List.mem_singleton.1 hx]
        exact ⟨hlab5, fun a n c e _ => by cases e; exact .inr hP.hbl⟩
    · exact ((hq2.stay k5).weak (fun _ h => .inl h)) x hx
  have := RowAt.src h5 hall (fun j h => .inr h)
  rw [List.map_append, List.map_append, e1, e2] at this
  simpa [q] using this
end Go.Proofs.YtnbfbnhiikliaaaGreat.Hd

/-
  The document's own head: New, and where a series stands.
-/
namespace Go.Proofs.YtnbfbnhiikliaaaGreat.Hd
open Go.RowKit Go.Proofs.Lys Go.Maps Go.Proofs.YtnbfbnhiikliaaaGreat.N
set_option linter.unusedVariables false
set_option linter.unusedSimpArgs false

/-- A series whose labels and samples are read. -/
structure SvR (w : World) (Z : Nat → Prop) (q : SV) : Prop where
  lab : LabSrc w q.lv q.labs
  smp : SmpSrc w q.sv q.smps
  zl : InZ Z q.lv
  zs : InZ Z q.sv
  cap : ∃ a c, q.sv = .slice a q.smps.length c ∧ q.smps.length ≤ c
theorem SmpSrc.only {w W : World} {O : Nat → Prop} {v : Value} {l : Smps} (h : SmpSrc w v l) (k : Only O w W) (hO : InZ (fun j => ¬ O j) v) : SmpSrc W v l := by
  rcases h with h | ⟨h0, b, o, c, rfl, hc⟩
  · exact .inl h
  · have hb : ¬ O b := hO _ _ _ rfl (by omega)
    exact .inr ⟨h0, b, o, c, rfl, fun i hi => ⟨only_cell k hb (hc i hi).1, only_cell k hb (hc i hi).2⟩⟩
theorem SvR.only {w W : World} {O Z : Nat → Prop} {q : SV} (h : SvR w Z q) (k : Only O w W) (hO : ∀ j, Z j → ¬ O j) : SvR W Z q :=
  ⟨LabSrc.only h.lab k (fun a n c e hn => hO _ (h.zl a n c e hn)), SmpSrc.only h.smp k (fun a n c e hn => hO _ (h.zs a n c e hn)), h.zl, h.zs, h.cap⟩
theorem SvR.stay {w W : World} {Z : Nat → Prop} {q : SV} (h : SvR w Z q) (k : Kept w W) : SvR W Z q := h.only k (fun _ _ f => f)
theorem SvR.weak {w : World} {Z Z' : Nat → Prop} {q : SV} (h : SvR w Z q) (hz : ∀ j, Z j → Z' j) : SvR w Z' q :=
  ⟨h.lab, h.smp, fun a n c e hn => hz _ (h.zl a n c e hn), fun a n c e hn => hz _ (h.zs a n c e hn), h.cap⟩
theorem smpAt_cap {w : World} {B : Nat} {v : Value} {l : Smps} (h : SmpAt w B v l) : ∃ a c, v = .slice a l.length c ∧ l.length ≤ c := by
  rcases h.2 with ⟨rfl, h0⟩ | ⟨g, cap, cur, rfl, _, _, hnc, _⟩
  · exact ⟨none, 0, by rw [h0], by omega⟩
  · exact ⟨_, cap, rfl, hnc⟩
/-- The document's own head: its block, its row of series, what it reads. -/
structure RefAt (w : World) (Z : Nat → Prop) (B rb : Nat) (win : Int) (v : Value) (qs : List SV) : Prop where
  blk : Blk w rb [.int .i64 win, v] 67
  row : w.ownsRow B 56 2 v qs.length (svL qs)
  read : ∀ q ∈ qs, SvR w Z q
  ne : ¬ Z rb ∧ ∀ j, v.ownBlock = some j → ¬ Z j
/-- Which blocks are its own. -/
def refO (Z : Nat → Prop) (rb : Nat) (v : Value) (j : Nat) : Prop := Z j ∨ j = rb ∨ v.ownBlock = some j
theorem RefAt.only {w W : World} {O Z : Nat → Prop} {B rb : Nat} {win : Int} {v : Value} {qs : List SV} (h : RefAt w Z B rb win v qs) (k : Only O w W) (hO : ∀ j, refO Z rb v j → ¬ O j) : RefAt W Z B rb win v qs :=
  ⟨k.blk h.blk (hO rb (.inr (.inl rfl))), ownN_only h.row k (fun b hb => hO b (.inr (.inr hb))), fun q hq => (h.read q hq).only k (fun j hj => hO j (.inl hj)), h.ne⟩
theorem RefAt.stay {w W : World} {Z : Nat → Prop} {B rb : Nat} {win : Int} {v : Value} {qs : List SV} (h : RefAt w Z B rb win v qs) (k : Kept w W) : RefAt W Z B rb win v qs := h.only k (fun _ _ f => f)
theorem RefAt.src {w : World} {Z : Nat → Prop} {B rb : Nat} {win : Int} {v : Value} {qs : List SV} (h : RefAt w Z B rb win v qs) : SerSrc w v (qs.map serV) := by
  refine ⟨?_⟩
  by_cases h0 : qs.length = 0
  · have : qs = [] := List.length_eq_zero_iff.1 h0
    subst this
    obtain ⟨a, c, e⟩ := ownN_slice h.row
    exact .inl ⟨a, c, e, rfl⟩
  · obtain ⟨g, cap, e⟩ := ownN_some h.row (by omega)
    subst e
    refine .inr ⟨by rw [List.length_map]; omega, g, 0, cap, by rw [List.length_map], fun i hi => ?_⟩
    rw [List.length_map] at hi
    have hx := svL_at qs i hi
    have hq := h.read _ (List.getElem_mem hi)
    rw [Nat.zero_add, List.getElem_map]
    exact ⟨_, _, by rw [h.row.cellAt (i * 2) (by omega)]; exact hx.1, by rw [h.row.cellAt (i * 2 + 1) (by omega)]; exact hx.2, hq.lab, hq.smp⟩

/-- New. -/
theorem rnew_any (w : World) (n : Int) : Calls Tryz.prog 8 #[.int .i64 n] w fun e w' =>
    e = .returned (.pointer (some ⟨w.heap.size, 0, none⟩)) ∧ RefAt w' (fun _ => False) w.heap.size w.heap.size (min (max n 0) 9007199254740992) (.slice none 0 0) [] ∧ Kept w w' := by
  have fin : ∀ m : Int, RefAt (w.alloc (.cells #[.int .i64 m, .slice none 0 0] 67)) (fun _ => False) w.heap.size w.heap.size m (.slice none 0 0) [] ∧ Kept w (w.alloc (.cells #[.int .i64 m, .slice none 0 0] 67)) := fun m =>
    ⟨⟨Blk.new w [.int .i64 m, .slice none 0 0] 67, World.ownsRow_nil _ _ _ _, (fun q hq => by cases hq), ⟨fun f => f, fun _ _ f => f⟩⟩, (Only.refl _ w).alloc _⟩
  have FIN := hid fin
  clear fin
  by_cases h1 : n < 0
  · have d1 : decide (n < 0) = true := decide_eq_true h1
    have e : min (max n 0) 9007199254740992 = 0 := by omega
    rw [e]
    clear e
    go_enter Tryz.func8, Tryz.ntmps8
    go_wp2
    go_ret
    exact ⟨rfl, FIN.out 0⟩
  · have d1 : decide (n < 0) = false := decide_eq_false h1
    by_cases h2 : 9007199254740992 < n
    · have d2 : decide (9007199254740992 < n) = true := decide_eq_true h2
      have e : min (max n 0) 9007199254740992 = 9007199254740992 := by omega
      rw [e]
      clear e
      go_enter Tryz.func8, Tryz.ntmps8
      go_wp2
      go_ret
      exact ⟨rfl, FIN.out 9007199254740992⟩
    · have d2 : decide (9007199254740992 < n) = false := decide_eq_false h2
      have e : min (max n 0) 9007199254740992 = n := by omega
      rw [e]
      clear e
      go_enter Tryz.func8, Tryz.ntmps8
      go_wp2
      go_ret
      exact ⟨rfl, FIN.out n⟩

/-- Where a series stands, or would stand. -/
structure StandM (M : Mod) (l : Labs) (k : Nat) (ok : Bool) : Prop where
  le : k ≤ M.length
  pre : ∀ i (hi : i < k) (hi' : i < M.length), cmpL M[i].1 l = -1
  yes : ok = true → ∃ h : k < M.length, M[k].1 = l
  no : ok = false → ∀ h : k < M.length, cmpL M[k].1 l = 1
def StandA (M : Mod) (l : Labs) (e : Ending) : Prop := ∃ (k : Nat) (ok : Bool), e = .returned (.tuple #[.int .i64 (k : Int), .bool ok]) ∧ StandM M l k ok
set_option maxRecDepth 100000 in
set_option maxHeartbeats 2000000 in
theorem rat_any {w : World} {Z : Nat → Prop} {B rb : Nat} {win : Int} {v : Value} {qs : List SV} (h : RefAt w Z B rb win v qs) (hn : qs.length ≤ 1000000) (hll : ∀ q ∈ qs, q.labs.length ≤ 1000000) (lv : Value) (l : Labs) (hl : LabSrc w lv l) (hlen : l.length ≤ 1000000) :
    Calls Tryz.prog 59 #[.pointer (some ⟨rb, 0, none⟩), lv] w fun e w' => StandA (qs.map serV) l e ∧ Kept w w' := by
  have HS := hid h.src
  have HB := hid h.blk
  have HLL := hid hll
  have HLA := hid hl
  obtain ⟨a1, c1, rfl⟩ := ownN_slice h.row
  obtain ⟨M, hM⟩ : ∃ M, qs.map serV = M := ⟨_, rfl⟩
  have hML : ∀ x ∈ M, x.1.length ≤ 1000000 := fun x hx => by
    rw [← hM] at hx
    obtain ⟨q, hq, rfl⟩ := List.mem_map.1 hx
    exact hll q hq
  obtain ⟨L, hL⟩ : ∃ L, qs.length = L := ⟨_, rfl⟩
  have hL2 : M.length = L := by rw [← hM, List.length_map]; exact hL
  rw [hM] at HS ⊢
  rw [hL] at HB HS hn
  obtain ⟨a2, c2, rfl⟩ := hl.len
  have HML := hid hML
  have HL := hid hL2
  clear h hll hl hM hML hL hL2 HLL
  go_enter Tryz.func59, Tryz.ntmps59
  go_wp2
  go_loopw [6] (fun s wr => ∃ (k : Nat), k ≤ L ∧ s = .int .i64 (k : Int) ∧ (∀ i (hi : i < k) (hi' : i < M.length), cmpL M[i].1 l = -1) ∧ Kept w wr) (fun s _ => L - (intOf s).toNat)
  case atStart => exact ⟨0, by omega, rfl, fun i hi => (by omega), Only.refl _ _⟩
  case round =>
    obtain ⟨k, hk, rfl, hp, kr⟩ := hrel
    have HK := hid kr
    have HP := hid hp
    have hbl := kr.blk HB.out (fun f => f)
    have y0 := hbl.cell 1 rfl
    clear hp
    by_cases hlt : k < L
    · have hkl : k < M.length := by have := HL.out; omega
      obtain ⟨b1, o1, lv1, sv1, rfl, x1, y1, p1, q1⟩ := (HS.out.stay kr).cell HL.out k hlt
      have HC := hid (rcmp_any wr lv1 (.slice a2 l.length c2) _ l p1 (HLA.out.stay kr) (HML.out _ (List.getElem_mem hkl)) hlen)
      obtain ⟨c, hc⟩ : ∃ c, cmpL (M[k]'hkl).1 l = c := ⟨_, rfl⟩
      rw [hc] at HC
      have hrng := cmpL_good.rng (M[k]'hkl).1 l
      rw [hc] at hrng
      have HCC := hid hc
      obtain ⟨a3, c3, e3⟩ := p1.len
      subst e3
      generalize (M[k]'hkl).1.length = n1 at *
      clear p1 q1 kr hbl hc
      go_wp2_with fail
      refine HC.out.mono ?_
      rintro e w2 ⟨rfl, k2⟩
      have K2 := hid (HK.out.trans k2 (fun _ _ f => f))
      clear k2 HC
      have h3 : c = 0 ∨ c = 1 ∨ c = -1 := by omega
      rcases h3 with rfl | rfl | rfl
      · go_wp2
        go_ret2
        exact ⟨⟨k, true, rfl, ⟨by omega, HP.out, fun _ => ⟨hkl, cmpL_good.zero _ _ HCC.out⟩, fun h => by cases h⟩⟩, K2.out⟩
      · go_wp2
        go_ret2
        exact ⟨⟨k, false, rfl, ⟨by omega, HP.out, fun h => (by cases h), fun _ _ => HCC.out⟩⟩, K2.out⟩
      · have HP2 : Hid (∀ i (hi : i < k + 1) (hi' : i < M.length), cmpL M[i].1 l = -1) := fun i hi hi' => by
          rcases Nat.lt_or_eq_of_le (Nat.le_of_lt_succ hi) with h | h
          · exact HP.out i h hi'
          · subst h
            exact HCC.out
        go_wp2
        refine ⟨⟨k + 1, by omega, by go_num, HP2.out, K2.out⟩, ?_⟩
        simp [intOf]
        omega
    · have e : k = L := by omega
      subst e
      clear kr hbl
      go_wp2
      go_ret2
      exact ⟨⟨k, false, rfl, ⟨by have := HL.out; omega, HP.out, fun h => (by cases h), fun _ h => by have := HL.out; omega⟩⟩, HK.out⟩
end Go.Proofs.YtnbfbnhiikliaaaGreat.Hd

/-
  The document's own head: PutSample.
-/
namespace Go.Proofs.YtnbfbnhiikliaaaGreat.Hd
open Go.RowKit Go.Proofs.Lys Go.Maps Go.Proofs.YtnbfbnhiikliaaaGreat.N
set_option linter.unusedVariables false
set_option linter.unusedSimpArgs false

theorem Tryz.sizeSm2 (W : World) : (sizeOf 38).run Tryz.prog W = .ok 2 W := by kernel_rfl
theorem smp_part {w : World} {a : Option Addr} {c : Nat} {l : Smps} (hs : SmpSrc w (.slice a l.length c) l) (hc : l.length ≤ c) {lo hi : Nat} (h1 : lo ≤ hi) (h2 : hi ≤ l.length) :
    SmpSrc w (.slice (if c = lo then a else a.map (·.add (lo * 2))) (hi - lo) (c - lo)) ((l.take hi).drop lo) := by
  have hlen : ((l.take hi).drop lo).length = hi - lo := by rw [List.length_drop, List.length_take]; omega
  by_cases h0 : hi - lo = 0
  · have hn : (l.take hi).drop lo = [] := List.length_eq_zero_iff.1 (by rw [hlen]; exact h0)
    rw [hn, h0]
    exact .inl ⟨_, _, rfl, rfl⟩
  · rcases hs with ⟨x, y, hv, hn⟩ | ⟨hp, b, o, c2, hv, hcell⟩
    · rw [hn] at h2
      simp at h2
      omega
    · simp only [Value.slice.injEq] at hv
      obtain ⟨rfl, _, rfl⟩ := hv
      rw [if_neg (by omega)]
      refine .inr ⟨by rw [hlen]; omega, b, o + lo * 2, c - lo, by rw [hlen, Option.map_some, add_none], fun i hi' => ?_⟩
      rw [hlen] at hi'
      have := hcell (lo + i) (by omega)
      have e5 : ((l.take hi).drop lo)[i]'(by rw [hlen]; exact hi') = l[lo + i]'(by omega) := by
        rw [List.getElem_drop, List.getElem_take]
      rw [e5, show o + lo * 2 + i * 2 = o + (lo + i) * 2 by omega]
      exact this
theorem smp_to {w : World} {a : Option Addr} {c : Nat} {l : Smps} (hs : SmpSrc w (.slice a l.length c) l) (hc : l.length ≤ c) {hi : Nat} (h2 : hi ≤ l.length) :
    ∃ a' c', (∀ W, (Instr.sliceAt 54 (.slice a l.length c) none (some (.int .i64 (hi : Int))) none).run Tryz.prog W = .ok (.slice a' hi c') W) ∧ SmpSrc w (.slice a' hi c') (l.take hi) := by
  have e2 : hi ≤ c := by omega
  refine ⟨_, _, fun W => ?_, by have := smp_part hs hc (Nat.zero_le hi) h2; simpa using this⟩
  simp [Instr.sliceAt, Instr.slice, Instr.sliceBounds, Instr.sliceBound, run_underlying Tryz.underlying54, asIntOf, e2, Tryz.sizeSm2, Result.andThen]
theorem smp_from {w : World} {a : Option Addr} {c : Nat} {l : Smps} (hs : SmpSrc w (.slice a l.length c) l) (hc : l.length ≤ c) {lo : Nat} (h2 : lo ≤ l.length) :
    ∃ a' c', (∀ W, (Instr.sliceAt 54 (.slice a l.length c) (some (.int .i64 (lo : Int))) none none).run Tryz.prog W = .ok (.slice a' (l.length - lo) c') W) ∧ SmpSrc w (.slice a' (l.length - lo) c') (l.drop lo) := by
  refine ⟨_, _, fun W => ?_, by have := smp_part hs hc h2 (Nat.le_refl _); rw [List.take_length] at this; exact this⟩
  simp [Instr.sliceAt, Instr.slice, Instr.sliceBounds, Instr.sliceBound, run_underlying Tryz.underlying54, asIntOf, h2, hc, Tryz.sizeSm2, Result.andThen]

theorem place_is {T : Int} {l : Smps} {k : Nat} (hk : k ≤ l.length) (hp : ∀ i (hi : i < k) (hi' : i < l.length), l[i].1 < T) (he : ∀ h : k < l.length, ¬ l[k].1 < T) : placeS T l = k := by
  have h1 := placeS_le T l
  rcases Nat.lt_trichotomy (placeS T l) k with h | h | h
  · exact absurd (hp _ h (by omega)) (placeS_at (by omega))
  · exact h
  · exact absurd (placeS_lt h (by omega)) (he (by omega))
theorem put_no {T V : Int} {l : Smps} {k : Nat} (hk : k ≤ l.length) (hp : ∀ i (hi : i < k) (hi' : i < l.length), l[i].1 < T) (he : ∀ h : k < l.length, ¬ l[k].1 < T) (hne : ∀ h : k < l.length, l[k].1 ≠ T) : l.take k ++ [(T, V)] ++ l.drop k = putS (T, V) l := by
  rw [putS_eq, place_is hk hp he, dif_neg]
  · simp
  · rintro ⟨h1, h2⟩
    simp only [List.getD_eq_getElem?_getD, List.getElem?_eq_getElem h1, Option.getD_some] at h2
    exact hne h1 h2
theorem put_yes {T V : Int} {l : Smps} {k : Nat} (hk : k < l.length) (hp : ∀ i (hi : i < k) (hi' : i < l.length), l[i].1 < T) (he : l[k].1 = T) : l.take k ++ [(T, V)] ++ l.drop (k + 1) = putS (T, V) l := by
  rw [putS_eq, place_is (by omega) hp (fun _ => by omega), dif_pos ⟨hk, by simp only [List.getD_eq_getElem?_getD, List.getElem?_eq_getElem hk, Option.getD_some]; exact he⟩]
  rw [List.set_eq_take_append_cons_drop, if_pos hk]
  simp
/-- What stands when the parts of the new row lie there. -/
structure RPutP (w1 : World) (l1 : Smps) (x : Smp) (v : Value) (br : Nat) (X : World) : Prop where
  own : SmpAt X w1.heap.size v l1
  kept : Kept w1 X
  row : Blk X br [.int .i64 x.1, .int .i64 x.2] 38
theorem put_copy {w1 : World} {v1 : Value} {l1 : Smps} (hs : SmpSrc w1 v1 l1) (hl : l1.length ≤ 100000) (X : World) (kk : Kept w1 X) :
    ∃ v X', Hid ((Builtin.append_ #[54, 54] 0 #[.slice none 0 0, v1]).run Tryz.prog X = .ok v X') ∧ SmpAt X' w1.heap.size v l1 ∧ Kept X X' := by
  obtain ⟨v, X', hr, h1, h2, h3⟩ := smp_append (w := X) (B := X.heap.size) (v := .slice none 0 0) (l := []) ⟨rfl, .inl ⟨rfl, rfl⟩⟩ (hs.stay kk) (by simp; omega) (Nat.le_refl _)
  rw [List.nil_append] at h1
  exact ⟨v, X', hr, ownN_base h1 kk.size, (Only.refl _ X).grown h2 (fun j hj => by cases hj)⟩
theorem put_join {w1 : World} {l1 : Smps} {x : Smp} (hl : l1.length ≤ 100000) (v : Value) (br : Nat) (X : World) (hP : RPutP w1 l1 x v br X) :
    ∃ v4 X4, Hid ((Builtin.append_ #[54, 54] 0 #[v, .slice (some ⟨br, 0, none⟩) 1 1]).run Tryz.prog X = .ok v4 X4) ∧ SmpAt X4 w1.heap.size v4 (l1 ++ [x]) ∧ Kept w1 X4 := by
  have hsrc : SmpSrc X (.slice (some ⟨br, 0, none⟩) 1 1) [x] := .inr ⟨by simp, br, 0, 1, rfl, fun i hi => by
    have : i = 0 := by simpa using hi
    subst this
    exact ⟨hP.row.cell 0 rfl, hP.row.cell 1 rfl⟩⟩
  obtain ⟨v4, X4, hr, h1, h2, h3⟩ := smp_append hP.own hsrc (by simp; omega) hP.kept.size
  refine ⟨v4, X4, hr, h1, hP.kept.grown h2 (fun j hj hlt => ?_)⟩
  have := (ownN_lt hP.own hj).1
  omega
theorem put_last {w1 : World} {l1 q : Smps} {X : World} {v xv : Value} (hown : SmpAt X w1.heap.size v l1) (hk : Kept w1 X) (hs : SmpSrc X xv q) (hl : l1.length + q.length ≤ 1000000) :
    ∃ v4 X4, Hid ((Builtin.append_ #[54, 54] 0 #[v, xv]).run Tryz.prog X = .ok v4 X4) ∧ SmpAt X4 w1.heap.size v4 (l1 ++ q) ∧ Kept w1 X4 := by
  obtain ⟨v4, X4, hr, h1, h2, h3⟩ := smp_append hown hs hl hk.size
  refine ⟨v4, X4, hr, h1, hk.grown h2 (fun j hj hlt => ?_)⟩
  have := (ownN_lt hown hj).1
  omega
def PutA (w : World) (x : Smp) (l : Smps) (e : Ending) (w' : World) : Prop := ∃ u, e = .returned u ∧ SmpAt w' w.heap.size u (putS x l) ∧ Kept w w'
set_option maxRecDepth 100000 in
set_option maxHeartbeats 4000000 in
theorem rput_any (w : World) (v : Value) (l : Smps) (T V : Int) (hs : SmpSrc w v l) (hc : ∃ a c, v = .slice a l.length c ∧ l.length ≤ c) (hl : l.length ≤ 100000) :
    Calls Tryz.prog 60 #[v, .agg #[.int .i64 T, .int .i64 V]] w (PutA w (T, V) l) := by
  obtain ⟨ra, rc, rfl, hcap⟩ := hc
  obtain ⟨L, hL⟩ : ∃ L, l.length = L := ⟨_, rfl⟩
  obtain ⟨w1, hw1⟩ : ∃ w1, w.alloc (.cells #[.int .i64 T, .int .i64 V] 38) = w1 := ⟨_, rfl⟩
  have k1 : Kept w w1 := by rw [← hw1]; exact (Only.refl _ w).alloc _
  have hbx : Blk w1 w.heap.size [.int .i64 T, .int .i64 V] 38 := by rw [← hw1]; exact Blk.new w [.int .i64 T, .int .i64 V] 38
  have S0 : Hid (∀ W, Kept w1 W → W.cell? ⟨w.heap.size, 0, none⟩ = some (.int .i64 T) ∧ W.cell? ⟨w.heap.size, 1, none⟩ = some (.int .i64 V)) := fun W kW => ⟨only_cell kW (fun f => f) (hbx.cell 0 rfl), only_cell kW (fun f => f) (hbx.cell 1 rfl)⟩
  have HS := hid (hs.stay k1)
  have HCAP := hid hcap
  have HL := hid hL
  have HK1 := hid k1
  have FIN : Hid (∀ u W, SmpAt W w1.heap.size u (putS (T, V) l) → Kept w1 W → PutA w (T, V) l (.returned u) W) := fun u W h1 h2 => ⟨u, rfl, ownN_base h1 HK1.out.size, HK1.out.trans h2 (fun _ _ f => f)⟩
  rw [hL] at HS hl ⊢
  clear hs hcap hL k1 hbx
  go_enter Tryz.func60, Tryz.ntmps60
  go_wp2_with fail
  clear hw1
  go_loopw [5] (fun s wr => ∃ (k : Nat), k ≤ L ∧ s = .int .i64 (k : Int) ∧ (∀ i (hi : i < k) (hi' : i < l.length), l[i].1 < T) ∧ Kept w1 wr) (fun s _ => L - (intOf s).toNat)
  case atStart => exact ⟨0, by omega, rfl, fun i hi => (by omega), Only.refl _ _⟩
  case round =>
    obtain ⟨k, hk, rfl, hp, kr⟩ := hrel
    have HP := hid hp
    have HKr := hid kr
    obtain ⟨s0, s1'⟩ := S0.out _ kr
    clear hp
    by_cases hgo : ∃ h : k < l.length, l[k].1 < T
    · obtain ⟨hkl, hkt⟩ := hgo
      have hlt : k < L := by have := HL.out; omega
      obtain ⟨b1, o1, rfl, x1, y1⟩ := (HS.out.stay kr).cell HL.out k hlt
      have HP2 : Hid (∀ i (hi : i < k + 1) (hi' : i < l.length), l[i].1 < T) := fun i hi hi' => by
        rcases Nat.lt_or_eq_of_le (Nat.le_of_lt_succ hi) with h | h
        · exact HP.out i h hi'
        · subst h
          exact hkt
      generalize (l[k]'hkl).1 = X at *
      have dk : decide ((k : Int) < (L : Int)) = true := decide_eq_true (by omega)
      have dx : decide (X < T) = true := decide_eq_true hkt
      clear kr y1
      go_wp2_with fail
      go_quiet (fail)
      go_wp2_with fail
      go_roundw
      case rel => exact ⟨k + 1, by omega, by go_num, HP2.out, kept_drewN HKr.out nq⟩
      case measure => simp [intOf]; omega
    · have hno : ∀ h : k < l.length, ¬ l[k].1 < T := fun h h2 => hgo ⟨h, h2⟩
      obtain ⟨a1, c1, s1, hs1⟩ := smp_to (l := l) (a := ra) (c := rc) (by rw [HL.out]; exact HS.out) HCAP.out (hi := k) (by rw [HL.out]; exact hk)
      rw [HL.out] at s1
      have HCP := hid (put_copy hs1 (by rw [List.length_take]; omega))
      have HTL := hid (put_join (w1 := w1) (l1 := l.take k) (x := (T, V)) (by rw [List.length_take]; omega))
      have HNO := hid hno
      clear hs1 hno
      obtain ⟨wq, hwq⟩ : ∃ wq, Kept w1 wq ∧ wq = wq := ⟨wr, kr, rfl⟩
      by_cases hlt : k < L
      · have hkl : k < l.length := by have := HL.out; omega
        obtain ⟨b1, o1, rfl, x1, y1⟩ := (HS.out.stay kr).cell HL.out k hlt
        have HCL : Hid (∀ W, Kept w1 W → W.cell? ⟨b1, o1 + k * 2, none⟩ = some (.int .i64 (l[k]'hkl).1)) := fun W kW => by
          obtain ⟨b, o, e, h1, h2⟩ := (HS.out.stay kW).cell HL.out k hlt
          simp only [Option.some.injEq, Addr.mk.injEq] at e
          obtain ⟨rfl, rfl, _⟩ := e
          exact h1
        have hnx := HNO.out hkl
        have HEQ := hid (fun he => put_yes (V := V) hkl HP.out he)
        have HNE := hid (fun (he : (l[k]'hkl).1 ≠ T) => put_no (V := V) (by omega) HP.out HNO.out (fun _ => he))
        generalize (l[k]'hkl).1 = X at *
        have dk : decide ((k : Int) < (L : Int)) = true := decide_eq_true (by omega)
        have dx : decide (X < T) = false := decide_eq_false hnx
        clear kr y1 hgo
        go_wp2_with fail
        go_quiet (fail)
        have HKq := hid (kept_drewN HKr.out nq)
        clear s0 s1' x1 hwq wq
        generalize wr.drewN nq = wq at HKq ⊢
        go_wp2_with fail
        apply wp_region_then (D := fun v5 X5 => SmpAt X5 w1.heap.size v5 (l.take k ++ [(T, V)]) ∧ Kept w1 X5)
        case h1 =>
          refine wp_region_noPanic ?_
          refine wp_region_last (L := 1000) (S := fun w' => Kept w1 w') (by kernel_rfl) ?_
          have hS : (fun w' : World => Kept w1 w') wq.drew := HKq.out.drew
          refine wpAnyN_take (i := 0) (v := .slice (some ⟨b1, o1, none⟩) L rc) rfl (by kernel_rfl) (by kernel_rfl) (by kernel_rfl) (by decide) (by kernel_rfl) (fun _ _ _ h => h) (Or.inl ⟨by rfl, ?_⟩) hS ?_
          · (intro w' hSw; obtain ⟨s0, s1'⟩ := S0.out w' hSw; clear hSw; go_simp)
          go_frame
          refine wpAnyN_take (i := 1) (v := .int .i64 (k : Int)) rfl (by kernel_rfl) (by kernel_rfl) (by kernel_rfl) (by decide) (by kernel_rfl) (fun _ _ _ h => h) (Or.inl ⟨by rfl, ?_⟩) hS ?_
          · (intro w' hSw; obtain ⟨s0, s1'⟩ := S0.out w' hSw; clear hSw; go_simp)
          go_frame
          refine wpAnyN_take (i := 2) (v := .slice a1 k c1) rfl (by kernel_rfl) (by kernel_rfl) (by kernel_rfl) (by decide) (by kernel_rfl) (fun _ _ _ h => h) (Or.inl ⟨by rfl, ?_⟩) hS ?_
          · (intro w' hSw; obtain ⟨s0, s1'⟩ := S0.out w' hSw; clear hSw; go_simp)
          go_frame
          refine wpAnyN_take (i := 4) (v := .agg #[.int .i64 T, .int .i64 V]) rfl (by kernel_rfl) (by kernel_rfl) (by kernel_rfl) (by decide) (by kernel_rfl) (fun _ _ _ h => h) (Or.inl ⟨by rfl, ?_⟩) hS ?_
          · (intro w' hSw; obtain ⟨s0, s1'⟩ := S0.out w' hSw; clear hSw; go_simp)
          go_frame
          refine wpAnyL_two (i := 3) (j := 5) (by kernel_rfl) rfl rfl rfl rfl ?_ ?_
          · obtain ⟨v3, X3, R3, hv3, k3⟩ := HCP.out wq.drew HKq.out.drew
            have K3 := hid (show Kept w1 X3 from HKq.out.drew.trans k3 (fun _ _ f => f))
            refine oper_appendH _ _ _ rfl rfl rfl R3 ?_
            refine ⟨K3.out, ?_⟩
            go_frame
            refine wpAnyL_one (i := 5) (by kernel_rfl) rfl rfl ?_
            go_simp
            have ka : Kept X3 (X3.alloc (.cells #[.int .i64 T, .int .i64 V] 38)) := (Only.refl _ X3).alloc _
            refine ⟨K3.out.alloc _, ?_⟩
            (try go_frame)
            have hp : RPutP w1 (l.take k) (T, V) v3 X3.heap.size (X3.alloc (.cells #[.int .i64 T, .int .i64 V] 38)) := ⟨ownN_stay hv3 ka, K3.out.alloc _, Blk.new X3 [.int .i64 T, .int .i64 V] 38⟩
            clear ka hv3 k3
            obtain ⟨v4, X4, R4, hd4⟩ := HTL.out _ _ _ hp
            have HD4 := hid hd4
            have KX4 := hid hd4.2
            clear hd4 hp
            refine wpAnyL_one (i := 6) (by kernel_rfl) rfl rfl (oper_appendH _ _ _ rfl rfl rfl R4 ?_)
            refine ⟨KX4.out, ?_⟩
            go_frame
            refine wpAnyL_one (i := 7) (by kernel_rfl) rfl rfl ?_
            go_simp
            refine ⟨KX4.out, ?_⟩
            refine wpAnyN_done (by kernel_rfl) ?_
            refine NoPanic.normal ?_
            obtain ⟨br, _⟩ : ∃ br : Nat, True := ⟨0, trivial⟩
            obtain ⟨v9, _⟩ : ∃ v9 : Value, True := ⟨.slice none 0 0, trivial⟩
            generalize X3.heap.size = bl
            exact ⟨rfl, bl, br, v3, v9, v4, rfl, HD4.out⟩
          · go_simp
            refine ⟨HKq.out.drew.alloc _, ?_⟩
            (try go_frame)
            obtain ⟨v3, X3, R3, hv3, k3⟩ := HCP.out (wq.drew.alloc (.cells #[.int .i64 T, .int .i64 V] 38)) (HKq.out.drew.alloc _)
            have K3 := hid (show Kept w1 X3 from (HKq.out.drew.alloc _).trans k3 (fun _ _ f => f))
            refine wpAnyL_one (i := 3) (by kernel_rfl) rfl rfl (oper_appendH _ _ _ rfl rfl rfl R3 ?_)
            refine ⟨K3.out, ?_⟩
            go_frame
            have hp : RPutP w1 (l.take k) (T, V) v3 wq.heap.size X3 := ⟨hv3, K3.out, k3.blk (Blk.new wq.drew [.int .i64 T, .int .i64 V] 38) (fun f => f)⟩
            clear hv3 k3
            obtain ⟨v4, X4, R4, hd4⟩ := HTL.out _ _ _ hp
            have HD4 := hid hd4
            have KX4 := hid hd4.2
            clear hd4 hp
            refine wpAnyL_one (i := 6) (by kernel_rfl) rfl rfl (oper_appendH _ _ _ rfl rfl rfl R4 ?_)
            refine ⟨KX4.out, ?_⟩
            go_frame
            refine wpAnyL_one (i := 7) (by kernel_rfl) rfl rfl ?_
            go_simp
            refine ⟨KX4.out, ?_⟩
            refine wpAnyN_done (by kernel_rfl) ?_
            refine NoPanic.normal ?_
            obtain ⟨br, _⟩ : ∃ br : Nat, True := ⟨0, trivial⟩
            obtain ⟨v9, _⟩ : ∃ v9 : Value, True := ⟨.slice none 0 0, trivial⟩
            exact ⟨rfl, wq.heap.size, v3, v4, rfl, HD4.out⟩
        case h2 =>
          intro bl br v3 v9 v5 X5 hD
          obtain ⟨hv5, k5⟩ := hD
          have K5 := hid k5
          have HV5 := hid hv5
          obtain ⟨s0, s1'⟩ := S0.out _ k5
          have x1 := HCL.out _ k5
          clear hv5 k5
          by_cases he : X = T
          · have de : decide (X = T) = true := decide_eq_true he
            have de' : (X == T) = true := by simpa using he
            go_wp2_with fail
            go_quiet (fail)
            have HK6 := hid (kept_drewN K5.out nq)
            have HV6 := hid (ownN_stay HV5.out (kept_drewN (Only.refl (fun _ => False) X5) nq))
            clear s0 s1' K5 HV5
            clear x1
            generalize X5.drewN nq = X6 at HK6 HV6 ⊢
            obtain ⟨a2, c2, s2, hs2⟩ := smp_from (l := l) (a := (some ⟨b1, o1, none⟩)) (c := rc) (by rw [HL.out]; exact HS.out) HCAP.out (lo := k + 1) (by have := HL.out; omega)
            rw [HL.out] at s2 hs2
            have s2' : ∀ W, (Instr.sliceAt 54 (.slice (some ⟨b1, o1, none⟩) L rc) (some (.int .i64 ((k : Int) + 1))) none none).run Tryz.prog W = .ok (.slice a2 (L - (k + 1)) c2) W := fun W => s2 W
            obtain ⟨v7, X7, R7, hv7, k7⟩ := put_last HV6.out HK6.out (hs2.stay HK6.out) (by simp [List.length_take, List.length_drop]; have := HL.out; omega)
            rw [HEQ.out he] at hv7
            have HF := hid (FIN.out v7 X7 hv7 k7)
            clear s2 hs2 hv7 k7
            go_wp2_with (at_builtin; refine Lys.wpList_append_run rfl _ _ _ rfl rfl rfl R7 ?_)
            go_ret
            exact HF.out
          · have de : decide (X = T) = false := decide_eq_false he
            have de' : (X == T) = false := by simpa using he
            go_wp2_with fail
            go_quiet (fail)
            have HK6 := hid (kept_drewN K5.out nq)
            have HV6 := hid (ownN_stay HV5.out (kept_drewN (Only.refl (fun _ => False) X5) nq))
            clear s0 s1' K5 HV5
            clear x1
            generalize X5.drewN nq = X6 at HK6 HV6 ⊢
            obtain ⟨a2, c2, s2, hs2⟩ := smp_from (l := l) (a := (some ⟨b1, o1, none⟩)) (c := rc) (by rw [HL.out]; exact HS.out) HCAP.out (lo := k) (by have := HL.out; omega)
            rw [HL.out] at s2 hs2
            have s2' : ∀ W, (Instr.sliceAt 54 (.slice (some ⟨b1, o1, none⟩) L rc) (some (.int .i64 (k : Int))) none none).run Tryz.prog W = .ok (.slice a2 (L - k) c2) W := fun W => s2 W
            obtain ⟨v7, X7, R7, hv7, k7⟩ := put_last HV6.out HK6.out (hs2.stay HK6.out) (by simp [List.length_take, List.length_drop]; have := HL.out; omega)
            rw [HNE.out he] at hv7
            have HF := hid (FIN.out v7 X7 hv7 k7)
            clear s2 hs2 hv7 k7
            go_wp2_with (at_builtin; refine Lys.wpList_append_run rfl _ _ _ rfl rfl rfl R7 ?_)
            go_ret
            exact HF.out
      · have dk : decide ((k : Int) < (L : Int)) = false := decide_eq_false (by omega)
        have HNE := hid (put_no (V := V) (k := k) (by have := HL.out; omega) HP.out HNO.out (fun h => by have := HL.out; omega))
        clear kr hgo
        go_wp2_with fail
        go_quiet (fail)
        have HKq := hid (kept_drewN HKr.out nq)
        clear s0 s1' hwq wq
        generalize wr.drewN nq = wq at HKq ⊢
        go_wp2_with fail
        apply wp_region_then (D := fun v5 X5 => SmpAt X5 w1.heap.size v5 (l.take k ++ [(T, V)]) ∧ Kept w1 X5)
        case h1 =>
          refine wp_region_noPanic ?_
          refine wp_region_last (L := 1000) (S := fun w' => Kept w1 w') (by kernel_rfl) ?_
          have hS : (fun w' : World => Kept w1 w') wq.drew := HKq.out.drew
          refine wpAnyN_take (i := 0) (v := .slice ra L rc) rfl (by kernel_rfl) (by kernel_rfl) (by kernel_rfl) (by decide) (by kernel_rfl) (fun _ _ _ h => h) (Or.inl ⟨by rfl, ?_⟩) hS ?_
          · (intro w' hSw; obtain ⟨s0, s1'⟩ := S0.out w' hSw; clear hSw; go_simp)
          go_frame
          refine wpAnyN_take (i := 1) (v := .int .i64 (k : Int)) rfl (by kernel_rfl) (by kernel_rfl) (by kernel_rfl) (by decide) (by kernel_rfl) (fun _ _ _ h => h) (Or.inl ⟨by rfl, ?_⟩) hS ?_
          · (intro w' hSw; obtain ⟨s0, s1'⟩ := S0.out w' hSw; clear hSw; go_simp)
          go_frame
          refine wpAnyN_take (i := 2) (v := .slice a1 k c1) rfl (by kernel_rfl) (by kernel_rfl) (by kernel_rfl) (by decide) (by kernel_rfl) (fun _ _ _ h => h) (Or.inl ⟨by rfl, ?_⟩) hS ?_
          · (intro w' hSw; obtain ⟨s0, s1'⟩ := S0.out w' hSw; clear hSw; go_simp)
          go_frame
          refine wpAnyN_take (i := 4) (v := .agg #[.int .i64 T, .int .i64 V]) rfl (by kernel_rfl) (by kernel_rfl) (by kernel_rfl) (by decide) (by kernel_rfl) (fun _ _ _ h => h) (Or.inl ⟨by rfl, ?_⟩) hS ?_
          · (intro w' hSw; obtain ⟨s0, s1'⟩ := S0.out w' hSw; clear hSw; go_simp)
          go_frame
          refine wpAnyL_two (i := 3) (j := 5) (by kernel_rfl) rfl rfl rfl rfl ?_ ?_
          · obtain ⟨v3, X3, R3, hv3, k3⟩ := HCP.out wq.drew HKq.out.drew
            have K3 := hid (show Kept w1 X3 from HKq.out.drew.trans k3 (fun _ _ f => f))
            refine oper_appendH _ _ _ rfl rfl rfl R3 ?_
            refine ⟨K3.out, ?_⟩
            go_frame
            refine wpAnyL_one (i := 5) (by kernel_rfl) rfl rfl ?_
            go_simp
            have ka : Kept X3 (X3.alloc (.cells #[.int .i64 T, .int .i64 V] 38)) := (Only.refl _ X3).alloc _
            refine ⟨K3.out.alloc _, ?_⟩
            (try go_frame)
            have hp : RPutP w1 (l.take k) (T, V) v3 X3.heap.size (X3.alloc (.cells #[.int .i64 T, .int .i64 V] 38)) := ⟨ownN_stay hv3 ka, K3.out.alloc _, Blk.new X3 [.int .i64 T, .int .i64 V] 38⟩
            clear ka hv3 k3
            obtain ⟨v4, X4, R4, hd4⟩ := HTL.out _ _ _ hp
            have HD4 := hid hd4
            have KX4 := hid hd4.2
            clear hd4 hp
            refine wpAnyL_one (i := 6) (by kernel_rfl) rfl rfl (oper_appendH _ _ _ rfl rfl rfl R4 ?_)
            refine ⟨KX4.out, ?_⟩
            go_frame
            refine wpAnyL_one (i := 7) (by kernel_rfl) rfl rfl ?_
            go_simp
            refine ⟨KX4.out, ?_⟩
            refine wpAnyN_done (by kernel_rfl) ?_
            refine NoPanic.normal ?_
            obtain ⟨br, _⟩ : ∃ br : Nat, True := ⟨0, trivial⟩
            obtain ⟨v9, _⟩ : ∃ v9 : Value, True := ⟨.slice none 0 0, trivial⟩
            generalize X3.heap.size = bl
            exact ⟨rfl, bl, br, v3, v9, v4, rfl, HD4.out⟩
          · go_simp
            refine ⟨HKq.out.drew.alloc _, ?_⟩
            (try go_frame)
            obtain ⟨v3, X3, R3, hv3, k3⟩ := HCP.out (wq.drew.alloc (.cells #[.int .i64 T, .int .i64 V] 38)) (HKq.out.drew.alloc _)
            have K3 := hid (show Kept w1 X3 from (HKq.out.drew.alloc _).trans k3 (fun _ _ f => f))
            refine wpAnyL_one (i := 3) (by kernel_rfl) rfl rfl (oper_appendH _ _ _ rfl rfl rfl R3 ?_)
            refine ⟨K3.out, ?_⟩
            go_frame
            have hp : RPutP w1 (l.take k) (T, V) v3 wq.heap.size X3 := ⟨hv3, K3.out, k3.blk (Blk.new wq.drew [.int .i64 T, .int .i64 V] 38) (fun f => f)⟩
            clear hv3 k3
            obtain ⟨v4, X4, R4, hd4⟩ := HTL.out _ _ _ hp
            have HD4 := hid hd4
            have KX4 := hid hd4.2
            clear hd4 hp
            refine wpAnyL_one (i := 6) (by kernel_rfl) rfl rfl (oper_appendH _ _ _ rfl rfl rfl R4 ?_)
            refine ⟨KX4.out, ?_⟩
            go_frame
            refine wpAnyL_one (i := 7) (by kernel_rfl) rfl rfl ?_
            go_simp
            refine ⟨KX4.out, ?_⟩
            refine wpAnyN_done (by kernel_rfl) ?_
            refine NoPanic.normal ?_
            obtain ⟨br, _⟩ : ∃ br : Nat, True := ⟨0, trivial⟩
            obtain ⟨v9, _⟩ : ∃ v9 : Value, True := ⟨.slice none 0 0, trivial⟩
            exact ⟨rfl, wq.heap.size, v3, v4, rfl, HD4.out⟩
        case h2 =>
          intro bl br v3 v9 v5 X5 hD
          obtain ⟨hv5, k5⟩ := hD
          have K5 := hid k5
          have HV5 := hid hv5
          obtain ⟨s0, s1'⟩ := S0.out _ k5
          clear hv5 k5
          go_wp2_with fail
          go_quiet (fail)
          have HK6 := hid (kept_drewN K5.out nq)
          have HV6 := hid (ownN_stay HV5.out (kept_drewN (Only.refl (fun _ => False) X5) nq))
          clear s0 s1' K5 HV5
          generalize X5.drewN nq = X6 at HK6 HV6 ⊢
          obtain ⟨a2, c2, s2, hs2⟩ := smp_from (l := l) (a := ra) (c := rc) (by rw [HL.out]; exact HS.out) HCAP.out (lo := k) (by have := HL.out; omega)
          rw [HL.out] at s2 hs2
          have s2' : ∀ W, (Instr.sliceAt 54 (.slice ra L rc) (some (.int .i64 (k : Int))) none none).run Tryz.prog W = .ok (.slice a2 (L - k) c2) W := fun W => s2 W
          obtain ⟨v7, X7, R7, hv7, k7⟩ := put_last HV6.out HK6.out (hs2.stay HK6.out) (by simp [List.length_take, List.length_drop]; have := HL.out; omega)
          rw [HNE.out] at hv7
          have HF := hid (FIN.out v7 X7 hv7 k7)
          clear s2 hs2 hv7 k7
          go_wp2_with (at_builtin; refine Lys.wpList_append_run rfl _ _ _ rfl rfl rfl R7 ?_)
          go_ret
          exact HF.out
end Go.Proofs.YtnbfbnhiikliaaaGreat.Hd

/-
  The document's own head: rows of series that are read, joined and cut; copied.
-/
namespace Go.Proofs.YtnbfbnhiikliaaaGreat.Hd
open Go.RowKit Go.Proofs.Lys Go.Maps Go.Proofs.YtnbfbnhiikliaaaGreat.N
set_option linter.unusedVariables false
set_option linter.unusedSimpArgs false

/-- A row of series, cell by cell. -/
def SvCells (w : World) (v : Value) (qs : List SV) : Prop :=
  (∃ a c, v = .slice a 0 c ∧ qs = []) ∨ ∃ b o c, v = .slice (some ⟨b, o, none⟩) qs.length c ∧ ∀ i (hi : i < qs.length), w.cell? ⟨b, o + i * 2, none⟩ = some qs[i].lv ∧ w.cell? ⟨b, o + i * 2 + 1, none⟩ = some qs[i].sv
theorem SvCells.stay {w W : World} {v : Value} {qs : List SV} (h : SvCells w v qs) (k : Kept w W) : SvCells W v qs := by
  rcases h with h | ⟨b, o, c, e, hc⟩
  · exact .inl h
  · exact .inr ⟨b, o, c, e, fun i hi => ⟨only_cell k (fun f => f) (hc i hi).1, only_cell k (fun f => f) (hc i hi).2⟩⟩
theorem own_cells {w : World} {B : Nat} {v : Value} {qs : List SV} (h : w.ownsRow B 56 2 v qs.length (svL qs)) : SvCells w v qs := by
  by_cases h0 : qs.length = 0
  · have : qs = [] := List.length_eq_zero_iff.1 h0
    subst this
    obtain ⟨a, c, rfl⟩ := ownN_slice h
    exact .inl ⟨a, c, rfl, rfl⟩
  · obtain ⟨g, cap, rfl⟩ := ownN_some h (by omega)
    refine .inr ⟨g, 0, cap, rfl, fun i hi => ?_⟩
    have hx := svL_at qs i hi
    rw [Nat.zero_add]
    exact ⟨by rw [h.cellAt (i * 2) (by omega)]; exact hx.1, by rw [h.cellAt (i * 2 + 1) (by omega)]; exact hx.2⟩
theorem own_cap {w : World} {B : Nat} {v : Value} {qs : List SV} (h : w.ownsRow B 56 2 v qs.length (svL qs)) : ∃ a c, v = .slice a qs.length c ∧ qs.length ≤ c := by
  rcases h.2 with ⟨rfl, h0⟩ | ⟨g, cap, cur, rfl, _, _, hnc, _⟩
  · exact ⟨none, 0, by rw [h0], by omega⟩
  · exact ⟨_, cap, rfl, hnc⟩
/-- Values that are slices. -/
def SvPlain (qs : List SV) : Prop := ∀ q ∈ qs, (∃ a n c, q.lv = .slice a n c) ∧ ∃ a n c, q.sv = .slice a n c
theorem SvR.plain {w : World} {Z : Nat → Prop} {qs : List SV} (h : ∀ q ∈ qs, SvR w Z q) : SvPlain qs := fun q hq => ⟨labsrc_slice (h q hq).lab, by obtain ⟨a, c, e, _⟩ := (h q hq).cap; exact ⟨_, _, _, e⟩⟩
theorem svL_plain {qs : List SV} (h : SvPlain qs) : ∀ u ∈ svL qs, u.oneCell' = true := by
  induction qs with
  | nil => intro u hu; cases hu
  | cons p r ih =>
    intro u hu
    rw [svL] at hu
    simp only [List.mem_cons] at hu
    rcases hu with rfl | rfl | hu
    · obtain ⟨a, n, c, e⟩ := (h p (List.mem_cons_self ..)).1
      rw [e]; rfl
    · obtain ⟨a, n, c, e⟩ := (h p (List.mem_cons_self ..)).2
      rw [e]; rfl
    · exact ih (fun q hq => h q (List.mem_cons_of_mem _ hq)) u hu
theorem sv_append {w : World} {B : Nat} {v xv : Value} {l q : List SV} (hown : w.ownsRow B 56 2 v l.length (svL l)) (hsrc : SvCells w xv q) (hq : SvPlain q) (hl : l.length + q.length ≤ 1000000) (hB : B ≤ w.heap.size) :
    ∃ v' w', (Builtin.append_ #[47, 47] 0 #[v, xv]).run Tryz.prog w = .ok v' w' ∧ w'.ownsRow B 56 2 v' (l ++ q).length (svL (l ++ q)) ∧ w.grownBy w' v.ownBlock ∧ (v'.ownBlock = v.ownBlock ∨ v'.ownBlock = some w.heap.size) := by
  obtain ⟨i0, hi0, hz0, hz1, hz2⟩ := info_parts Tryz.infoSer
  have hm : l.length + q.length ≤ maxLen := by unfold maxLen; omega
  have ht := Tryz.underlying47
  have hll : (l ++ q).length = l.length + q.length := List.length_append
  have main : ∀ (a : Addr) (c : Nat), xv = .slice (some a) q.length c → (∀ j u, (svL q)[j]? = some u → w.cell? (a.add j) = some u) → ∃ v' w', (Builtin.append_ #[47, 47] 0 #[v, xv]).run Tryz.prog w = .ok v' w' ∧ w'.ownsRow B 56 2 v' (l ++ q).length (svL (l ++ q)) ∧ w.grownBy w' v.ownBlock ∧ (v'.ownBlock = v.ownBlock ∨ v'.ownBlock = some w.heap.size) := by
    intro a c e hc
    subst e
    obtain ⟨v', w', hr, h2, h3, _, h5⟩ := run_append_own_at (P := Tryz.prog) w B _ 0 _ i0 _ 2 48 ht hi0 hz0 hz1 hz2 rfl (by decide) v l.length (svL l) hown a q.length c (svL q) (svL_len q)
      hc (svL_plain hq) hm (by omega) hB
    refine ⟨v', w', hr, ?_, h3, h5⟩
    rw [hll, svL_app]
    exact h2
  rcases hsrc with ⟨a, c, rfl, rfl⟩ | ⟨b, o, c, rfl, hc⟩
  · cases a with
    | none =>
      refine ⟨v, w, ?_, by rw [List.append_nil]; exact hown, World.grownBy.refl _ _, .inl rfl⟩
      rcases hown.2 with ⟨rfl, h0⟩ | ⟨g, cap, cur, rfl, hbg, hg, hnc, hcm, hcs, htake⟩
      · simp [Builtin.append_, run_underlying ht, sizeOf, typeInfo, hi0, Builtin.lenOf, Builtin.firstCells]
      · simp [Builtin.append_, run_underlying ht, sizeOf, typeInfo, hi0, Builtin.lenOf, Builtin.firstCells, hnc, storeCells]
    | some a => exact main a c rfl (fun j u hu => by simp [svL] at hu)
  · refine main _ c rfl (fun j u hu => ?_)
    rw [add_none]
    have hj : j < (svL q).length := (List.getElem?_eq_some_iff.1 hu).1
    rw [svL_len] at hj
    have hx := svL_at q (j / 2) (by omega)
    have hcc := hc (j / 2) (by omega)
    rcases Nat.mod_two_eq_zero_or_one j with hp | hp
    · have ej : j = j / 2 * 2 := by omega
      rw [ej] at hu ⊢
      rw [hx.1] at hu
      cases hu
      exact hcc.1
    · have ej : j = j / 2 * 2 + 1 := by omega
      rw [ej] at hu ⊢
      rw [hx.2] at hu
      cases hu
      rw [← Nat.add_assoc]
      exact hcc.2
/-- A copy of a row of series. -/
theorem sv_copy {w : World} {xv : Value} {q : List SV} (hsrc : SvCells w xv q) (hq : SvPlain q) (hl : q.length ≤ 100000) :
    ∃ v w', Hid ((Builtin.append_ #[47, 47] 0 #[.slice none 0 0, xv]).run Tryz.prog w = .ok v w') ∧ w'.ownsRow w.heap.size 56 2 v q.length (svL q) ∧ Kept w w' := by
  obtain ⟨v', w', hr, h1, h2, h3⟩ := sv_append (w := w) (B := w.heap.size) (v := .slice none 0 0) (l := []) ⟨rfl, .inl ⟨rfl, rfl⟩⟩ hsrc hq (by simp; omega) (Nat.le_refl _)
  rw [List.nil_append] at h1
  exact ⟨v', w', hr, h1, (Only.refl _ w).grown h2 (fun j hj => by cases hj)⟩
/-- A part of a row of series. -/
theorem sv_part {w : World} {a : Option Addr} {c : Nat} {qs : List SV} (hs : SvCells w (.slice a qs.length c) qs) (hc : qs.length ≤ c) {lo hi : Nat} (h1 : lo ≤ hi) (h2 : hi ≤ qs.length) :
    SvCells w (.slice (if c = lo then a else a.map (·.add (lo * 2))) (hi - lo) (c - lo)) ((qs.take hi).drop lo) := by
  have hlen : ((qs.take hi).drop lo).length = hi - lo := by rw [List.length_drop, List.length_take]; omega
  by_cases h0 : hi - lo = 0
  · have hn : (qs.take hi).drop lo = [] := List.length_eq_zero_iff.1 (by rw [hlen]; exact h0)
    rw [hn, h0]
    exact .inl ⟨_, _, rfl, rfl⟩
  · rcases hs with ⟨x, y, hv, hn⟩ | ⟨b, o, c2, hv, hcell⟩
    · rw [hn] at h2
      simp at h2
      omega
    · simp only [Value.slice.injEq] at hv
      obtain ⟨rfl, _, rfl⟩ := hv
      rw [if_neg (by omega)]
      refine .inr ⟨b, o + lo * 2, c - lo, by rw [hlen, Option.map_some, add_none], fun i hi' => ?_⟩
      rw [hlen] at hi'
      have := hcell (lo + i) (by omega)
      have e5 : ((qs.take hi).drop lo)[i]'(by rw [hlen]; exact hi') = qs[lo + i]'(by omega) := by
        rw [List.getElem_drop, List.getElem_take]
      rw [e5, show o + lo * 2 + i * 2 = o + (lo + i) * 2 by omega]
      exact this
theorem Tryz.sizeSer (W : World) : (sizeOf 56).run Tryz.prog W = .ok 2 W := by kernel_rfl
theorem sv_to {w : World} {a : Option Addr} {c : Nat} {qs : List SV} (hs : SvCells w (.slice a qs.length c) qs) (hc : qs.length ≤ c) {hi : Nat} (h2 : hi ≤ qs.length) :
    ∃ a' c', (∀ W, (Instr.sliceAt 47 (.slice a qs.length c) none (some (.int .i64 (hi : Int))) none).run Tryz.prog W = .ok (.slice a' hi c') W) ∧ SvCells w (.slice a' hi c') (qs.take hi) := by
  have e2 : hi ≤ c := by omega
  refine ⟨_, _, fun W => ?_, by have := sv_part hs hc (Nat.zero_le hi) h2; simpa using this⟩
  simp [Instr.sliceAt, Instr.slice, Instr.sliceBounds, Instr.sliceBound, run_underlying Tryz.underlying47, asIntOf, e2, Tryz.sizeSer, Result.andThen]
theorem sv_from {w : World} {a : Option Addr} {c : Nat} {qs : List SV} (hs : SvCells w (.slice a qs.length c) qs) (hc : qs.length ≤ c) {lo : Nat} (h2 : lo ≤ qs.length) :
    ∃ a' c', (∀ W, (Instr.sliceAt 47 (.slice a qs.length c) (some (.int .i64 (lo : Int))) none none).run Tryz.prog W = .ok (.slice a' (qs.length - lo) c') W) ∧ SvCells w (.slice a' (qs.length - lo) c') (qs.drop lo) := by
  refine ⟨_, _, fun W => ?_, by have := sv_part hs hc h2 (Nat.le_refl _); rw [List.take_length] at this; exact this⟩
  simp [Instr.sliceAt, Instr.slice, Instr.sliceBounds, Instr.sliceBound, run_underlying Tryz.underlying47, asIntOf, h2, hc, Tryz.sizeSer, Result.andThen]

/-- A head of its own. -/
def CopyA (w : World) (Z : Nat → Prop) (win : Int) (qs : List SV) (e : Ending) (w' : World) : Prop :=
  ∃ rb v, e = .returned (.pointer (some ⟨rb, 0, none⟩)) ∧ RefAt w' Z w.heap.size rb win v qs ∧ w.heap.size ≤ rb ∧ Kept w w'
set_option maxRecDepth 100000 in
set_option maxHeartbeats 2000000 in
theorem rcopied_any {w : World} {Z : Nat → Prop} {B rb : Nat} {win : Int} {v : Value} {qs : List SV} (h : RefAt w Z B rb win v qs) (hn : qs.length ≤ 100000) (hZ : ∀ j, Z j → j < w.heap.size) :
    Calls Tryz.prog 35 #[.pointer (some ⟨rb, 0, none⟩)] w (CopyA w Z win qs) := by
  obtain ⟨ra, rc, hv, hcap⟩ := own_cap h.row
  obtain ⟨v3, X3, R3, ho3, k3⟩ := sv_copy (w := w.drew) ((own_cells h.row).stay ((Only.refl _ w).drew)) (SvR.plain h.read) hn
  have k3' : Kept w X3 := ((Only.refl _ w).drew).trans k3 (fun _ _ f => f)
  have S0 : Hid (∀ W, Kept w W → W.cell? ⟨rb, 0, none⟩ = some (.int .i64 win) ∧ W.cell? ⟨rb, 1, none⟩ = some v) := fun W kW => ⟨only_cell kW (fun f => f) (h.blk.cell 0 rfl), only_cell kW (fun f => f) (h.blk.cell 1 rfl)⟩
  have FIN : Hid (CopyA w Z win qs (.returned (.pointer (some ⟨X3.heap.size, 0, none⟩))) (X3.alloc (.cells #[.int .i64 win, v3] 67))) := by
    have ka : Kept X3 (X3.alloc (.cells #[.int .i64 win, v3] 67)) := (Only.refl _ X3).alloc _
    have kk := k3'.trans ka (fun _ _ f => f)
    refine ⟨_, v3, rfl, ⟨Blk.new X3 [.int .i64 win, v3] 67, ownN_stay ho3 ka, fun q hq => (h.read q hq).stay kk, fun hz => ?_, fun j hj hz => ?_⟩, k3'.size, kk⟩
    · have := hZ _ hz
      have := k3'.size
      omega
    · have h1 : w.heap.size ≤ j := (ownN_lt ho3 hj).1
      have := hZ _ hz
      omega
  have K3 := hid k3'
  subst hv
  obtain ⟨L, hL⟩ : ∃ L, qs.length = L := ⟨_, rfl⟩
  rw [hL] at R3 S0
  obtain ⟨fa, fn, fc, hv3⟩ : ∃ a n c, v3 = .slice a n c := by
    obtain ⟨a, c, e⟩ := ownN_slice ho3
    exact ⟨a, _, c, e⟩
  clear h hn hZ hcap ho3 k3 k3' hL
  go_enter Tryz.func35, Tryz.ntmps35
  go_wp2_with fail
  refine wp_region_noPanic ?_
  refine wp_region_last (L := 1000) (S := fun w' => Kept w w') (by kernel_rfl) ?_
  have hS : (fun w' : World => Kept w w') w.drew := (Only.refl _ w).drew
  refine wpAnyN_take (i := 0) (v := .pointer (some ⟨rb, 0, none⟩)) rfl (by kernel_rfl) (by kernel_rfl) (by kernel_rfl) (by decide) (by kernel_rfl) (fun _ _ _ h => h) (Or.inl ⟨by rfl, ?_⟩) hS ?_
  · (intro w' hSw; obtain ⟨s0, s1⟩ := S0.out w' hSw; clear hSw; go_simp)
  go_frame
  refine wpAnyN_take (i := 1) (v := .pointer (some ⟨rb, 0, none⟩)) rfl (by kernel_rfl) (by kernel_rfl) (by kernel_rfl) (by decide) (by kernel_rfl) (fun _ _ _ h => h) (Or.inl ⟨by rfl, ?_⟩) hS ?_
  · (intro w' hSw; obtain ⟨s0, s1⟩ := S0.out w' hSw; clear hSw; go_simp)
  go_frame
  refine wpAnyN_take (i := 2) (v := .pointer (some ⟨rb, 0, none⟩)) rfl (by kernel_rfl) (by kernel_rfl) (by kernel_rfl) (by decide) (by kernel_rfl) (fun _ _ _ h => h) (Or.inl ⟨by rfl, ?_⟩) hS ?_
  · (intro w' hSw; obtain ⟨s0, s1⟩ := S0.out w' hSw; clear hSw; go_simp)
  go_frame
  refine wpAnyN_take (i := 3) (v := .int .i64 win) rfl (by kernel_rfl) (by kernel_rfl) (by kernel_rfl) (by decide) (by kernel_rfl) (fun _ _ _ h => h) (Or.inl ⟨by rfl, ?_⟩) hS ?_
  · (intro w' hSw; obtain ⟨s0, s1⟩ := S0.out w' hSw; clear hSw; go_simp)
  go_frame
  refine wpAnyN_take (i := 4) (v := .pointer (some ⟨rb, 0, none⟩)) rfl (by kernel_rfl) (by kernel_rfl) (by kernel_rfl) (by decide) (by kernel_rfl) (fun _ _ _ h => h) (Or.inl ⟨by rfl, ?_⟩) hS ?_
  · (intro w' hSw; obtain ⟨s0, s1⟩ := S0.out w' hSw; clear hSw; go_simp)
  go_frame
  refine wpAnyN_take (i := 5) (v := .pointer (some ⟨rb, 0, none⟩)) rfl (by kernel_rfl) (by kernel_rfl) (by kernel_rfl) (by decide) (by kernel_rfl) (fun _ _ _ h => h) (Or.inl ⟨by rfl, ?_⟩) hS ?_
  · (intro w' hSw; obtain ⟨s0, s1⟩ := S0.out w' hSw; clear hSw; go_simp)
  go_frame
  refine wpAnyN_take (i := 6) (v := .pointer (some ⟨rb, 1, none⟩)) rfl (by kernel_rfl) (by kernel_rfl) (by kernel_rfl) (by decide) (by kernel_rfl) (fun _ _ _ h => h) (Or.inl ⟨by rfl, ?_⟩) hS ?_
  · (intro w' hSw; obtain ⟨s0, s1⟩ := S0.out w' hSw; clear hSw; go_simp)
  go_frame
  refine wpAnyN_take (i := 7) (v := .slice ra L rc) rfl (by kernel_rfl) (by kernel_rfl) (by kernel_rfl) (by decide) (by kernel_rfl) (fun _ _ _ h => h) (Or.inl ⟨by rfl, ?_⟩) hS ?_
  · (intro w' hSw; obtain ⟨s0, s1⟩ := S0.out w' hSw; clear hSw; go_simp)
  go_frame
  refine wpAnyL_one (i := 8) (by kernel_rfl) rfl rfl (oper_appendH _ _ _ rfl rfl rfl R3 ?_)
  refine ⟨K3.out, ?_⟩
  go_frame
  refine wpAnyN_take (i := 9) (v := .agg #[.int .i64 win, v3]) rfl (by kernel_rfl) (by kernel_rfl) (by kernel_rfl) (by decide) (by kernel_rfl) (fun _ _ _ h => h) (Or.inl ⟨by rfl, ?_⟩) K3.out ?_
  · (intro w' hSw; go_simp)
  go_frame
  refine wpAnyL_one (i := 10) (by kernel_rfl) rfl rfl ?_
  go_simp
  refine ⟨K3.out.alloc _, ?_⟩
  (try go_frame)
  refine wpAnyL_one (i := 11) (by kernel_rfl) rfl rfl ?_
  go_simp
  refine ⟨K3.out.alloc _, ?_⟩
  refine wpAnyN_done (by kernel_rfl) ?_
  refine NoPanic.normal ?_
  clear hS S0 R3
  subst hv3
  go_wp2
  go_ret
  exact FIN.out
end Go.Proofs.YtnbfbnhiikliaaaGreat.Hd

/-
  The document's own head: Count, Samples, Newest.
-/
namespace Go.Proofs.YtnbfbnhiikliaaaGreat.Hd
open Go.RowKit Go.Proofs.Lys Go.Maps Go.Proofs.YtnbfbnhiikliaaaGreat.N
set_option linter.unusedVariables false
set_option linter.unusedSimpArgs false

set_option maxRecDepth 100000 in
set_option maxHeartbeats 2000000 in
theorem rcount_any {w : World} {Z : Nat → Prop} {B rb : Nat} {win : Int} {v : Value} {qs : List SV} (h : RefAt w Z B rb win v qs) (hn : qs.length ≤ 100000) (hc : countM (qs.map serV) ≤ 100000) :
    Calls Tryz.prog 18 #[.pointer (some ⟨rb, 0, none⟩)] w fun e w' => e = .returned (.int .i64 (countM (qs.map serV) : Nat)) ∧ Kept w w' := by
  have HS := hid h.src
  have HB := hid h.blk
  obtain ⟨a1, c1, rfl⟩ := ownN_slice h.row
  obtain ⟨xs, hM⟩ : ∃ M, qs.map serV = M := ⟨_, rfl⟩
  obtain ⟨L, hL⟩ : ∃ L, qs.length = L := ⟨_, rfl⟩
  have hL2 : xs.length = L := by rw [← hM, List.length_map]; exact hL
  rw [hM] at HS hc ⊢
  rw [hL] at HB HS hn
  have HC := hid hc
  have HL := hid hL2
  clear h hM hL hL2 hc
  go_enter Tryz.func18, Tryz.ntmps18
  go_wp2
  go_loopw [3, 4] (fun s1 s2 wr => ∃ (k n : Nat), k ≤ L ∧ s2 = .int .i64 (k : Int) ∧ s1 = .int .i64 (n : Int) ∧ n = countM (xs.take k) ∧ Kept w wr) (fun _ s _ => L - (intOf s).toNat)
  case atStart => exact ⟨0, 0, by omega, rfl, rfl, by simp [countM], Only.refl _ _⟩
  case round =>
    obtain ⟨k, n, hk, rfl, rfl, hn', kr⟩ := hrel
    have HK := hid kr
    have hnb : n ≤ 100000 := by rw [hn']; have := countM_take_le xs k; have := HC.out; omega
    have HN := hid hn'
    have hbl := kr.blk HB.out (fun f => f)
    have y0 := hbl.cell 1 rfl
    clear hn'
    by_cases hlt : k < L
    · have hkl : k < xs.length := by have := HL.out; omega
      obtain ⟨b1, o1, lv1, sv1, rfl, x1, y1, p1, q1⟩ := (HS.out.stay kr).cell HL.out k hlt
      obtain ⟨a5, c5, e5⟩ := q1.len
      subst e5
      have hst := countM_take hkl
      have hb := countM_take_le xs (k + 1)
      have hcc := HC.out
      obtain ⟨m, hm⟩ : ∃ m, (xs[k]'hkl).2.length = m := ⟨_, rfl⟩
      rw [hm] at hst y1
      have HNN := hid (show n + m = countM (xs.take (k + 1)) by rw [hst, HN.out])
      have hmb : n + m ≤ 100000 := by rw [HNN.out]; omega
      clear p1 q1 kr hst hm hb hcc hbl
      go_wp2
      refine ⟨⟨k + 1, n + m, by omega, by go_num, by go_num, HNN.out, HK.out⟩, ?_⟩
      simp [intOf]
      omega
    · have e : k = L := by omega
      subst e
      have hn2 : n = countM xs := by rw [HN.out, ← HL.out, List.take_length]
      subst hn2
      clear kr hbl
      go_wp2
      go_ret
      exact ⟨rfl, HK.out⟩

theorem stand_yes {M : Mod} (hM : SortM M) {l : Labs} {k : Nat} (h : StandM M l k true) : ∃ hk : k < M.length, lookM M l = some M[k].2 := by
  obtain ⟨hk, e⟩ := h.yes rfl
  refine ⟨hk, (look_some hM).2 ?_⟩
  have := List.getElem_mem hk
  rw [← e]
  exact this
theorem stand_no {M : Mod} (hM : SortM M) {l : Labs} {k : Nat} (h : StandM M l k false) : lookM M l = none := by
  refine look_none.2 (fun s hs => ?_)
  obtain ⟨i, hi, e⟩ := List.getElem_of_mem hs
  have hself := cmpL_good.self l
  have e1 : (M[i]'hi).1 = l := by rw [e]
  rcases Nat.lt_trichotomy i k with h1 | h1 | h1
  · have := h.pre i h1 hi
    rw [e1] at this
    omega
  · subst h1
    have := h.no rfl hi
    rw [e1] at this
    omega
  · have h2 := h.no rfl (by omega)
    have h3 := List.pairwise_iff_getElem.1 hM k i (by omega) hi h1
    rw [e1] at h3
    omega
set_option maxRecDepth 100000 in
set_option maxHeartbeats 2000000 in
theorem rsamples_any {w : World} {Z : Nat → Prop} {B rb : Nat} {win : Int} {v : Value} {qs : List SV} (h : RefAt w Z B rb win v qs) (hM : ModOk (qs.map serV)) (hc : countM (qs.map serV) ≤ 100000) (lv : Value) (l : Labs) (hs : LabSrc w lv l) (hl : l.length ≤ 100000) (hB : Small l) :
    Calls Tryz.prog 49 #[.pointer (some ⟨rb, 0, none⟩), lv] w fun e w' => ∃ u, e = .returned u ∧ SmpAt w' w.heap.size u ((lookA (qs.map serV) l).getD []) ∧ Kept w w' := by
  have HMK := hid (rmake_any w lv l hs hl hB)
  have hn : qs.length ≤ 1000000 := by have := hM.len; rw [List.length_map] at this; omega
  have hll : ∀ q ∈ qs, q.labs.length ≤ 1000000 := fun q hq => by have := (hM.made _ (List.mem_map_of_mem (f := serV) hq)).len16; show (serV q).1.length ≤ _; omega
  have HH := hid h
  have HAT := hid (fun W (k : Kept w W) lv m (hm : LabSrc W lv m) (hml : m.length ≤ 1000000) => rat_any (h.stay k) hn hll lv m hm hml)
  obtain ⟨a1, c1, rfl⟩ := hs.len
  have HMO := hid hM
  have HC := hid hc
  clear h hM hc hs hB hn hll
  go_enter Tryz.func49, Tryz.ntmps49
  go_wp2_with fail
  refine HMK.out.mono ?_
  rintro e w2 ⟨⟨u, n, rfl, hA⟩, k2⟩
  have K2 := hid k2
  clear k2 HMK
  cases hmk : makeL l with
  | none =>
    rw [hmk] at hA
    obtain ⟨rfl, rfl⟩ := hA
    have HLK := hid (show lookA (qs.map serV) l = none by unfold lookA; rw [hmk]; rfl)
    clear hmk
    go_wp2
    go_ret
    refine ⟨_, rfl, ?_, K2.out⟩
    rw [HLK.out]
    exact World.ownsRow_nil _ _ _ _
  | some m =>
    rw [hmk] at hA
    obtain ⟨rfl, hu⟩ := hA
    have hmm := makeL_made hmk
    have HME := hid (show lookA (qs.map serV) l = lookM (qs.map serV) m by unfold lookA; rw [hmk]; rfl)
    have HU := hid (LabAt.src hu)
    obtain ⟨a2, c2, rfl⟩ := ownN_slice hu
    have HA2 := hid (HAT.out w2 K2.out _ m HU.out (by have := hmm.len16; omega))
    clear hu hmk hmm HAT
    go_wp2_with fail
    refine HA2.out.mono ?_
    rintro e w3 ⟨⟨k, ok, rfl, hst⟩, k3⟩
    have K3 := hid (K2.out.trans k3 (fun _ _ f => f))
    clear k3 HA2
    cases ok with
    | false =>
      have hlk := stand_no HMO.out.sort hst
      have HLK := hid hlk
      clear hlk hst
      go_wp2
      go_ret
      refine ⟨_, rfl, ?_, K3.out⟩
      rw [HME.out, HLK.out]
      exact World.ownsRow_nil _ _ _ _
    | true =>
      obtain ⟨hk, hlk⟩ := stand_yes HMO.out.sort hst
      have hR := HH.out.stay K3.out
      have y0 := hR.blk.cell 1 rfl
      obtain ⟨a5, c5, rfl⟩ := ownN_slice hR.row
      have hsrc := hR.src
      have hkq : k < qs.length := by rw [List.length_map] at hk; exact hk
      obtain ⟨b1, o1, lv1, sv1, rfl, x1, y1, p1, q1⟩ := hsrc.cell (List.length_map _) k hkq
      have hcm := countM_mem (List.getElem_mem hk)
      have hcc := HC.out
      obtain ⟨ys, hys⟩ : ∃ ys, ((qs.map serV)[k]'hk).2 = ys := ⟨_, rfl⟩
      rw [hys] at q1 hlk hcm
      obtain ⟨a9, c9, w4, R4, h4, k4⟩ := smp_copy q1 (by omega)
      have HR4 := hid (show SmpAt w4 w.heap.size (.slice a9 ys.length c9) ys from ownN_base h4 K3.out.size)
      have K4 := hid (K3.out.trans k4 (fun _ _ f => f))
      have HLK := hid hlk
      obtain ⟨a6, c6, rfl⟩ := q1.len
      have hkb : qs.length ≤ 1000 := by have := HMO.out.len; rw [List.length_map] at this; exact this
      clear hst hlk hR hsrc p1 q1 hys h4 k4 hcm hcc hk HH HMO HC
      generalize qs.length = L at *
      go_wp2_with (at_builtin; refine Lys.wpList_append_run rfl _ _ _ rfl rfl rfl R4 ?_)
      go_ret
      refine ⟨_, rfl, ?_, K4.out⟩
      rw [HME.out, HLK.out]
      exact HR4.out
set_option maxRecDepth 100000 in
set_option maxHeartbeats 2000000 in
theorem rnewest_any {w : World} {Z : Nat → Prop} {B rb : Nat} {win : Int} {v : Value} {qs : List SV} (h : RefAt w Z B rb win v qs) (hM : ModOk (qs.map serV)) (hc : countM (qs.map serV) ≤ 100000) (lv : Value) (l : Labs) (hs : LabSrc w lv l) (hl : l.length ≤ 100000) (hB : Small l) :
    Calls Tryz.prog 26 #[.pointer (some ⟨rb, 0, none⟩), lv] w fun e w' => e = .returned (newA (lookA (qs.map serV) l)) ∧ Kept w w' := by
  have HSM := hid (rsamples_any h hM hc lv l hs hl hB)
  obtain ⟨a1, c1, rfl⟩ := hs.len
  have hlk : (∃ s, lookA (qs.map serV) l = some s ∧ 0 < s.length ∧ s.length ≤ 100000) ∨ lookA (qs.map serV) l = none := by
    cases e : lookA (qs.map serV) l with
    | none => exact .inr rfl
    | some s =>
      refine .inl ⟨s, rfl, ?_⟩
      unfold lookA at e
      cases hm : makeL l with
      | none => rw [hm] at e; cases e
      | some m =>
        rw [hm] at e
        have h1 := (look_some hM.sort).1 (show lookM (qs.map serV) m = some s from e)
        have h2 := countM_mem h1
        exact ⟨hM.some _ h1, by simp only at h2; omega⟩
  clear h hM hc hs hB
  rcases hlk with ⟨s, e, hp, hlen⟩ | e
  · rw [e] at HSM ⊢
    clear e
    obtain ⟨n, hn⟩ : ∃ n, s.length = n + 1 := ⟨s.length - 1, by omega⟩
    go_enter Tryz.func26, Tryz.ntmps26
    go_wp2_with fail
    refine HSM.out.mono ?_
    rintro e w2 ⟨u, rfl, hu, k2⟩
    have hu' : SmpAt w2 w.heap.size u s := hu
    obtain ⟨g, cap, rfl⟩ := ownN_some hu' hp
    have hlast : lastT s = (s[n]'(by omega)).1 := by
      rw [lastT_eq hp]
      congr 2
      omega
    have x1 : w2.cell? ⟨g, n * 2, none⟩ = some (.int .i64 (s[n]'(by omega)).1) := by
      rw [World.ownsRow.cellAt hu' (n * 2) (by omega)]
      exact (smpL_at s n (by omega)).1
    have HF := hid (show (Ending.returned (newA (some s))) = .returned (.tuple #[.int .i64 (s[n]'(by omega)).1, .bool true]) by rw [← hlast]; rfl)
    have K2 := hid k2
    rw [hn]
    generalize (s[n]'(by omega)).1 = T at *
    clear hu hu' k2 hlast HSM
    go_wp2
    go_ret2
    exact ⟨HF.out.symm, K2.out⟩
  · rw [e] at HSM ⊢
    clear e
    go_enter Tryz.func26, Tryz.ntmps26
    go_wp2_with fail
    refine HSM.out.mono ?_
    rintro e w2 ⟨u, rfl, hu, k2⟩
    obtain ⟨a, c, hue⟩ := ownN_slice hu
    have hue' : u = .slice a 0 c := hue
    subst hue'
    have K2 := hid k2
    clear hu k2 HSM
    go_wp2
    go_ret2
    exact ⟨rfl, K2.out⟩
end Go.Proofs.YtnbfbnhiikliaaaGreat.Hd

/-
  The document's own head: series in new memory.
-/
namespace Go.Proofs.YtnbfbnhiikliaaaGreat.Hd
open Go.RowKit Go.Proofs.Lys Go.Maps Go.Proofs.YtnbfbnhiikliaaaGreat.N
set_option linter.unusedVariables false
set_option linter.unusedSimpArgs false

/-- What a round of Copy leaves. -/
structure CpD (w wr : World) (xs : Mod) (k : Nat) (v : Value) (X : World) : Prop where
  next : ∃ qs : List SV, SerAt X w.heap.size v qs ∧ qs.map serV = xs.take (k + 1)
  all : Kept w X
/-- Labels and samples that were copied just now. -/
structure CpP (wr : World) (x : Ser) (v3 v4 : Value) (X : World) : Prop where
  kept : Kept wr X
  lab : LabAt X wr.heap.size v3 x.1
  smp : SmpAt X wr.heap.size v4 x.2
  ne : ∀ j, v3.ownBlock = some j → v4.ownBlock ≠ some j
theorem cp_lab {wr : World} {lv : Value} {l : Labs} (hs : LabSrc wr lv l) (hl : l.length ≤ 1000) (X : World) (k : Kept wr X) :
    ∃ v X', Hid ((Builtin.append_ #[36, 36] 0 #[.slice none 0 0, lv]).run Tryz.prog X = .ok v X') ∧ LabAt X' X.heap.size v l ∧ Kept X X' := by
  obtain ⟨a3, c3, w2, r3, o3, k2⟩ := lab_copy (hs.stay k) (by omega)
  exact ⟨_, w2, r3, o3, k2⟩
theorem cp_smp {wr : World} {sv : Value} {s : Smps} (hs : SmpSrc wr sv s) (hl : s.length ≤ 100000) (X : World) (k : Kept wr X) :
    ∃ v X', Hid ((Builtin.append_ #[54, 54] 0 #[.slice none 0 0, sv]).run Tryz.prog X = .ok v X') ∧ SmpAt X' X.heap.size v s ∧ Kept X X' := by
  obtain ⟨a3, c3, w2, r3, o3, k2⟩ := smp_copy (hs.stay k) hl
  exact ⟨_, w2, r3, o3, k2⟩
theorem cp_tail {w wr : World} {xs : Mod} {k : Nat} {ov : Value} {qs : List SV} (hq : SerAt wr w.heap.size ov qs) (hm : qs.map serV = xs.take k) (hk : k < xs.length) (kw : Kept w wr) (hl : xs.length ≤ 100000) (v3 v4 : Value) (X : World) (hP : CpP wr (xs[k].1, xs[k].2) v3 v4 X) :
    ∃ v5 X5, Hid ((Builtin.append_ #[47, 47] 0 #[ov, .slice (some ⟨X.heap.size, 0, none⟩) 1 1]).run Tryz.prog (X.alloc (.cells #[v3, v4] 56)) = .ok v5 X5) ∧ CpD w wr xs k v5 X5 := by
  have hz := kw.size
  have hql : qs.length ≤ 100000 := by
    have : (qs.map serV).length = (xs.take k).length := by rw [hm]
    rw [List.length_map, List.length_take] at this
    omega
  obtain ⟨v5, X5, r5, h5, o5⟩ := serL_app (hq.stay hP.kept) (Nat.le_trans hz hP.kept.size) hql ⟨v3, v4, xs[k].1, xs[k].2⟩ (ownN_base hP.lab hz) (ownN_base hP.smp hz) (fun y hy j h1 h2 => by
    have hlt : j < wr.heap.size := by
      rcases h1 with h1 | h1
      · exact (ownN_lt (hq.lab y hy) h1).2
      · exact (ownN_lt (hq.smp y hy) h1).2
    rcases h2 with h2 | h2
    · have := (ownN_lt hP.lab h2).1
      omega
    · have := (ownN_lt hP.smp h2).1
      omega)
  refine ⟨v5, X5, r5, ⟨_, h5, ?_⟩, ?_⟩
  · rw [List.map_append, hm, ← List.take_append_getElem hk]
    rfl
  · exact (kw.trans hP.kept (fun _ _ f => f)).trans o5 (fun j hj e => by have := (ownN_lt (hq.stay hP.kept).row e).1; omega)
set_option maxRecDepth 100000 in
set_option maxHeartbeats 4000000 in
theorem rcopy_any (w : World) (v : Value) (xs : Mod) (hs : SerSrc w v xs) (hl : xs.length ≤ 100000) (hll : ∀ x ∈ xs, x.1.length ≤ 1000 ∧ x.2.length ≤ 100000) :
    Calls Tryz.prog 46 #[v] w fun e w' => ∃ u, e = .returned u ∧ SerSrc w' u xs ∧ Kept w w' := by
  obtain ⟨a1, c1, rfl⟩ := hs.len
  obtain ⟨L, hL⟩ : ∃ L, xs.length = L := ⟨_, rfl⟩
  rw [hL] at hs ⊢
  have HS := hid hs
  have HL := hid hL
  have HLL := hid hll
  have HXL := hid hl
  rw [hL] at hl
  clear hs hL hll
  go_enter Tryz.func46, Tryz.ntmps46
  go_wp2
  go_loopw [3, 4] (fun s1 s2 wr => ∃ (k : Nat) (qs : List SV), k ≤ L ∧ s2 = .int .i64 (k : Int) ∧ SerAt wr w.heap.size s1 qs ∧ qs.map serV = xs.take k ∧ Kept w wr) (fun _ s _ => L - (intOf s).toNat)
  case atStart => exact ⟨0, [], by omega, rfl, SerAt.nil _ _, rfl, Only.refl _ _⟩
  case round =>
    obtain ⟨k, qs, hk, rfl, hq, hm, kr⟩ := hrel
    obtain ⟨oa, oc, ho⟩ := ownN_slice hq.row
    have HK := hid kr
    have HQ := hid hq
    have HM := hid hm
    by_cases hlt : k < L
    · have hkl : k < xs.length := by have := HL.out; omega
      obtain ⟨b1, o1, lv1, sv1, rfl, x1, y1, p1, q1⟩ := HS.out.cell HL.out k hlt
      obtain ⟨hl1, hl2⟩ := HLL.out _ (List.getElem_mem hkl)
      have HTL := hid (cp_tail hq hm hkl kr HXL.out)
      have HCL := hid (cp_lab p1 hl1)
      have HCS := hid (cp_smp q1 hl2)
      obtain ⟨la, lc, e3⟩ := p1.len
      obtain ⟨sa, sc, e4⟩ := q1.len
      subst e3 e4
      have S0 : Hid (∀ W, Kept w W → W.cell? ⟨b1, o1 + k * 2, none⟩ = some _ ∧ W.cell? ⟨b1, o1 + k * 2 + 1, none⟩ = some _) := fun W kW => ⟨only_cell kW (fun f => f) x1, only_cell kW (fun f => f) y1⟩
      clear p1 q1 x1 y1 kr hq hm
      generalize hlb : (xs[k]'hkl).1 = lb at *
      generalize hsb : (xs[k]'hkl).2 = sb at *
      obtain ⟨ln, hln⟩ : ∃ ln, lb.length = ln := ⟨_, rfl⟩
      obtain ⟨sn, hsn⟩ : ∃ sn, sb.length = sn := ⟨_, rfl⟩
      rw [hln] at HCL S0
      rw [hsn] at HCS S0
      clear hln hsn hl1 hl2
      subst ho
      generalize ho : Value.slice oa qs.length oc = ov at *
      go_wp2_with fail
      apply wp_region_then (D := fun v5 X5 => CpD w wr xs k v5 X5)
      case h1 =>
        refine wp_region_noPanic ?_
        refine wp_region_last (L := 1000) (S := fun w' => Kept w w') (by kernel_rfl) ?_
        have hS : (fun w' : World => Kept w w') wr.drew := HK.out.drew
        refine wpAnyN_take (i := 0) (v := ov) rfl (by kernel_rfl) (by kernel_rfl) (by kernel_rfl) (by decide) (by kernel_rfl) (fun _ _ _ h => h) (Or.inl ⟨by rfl, ?_⟩) hS ?_
        · (intro w' hSw; obtain ⟨s0, s1⟩ := S0.out w' hSw; clear hSw; go_simp)
        (try simp only [List.getElem_toArray, List.getElem_cons_succ, List.getElem_cons_zero])
        go_frame
        refine wpAnyN_take (i := 1) (v := .slice (some ⟨b1, o1, none⟩) L c1) rfl (by kernel_rfl) (by kernel_rfl) (by kernel_rfl) (by decide) (by kernel_rfl) (fun _ _ _ h => h) (Or.inl ⟨by rfl, ?_⟩) hS ?_
        · (intro w' hSw; obtain ⟨s0, s1⟩ := S0.out w' hSw; clear hSw; go_simp)
        (try simp only [List.getElem_toArray, List.getElem_cons_succ, List.getElem_cons_zero])
        go_frame
        refine wpAnyN_take (i := 2) (v := .int .i64 (k : Int)) rfl (by kernel_rfl) (by kernel_rfl) (by kernel_rfl) (by decide) (by kernel_rfl) (fun _ _ _ h => h) (Or.inl ⟨by rfl, ?_⟩) hS ?_
        · (intro w' hSw; obtain ⟨s0, s1⟩ := S0.out w' hSw; clear hSw; go_simp)
        (try simp only [List.getElem_toArray, List.getElem_cons_succ, List.getElem_cons_zero])
        go_frame
        refine wpAnyN_take (i := 3) (v := .pointer (some ⟨b1, o1 + k * 2, none⟩)) rfl (by kernel_rfl) (by kernel_rfl) (by kernel_rfl) (by decide) (by kernel_rfl) (fun _ _ _ h => h) (Or.inl ⟨by rfl, ?_⟩) hS ?_
        · (intro w' hSw; obtain ⟨s0, s1⟩ := S0.out w' hSw; clear hSw; go_simp)
        (try simp only [List.getElem_toArray, List.getElem_cons_succ, List.getElem_cons_zero])
        go_frame
        refine wpAnyN_take (i := 4) (v := .pointer (some ⟨b1, o1 + k * 2, none⟩)) rfl (by kernel_rfl) (by kernel_rfl) (by kernel_rfl) (by decide) (by kernel_rfl) (fun _ _ _ h => h) (Or.inl ⟨by rfl, ?_⟩) hS ?_
        · (intro w' hSw; obtain ⟨s0, s1⟩ := S0.out w' hSw; clear hSw; go_simp)
        (try simp only [List.getElem_toArray, List.getElem_cons_succ, List.getElem_cons_zero])
        go_frame
        refine wpAnyN_take (i := 5) (v := .slice la ln lc) rfl (by kernel_rfl) (by kernel_rfl) (by kernel_rfl) (by decide) (by kernel_rfl) (fun _ _ _ h => h) (Or.inl ⟨by rfl, ?_⟩) hS ?_
        · (intro w' hSw; obtain ⟨s0, s1⟩ := S0.out w' hSw; clear hSw; go_simp)
        (try simp only [List.getElem_toArray, List.getElem_cons_succ, List.getElem_cons_zero])
        go_frame
        refine wpAnyN_take (i := 7) (v := .slice (some ⟨b1, o1, none⟩) L c1) rfl (by kernel_rfl) (by kernel_rfl) (by kernel_rfl) (by decide) (by kernel_rfl) (fun _ _ _ h => h) (Or.inl ⟨by rfl, ?_⟩) hS ?_
        · (intro w' hSw; obtain ⟨s0, s1⟩ := S0.out w' hSw; clear hSw; go_simp)
        (try simp only [List.getElem_toArray, List.getElem_cons_succ, List.getElem_cons_zero])
        go_frame
        refine wpAnyN_take (i := 8) (v := .int .i64 (k : Int)) rfl (by kernel_rfl) (by kernel_rfl) (by kernel_rfl) (by decide) (by kernel_rfl) (fun _ _ _ h => h) (Or.inl ⟨by rfl, ?_⟩) hS ?_
        · (intro w' hSw; obtain ⟨s0, s1⟩ := S0.out w' hSw; clear hSw; go_simp)
        (try simp only [List.getElem_toArray, List.getElem_cons_succ, List.getElem_cons_zero])
        go_frame
        refine wpAnyN_take (i := 9) (v := .pointer (some ⟨b1, o1 + k * 2, none⟩)) rfl (by kernel_rfl) (by kernel_rfl) (by kernel_rfl) (by decide) (by kernel_rfl) (fun _ _ _ h => h) (Or.inl ⟨by rfl, ?_⟩) hS ?_
        · (intro w' hSw; obtain ⟨s0, s1⟩ := S0.out w' hSw; clear hSw; go_simp)
        (try simp only [List.getElem_toArray, List.getElem_cons_succ, List.getElem_cons_zero])
        go_frame
        refine wpAnyN_take (i := 10) (v := .pointer (some ⟨b1, o1 + k * 2 + 1, none⟩)) rfl (by kernel_rfl) (by kernel_rfl) (by kernel_rfl) (by decide) (by kernel_rfl) (fun _ _ _ h => h) (Or.inl ⟨by rfl, ?_⟩) hS ?_
        · (intro w' hSw; obtain ⟨s0, s1⟩ := S0.out w' hSw; clear hSw; go_simp)
        (try simp only [List.getElem_toArray, List.getElem_cons_succ, List.getElem_cons_zero])
        go_frame
        refine wpAnyN_take (i := 11) (v := .slice sa sn sc) rfl (by kernel_rfl) (by kernel_rfl) (by kernel_rfl) (by decide) (by kernel_rfl) (fun _ _ _ h => h) (Or.inl ⟨by rfl, ?_⟩) hS ?_
        · (intro w' hSw; obtain ⟨s0, s1⟩ := S0.out w' hSw; clear hSw; go_simp)
        (try simp only [List.getElem_toArray, List.getElem_cons_succ, List.getElem_cons_zero])
        go_frame
        obtain ⟨v3, X1, R1, hv3, k1⟩ := HCL.out wr.drew HK.out.drew
        have K1 := hid (show Kept wr X1 from ((Only.refl _ wr).drew).trans k1 (fun _ _ f => f))
        refine wpAnyL_one (i := 6) (by kernel_rfl) rfl rfl (oper_appendH _ _ _ rfl rfl rfl R1 ?_)
        refine ⟨HK.out.trans K1.out (fun _ _ f => f), ?_⟩
        go_frame
        obtain ⟨v4, X2, R2, hv4, k2⟩ := HCS.out X1 (HK.out.trans K1.out (fun _ _ f => f))
        have K2 := hid (K1.out.trans k2 (fun _ _ f => f))
        have hp : CpP wr (lb, sb) v3 v4 X2 := ⟨K2.out, ownN_base (ownN_stay hv3 k2) (Nat.le_refl _), ownN_base hv4 K1.out.size, fun j e1 e2 => by
          have h1 := (ownN_lt hv3 e1).2
          have h2 := (ownN_lt hv4 e2).1
          omega⟩
        obtain ⟨fa, fc, e3⟩ := ownN_slice hv3
        obtain ⟨fb, fd, e4⟩ := ownN_slice hv4
        clear hv3 hv4 k1 k2
        subst e3 e4
        refine wpAnyL_one (i := 12) (by kernel_rfl) rfl rfl (oper_appendH _ _ _ rfl rfl rfl R2 ?_)
        refine ⟨HK.out.trans K2.out (fun _ _ f => f), ?_⟩
        go_frame
        refine wpAnyN_take (i := 13) (v := .agg #[.slice fa lb.length fc, .slice fb sb.length fd]) rfl (by kernel_rfl) (by kernel_rfl) (by kernel_rfl) (by decide) (by kernel_rfl) (fun _ _ _ h => h) (Or.inl ⟨by rfl, ?_⟩) (HK.out.trans K2.out (fun _ _ f => f)) ?_
        · (intro w' hSw; clear hSw; go_simp)
        (try simp only [List.getElem_toArray, List.getElem_cons_succ, List.getElem_cons_zero])
        go_frame
        obtain ⟨v5, X5, R5, hd5⟩ := HTL.out _ _ _ hp
        have HD5 := hid hd5
        have KX5 := hid hd5.all
        clear hd5 hp
        refine wpAnyL_one (i := 14) (by kernel_rfl) rfl rfl ?_
        go_simp
        refine ⟨(HK.out.trans K2.out (fun _ _ f => f)).alloc _, ?_⟩
        (try go_frame)
        refine wpAnyL_one (i := 15) (by kernel_rfl) rfl rfl (oper_appendH _ _ _ rfl rfl rfl R5 ?_)
        refine ⟨KX5.out, ?_⟩
        go_frame
        refine wpAnyL_one (i := 16) (by kernel_rfl) rfl rfl ?_
        go_simp
        refine ⟨KX5.out, ?_⟩
        refine wpAnyN_done (by kernel_rfl) ?_
        refine NoPanic.normal ?_
        obtain ⟨br, _⟩ : ∃ br : Nat, True := ⟨0, trivial⟩
        generalize X2.heap.size = bl
        generalize Value.slice fa lb.length fc = v3
        generalize Value.slice fb sb.length fd = v4
        exact ⟨rfl, bl, br, v3, v4, v5, rfl, HD5.out⟩
      case h2 =>
        intro bl br v3 v4 v5 X5 hD
        have HD := hid hD
        clear hD
        go_wp2_with fail
        go_roundw
        case rel => exact ⟨k + 1, HD.out.next.choose, by omega, by go_num, HD.out.next.choose_spec.1, HD.out.next.choose_spec.2, HD.out.all⟩
        case measure => simp [intOf]; omega
    · have e : k = L := by omega
      subst e
      have HF := hid (show SerSrc wr _ xs from by rw [show xs = qs.map serV by rw [hm, ← HL.out, List.take_length]]; exact SerAt.src hq)
      clear hq hm kr
      go_wp2
      go_ret
      exact ⟨_, rfl, HF.out, HK.out⟩
set_option maxRecDepth 100000 in
theorem rall_any {w : World} {Z : Nat → Prop} {B rb : Nat} {win : Int} {v : Value} {qs : List SV} (h : RefAt w Z B rb win v qs) (hM : ModOk (qs.map serV)) (hc : countM (qs.map serV) ≤ 100000) :
    Calls Tryz.prog 24 #[.pointer (some ⟨rb, 0, none⟩)] w fun e w' => ∃ u, e = .returned u ∧ SerSrc w' u (qs.map serV) ∧ Kept w w' := by
  have HC := hid (rcopy_any w v (qs.map serV) h.src (by have := hM.len; omega) (fun x hx => ⟨by have := (hM.made x hx).len16; omega, by have := countM_mem hx; omega⟩))
  have y0 := h.blk.cell 1 rfl
  obtain ⟨a1, c1, rfl⟩ := ownN_slice h.row
  obtain ⟨L, hL⟩ : ∃ L, qs.length = L := ⟨_, rfl⟩
  rw [hL] at y0 HC
  clear h hM hc hL
  go_enter Tryz.func24, Tryz.ntmps24
  go_wp2_with fail
  refine HC.out.mono ?_
  rintro e w2 ⟨u, rfl, hu, k2⟩
  have HU := hid hu
  have K2 := hid k2
  clear hu k2 HC
  go_wp2
  go_ret
  exact ⟨u, rfl, HU.out, K2.out⟩
end Go.Proofs.YtnbfbnhiikliaaaGreat.Hd

/-
  The document's own head: one row, where its series is there already, or can't be.
-/
namespace Go.Proofs.YtnbfbnhiikliaaaGreat.Hd
open Go.RowKit Go.Proofs.Lys Go.Maps Go.Proofs.YtnbfbnhiikliaaaGreat.N
set_option linter.unusedVariables false
set_option linter.unusedSimpArgs false

theorem setM_at : ∀ (M : Mod) (k : Nat) (l : Labs) (s : Smps) (hk : k < M.length), (∀ i (hi : i < k) (hi' : i < M.length), cmpL M[i].1 l = -1) → M[k].1 = l → setM l s M = M.set k (l, s) := by
  intro M
  induction M with
  | nil => intro k l s hk; simp at hk
  | cons y r ih =>
    intro k l s hk hp he
    cases k with
    | zero =>
      have h0 : cmpL y.1 l = 0 := by
        have : y.1 = l := he
        rw [this]
        exact cmpL_good.self l
      rw [setM, if_neg (by rw [h0]; decide), if_pos h0]
      rfl
    | succ k =>
      have h0 : cmpL y.1 l = -1 := hp 0 (by omega) (by simp)
      rw [setM, if_pos h0, ih k l s (by simpa using hk) (fun i hi hi' => by have := hp (i + 1) (by omega) (by simpa using hi'); simpa using this) (by simpa using he)]
      rfl
theorem setM_in : ∀ (M : Mod) (k : Nat) (l : Labs) (s : Smps), k ≤ M.length → (∀ i (hi : i < k) (hi' : i < M.length), cmpL M[i].1 l = -1) → (∀ h : k < M.length, cmpL M[k].1 l = 1) → setM l s M = M.take k ++ (l, s) :: M.drop k := by
  intro M
  induction M with
  | nil => intro k l s hk _ _; simp [setM]
  | cons y r ih =>
    intro k l s hk hp he
    cases k with
    | zero =>
      have h0 : cmpL y.1 l = 1 := he (by simp)
      rw [setM, if_neg (by rw [h0]; decide), if_neg (by rw [h0]; decide)]
      rfl
    | succ k =>
      have h0 : cmpL y.1 l = -1 := hp 0 (by omega) (by simp)
      rw [setM, if_pos h0, ih k l s (by simpa using hk) (fun i hi hi' => by have := hp (i + 1) (by omega) (by simpa using hi'); simpa using this) (fun h => by have := he (by simpa using h); simpa using this)]
      rfl
theorem svL_set (qs : List SV) (k : Nat) (q : SV) (hk : k < qs.length) : svL (qs.set k q) = ((svL qs).set (k * 2) q.lv).set (k * 2 + 1) q.sv := by
  induction qs generalizing k with
  | nil => simp at hk
  | cons p r ih =>
    cases k with
    | zero => rfl
    | succ k =>
      have e1 : (k + 1) * 2 = k * 2 + 1 + 1 := by omega
      rw [List.set_cons_succ, svL, svL, ih k (by simpa using hk), e1]
      rfl
theorem sv_set {w : World} {B g cap k : Nat} {qs : List SV} (h : w.ownsRow B 56 2 (.slice (some ⟨g, 0, none⟩) qs.length cap) qs.length (svL qs)) (hk : k < qs.length) (q : SV) :
    w.frozen? ⟨g, k * 2, none⟩ = false ∧ (w.setCell ⟨g, k * 2, none⟩ q.lv).frozen? ⟨g, k * 2 + 1, none⟩ = false ∧
    ((w.setCell ⟨g, k * 2, none⟩ q.lv).setCell ⟨g, k * 2 + 1, none⟩ q.sv).ownsRow B 56 2 (.slice (some ⟨g, 0, none⟩) qs.length cap) (qs.set k q).length (svL (qs.set k q)) := by
  refine ⟨h.frozenAt _, ((h.stored (k * 2) q.lv).1).frozenAt _, ?_⟩
  have h1 := (((h.stored (k * 2) q.lv).1).stored (k * 2 + 1) q.sv).1
  rw [List.length_set, svL_set qs k q hk]
  exact h1

/-- What is read behind a row. -/
def newZ (Z : Nat → Prop) (w w' : World) (v' : Value) (j : Nat) : Prop := Z j ∨ (w.heap.size ≤ j ∧ j < w'.heap.size ∧ v'.ownBlock ≠ some j)
/-- What row leaves. -/
def RowA (w : World) (Z : Nat → Prop) (B rb : Nat) (win : Int) (v : Value) (M : Mod) (r : Row) (e : Ending) (w' : World) : Prop :=
  (∃ x, rowM win M r = .error x ∧ e = .returned (.int .i64 x) ∧ x ≠ 0 ∧ Kept w w') ∨
  (∃ N v' qs', rowM win M r = .ok N ∧ e = .returned (.int .i64 0) ∧ RefAt w' (newZ Z w w' v') B rb win v' qs' ∧ qs'.map serV = N ∧ Only (fun j => j = rb ∨ v.ownBlock = some j) w w')

section
variable {w : World} {Z : Nat → Prop} {B rb : Nat} {win : Int} {v : Value} {qs : List SV}
set_option maxRecDepth 100000 in
set_option maxHeartbeats 2000000 in
theorem rrow_none (lv : Value) (r : Row) (hl : LabSrc w lv r.1) (hls : r.1.length ≤ 100000) (hsm : Small r.1) (hm : makeL r.1 = none) :
    Calls Tryz.prog 39 #[.pointer (some ⟨rb, 0, none⟩), .agg #[lv, .int .i64 r.2.1, .int .i64 r.2.2], .int .i64 (-9007199254740992)] w (RowA w Z B rb win v (qs.map serV) r) := by
  have HR : Hid (rowM win (qs.map serV) r = .error 20) := by
    show _ = _
    unfold rowM
    rw [hm]
  have HM := hid (fun (W : World) (k : Kept w W) => rmake_any W lv r.1 (hl.stay k) hls hsm)
  rw [hm] at HM
  obtain ⟨a1, c1, rfl⟩ := hl.len
  generalize r.1.length = L at *
  generalize r.2.1 = T at *
  generalize r.2.2 = V at *
  have HB := hid (Blk.new w [.slice a1 L c1, .int .i64 T, .int .i64 V] 40)
  have HK := hid ((Only.refl (fun _ => False) w).alloc (.cells #[.slice a1 L c1, .int .i64 T, .int .i64 V] 40))
  clear hl hm
  go_enter Tryz.func39, Tryz.ntmps39
  go_wp2_with fail
  refine (HM.out _ HK.out).mono ?_
  rintro e w1 ⟨⟨u, n, rfl, hA⟩, k1⟩
  obtain ⟨rfl, rfl⟩ := hA
  have HK1 := hid (HK.out.trans k1 (fun _ _ f => f))
  clear k1
  go_wp2_with fail
  go_ret
  exact .inl ⟨20, HR.out, rfl, by decide, HK1.out⟩

set_option maxRecDepth 100000 in
set_option maxHeartbeats 2000000 in
theorem rrow_time (lv : Value) (r : Row) (hl : LabSrc w lv r.1) (hls : r.1.length ≤ 100000) (hsm : Small r.1) (l : Labs) (hm : makeL r.1 = some l) (ht : r.2.1 < -9007199254740992 ∨ 9007199254740992 < r.2.1) :
    Calls Tryz.prog 39 #[.pointer (some ⟨rb, 0, none⟩), .agg #[lv, .int .i64 r.2.1, .int .i64 r.2.2], .int .i64 (-9007199254740992)] w (RowA w Z B rb win v (qs.map serV) r) := by
  have HR : Hid (rowM win (qs.map serV) r = .error 21) := by
    show _ = _
    unfold rowM
    rw [hm]
    simp only
    rw [if_pos ht]
  have HM := hid (fun (W : World) (k : Kept w W) => rmake_any W lv r.1 (hl.stay k) hls hsm)
  rw [hm] at HM
  obtain ⟨a1, c1, rfl⟩ := hl.len
  generalize r.1.length = L at *
  generalize r.2.1 = T at *
  generalize r.2.2 = V at *
  have HB := hid (Blk.new w [.slice a1 L c1, .int .i64 T, .int .i64 V] 40)
  have HK := hid ((Only.refl (fun _ => False) w).alloc (.cells #[.slice a1 L c1, .int .i64 T, .int .i64 V] 40))
  have ht2 : decide (T < -9007199254740992) = true ∨ (decide (T < -9007199254740992) = false ∧ decide (9007199254740992 < T) = true) := by
    by_cases h : T < -9007199254740992
    · exact .inl (decide_eq_true h)
    · exact .inr ⟨decide_eq_false h, decide_eq_true (by omega)⟩
  clear hl hm ht
  rcases ht2 with d1 | ⟨d1, d2⟩ <;>
  · go_enter Tryz.func39, Tryz.ntmps39
    go_wp2_with fail
    refine (HM.out _ HK.out).mono ?_
    rintro e w1 ⟨⟨u, n, rfl, hA⟩, k1⟩
    obtain ⟨rfl, hlab⟩ := hA
    have HK1 := hid (HK.out.trans k1 (fun _ _ f => f))
    have hb1 := Only.blk k1 HB.out (fun f => f)
    have y1 := hb1.cell 1 rfl
    clear k1 hb1 hlab
    go_wp2_with fail
    go_ret
    exact .inl ⟨21, HR.out, rfl, by decide, HK1.out⟩
end
end Go.Proofs.YtnbfbnhiikliaaaGreat.Hd

/-
  The document's own head: one row of a series that is there.
-/
namespace Go.Proofs.YtnbfbnhiikliaaaGreat.Hd
open Go.RowKit Go.Proofs.Lys Go.Maps Go.Proofs.YtnbfbnhiikliaaaGreat.N
set_option linter.unusedVariables false
set_option linter.unusedSimpArgs false

theorem own_inZ {w : World} {B n z : Nat} {e : TypeId} {v : Value} {xs : List Value} {Z : Nat → Prop} (h : w.ownsRow B e z v n xs) (hz : ∀ j, v.ownBlock = some j → Z j) : InZ Z v := by
  intro a m c hv hm
  rcases h.2 with ⟨rfl, _⟩ | ⟨g, cap, cur, rfl, _⟩
  · cases hv
  · cases hv
    exact hz g rfl
theorem kept_drewH {w w' : World} (h : Kept w w') (n : Nat) : Kept w (w'.drewN n) := by
  induction n with
  | zero => exact h
  | succ n ih => exact ih.drew

section
variable {w : World} {Z : Nat → Prop} {B rb : Nat} {win : Int} {qs : List SV}
/-- The state when a series' samples are others. -/
theorem row_stored {g cap k : Nat} (h : RefAt w Z B rb win (.slice (some ⟨g, 0, none⟩) qs.length cap) qs) (hk : k < qs.length) {X : World} (kX : Kept w X) {uv sv : Value} {l : Labs} {s : Smps} {b1 b2 : Nat} (h1 : w.heap.size ≤ b1) (h2 : w.heap.size ≤ b2) (hu : LabAt X b1 uv l) (hs : SmpAt X b2 sv s) :
    X.frozen? ⟨g, k * 2, none⟩ = false ∧ (X.setCell ⟨g, k * 2, none⟩ uv).frozen? ⟨g, k * 2 + 1, none⟩ = false ∧ (∃ x, X.cell? ⟨g, k * 2, none⟩ = some x) ∧ (∃ x, (X.setCell ⟨g, k * 2, none⟩ uv).cell? ⟨g, k * 2 + 1, none⟩ = some x) ∧
    RefAt ((X.setCell ⟨g, k * 2, none⟩ uv).setCell ⟨g, k * 2 + 1, none⟩ sv) (newZ Z w ((X.setCell ⟨g, k * 2, none⟩ uv).setCell ⟨g, k * 2 + 1, none⟩ sv) (.slice (some ⟨g, 0, none⟩) qs.length cap)) B rb win (.slice (some ⟨g, 0, none⟩) qs.length cap) (qs.set k ⟨uv, sv, l, s⟩) ∧
    Only (fun j => j = rb ∨ (Value.slice (some ⟨g, 0, none⟩) qs.length cap).ownBlock = some j) w ((X.setCell ⟨g, k * 2, none⟩ uv).setCell ⟨g, k * 2 + 1, none⟩ sv) := by
  have hX := h.stay kX
  obtain ⟨f1, f2, hrow⟩ := sv_set hX.row hk ⟨uv, sv, l, s⟩
  have hgw : g < w.heap.size := (ownN_lt h.row rfl).2
  have hrb : rb < w.heap.size := h.blk.lt
  have hne : rb ≠ g := (h.blk.typed).ne (ownN_typed h.row rfl) (by decide)
  have hx := svL_at qs k hk
  have c1 : X.cell? ⟨g, k * 2, none⟩ = some (qs[k]'hk).lv := by
    rw [World.ownsRow.cellAt hX.row (k * 2) (by omega)]
    exact hx.1
  have c2 : X.cell? ⟨g, k * 2 + 1, none⟩ = some (qs[k]'hk).sv := by
    rw [World.ownsRow.cellAt hX.row (k * 2 + 1) (by omega)]
    exact hx.2
  have hon : Only (fun j => j = g) w ((X.setCell ⟨g, k * 2, none⟩ uv).setCell ⟨g, k * 2 + 1, none⟩ sv) := ((kX.mono (O' := fun j => j = g) (fun _ _ f => f.elim)).setCell (p := ⟨g, k * 2, none⟩) (fun _ => rfl) _).setCell (p := ⟨g, k * 2 + 1, none⟩) (fun _ => rfl) _
  have honX : Only (fun j => j = g) X ((X.setCell ⟨g, k * 2, none⟩ uv).setCell ⟨g, k * 2 + 1, none⟩ sv) := ((Only.refl (fun j => j = g) X).setCell (p := ⟨g, k * 2, none⟩) (fun _ => rfl) _).setCell (p := ⟨g, k * 2 + 1, none⟩) (fun _ => rfl) _
  have hsz : X.heap.size ≤ ((X.setCell ⟨g, k * 2, none⟩ uv).setCell ⟨g, k * 2 + 1, none⟩ sv).heap.size := honX.size
  refine ⟨f1, f2, ⟨_, c1⟩, ?_, ⟨?_, hrow, fun q hq => ?_, ?_, fun j hj hz => ?_⟩, hon.mono (fun j _ e => .inr (by rw [e]; rfl))⟩
  · refine ⟨(qs[k]'hk).sv, ?_⟩
    rw [World.ownsRow.cellAt (hX.row.stored (k * 2) uv).1 (k * 2 + 1) (by omega), List.getElem?_set_ne (by omega)]
    exact hx.2
  · exact hon.blk h.blk (fun e => hne e)
  · rcases List.mem_or_eq_of_mem_set hq with hq | rfl
    · exact ((h.read q hq).only hon (fun j hj e => by subst e; exact h.ne.2 j rfl hj)).weak (fun j hj => .inl hj)
    · have hl' := ownN_only hu honX (fun b hb e => by subst e; have := (ownN_lt hu hb).1; omega)
      have hs' := ownN_only hs honX (fun b hb e => by subst e; have := (ownN_lt hs hb).1; omega)
      refine ⟨LabAt.src hl', SmpAt.src hs', own_inZ hl' (fun j hj => .inr ⟨?_, ?_, ?_⟩), own_inZ hs' (fun j hj => .inr ⟨?_, ?_, ?_⟩), smpAt_cap hs'⟩
      · have := (ownN_lt hu hj).1
        omega
      · exact Nat.lt_of_lt_of_le (ownN_lt hu hj).2 hsz
      · intro e
        have hgj : g = j := by simpa [Value.ownBlock] using e
        have := (ownN_lt hu hj).1
        omega
      · have := (ownN_lt hs hj).1
        omega
      · exact Nat.lt_of_lt_of_le (ownN_lt hs hj).2 hsz
      · intro e
        have hgj : g = j := by simpa [Value.ownBlock] using e
        have := (ownN_lt hs hj).1
        omega
  · intro hz
    rcases hz with hz | ⟨h1, _⟩
    · exact h.ne.1 hz
    · omega
  · rcases hz with hz | ⟨h1, _, h3⟩
    · exact h.ne.2 j hj hz
    · exact h3 hj

set_option maxRecDepth 100000 in
set_option maxHeartbeats 6400000 in
theorem rrow_yes {v : Value} (h : RefAt w Z B rb win v qs) (hok : ModOk (qs.map serV)) (hc : countM (qs.map serV) ≤ 50000) (hwin : 0 ≤ win ∧ win ≤ 9007199254740992) (lv : Value) (r : Row) (hl : LabSrc w lv r.1) (hls : r.1.length ≤ 100000) (hsm : Small r.1) (l : Labs) (hm : makeL r.1 = some l) (ht : -9007199254740992 ≤ r.2.1 ∧ r.2.1 ≤ 9007199254740992) (s : Smps) (hlk : lookM (qs.map serV) l = some s) :
    Calls Tryz.prog 39 #[.pointer (some ⟨rb, 0, none⟩), .agg #[lv, .int .i64 r.2.1, .int .i64 r.2.2], .int .i64 (-9007199254740992)] w (RowA w Z B rb win v (qs.map serV) r) := by
  have HR : Hid (rowM win (qs.map serV) r = if r.2.1 < lastT s - win then .error 22 else .ok (setM l (putS r.2 s) (qs.map serV))) := by
    show _ = _
    unfold rowM
    rw [hm]
    simp only
    rw [if_neg (by omega), hlk]
  have hmm := makeL_made hm
  have hn : qs.length ≤ 1000000 := by have := hok.len; rw [List.length_map] at this; omega
  have hll : ∀ q ∈ qs, q.labs.length ≤ 1000000 := fun q hq => by have := (hok.made _ (List.mem_map_of_mem (f := serV) hq)).len16; show (serV q).1.length ≤ _; omega
  have HM := hid (fun (W : World) (k : Kept w W) => rmake_any W lv r.1 (hl.stay k) hls hsm)
  have HAT := hid (fun W (k : Kept w W) lv m (hm : LabSrc W lv m) (hml : m.length ≤ 1000000) => rat_any (h.stay k) hn hll lv m hm hml)
  rw [hm] at HM
  have hsin := (look_some hok.sort).1 hlk
  have hs0 := hok.some _ hsin
  have hst := hok.time _ hsin
  have hsc := countM_mem hsin
  simp only at hs0 hst hsc
  have hlt := lastT_eq hs0
  obtain ⟨a1, c1, rfl⟩ := hl.len
  have HH := hid h
  have HOK := hid hok
  have HLK := hid hlk
  have HML := hid hmm
  obtain ⟨rl, T, V⟩ := r
  simp only at *
  generalize rl.length = L at *
  have HB := hid (Blk.new w [.slice a1 L c1, .int .i64 T, .int .i64 V] 40)
  have HK := hid ((Only.refl (fun _ => False) w).alloc (.cells #[.slice a1 L c1, .int .i64 T, .int .i64 V] 40))
  have hsz : (w.alloc (.cells #[.slice a1 L c1, .int .i64 T, .int .i64 V] 40)).heap.size = w.heap.size + 1 := by simp
  have d1 : decide (T < -9007199254740992) = false := decide_eq_false (by omega)
  have d2 : decide (9007199254740992 < T) = false := decide_eq_false (by omega)
  obtain ⟨n, hsn⟩ : ∃ n, s.length = n + 1 := ⟨s.length - 1, by omega⟩
  obtain ⟨TL, hTL⟩ : ∃ TL, lastT s = TL := ⟨_, rfl⟩
  have hTb : -9007199254740992 ≤ TL ∧ TL ≤ 9007199254740992 := by
    obtain ⟨y, hy, e⟩ := lastT_mem hs0
    have := hst y hy
    omega
  have HS0 := hid hs0
  have HSC : Hid (s.length ≤ 100000) := hid (by omega)
  have HSN := hid hsn
  have hn9 : n ≤ 100000 := by have := HSC.out; omega
  have HTL := hid hTL
  rw [hTL] at HR
  clear hl hm hlk h hok hmm hll hn hst hsc hlt hTL hsn hsin hs0 hsm hls
  go_enter Tryz.func39, Tryz.ntmps39
  go_wp2_with fail
  generalize w.alloc (.cells #[.slice a1 L c1, .int .i64 T, .int .i64 V] 40) = w0 at HB HK hsz ⊢
  refine (HM.out _ HK.out).mono ?_
  rintro e w1 ⟨⟨u, m, rfl, hA⟩, k1⟩
  obtain ⟨rfl, hlab⟩ := hA
  have HK1 := hid (HK.out.trans k1 (fun _ _ f => f))
  have HB1 := hid (Only.blk k1 HB.out (fun f => f))
  have y1 := HB1.out.cell 1 rfl
  have HA2 := hid (HAT.out w1 HK1.out _ l (LabAt.src hlab) (by have := HML.out.len16; omega))
  have HLab := hid (ownN_base hlab (b' := w.heap.size) (by omega))
  clear k1 hlab HM HAT
  go_wp2_with fail
  refine HA2.out.mono ?_
  rintro e w2 ⟨⟨k, ok, rfl, hst⟩, k2⟩
  have HK2 := hid (HK1.out.trans k2 (fun _ _ f => f))
  have HB2 := hid (Only.blk k2 HB1.out (fun f => f))
  have HLab2 := hid (ownN_stay HLab.out k2)
  cases ok with
  | false =>
    have := stand_no HOK.out.sort hst
    rw [HLK.out] at this
    cases this
  | true =>
  obtain ⟨hkM, hke⟩ := stand_yes HOK.out.sort hst
  have hk : k < qs.length := by rw [List.length_map] at hkM; exact hkM
  have hks : (qs[k]'hk).smps = s := by
    rw [HLK.out, List.getElem_map] at hke
    cases hke
    rfl
  have HSET : Hid (∀ t, setM l t (qs.map serV) = (qs.map serV).set k (l, t)) := hid (fun t => setM_at _ k l t hkM (fun i hi hi' => hst.pre i hi hi') (hst.yes rfl).choose_spec)
  have hR2 := HH.out.stay HK2.out
  obtain ⟨g, cap, rfl⟩ := ownN_some HH.out.row (by omega)
  have hx := svL_at qs k hk
  have r1 : w2.cell? ⟨g, k * 2 + 1, none⟩ = some (qs[k]'hk).sv := by
    rw [World.ownsRow.cellAt hR2.row (k * 2 + 1) (by omega)]
    exact hx.2
  have hq := hR2.read _ (List.getElem_mem hk)
  obtain ⟨sa, sc, hsv, hscap⟩ := hq.cap
  have hqs := hq.smp
  rw [hsv, hks] at hqs
  rw [hsv, hks] at r1
  rw [hks] at hscap
  obtain ⟨sb, so, rfl, z1, z2⟩ := SmpSrc.cell hqs rfl n (by have := HSN.out; omega)
  have hlastT : (s[n]'(by have := HSN.out; omega)).1 = TL := by
    rw [← HTL.out, lastT_eq HS0.out]
    congr 2
    have := HSN.out
    omega
  rw [hlastT] at z1
  have HP := hid (fun (W : World) (kW : Kept w2 W) => rput_any W _ s T V (hqs.stay kW) ⟨_, _, rfl, hscap⟩ HSC.out)
  have b1 := hR2.blk.cell 0 rfl
  have b2 := hR2.blk.cell 1 rfl
  have HST := hid (fun (X : World) (kX : Kept w2 X) (sv : Value) (hs : SmpAt X w2.heap.size sv (putS (T, V) s)) => row_stored HH.out hk (HK2.out.trans kX (fun _ _ f => f)) (Nat.le_refl _) HK2.out.size (ownN_stay HLab2.out kX) hs)
  have hkN : (k : Int) < (qs.length : Int) := by omega
  obtain ⟨ua, uc, rfl⟩ := ownN_slice HLab2.out
  rw [HSN.out] at HP r1
  clear k2 hst hkM hke hks hR2 hx hq hsv hqs hscap hlastT HA2 HLab HB1 y1 z2
  have y1 := HB2.out.cell 1 rfl
  have y2 := HB2.out.cell 2 rfl
  clear hk
  generalize qs.length = NQ at hkN b2 HST ⊢
  generalize hbx : w.heap.size = bx at y1 y2 HB2 ⊢
  generalize l.length = LL at HST ⊢
  by_cases hold : T < TL - win
  · have HF : Hid ((if T < TL - win then (Except.error 22 : Except Int Mod) else .ok (setM l (putS (T, V) s) (qs.map serV))) = .error 22) := hid (if_pos hold)
    have d3 : decide (T < TL - win) = true := decide_eq_true hold
    clear hold
    go_wp2_with fail
    go_quiet (fail)
    have K3 : Kept w2 (w2.drewN nq) := kept_drewH (Only.refl _ _) nq
    generalize w2.drewN nq = w3 at K3 ⊢
    clear nq
    have HK3 := hid (HK2.out.trans K3 (fun _ _ f => f))
    go_wp2_with fail
    go_ret
    exact .inl ⟨22, by rw [HR.out]; exact HF.out, rfl, by decide, HK3.out⟩
  · have HF : Hid ((if T < TL - win then (Except.error 22 : Except Int Mod) else .ok (setM l (putS (T, V) s) (qs.map serV))) = .ok (setM l (putS (T, V) s) (qs.map serV))) := hid (if_neg hold)
    have d3 : decide (T < TL - win) = false := decide_eq_false hold
    clear hold
    go_wp2_with fail
    go_quiet (fail)
    have K3 : Kept w2 (w2.drewN nq) := kept_drewH (Only.refl _ _) nq
    generalize w2.drewN nq = w3 at K3 ⊢
    clear nq
    have KX3 := hid K3
    have S0 : Hid (∀ W, Kept w2 W → W.cell? ⟨rb, 1, none⟩ = some (.slice (some ⟨g, 0, none⟩) NQ cap) ∧ W.cell? ⟨bx, 1, none⟩ = some (.int .i64 T) ∧ W.cell? ⟨bx, 2, none⟩ = some (.int .i64 V)) := hid (fun W kW => ⟨only_cell kW (fun f => f) b2, only_cell kW (fun f => f) y1, only_cell kW (fun f => f) y2⟩)
    clear K3 b1 b2 y1 y2 z1 r1
    go_wp2_with fail
    refine wp_region_noPanic ?_
    refine wp_region_last (L := 12) (S := fun w' => Kept w2 w') (by kernel_rfl) ?_
    have hS : (fun w' : World => Kept w2 w') w3.drew := KX3.out.drew
    refine wpAnyL_take (i := 0) (v := .pointer (some ⟨rb, 0, none⟩)) rfl (by kernel_rfl) (by kernel_rfl) (by kernel_rfl) (by kernel_rfl) (by kernel_rfl) (fun _ _ _ h => h) (Or.inl ⟨by rfl, ?_⟩) hS ?_
    · (intro w' hSw; obtain ⟨s0, s1, s2⟩ := S0.out w' hSw; clear hSw; go_simp)
    (try simp only [List.getElem_toArray, List.getElem_cons_succ, List.getElem_cons_zero])
    go_frame
    refine wpAnyL_take (i := 1) (v := .pointer (some ⟨rb, 0, none⟩)) rfl (by kernel_rfl) (by kernel_rfl) (by kernel_rfl) (by kernel_rfl) (by kernel_rfl) (fun _ _ _ h => h) (Or.inl ⟨by rfl, ?_⟩) hS ?_
    · (intro w' hSw; obtain ⟨s0, s1, s2⟩ := S0.out w' hSw; clear hSw; go_simp)
    (try simp only [List.getElem_toArray, List.getElem_cons_succ, List.getElem_cons_zero])
    go_frame
    refine wpAnyL_take (i := 2) (v := .pointer (some ⟨rb, 1, none⟩)) rfl (by kernel_rfl) (by kernel_rfl) (by kernel_rfl) (by kernel_rfl) (by kernel_rfl) (fun _ _ _ h => h) (Or.inl ⟨by rfl, ?_⟩) hS ?_
    · (intro w' hSw; obtain ⟨s0, s1, s2⟩ := S0.out w' hSw; clear hSw; go_simp)
    (try simp only [List.getElem_toArray, List.getElem_cons_succ, List.getElem_cons_zero])
    go_frame
    refine wpAnyL_take (i := 3) (v := .slice (some ⟨g, 0, none⟩) NQ cap) rfl (by kernel_rfl) (by kernel_rfl) (by kernel_rfl) (by kernel_rfl) (by kernel_rfl) (fun _ _ _ h => h) (Or.inl ⟨by rfl, ?_⟩) hS ?_
    · (intro w' hSw; obtain ⟨s0, s1, s2⟩ := S0.out w' hSw; clear hSw; go_simp)
    (try simp only [List.getElem_toArray, List.getElem_cons_succ, List.getElem_cons_zero])
    go_frame
    refine wpAnyL_take (i := 4) (v := .int .i64 (k : Int)) rfl (by kernel_rfl) (by kernel_rfl) (by kernel_rfl) (by kernel_rfl) (by kernel_rfl) (fun _ _ _ h => h) (Or.inl ⟨by rfl, ?_⟩) hS ?_
    · (intro w' hSw; obtain ⟨s0, s1, s2⟩ := S0.out w' hSw; clear hSw; go_simp)
    (try simp only [List.getElem_toArray, List.getElem_cons_succ, List.getElem_cons_zero])
    go_frame
    refine wpAnyL_take (i := 5) (v := .slice ua LL uc) rfl (by kernel_rfl) (by kernel_rfl) (by kernel_rfl) (by kernel_rfl) (by kernel_rfl) (fun _ _ _ h => h) (Or.inl ⟨by rfl, ?_⟩) hS ?_
    · (intro w' hSw; obtain ⟨s0, s1, s2⟩ := S0.out w' hSw; clear hSw; go_simp)
    (try simp only [List.getElem_toArray, List.getElem_cons_succ, List.getElem_cons_zero])
    go_frame
    refine wpAnyL_take (i := 6) (v := .slice (some ⟨sb, so, none⟩) (n + 1) sc) rfl (by kernel_rfl) (by kernel_rfl) (by kernel_rfl) (by kernel_rfl) (by kernel_rfl) (fun _ _ _ h => h) (Or.inl ⟨by rfl, ?_⟩) hS ?_
    · (intro w' hSw; obtain ⟨s0, s1, s2⟩ := S0.out w' hSw; clear hSw; go_simp)
    (try simp only [List.getElem_toArray, List.getElem_cons_succ, List.getElem_cons_zero])
    go_frame
    refine wpAnyL_take (i := 7) (v := .pointer (some ⟨bx, 1, none⟩)) rfl (by kernel_rfl) (by kernel_rfl) (by kernel_rfl) (by kernel_rfl) (by kernel_rfl) (fun _ _ _ h => h) (Or.inl ⟨by rfl, ?_⟩) hS ?_
    · (intro w' hSw; obtain ⟨s0, s1, s2⟩ := S0.out w' hSw; clear hSw; go_simp)
    (try simp only [List.getElem_toArray, List.getElem_cons_succ, List.getElem_cons_zero])
    go_frame
    refine wpAnyL_take (i := 8) (v := .agg #[.int .i64 T, .int .i64 V]) rfl (by kernel_rfl) (by kernel_rfl) (by kernel_rfl) (by kernel_rfl) (by kernel_rfl) (fun _ _ _ h => h) (Or.inl ⟨by rfl, ?_⟩) hS ?_
    · (intro w' hSw; obtain ⟨s0, s1, s2⟩ := S0.out w' hSw; clear hSw; go_simp)
    (try simp only [List.getElem_toArray, List.getElem_cons_succ, List.getElem_cons_zero])
    go_frame
    refine wpAnyL_one (i := 9) (by kernel_rfl) rfl rfl ?_
    go_simp
    refine (HP.out _ KX3.out.drew).mono ?_
    rintro e X ⟨sv, rfl, hsv, kX⟩
    have KX := hid (show Kept w2 X from KX3.out.drew.trans kX (fun _ _ f => f))
    have hsv2 := ownN_base hsv (b' := w2.heap.size) KX3.out.drew.size
    obtain ⟨f1, f2, ⟨x1, c1⟩, ⟨x2, c2⟩, hfin, hon⟩ := HST.out X KX.out sv hsv2
    have HFIN := hid hfin
    have HON := hid hon
    obtain ⟨fa, fc, rfl⟩ := ownN_slice hsv
    generalize (putS (T, V) s).length = PL at *
    clear hsv hsv2 kX hfin hon hS
    refine ⟨KX.out, ?_⟩
    (try go_frame)
    refine wpAnyL_one (i := 10) (by kernel_rfl) rfl rfl ?_
    go_simp
    refine ⟨KX.out, ?_⟩
    (try go_frame)
    refine wpAnyL_one (i := 11) (by kernel_rfl) rfl rfl ?_
    go_simp
    refine ⟨KX.out, ?_⟩
    (try go_frame)
    refine wpAnyL_last (by kernel_rfl) (by kernel_rfl) rfl rfl ?_
    go_simp
    refine NoPanic.normal ?_
    go_wp2_with fail
    go_ret
    refine .inr ⟨_, _, _, by rw [HR.out]; exact HF.out, rfl, HFIN.out, ?_, HON.out⟩
    rw [List.map_set, HSET.out]
    rfl
end
end Go.Proofs.YtnbfbnhiikliaaaGreat.Hd
