/-
  Xrow.
-/
import Derived.Test.YteknpfldemgmnaaGreatQ17
import Derived.Test.YteknpfldemgmnaaGreatQ26

/-
  Rows of posts: cells, parts, joins.
-/
namespace Go.Proofs.YteknpfldemgmnaaGreat.X
open Go.RowKit Go.Proofs.Lys Go.Maps Go.Proofs.YteknpfldemgmnaaGreat.N
set_option linter.unusedVariables false
set_option linter.unusedSimpArgs false

/-- A post that is told: its label, its list's value, its numbers. -/
structure PV where
  lab : Lab
  lv : Value
  l : List Int
def PV.has (x : PV) (k : Nat) : Prop := x.lv.ownBlock = some k
def postV (x : PV) : Post := (x.lab, x.l)
def pvL : List PV → List Value
  | [] => []
  | x :: r => .string x.lab.1 :: .string x.lab.2 :: x.lv :: pvL r
theorem pvL_len (l : List PV) : (pvL l).length = l.length * 3 := by
  induction l with
  | nil => rfl
  | cons p r ih => rw [pvL, List.length_cons, List.length_cons, List.length_cons, ih, List.length_cons]; omega
theorem pvL_app (l r : List PV) : pvL (l ++ r) = pvL l ++ pvL r := by
  induction l with
  | nil => rfl
  | cons p l ih => rw [List.cons_append, pvL, ih, pvL]; rfl
theorem pvL_at (l : List PV) (i : Nat) (h : i < l.length) : (pvL l)[i * 3]? = some (.string l[i].lab.1) ∧ (pvL l)[i * 3 + 1]? = some (.string l[i].lab.2) ∧ (pvL l)[i * 3 + 2]? = some l[i].lv := by
  induction l generalizing i with
  | nil => simp at h
  | cons p r ih =>
    cases i with
    | zero => exact ⟨rfl, rfl, rfl⟩
    | succ i =>
      have := ih i (by simpa using h)
      rw [show (i + 1) * 3 = i * 3 + 3 by omega]
      exact this
theorem Tryz.infoPost : (Tryz.prog.info? 65).map (fun i => (i.zero, i.size, i.bytes)) = some (some (.agg #[.string ⟨#[]⟩, .string ⟨#[]⟩, .slice none 0 0]), 3, 56) := by kernel_rfl
/-- A row of posts, cell by cell. -/
def PvCells (w : World) (v : Value) (qs : List PV) : Prop :=
  (∃ a c, v = .slice a 0 c ∧ qs = []) ∨ ∃ b o c, v = .slice (some ⟨b, o, none⟩) qs.length c ∧ ∀ i (hi : i < qs.length), w.cell? ⟨b, o + i * 3, none⟩ = some (.string qs[i].lab.1) ∧ w.cell? ⟨b, o + i * 3 + 1, none⟩ = some (.string qs[i].lab.2) ∧ w.cell? ⟨b, o + i * 3 + 2, none⟩ = some qs[i].lv
theorem cell_kept {w W : World} (k : Kept w W) {a : Addr} {u : Value} (h : w.cell? a = some u) : W.cell? a = some u := by
  rw [World.cell?_of_block (w := w) (w' := W) (a := a) (k.block a.block (World.block_lt_of_cell? w a h) (fun f => f))]
  exact h
theorem PvCells.stay {w W : World} {v : Value} {qs : List PV} (h : PvCells w v qs) (k : Kept w W) : PvCells W v qs := by
  rcases h with h | ⟨b, o, c, e, hc⟩
  · exact .inl h
  · exact .inr ⟨b, o, c, e, fun i hi => ⟨cell_kept k (hc i hi).1, cell_kept k (hc i hi).2.1, cell_kept k (hc i hi).2.2⟩⟩
theorem PvCells.len {w : World} {v : Value} {qs : List PV} (h : PvCells w v qs) : ∃ a c, v = .slice a qs.length c := by
  rcases h with ⟨a, c, rfl, rfl⟩ | ⟨b, o, c, rfl, _⟩
  · exact ⟨a, c, rfl⟩
  · exact ⟨_, c, rfl⟩
theorem PvCells.cell {w : World} {a : Option Addr} {N c : Nat} {qs : List PV} (h : PvCells w (.slice a N c) qs) (hN : qs.length = N) (k : Nat) (hk : k < N) :
    ∃ b o, a = some ⟨b, o, none⟩ ∧ w.cell? ⟨b, o + k * 3, none⟩ = some (.string (qs[k]'(by omega)).lab.1) ∧ w.cell? ⟨b, o + k * 3 + 1, none⟩ = some (.string (qs[k]'(by omega)).lab.2) ∧ w.cell? ⟨b, o + k * 3 + 2, none⟩ = some (qs[k]'(by omega)).lv := by
  rcases h with ⟨a', c', e, e2⟩ | ⟨b, o, c', e, hc⟩
  · subst e2
    simp at hN
    omega
  · simp only [Value.slice.injEq] at e
    exact ⟨b, o, e.1, hc k (by omega)⟩
abbrev PvAt (w : World) (B : Nat) (v : Value) (qs : List PV) : Prop := w.ownsRow B 65 3 v qs.length (pvL qs)
theorem pv_cells {w : World} {B : Nat} {v : Value} {qs : List PV} (h : PvAt w B v qs) : PvCells w v qs := by
  by_cases h0 : qs.length = 0
  · have : qs = [] := List.length_eq_zero_iff.1 h0
    subst this
    obtain ⟨a, c, rfl⟩ := ownN_slice h
    exact .inl ⟨a, c, rfl, rfl⟩
  · obtain ⟨g, cap, rfl⟩ := ownN_some h (by omega)
    refine .inr ⟨g, 0, cap, rfl, fun i hi => ?_⟩
    have hx := pvL_at qs i hi
    rw [Nat.zero_add]
    exact ⟨by rw [h.cellAt (i * 3) (by omega)]; exact hx.1, by rw [h.cellAt (i * 3 + 1) (by omega)]; exact hx.2.1, by rw [h.cellAt (i * 3 + 2) (by omega)]; exact hx.2.2⟩
/-- Values that are slices. -/
def PvPlain (qs : List PV) : Prop := ∀ q ∈ qs, ∃ a n c, q.lv = .slice a n c
theorem pvL_plain {qs : List PV} (h : PvPlain qs) : ∀ u ∈ pvL qs, u.oneCell' = true := by
  induction qs with
  | nil => intro u hu; cases hu
  | cons p r ih =>
    intro u hu
    rw [pvL] at hu
    simp only [List.mem_cons] at hu
    rcases hu with rfl | rfl | rfl | hu
    · rfl
    · rfl
    · obtain ⟨a, n, c, e⟩ := h p (List.mem_cons_self ..)
      rw [e]; rfl
    · exact ih (fun q hq => h q (List.mem_cons_of_mem _ hq)) u hu
theorem pv_src {w : World} {b o : Nat} {q : List PV} (hc : ∀ i (hi : i < q.length), w.cell? ⟨b, o + i * 3, none⟩ = some (.string q[i].lab.1) ∧ w.cell? ⟨b, o + i * 3 + 1, none⟩ = some (.string q[i].lab.2) ∧ w.cell? ⟨b, o + i * 3 + 2, none⟩ = some q[i].lv) : ∀ j u, (pvL q)[j]? = some u → w.cell? ((⟨b, o, none⟩ : Addr).add j) = some u := by
  intro j u hu
  rw [add_none]
  have hj : j < (pvL q).length := (List.getElem?_eq_some_iff.1 hu).1
  rw [pvL_len] at hj
  have hx := pvL_at q (j / 3) (by omega)
  have hcc := hc (j / 3) (by omega)
  have hp : j % 3 = 0 ∨ j % 3 = 1 ∨ j % 3 = 2 := by omega
  rcases hp with hp | hp | hp
  · have ej : j = j / 3 * 3 := by omega
    rw [ej] at hu ⊢
    rw [hx.1] at hu
    cases hu
    exact hcc.1
  · have ej : j = j / 3 * 3 + 1 := by omega
    rw [ej] at hu ⊢
    rw [hx.2.1] at hu
    cases hu
    rw [← Nat.add_assoc]
    exact hcc.2.1
  · have ej : j = j / 3 * 3 + 2 := by omega
    rw [ej] at hu ⊢
    rw [hx.2.2] at hu
    cases hu
    rw [← Nat.add_assoc]
    exact hcc.2.2
theorem pv_append {w : World} {B : Nat} {v xv : Value} {l q : List PV} (hown : PvAt w B v l) (hsrc : PvCells w xv q) (hq : PvPlain q) (hl : l.length + q.length ≤ 1000000) (hB : B ≤ w.heap.size) :
    ∃ v' w', (Builtin.append_ #[36, 36] 0 #[v, xv]).run Tryz.prog w = .ok v' w' ∧ PvAt w' B v' (l ++ q) ∧ w.grownBy w' v.ownBlock ∧ (v'.ownBlock = v.ownBlock ∨ v'.ownBlock = some w.heap.size) := by
  obtain ⟨i0, hi0, hz0, hz1, hz2⟩ := info_parts Tryz.infoPost
  have hm : l.length + q.length ≤ maxLen := by unfold maxLen; omega
  have ht := Tryz.underlying36
  have hll : (l ++ q).length = l.length + q.length := List.length_append
  have main : ∀ (a : Addr) (c : Nat), xv = .slice (some a) q.length c → (∀ j u, (pvL q)[j]? = some u → w.cell? (a.add j) = some u) → ∃ v' w', (Builtin.append_ #[36, 36] 0 #[v, xv]).run Tryz.prog w = .ok v' w' ∧ PvAt w' B v' (l ++ q) ∧ w.grownBy w' v.ownBlock ∧ (v'.ownBlock = v.ownBlock ∨ v'.ownBlock = some w.heap.size) := by
    intro a c e hc
    subst e
    obtain ⟨v', w', hr, h2, h3, _, h5⟩ := run_append_own_at (P := Tryz.prog) w B _ 0 _ i0 _ 3 56 ht hi0 hz0 hz1 hz2 rfl (by decide) v l.length (pvL l) hown a q.length c (pvL q) (pvL_len q)
      hc (pvL_plain hq) hm (by omega) hB
    refine ⟨v', w', hr, ?_, h3, h5⟩
    unfold PvAt
    rw [hll, pvL_app]
    exact h2
  rcases hsrc with ⟨a, c, rfl, rfl⟩ | ⟨b, o, c, rfl, hc⟩
  · cases a with
    | none =>
      refine ⟨v, w, ?_, by rw [List.append_nil]; exact hown, World.grownBy.refl _ _, .inl rfl⟩
      rcases hown.2 with ⟨rfl, h0⟩ | ⟨g, cap, cur, rfl, hbg, hg, hnc, hcm, hcs, htake⟩
      · simp [Builtin.append_, run_underlying ht, sizeOf, typeInfo, hi0, Builtin.lenOf, Builtin.firstCells]
      · simp [Builtin.append_, run_underlying ht, sizeOf, typeInfo, hi0, Builtin.lenOf, Builtin.firstCells, hnc, storeCells]
    | some a => exact main a c rfl (fun j u hu => by simp [pvL] at hu)
  · exact main _ c rfl (pv_src hc)
/-- A copy of a row of posts. -/
theorem pv_copy {w : World} {xv : Value} {q : List PV} (hsrc : PvCells w xv q) (hq : PvPlain q) (hl : q.length ≤ 100000) :
    ∃ v w', Hid ((Builtin.append_ #[36, 36] 0 #[.slice none 0 0, xv]).run Tryz.prog w = .ok v w') ∧ PvAt w' w.heap.size v q ∧ Kept w w' := by
  obtain ⟨v', w', hr, h1, h2, h3⟩ := pv_append (w := w) (B := w.heap.size) (v := .slice none 0 0) (l := []) ⟨rfl, .inl ⟨rfl, rfl⟩⟩ hsrc hq (by simp; omega) (Nat.le_refl _)
  rw [List.nil_append] at h1
  exact ⟨v', w', hr, h1, (Only.refl _ w).grown h2 (fun j hj => by cases hj)⟩
theorem Tryz.sizePost (W : World) : (sizeOf 65).run Tryz.prog W = .ok 3 W := by kernel_rfl
/-- A row of posts in two. -/
theorem pv_cut {w : World} {B : Nat} {v : Value} {l : List PV} (h : PvAt w B v l) (k : Nat) (hk : k ≤ l.length) :
    ∃ a1 a2 c2, (∀ W, (Instr.sliceAt 36 v none (some (.int .i64 (k : Int))) (some (.int .i64 (k : Int)))).run Tryz.prog W = .ok (.slice a1 k k) W) ∧ PvCells w (.slice a1 k k) (l.take k) ∧
      (∀ W, (Instr.sliceAt 36 v (some (.int .i64 (k : Int))) none none).run Tryz.prog W = .ok (.slice a2 (l.length - k) c2) W) ∧ PvCells w (.slice a2 (l.length - k) c2) (l.drop k) := by
  have ht := Tryz.underlying36
  rcases h.2 with ⟨rfl, h0⟩ | ⟨g, cap, cur, rfl, hb, hg, hnc, hcm, hcs, htake⟩
  · have hl : l = [] := List.length_eq_zero_iff.1 h0
    subst hl
    have hk0 : k = 0 := by simpa using hk
    subst hk0
    exact ⟨none, none, 0, fun W => by kernel_rfl, .inl ⟨_, _, rfl, rfl⟩, fun W => by kernel_rfl, .inl ⟨_, _, rfl, rfl⟩⟩
  · have hs := pv_cells h
    have hkc : k ≤ cap := by omega
    refine ⟨some ⟨g, 0, none⟩, some (if cap = k then ⟨g, 0, none⟩ else ⟨g, k * 3, none⟩), cap - k, fun W => ?_, ?_, fun W => ?_, ?_⟩
    · simp [Instr.sliceAt, Instr.slice, Instr.sliceBounds, Instr.sliceBound, run_underlying ht, asIntOf, hkc, Addr.add, Result.andThen, Tryz.sizePost]
    · rcases hs with ⟨a, c, e, e2⟩ | ⟨b, o, c, e1, hc⟩
      · subst e2
        have hk0 : k = 0 := by simpa using hk
        subst hk0
        exact .inl ⟨_, _, rfl, rfl⟩
      · cases e1
        have hlt : (l.take k).length = k := by rw [List.length_take]; omega
        refine .inr ⟨g, 0, k, by rw [hlt], fun i hi => ?_⟩
        rw [List.getElem_take]
        exact hc i (by omega)
    · simp [Instr.sliceAt, Instr.slice, Instr.sliceBounds, Instr.sliceBound, run_underlying ht, asIntOf, hk, Addr.add, Result.andThen, Tryz.sizePost]
      by_cases hck : cap = k
      · rw [if_pos hck, if_pos hck]
      · rw [if_neg hck, if_neg hck]
        by_cases hk0 : k * 3 = 0
        · rw [if_pos hk0, hk0]
        · rw [if_neg hk0]
    · by_cases hkl : k = l.length
      · subst hkl
        rw [Nat.sub_self, List.drop_length]
        exact .inl ⟨_, _, rfl, rfl⟩
      · rcases hs with ⟨a, c, e, e2⟩ | ⟨b, o, c, e1, hc⟩
        · subst e2
          simp at hk hkl
          omega
        · cases e1
          have hlt : (l.drop k).length = l.length - k := List.length_drop
          refine .inr ⟨g, k * 3, cap - k, by rw [hlt, if_neg (by omega)], fun i hi => ?_⟩
          rw [List.getElem_drop]
          have := hc (k + i) (by omega)
          rw [Nat.zero_add, Nat.add_mul] at this
          exact this
/-- A post behind a slice that is full. -/
theorem pv_full {w : World} {a : Option Addr} {k xb : Nat} {l : List PV} {x : PV} (h : PvCells w (.slice a k k) l) (hl : l.length = k) (hk : k ≤ 100000) (hx : Blk w xb [.string x.lab.1, .string x.lab.2, x.lv] 65) :
    ∃ c w', Hid ((Builtin.append_ #[36, 36] 0 #[.slice a k k, .slice (some ⟨xb, 0, none⟩) 1 1]).run Tryz.prog w = .ok (.slice (some ⟨w.heap.size, 0, none⟩) (k + 1) c) w') ∧ PvAt w' w.heap.size (.slice (some ⟨w.heap.size, 0, none⟩) (k + 1) c) (l ++ [x]) ∧ Kept w w' := by
  obtain ⟨i0, hi0, hz0, hz1, hz2⟩ := info_parts Tryz.infoPost
  have hnews : ∀ j v, ([.string x.lab.1, .string x.lab.2, x.lv] : List Value)[j]? = some v → w.cell? ((⟨xb, 0, none⟩ : Addr).add j) = some v := fun j u hj => by rw [add_none, Nat.zero_add]; exact hx.cell j hj
  have e : pvL (l ++ [x]) = pvL l ++ [.string x.lab.1, .string x.lab.2, x.lv] := by rw [pvL_app]; rfl
  have own : ∀ old, (w.drew.alloc (.cells ((pvL l).toArray ++ #[.string x.lab.1, .string x.lab.2, x.lv] ++ Builtin.zeroCells (Value.agg #[.string ⟨#[]⟩, .string ⟨#[]⟩, .slice none 0 0]).cells (grownCap w (k + 1) old 65 - (k + 1))) 65)).ownsRow w.heap.size 65 3 (.slice (some ⟨w.heap.size, 0, none⟩) (k + 1) (grownCap w (k + 1) old 65)) (l ++ [x]).length (pvL (l ++ [x])) := fun old => by
    have hge := grownCap_ge w (k + 1) old 65
    have hcm := grownCap_le_maxLen w (k + 1) old 65 (by unfold maxLen; omega)
    have hlen : (l ++ [x]).length = k + 1 := by rw [List.length_append, hl]; rfl
    refine ⟨pvL_len _, .inr ⟨w.heap.size, _, _, by rw [hlen], Nat.le_refl _, heap_alloc_new w.drew _, by rw [hlen]; exact hge, hcm, ?_, ?_⟩⟩
    · simp only [Array.size_append, List.size_toArray, size_zeroCells, pvL_len, hl]
      simp [Value.cells]
      omega
    · rw [e, hlen]
      simp only [Array.toList_append]
      rw [List.take_left']
      simp [pvL_len, hl]
      omega
  have kept : ∀ o, Kept w (w.drew.alloc o) := fun o => ((Only.refl _ w).drew).alloc o
  rcases h with ⟨a', c', hv, rfl⟩ | ⟨b, o, c', hv, hc⟩
  · simp only [Value.slice.injEq] at hv
    obtain ⟨rfl, rfl, _⟩ := hv
    cases a with
    | none =>
      have hr := run_append_nil (P := Tryz.prog) w 36 0 65 i0 _ Tryz.underlying36 hi0 hz0 ⟨xb, 0, none⟩ 1 1 [.string x.lab.1, .string x.lab.2, x.lv] (by rw [hz1]; rfl) hnews (by omega) (by omega) (by rw [hz2]; omega)
      refine ⟨_, _, hr, ?_, kept _⟩
      have := own 0
      unfold PvAt
      simpa [pvL] using this
    | some b =>
      have hr := run_append_grow (P := Tryz.prog) w 36 0 65 i0 _ Tryz.underlying36 hi0 hz0 b 0 0 [] (by simp) (by simp) ⟨xb, 0, none⟩ 1 1 [.string x.lab.1, .string x.lab.2, x.lv] (by rw [hz1]; rfl) hnews (by omega) (by omega) (by rw [hz2]; decide)
      refine ⟨_, _, hr, ?_, kept _⟩
      have := own 0
      unfold PvAt
      simpa [pvL] using this
  · simp only [Value.slice.injEq] at hv
    obtain ⟨rfl, _, _⟩ := hv
    have hfit : Builtin.nextslicecap (k + 1) k * i0.bytes ≤ 281474976710656 := by
      rw [hz2]
      have := nextslicecap_le (need := k + 1) (old := k) (by omega)
      omega
    have hr := run_append_grow (P := Tryz.prog) w 36 0 65 i0 _ Tryz.underlying36 hi0 hz0 ⟨b, o, none⟩ k k (pvL l) (by rw [hz1, pvL_len, hl]) (pv_src hc) ⟨xb, 0, none⟩ 1 1 [.string x.lab.1, .string x.lab.2, x.lv] (by rw [hz1]; rfl) hnews (by omega) (by omega) hfit
    refine ⟨_, _, hr, ?_, kept _⟩
    have := own k
    unfold PvAt
    simpa using this
theorem pvL_set (qs : List PV) (k : Nat) (u : Value) (m : List Int) (hk : k < qs.length) : pvL (qs.set k ⟨qs[k].lab, u, m⟩) = (pvL qs).set (k * 3 + 2) u := by
  induction qs generalizing k with
  | nil => simp at hk
  | cons p r ih =>
    cases k with
    | zero => rfl
    | succ k =>
      have e1 : (k + 1) * 3 + 2 = k * 3 + 2 + 1 + 1 + 1 := by omega
      have h := ih k (by simpa using hk)
      rw [List.set_cons_succ, pvL, pvL, e1]
      simp only [List.getElem_cons_succ, List.set_cons_succ]
      rw [h]
theorem pv_set {w : World} {B g cap k : Nat} {qs : List PV} (h : PvAt w B (.slice (some ⟨g, 0, none⟩) qs.length cap) qs) (hk : k < qs.length) (u : Value) (m : List Int) :
    w.frozen? ⟨g, k * 3 + 2, none⟩ = false ∧ PvAt (w.setCell ⟨g, k * 3 + 2, none⟩ u) B (.slice (some ⟨g, 0, none⟩) qs.length cap) (qs.set k ⟨qs[k].lab, u, m⟩) := by
  refine ⟨h.frozenAt _, ?_⟩
  have h1 := (h.stored (k * 3 + 2) u).1
  unfold PvAt
  rw [List.length_set, pvL_set qs k u m hk]
  exact h1
/-- Posts that lie in blocks of their own, from B on. -/
structure PostAt (w : World) (B : Nat) (v : Value) (xs : List PV) : Prop where
  row : PvAt w B v xs
  num : ∀ x ∈ xs, NumAt w B x.lv x.l
  apart : xs.Pairwise (fun a b => ∀ k, a.has k → ¬ b.has k)
theorem PostAt.only {w w' : World} {B : Nat} {v : Value} {xs : List PV} {O : Nat → Prop} (h : PostAt w B v xs) (k : Only O w w') (hO : ∀ j, B ≤ j → j < w.heap.size → ¬ O j) : PostAt w' B v xs :=
  ⟨ownN_only h.row k (fun b hb => hO b (ownN_lt h.row hb).1 (ownN_lt h.row hb).2), fun x hx => ownN_only (h.num x hx) k (fun b hb => hO b (ownN_lt (h.num x hx) hb).1 (ownN_lt (h.num x hx) hb).2), h.apart⟩
theorem PostAt.stay {w w' : World} {B : Nat} {v : Value} {xs : List PV} (h : PostAt w B v xs) (k : Kept w w') : PostAt w' B v xs := h.only k (fun _ _ _ f => f)
theorem PostAt.nil (w : World) (B : Nat) : PostAt w B (.slice none 0 0) [] := ⟨World.ownsRow_nil _ _ _ _, (fun x hx => by cases hx), .nil⟩
theorem PostAt.base {w : World} {B B' : Nat} {v : Value} {xs : List PV} (h : PostAt w B v xs) (hb : B' ≤ B) : PostAt w B' v xs := ⟨ownN_base h.row hb, fun x hx => ownN_base (h.num x hx) hb, h.apart⟩
theorem PostAt.plain {w : World} {B : Nat} {v : Value} {xs : List PV} (h : PostAt w B v xs) : PvPlain xs := fun x hx => by
  obtain ⟨a, c, e⟩ := ownN_slice (h.num x hx)
  exact ⟨_, _, _, e⟩
theorem PostAt.ne {w : World} {B : Nat} {v : Value} {xs : List PV} (h : PostAt w B v xs) {x : PV} (hx : x ∈ xs) {j : Nat} (hj : x.has j) : v.ownBlock ≠ some j := fun e => ((ownN_typed (h.num x hx) hj).ne (ownN_typed h.row e) (by decide)) rfl
/-- A post more, with a list of its own that is new. -/
theorem post_more {w w2 w3 : World} {B : Nat} {v v' : Value} {xs : List PV} (h : PostAt w B v xs) (hB : B ≤ w.heap.size) (k : Kept w w2) {x : PV} (hx : NumAt w2 w.heap.size x.lv x.l) (hr : PvAt w3 B v' (xs ++ [x])) (ko : Only (fun j => v.ownBlock = some j) w2 w3) : PostAt w3 B v' (xs ++ [x]) ∧ Only (fun j => v.ownBlock = some j) w w3 := by
  refine ⟨⟨hr, fun y hy => ?_, ?_⟩, (k.mono (O' := fun j => v.ownBlock = some j) (fun _ _ f => f.elim)).trans ko (fun _ _ e => e)⟩
  · rcases List.mem_append.1 hy with e | e
    · exact ownN_only (ownN_stay (h.num y e) k) ko (fun j hj e2 => h.ne e hj e2)
    · rw [List.mem_singleton.1 e]
      refine ownN_base (ownN_only hx ko (fun j hj e2 => ?_)) hB
      have h1 := (ownN_lt hx hj).1
      have h2 := (ownN_lt h.row e2).2
      omega
  · refine List.pairwise_append.2 ⟨h.apart, List.pairwise_singleton _ _, fun a ha b hb j h1 h2 => ?_⟩
    rw [List.mem_singleton.1 hb] at h2
    have h3 := (ownN_lt (h.num a ha) h1).2
    have h4 := (ownN_lt hx h2).1
    omega
end Go.Proofs.YteknpfldemgmnaaGreat.X
