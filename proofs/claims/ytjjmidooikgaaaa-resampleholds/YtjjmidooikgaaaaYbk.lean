/-
  Rows of buckets: six numbers each.
-/
import Derived.Test.YtjjmidooikgaaaaYplain
import Derived.Test.YtjjmidooikgaaaaZsmp
namespace Go.Proofs.Ytjjmidooikgaaaa.Ru
open Go Go.RowKit Go.Proofs.Lys
set_option linter.unusedVariables false

theorem Try.infoB : (Try.prog.info? 62).map (fun i => (i.zero, i.size, i.bytes)) = some (some (.agg #[.int .i64 0, .int .i64 0, .int .i64 0, .int .i64 0, .int .i64 0, .int .i64 0]), 6, 48) := by kernel_rfl
/-- A bucket, cell by cell. -/
def bkC (x : Bk) : List Value := [.int .i64 x.t, .int .i64 x.c, .int .i64 x.s, .int .i64 x.mn, .int .i64 x.mx, .int .i64 x.la]
def bkV (x : Bk) : Value := .agg #[.int .i64 x.t, .int .i64 x.c, .int .i64 x.s, .int .i64 x.mn, .int .i64 x.mx, .int .i64 x.la]
def bkO (x : Bk) : Obj := .cells #[.int .i64 x.t, .int .i64 x.c, .int .i64 x.s, .int .i64 x.mn, .int .i64 x.mx, .int .i64 x.la] 62
def bkL : Bks → List Value
  | [] => []
  | p :: r => .int .i64 p.t :: .int .i64 p.c :: .int .i64 p.s :: .int .i64 p.mn :: .int .i64 p.mx :: .int .i64 p.la :: bkL r
theorem bkL_len (l : Bks) : (bkL l).length = l.length * 6 := by
  induction l with
  | nil => rfl
  | cons p r ih => simp only [bkL, List.length_cons, ih]; omega
theorem bkL_app (l r : Bks) : bkL (l ++ r) = bkL l ++ bkL r := by
  induction l with
  | nil => rfl
  | cons p l ih => rw [List.cons_append, bkL, ih, bkL]; rfl
theorem bkL_at (l : Bks) (i : Nat) (h : i < l.length) : ∀ k u, (bkC l[i])[k]? = some u → (bkL l)[i * 6 + k]? = some u := by
  induction l generalizing i with
  | nil => simp at h
  | cons p r ih =>
    cases i with
    | zero =>
      intro k u hu
      rw [Nat.zero_mul, Nat.zero_add]
      have hk : k < 6 := by
        have := (List.getElem?_eq_some_iff.1 hu).1
        exact this
      match k, hk with
      | 0, _ => exact hu
      | 1, _ => exact hu
      | 2, _ => exact hu
      | 3, _ => exact hu
      | 4, _ => exact hu
      | 5, _ => exact hu
    | succ i =>
      intro k u hu
      have := ih i (by simpa using h) k u hu
      rw [show (i + 1) * 6 + k = i * 6 + k + 6 by omega]
      exact this
theorem bkL_one (l : Bks) : ∀ u ∈ bkL l, u.oneCell' = true := by
  induction l with
  | nil => intro u hu; cases hu
  | cons p r ih =>
    intro u hu
    simp only [bkL, List.mem_cons] at hu
    rcases hu with rfl | rfl | rfl | rfl | rfl | rfl | hu
    · rfl
    · rfl
    · rfl
    · rfl
    · rfl
    · rfl
    · exact ih u hu
theorem bkL_set (l : Bks) (k : Nat) (p : Bk) (hk : k < l.length) : bkL (l.set k p) = ((((((bkL l).set (k * 6) (.int .i64 p.t)).set (k * 6 + 1) (.int .i64 p.c)).set (k * 6 + 2) (.int .i64 p.s)).set (k * 6 + 3) (.int .i64 p.mn)).set (k * 6 + 4) (.int .i64 p.mx)).set (k * 6 + 5) (.int .i64 p.la) := by
  induction l generalizing k with
  | nil => simp at hk
  | cons q r ih =>
    cases k with
    | zero => rfl
    | succ k =>
      rw [List.set_cons_succ, bkL, ih k (by simpa using hk), bkL]
      rw [show (k + 1) * 6 = k * 6 + 6 by omega]
      rfl

/-- The six cells of a bucket. -/
def BkC (w : World) (b o : Nat) (x : Bk) : Prop := ∀ k u, (bkC x)[k]? = some u → w.cell? ⟨b, o + k, none⟩ = some u
theorem BkC.six {w : World} {b o : Nat} {x : Bk} (h : BkC w b o x) : w.cell? ⟨b, o, none⟩ = some (.int .i64 x.t) ∧ w.cell? ⟨b, o + 1, none⟩ = some (.int .i64 x.c) ∧ w.cell? ⟨b, o + 2, none⟩ = some (.int .i64 x.s) ∧ w.cell? ⟨b, o + 3, none⟩ = some (.int .i64 x.mn) ∧ w.cell? ⟨b, o + 4, none⟩ = some (.int .i64 x.mx) ∧ w.cell? ⟨b, o + 5, none⟩ = some (.int .i64 x.la) :=
  ⟨h 0 _ rfl, h 1 _ rfl, h 2 _ rfl, h 3 _ rfl, h 4 _ rfl, h 5 _ rfl⟩
/-- Buckets that are read. -/
def BkSrc (w : World) (v : Value) (l : Bks) : Prop :=
  (∃ a c, v = .slice a 0 c ∧ l = []) ∨
  (0 < l.length ∧ ∃ b o c, v = .slice (some ⟨b, o, none⟩) l.length c ∧ ∀ i (hi : i < l.length), BkC w b (o + i * 6) l[i])
theorem BkSrc.len {w : World} {v : Value} {l : Bks} (h : BkSrc w v l) : ∃ a c, v = .slice a l.length c := by
  rcases h with ⟨a, c, rfl, rfl⟩ | ⟨_, b, o, c, rfl, _⟩
  · exact ⟨a, c, rfl⟩
  · exact ⟨_, c, rfl⟩
theorem BkSrc.only {O : Nat → Prop} {w W : World} {v : Value} {l : Bks} (h : BkSrc w v l) (k : Only O w W) (hO : ∀ b o n c, v = .slice (some ⟨b, o, none⟩) n c → ¬ O b) : BkSrc W v l := by
  rcases h with h | ⟨h0, b, o, c, rfl, hc⟩
  · exact .inl h
  · refine .inr ⟨h0, b, o, c, rfl, fun i hi j u hu => ?_⟩
    have hx := hc i hi j u hu
    rw [World.cell?_of_block (w := w) (w' := W) (a := ⟨b, o + i * 6 + j, none⟩) (k.block b (World.block_lt_of_cell? w _ hx) (hO b o _ c rfl))]
    exact hx
theorem BkSrc.stay {w W : World} {v : Value} {l : Bks} (h : BkSrc w v l) (k : Kept w W) : BkSrc W v l := h.only k (fun _ _ _ _ _ f => f)
theorem BkSrc.cell {w : World} {a : Option Addr} {c M : Nat} {l : Bks} (h : BkSrc w (.slice a M c) l) (hM : l.length = M) (k : Nat) (hk : k < M) : ∃ b o, a = some ⟨b, o, none⟩ ∧ BkC w b (o + k * 6) (l[k]'(by omega)) := by
  rcases h with ⟨a, c, e, e2⟩ | ⟨hpos, b, o, c, e1, hc⟩
  · subst e2
    simp at hM
    omega
  · rw [hM] at e1
    cases e1
    exact ⟨b, o, rfl, hc k (by omega)⟩
/-- A row of buckets that is owned. -/
abbrev BkAt (w : World) (B : Nat) (v : Value) (l : Bks) : Prop := w.ownsRow B 62 6 v l.length (bkL l)
theorem BkAt.at_ {w : World} {B g cap : Nat} {l : Bks} (h : BkAt w B (.slice (some ⟨g, 0, none⟩) l.length cap) l) (i : Nat) (hi : i < l.length) : BkC w g (i * 6) l[i] := by
  intro k u hu
  have hk : k < 6 := (List.getElem?_eq_some_iff.1 hu).1
  rw [h.cellAt (i * 6 + k) (by omega)]
  exact bkL_at l i hi k u hu
theorem BkAt.src {w : World} {B : Nat} {v : Value} {l : Bks} (h : BkAt w B v l) : BkSrc w v l := by
  by_cases h0 : l.length = 0
  · have : l = [] := List.length_eq_zero_iff.1 h0
    subst this
    obtain ⟨a, c, rfl⟩ := ownN_slice h
    exact .inl ⟨a, c, rfl, rfl⟩
  · obtain ⟨g, cap, rfl⟩ := ownN_some h (by omega)
    refine .inr ⟨by omega, g, 0, cap, rfl, fun i hi => ?_⟩
    rw [Nat.zero_add]
    exact h.at_ i hi
/-- An element written over. -/
theorem bk_set {w : World} {base g cap k : Nat} {q : Bks} (h : BkAt w base (.slice (some ⟨g, 0, none⟩) q.length cap) q) (hk : k < q.length) (p : Bk) :
    (∀ i, w.frozen? ⟨g, i, none⟩ = false) ∧
    BkAt ((((((w.setCell ⟨g, k * 6, none⟩ (.int .i64 p.t)).setCell ⟨g, k * 6 + 1, none⟩ (.int .i64 p.c)).setCell ⟨g, k * 6 + 2, none⟩ (.int .i64 p.s)).setCell ⟨g, k * 6 + 3, none⟩ (.int .i64 p.mn)).setCell ⟨g, k * 6 + 4, none⟩ (.int .i64 p.mx)).setCell ⟨g, k * 6 + 5, none⟩ (.int .i64 p.la)) base (.slice (some ⟨g, 0, none⟩) q.length cap) (q.set k p) := by
  refine ⟨fun i => h.frozenAt i, ?_⟩
  have h1 := (((((((h.stored (k * 6) (.int .i64 p.t)).1).stored (k * 6 + 1) (.int .i64 p.c)).1).stored (k * 6 + 2) (.int .i64 p.s)).1.stored (k * 6 + 3) (.int .i64 p.mn)).1.stored (k * 6 + 4) (.int .i64 p.mx)).1.stored (k * 6 + 5) (.int .i64 p.la) |>.1
  show World.ownsRow _ _ _ _ _ _ _
  rw [List.length_set, bkL_set q k p hk]
  exact h1
/-- A row grows by a bucket. -/
theorem bk_app {w : World} {B : Nat} {v : Value} {l : Bks} (hown : BkAt w B v l) (p : Bk) (hl : l.length ≤ 100000) (hB : B ≤ w.heap.size) :
    ∃ g cap w', Hid ((Builtin.append_ #[44, 44] 0 #[v, .slice (some ⟨w.heap.size, 0, none⟩) 1 1]).run Try.prog (w.alloc (bkO p)) = .ok (.slice (some ⟨g, 0, none⟩) (l.length + 1) cap) w') ∧
      BkAt w' B (.slice (some ⟨g, 0, none⟩) (l.length + 1) cap) (l ++ [p]) ∧ Only (fun j => v.ownBlock = some j) w w' ∧ (some g = v.ownBlock ∨ w.heap.size ≤ g) := by
  have k1 : Kept w (w.alloc (bkO p)) := (Only.refl _ w).alloc _
  have hb : Blk (w.alloc (bkO p)) w.heap.size (bkC p) 62 := Blk.new w (bkC p) 62
  obtain ⟨i0, hi0, hz0, hz1, hz2⟩ := info_parts Try.infoB
  obtain ⟨v', w', hr, h2, h3, _, h5⟩ := run_append_own_at (P := Try.prog) (w.alloc (bkO p)) B _ 0 _ i0 _ 6 48 Try.underlying44 hi0 hz0 hz1 hz2 rfl (by decide) v l.length (bkL l) (ownN_stay hown k1) ⟨w.heap.size, 0, none⟩ 1 1 (bkC p) rfl
    (fun j u hu => by rw [add_none, Nat.zero_add]; exact hb.cell j hu) (fun u hu => bkL_one [p] u (by simpa [bkL, bkC] using hu)) (by unfold maxLen; omega) (by omega) (Nat.le_trans hB k1.size)
  obtain ⟨g, cap, rfl⟩ := ownN_some h2 (by omega)
  have hn : (l ++ [p]).length = l.length + 1 := by simp
  refine ⟨g, cap, w', hr, ?_, ?_, ?_⟩
  · show World.ownsRow _ _ _ _ _ _ _
    rw [hn, bkL_app]
    exact h2
  · exact (k1.mono (O' := fun j => v.ownBlock = some j) (fun _ _ f => f.elim)).grown h3 (fun j hj _ => hj)
  · rcases h5 with h5 | h5
    · exact .inl h5
    · right
      have : g = (w.alloc (bkO p)).heap.size := by simpa [Value.ownBlock] using h5
      rw [this, World.size_alloc]
      omega
theorem bk_nil (w : World) (B : Nat) : BkAt w B (.slice none 0 0) [] := World.ownsRow_nil _ _ _ _
end Go.Proofs.Ytjjmidooikgaaaa.Ru
