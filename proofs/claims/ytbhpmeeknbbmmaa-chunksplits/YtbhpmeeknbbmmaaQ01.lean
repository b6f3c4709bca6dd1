/-
  Dheap, Base, Bclone, Bplain.
-/
import Derived.WalkKit
import Derived.ProofKit
import Derived.WalkLawsBesides
import Derived.Below
import Derived.Maps.RangeWalk
import Derived.Maps.AppendAt
import Derived.Laws.OwnMore
import Derived.OwnWalk
import Derived.Test.YtbhpmeeknbbmmaaProg
import Derived.WalkSpells
import Derived.RowKit

/-
  Blocks of memory by what they hold, and what a call may change: no program is named here.
-/
namespace Go.Proofs.Lys
open Go Go.RowKit

/-- Block b holds just these cells, of that type, and none of them is frozen. -/
def Blk (w : World) (b : Nat) (vs : List Value) (T : TypeId) : Prop := w.heap[b]? = some (.cells vs.toArray T (0, 0))

section
variable {w w' : World} {b b' : Nat} {vs vs' : List Value} {T T' : TypeId}

theorem Blk.cell (h : Blk w b vs T) (i : Nat) {v : Value} (hi : vs[i]? = some v) : w.cell? ⟨b, i, none⟩ = some v := by
  unfold Blk at h
  simp [World.cell?, h, hi]
theorem Blk.frozen (h : Blk w b vs T) (i : Nat) : w.frozen? ⟨b, i, none⟩ = false := by
  unfold Blk at h
  simp [World.frozen?, h]
theorem Blk.lt (h : Blk w b vs T) : b < w.heap.size := (Array.getElem?_eq_some_iff.1 h).1
theorem Blk.of_block (h : Blk w b vs T) (e : w'.heap[b]? = w.heap[b]?) : Blk w' b vs T := e.trans h
theorem Blk.set (h : Blk w b vs T) (i : Nat) (v : Value) : Blk (w.setCell ⟨b, i, none⟩ v) b (vs.set i v) T := by
  unfold Blk at h ⊢
  simp [World.setCell, Array.getElem?_modify, h]
theorem Blk.other (h : Blk w b vs T) {a : Addr} (hb : b ≠ a.block) (v : Value) : Blk (w.setCell a v) b vs T := h.of_block (Below.heap_setCell w a v b hb)
theorem Blk.alloc (h : Blk w b vs T) (o : Obj) : Blk (w.alloc o) b vs T := h.of_block (Below.heap_alloc w o b h.lt)
theorem Blk.drew (h : Blk w b vs T) : Blk w.drew b vs T := h
theorem Blk.new (w : World) (vs : List Value) (T : TypeId) : Blk (w.alloc (.cells vs.toArray T)) w.heap.size vs T := by
  unfold Blk World.alloc
  simp
theorem Blk.inj (h : Blk w b vs T) (h' : Blk w b vs' T') : vs = vs' ∧ T = T' := by
  unfold Blk at h h'
  rw [h] at h'
  simp at h'
  exact h'
theorem Blk.ne (h : Blk w b vs T) (h' : Blk w b' vs' T') (hT : T ≠ T') : b ≠ b' := by
  intro e
  subst e
  exact hT (h.inj h').2
theorem Blk.ne_len (h : Blk w b vs T) (h' : Blk w b' vs' T') (hl : vs.length ≠ vs'.length) : b ≠ b' := by
  intro e
  subst e
  exact hl (by rw [(h.inj h').1])

/-- Block b holds cells of that type. -/
def Typed (w : World) (b : Nat) (T : TypeId) : Prop := ∃ cs fz, w.heap[b]? = some (.cells cs T fz)
theorem Blk.typed (h : Blk w b vs T) : Typed w b T := ⟨_, _, h⟩
theorem Typed.ne (h : Typed w b T) (h' : Typed w b' T') (hT : T ≠ T') : b ≠ b' := by
  intro e
  subst e
  obtain ⟨cs, fz, h⟩ := h
  obtain ⟨cs', fz', h'⟩ := h'
  rw [h] at h'
  simp at h'
  exact hT h'.2.1
theorem Typed.ne_map {H : Type} {P : Program} {k : TypeId} {R : Value → Option (DataW H × List MemPlace)} {n : Nat} {D : DataW H} (h : Typed w b T) (h' : w.ownsMap P k R b' n D) : b ≠ b' := by
  intro e
  subst e
  obtain ⟨cs, fz, h⟩ := h
  obtain ⟨es, clock, h', _⟩ := h'
  rw [h] at h'
  cases h'

end

/-- The blocks that O holds may turn, and new ones may come: nothing else. -/
structure Only (O : Nat → Prop) (w w' : World) : Prop where
  os : w'.os = w.os
  tape : w'.tape = w.tape
  output : w'.output = w.output
  size : w.heap.size ≤ w'.heap.size
  block : ∀ k, k < w.heap.size → ¬ O k → w'.heap[k]? = w.heap[k]?

section
variable {O O' : Nat → Prop} {w w1 w2 : World}
theorem Only.refl (O : Nat → Prop) (w : World) : Only O w w := ⟨rfl, rfl, rfl, Nat.le_refl _, fun _ _ _ => rfl⟩
theorem Only.mono (h : Only O w w1) (hO : ∀ k, k < w.heap.size → O k → O' k) : Only O' w w1 :=
  ⟨h.os, h.tape, h.output, h.size, fun k hk hn => h.block k hk (fun ho => hn (hO k hk ho))⟩
theorem Only.trans (h : Only O w w1) (k : Only O' w1 w2) (hO : ∀ j, j < w.heap.size → O' j → O j) : Only O w w2 :=
  ⟨k.os.trans h.os, k.tape.trans h.tape, k.output.trans h.output, Nat.le_trans h.size k.size, fun j hj hn =>
    (k.block j (Nat.lt_of_lt_of_le hj h.size) (fun ho => hn (hO j hj ho))).trans (h.block j hj hn)⟩
theorem Only.drew (h : Only O w w1) : Only O w w1.drew := ⟨h.os, h.tape, h.output, h.size, h.block⟩
theorem Only.alloc (h : Only O w w1) (o : Obj) : Only O w (w1.alloc o) :=
  h.trans (O' := fun _ => False) ⟨rfl, rfl, rfl, by simp, fun k hk _ => Below.heap_alloc w1 o k hk⟩ (fun _ _ hf => hf.elim)
theorem Only.setCell (h : Only O w w1) {p : Addr} (hp : p.block < w.heap.size → O p.block) (v : Value) : Only O w (w1.setCell p v) :=
  h.trans (O' := fun k => k = p.block) ⟨rfl, rfl, rfl, by simp, fun k _ hn => Below.heap_setCell w1 p v k hn⟩ (fun j hj e => by subst e; exact hp hj)
theorem Only.grown (h : Only O w w1) {row : Option Nat} (g : w1.grownBy w2 row) (hr : ∀ k, row = some k → k < w.heap.size → O k) : Only O w w2 :=
  h.trans (O' := fun k => row = some k) ⟨g.os, g.tape, g.output, g.size, fun k hk hn => g.block k hk (fun e => hn e.symm)⟩ (fun j hj e => hr j e hj)
theorem Only.below (h : Below w.heap.size w w1) : Only (fun _ => False) w w1 := ⟨h.os, h.tape, h.output, h.size, fun k hk _ => h.block k hk⟩
theorem Only.toBelow (h : Only O w w1) {B : Nat} (hB : ∀ k, O k → B ≤ k) (hs : B ≤ w.heap.size) : Below B w w1 :=
  ⟨h.os, h.tape, h.output, h.size, fun k hk => h.block k (Nat.lt_of_lt_of_le hk hs) (fun ho => by have := hB k ho; omega)⟩
theorem Only.blk (h : Only O w w1) {b : Nat} {vs : List Value} {T : TypeId} (hb : Blk w b vs T) (hn : ¬ O b) : Blk w1 b vs T := hb.of_block (h.block b hb.lt hn)
theorem Only.map {H : Type} {P : Program} {k : TypeId} {R : Value → Option (DataW H × List MemPlace)} {b n : Nat} {D : DataW H} (h : Only O w w1) (hb : w.ownsMap P k R b n D) (hn : ¬ O b) : w1.ownsMap P k R b n D := by
  have hlt := hb.lt
  obtain ⟨es, clock, e, F, hs, hD⟩ := hb
  exact ⟨es, clock, (h.block b hlt hn).trans e, F, hs, hD⟩
theorem Only.row {base : Nat} {e : TypeId} {size : Nat} {v : Value} {n : Nat} {xs : List Value} (h : Only O w w1) (hr : w.ownsRow base e size v n xs) (hn : ∀ k, v.ownBlock = some k → ¬ O k) : w1.ownsRow base e size v n xs := by
  obtain ⟨hl, h1 | ⟨g, cap, cur, rfl, hb, hg, hc⟩⟩ := hr
  · exact ⟨hl, .inl h1⟩
  · exact ⟨hl, .inr ⟨g, cap, cur, rfl, hb, (h.block g (Array.getElem?_eq_some_iff.1 hg).1 (hn g rfl)).trans hg, hc⟩⟩
end

/-- A map's datum is a list of entries; how many there are bounds the map. -/
theorem map_tight {H : Type} {P : Program} {k : TypeId} {R : Value → Option (DataW H × List MemPlace)} {w : World} {b n : Nat} {l : List (Lit × DataW H)} (h : w.ownsMap P k R b n (.map l)) : w.ownsMap P k R b l.length (.map l) := by
  obtain ⟨es, clock, e, F, hs, hD⟩ := h
  refine ⟨es, clock, e, F, ?_, hD⟩
  have : l.length = es.size := by
    have := congrArg (fun d : DataW H => Maps.size d) hD
    simpa [Maps.size, length_sorted] using this
  omega
end Go.Proofs.Lys

/-
  Bytes and booleans in memory: rows that are owned, slices that are read. No program is named here.
-/
namespace Go.Proofs.Lys
open Go Go.RowKit

theorem hid {p : Prop} (h : p) : Hid p := h

def bV (x : UInt8) : Value := .int .u8 x.toNat
def tV (x : Bool) : Value := .bool x

/-- Nothing that was there has turned. -/
abbrev Kept (w w' : World) : Prop := Only (fun _ => False) w w'

/-- A slice that is read: nil, or its cells. -/
def SrcOf (w : World) (v : Value) (xs : List Value) : Prop :=
  (v = .slice none 0 0 ∧ xs = []) ∨ ∃ a c, v = .slice (some a) xs.length c ∧ ∀ j u, xs[j]? = some u → w.cell? (a.add j) = some u

section
variable {w w' : World} {v : Value} {xs : List Value}
theorem SrcOf.kept (h : SrcOf w v xs) (hk : ∀ a u, w.cell? a = some u → u ∈ xs → w'.cell? a = some u) : SrcOf w' v xs := by
  rcases h with h | ⟨a, c, rfl, hc⟩
  · exact .inl h
  · exact .inr ⟨a, c, rfl, fun j u hu => hk _ _ (hc j u hu) (List.mem_of_getElem? hu)⟩
theorem SrcOf.only {O : Nat → Prop} (h : SrcOf w v xs) (k : Only O w w') (hO : ∀ a u, w.cell? a = some u → u ∈ xs → ¬ O a.block) : SrcOf w' v xs :=
  h.kept (fun a u hc hm => by
    rw [World.cell?_of_block (w := w) (w' := w') (a := a) (k.block a.block (World.block_lt_of_cell? w a hc) (hO a u hc hm))]
    exact hc)
theorem SrcOf.stay (h : SrcOf w v xs) (k : Kept w w') : SrcOf w' v xs := h.only k (fun _ _ _ _ f => f)
end

theorem add_none (b o j : Nat) : (⟨b, o, none⟩ : Addr).add j = ⟨b, o + j, none⟩ := by
  unfold Addr.add
  split
  · simp_all
  · rfl

theorem SrcOf.shape {w : World} {v : Value} {xs : List Value} (h : SrcOf w v xs) : (xs = [] ∧ ∃ a c, v = .slice a 0 c) ∨ (0 < xs.length ∧ ∃ b o c, v = .slice (some ⟨b, o, none⟩) xs.length c ∧ ∀ j u, xs[j]? = some u → w.cell? ⟨b, o + j, none⟩ = some u) := by
  rcases h with ⟨rfl, rfl⟩ | ⟨⟨b, o, spot⟩, c, rfl, hc⟩
  · exact .inl ⟨rfl, none, 0, rfl⟩
  · cases hx : xs with
    | nil => exact .inl ⟨rfl, _, c, rfl⟩
    | cons x t =>
      right
      have h0 := hc 0 x (by rw [hx]; rfl)
      have hs : spot = none := by simpa [Addr.add] using World.cell?_spot h0
      subst hs
      exact ⟨by simp, b, o, c, rfl, fun j u hu => by rw [← add_none]; exact hc j u (by rw [hx]; exact hu)⟩

section
variable {w w' : World} {base : Nat} {e : TypeId} {v : Value} {n : Nat} {xs : List Value}
theorem own_src (h : w.ownsRow base e 1 v n xs) : SrcOf w v xs := by
  obtain ⟨hl, h1 | ⟨g, cap, cur, rfl, hb, hg, hc⟩⟩ := h
  · obtain ⟨rfl, rfl⟩ := h1
    exact .inl ⟨rfl, List.length_eq_zero_iff.1 (by simpa using hl)⟩
  · have hl' : xs.length = n := by simpa using hl
    subst hl'
    refine .inr ⟨⟨g, 0, none⟩, cap, rfl, fun j u hu => ?_⟩
    have hj : j < xs.length := (List.getElem?_eq_some_iff.1 hu).1
    rw [add_none, Nat.zero_add]
    have := World.ownsRow.cellAt (w := w) (base := base) (e := e) (size := 1) (g := g) (n := xs.length) (cap := cap) (xs := xs) ⟨hl, .inr ⟨g, cap, cur, rfl, hb, hg, hc⟩⟩ j (by omega)
    rw [this, hu]
theorem own_len (h : w.ownsRow base e 1 v n xs) : xs.length = n := by simpa using h.1
theorem own_slice (h : w.ownsRow base e 1 v n xs) : ∃ a cap, v = .slice a n cap := by
  rcases h.2 with ⟨rfl, rfl⟩ | ⟨g, cap, cur, rfl, _⟩
  · exact ⟨none, 0, rfl⟩
  · exact ⟨_, cap, rfl⟩
theorem own_some (h : w.ownsRow base e 1 v n xs) (h0 : 0 < n) : ∃ g cap, v = .slice (some ⟨g, 0, none⟩) n cap := by
  rcases h.2 with ⟨rfl, rfl⟩ | ⟨g, cap, cur, rfl, _⟩
  · omega
  · exact ⟨g, cap, rfl⟩
theorem own_typed (h : w.ownsRow base e 1 v n xs) {k : Nat} (hk : v.ownBlock = some k) : Typed w k e := by
  rcases h.2 with ⟨rfl, _⟩ | ⟨g, cap, cur, rfl, hb, hg, _⟩
  · cases hk
  · have : g = k := by simpa [Value.ownBlock] using hk
    subst this
    exact ⟨_, _, hg⟩
theorem own_block (h : w.ownsRow base e 1 v n xs) (hk : ∀ k, v.ownBlock = some k → w'.heap[k]? = w.heap[k]?) : w'.ownsRow base e 1 v n xs := by
  rcases h with ⟨hl, hn | ⟨g, cap, cur, rfl, hb, hg, rest⟩⟩
  · exact ⟨hl, .inl hn⟩
  · exact ⟨hl, .inr ⟨g, cap, cur, rfl, hb, (hk g rfl).trans hg, rest⟩⟩
theorem own_base (h : w.ownsRow base e 1 v n xs) {b' : Nat} (hb : b' ≤ base) : w.ownsRow b' e 1 v n xs := by
  rcases h with ⟨hl, hn | ⟨g, cap, cur, rfl, hb', hg, rest⟩⟩
  · exact ⟨hl, .inl hn⟩
  · exact ⟨hl, .inr ⟨g, cap, cur, rfl, Nat.le_trans hb hb', hg, rest⟩⟩
theorem own_raise (h : w.ownsRow base e 1 v n xs) {b' : Nat} (hb : ∀ k, v.ownBlock = some k → b' ≤ k) : w.ownsRow b' e 1 v n xs := by
  rcases h with ⟨hl, hn | ⟨g, cap, cur, rfl, hb', hg, rest⟩⟩
  · exact ⟨hl, .inl hn⟩
  · exact ⟨hl, .inr ⟨g, cap, cur, rfl, hb g rfl, hg, rest⟩⟩
theorem own_only {O : Nat → Prop} (h : w.ownsRow base e 1 v n xs) (k : Only O w w') (hO : ∀ b, v.ownBlock = some b → ¬ O b) : w'.ownsRow base e 1 v n xs :=
  own_block h (fun b hb => k.block b ((h.lt b hb).2) (hO b hb))
end

theorem SrcOf.len {w : World} {v : Value} {xs : List Value} (h : SrcOf w v xs) : ∃ a c, v = .slice a xs.length c := by
  rcases h with ⟨rfl, rfl⟩ | ⟨a, c, rfl, _⟩
  · exact ⟨none, 0, rfl⟩
  · exact ⟨some a, c, rfl⟩

/-- What the row tells of a slice of integers that came in. -/
theorem row_src {k : IntKind} {w : World} {a : Option Addr} {len cap : Nat} {zs : List Int} (h : (a = none ∧ len = 0 ∧ cap = 0 ∧ zs = []) ∨
    ∃ x, a = some x ∧ len ≤ cap ∧ cap ≤ maxLen ∧ zs.length = cap ∧ (∀ i, i < zs.length → w.cell? (x.add i) = some (.int k (zs.getD i 0))) ∧ ∀ n ∈ zs, (Lit.int k n).wf = true) :
    SrcOf w (.slice a len cap) ((zs.take len).map (Value.int k)) ∧ (zs.take len).length = len ∧ ∀ n ∈ zs.take len, (Lit.int k n).wf = true := by
  rcases h with ⟨rfl, rfl, rfl, rfl⟩ | ⟨x, rfl, h1, h2, h3, h4, h5⟩
  · exact ⟨.inl ⟨rfl, rfl⟩, rfl, by simp⟩
  · have hl : (zs.take len).length = len := by rw [List.length_take]; omega
    refine ⟨.inr ⟨x, cap, by rw [List.length_map, hl], fun j u hu => ?_⟩, hl, fun n hn => h5 n (List.mem_of_mem_take hn)⟩
    rw [List.getElem?_map, List.getElem?_take] at hu
    split at hu
    · rename_i hj
      rw [List.getElem?_eq_getElem (by omega)] at hu
      cases hu
      rw [h4 j (by omega), List.getD_eq_getElem?_getD, List.getElem?_eq_getElem (by omega)]
      rfl
    · cases hu
theorem bytes_src {w : World} {v : Value} {zs : List Int} (h : SrcOf w v (zs.map (Value.int .u8))) (hw : ∀ n ∈ zs, (Lit.int .u8 n).wf = true) : ∃ bs : List UInt8, bs.length = zs.length ∧ SrcOf w v (bs.map bV) := by
  refine ⟨zs.map (fun n => UInt8.ofNat n.toNat), by simp, ?_⟩
  have e : (zs.map (fun n => UInt8.ofNat n.toNat)).map bV = zs.map (Value.int .u8) := by
    rw [List.map_map]
    refine List.map_congr_left (fun n hn => ?_)
    have := hw n hn
    simp only [Lit.wf, Bool.and_eq_true, decide_eq_true_eq] at this
    have m0 : IntKind.u8.min = 0 := by decide
    have m1 : IntKind.u8.max = 255 := by decide
    rw [m0, m1] at this
    show bV _ = _
    unfold bV
    rw [UInt8.toNat_ofNat']
    congr 1
    omega
  rw [e]
  exact h

/-- What a slice that is read appends to a row that is owned. -/
theorem append_src {P : Program} {w : World} {base : Nat} {t e : TypeId} {z : Value} {bytes : Nat} (ht : P.underlying t = some (.slice e))
    (hin : (P.info? e).map (fun i => (i.zero, i.size, i.bytes)) = some (some z, 1, bytes)) (hz : z.cells.size = 1) (hb1 : bytes ≤ 1024)
    {v xv : Value} {n : Nat} {xs ys : List Value} (hown : w.ownsRow base e 1 v n xs) (hsrc : SrcOf w xv ys) (h1 : ∀ u ∈ ys, u.oneCell' = true) (hl : n + ys.length ≤ 1000000000) (hbase : base ≤ w.heap.size) :
    ∃ v' w', (Builtin.append_ #[t, t] 0 #[v, xv]).run P w = .ok v' w' ∧ w'.ownsRow base e 1 v' (n + ys.length) (xs ++ ys) ∧ w.grownBy w' v.ownBlock ∧ (v'.ownBlock = v.ownBlock ∨ v'.ownBlock = some w.heap.size) := by
  obtain ⟨i0, hi0, hz0, hz1, hz2⟩ := info_parts hin
  have hm : n + ys.length ≤ maxLen := by unfold maxLen; omega
  rcases hsrc with ⟨rfl, rfl⟩ | ⟨a, c, rfl, hc⟩
  · refine ⟨v, w, ?_, by simpa using hown, World.grownBy.refl _ _, .inl rfl⟩
    rcases hown.2 with ⟨rfl, rfl⟩ | ⟨g, cap, cur, rfl, hbg, hg, hnc, hcm, hcs, htake⟩
    · simp [Builtin.append_, run_underlying ht, sizeOf, typeInfo, hi0, Builtin.lenOf, Builtin.firstCells]
    · simp [Builtin.append_, run_underlying ht, sizeOf, typeInfo, hi0, Builtin.lenOf, Builtin.firstCells, hnc, storeCells]
  · obtain ⟨v', w', hr, h2, h3, _, h5⟩ := run_append_own_at (P := P) w base t 0 e i0 z 1 bytes ht hi0 hz0 hz1 hz2 hz (by omega) v n xs hown a ys.length c ys (by simp)
      hc h1 hm (by have : (n + ys.length) * bytes ≤ 1000000000 * 1024 := Nat.mul_le_mul hl hb1; omega) hbase
    exact ⟨v', w', hr, h2, h3, h5⟩
theorem bytes_one (bs : List UInt8) : ∀ u ∈ bs.map bV, u.oneCell' = true := by
  intro u hu
  obtain ⟨x, _, rfl⟩ := List.mem_map.1 hu
  rfl
theorem bools_one (bs : List Bool) : ∀ u ∈ bs.map tV, u.oneCell' = true := by
  intro u hu
  obtain ⟨x, _, rfl⟩ := List.mem_map.1 hu
  rfl

/-- An append whose run is known. -/
theorem wpList_append_run {P : Program} {w : World} {ops : Array Oper} {rest : List Oper} {o : Oper} {a : Act} {Q : Exit → Act → World → Prop} (hgd : o.guard = none) (s x : Operand) (t : TypeId)
    (ho : o.op = .call { callee := .builtin .append, args := #[s, x], argTypes := #[t, t] }) {sv xv : Value} (hs : a.eval s = sv) (hx : a.eval x = xv) {v : Value} {w' : World}
    (hrun : Hid ((Builtin.append_ #[t, t] 0 #[sv, xv]).run P w = .ok v w')) (h : wpList P ops Q rest (a.put o.dst v) w') : wpList P ops Q (o :: rest) a w := by
  refine wpList_plain hgd fun K hK => ?_
  have hr : (Builtin.append_ #[t, t] o.type #[sv, xv]).run P w = .ok v w' := hrun.out
  unfold Oper.wp
  simp [execOp, ho, resolve, invoke, builtin, hs, hx, hr, Result.andThen]
  exact hK _ _ h
end Go.Proofs.Lys

/-
  bytes.Clone: a copy in new memory.
-/
namespace Go.Proofs.Ytbhpmeeknbbmmaa
open Go.RowKit Go.Proofs.Lys
set_option linter.unusedVariables false

theorem Try.infoB : (Try.prog.info? 5).map (fun i => (i.zero, i.size, i.bytes)) = some (some (.int .u8 0), 1, 1) := by kernel_rfl

theorem clone_nil (w : World) : Calls Try.prog 54 #[.slice none 0 0] w fun e w' => e = .returned (.slice none 0 0) ∧ w' = w := by
  have he : ∀ (x : Option Addr) (n k : Nat) (w : World), (Go.binOp .eql 23 (.slice x n k) (.slice none 0 0)).run Try.prog w = .ok (.bool x.isNone) w := fun x n k w => Lib.run_eql_slice_nil w _ _ x n k 0 0 Try.underlying23
  go_enter Try.func54, Try.ntmps54
  go_wp2
  go_ret
  exact ⟨rfl, rfl⟩

set_option maxHeartbeats 400000 in
theorem clone_some (w : World) (a : Addr) (c : Nat) (bs : List UInt8) (hc : SrcOf w (.slice (some a) bs.length c) (bs.map bV)) (hl : bs.length ≤ 100000000) :
    Calls Try.prog 54 #[.slice (some a) bs.length c] w fun e w' => ∃ v, e = .returned v ∧ w'.ownsRow w.heap.size 5 1 v bs.length (bs.map bV) ∧ Kept w w' := by
  have hb : ∀ w : World, (Instr.buildSlice 23 0 #[]).run Try.prog w = .ok (.slice (some ⟨w.heap.size, 0, none⟩) 0 0) (w.alloc (.cells #[] 5)) := fun w => by kernel_rfl
  have h0 : (w.alloc (.cells #[] 5)).ownsRow w.heap.size 5 1 (.slice (some ⟨w.heap.size, 0, none⟩) 0 0) 0 [] := World.ownsRow_lit w #[] 0 (Nat.le_refl _) (by decide) rfl
  obtain ⟨v', w1, hrun, hown, hgrow, _⟩ := append_src (P := Try.prog) Try.underlying23 Try.infoB rfl (by decide) h0 (hc.stay ((Only.refl _ w).alloc _)) (bytes_one bs) (by simp; omega) (by simp)
  have Hr := hid hrun
  have hk : Hid (Kept w w1) := hid (((Only.refl _ w).alloc _).grown hgrow (fun k hk hlt => by simp [Value.ownBlock] at hk; omega))
  have ho : Hid (w1.ownsRow w.heap.size 5 1 v' bs.length (bs.map bV)) := hid (by simpa using hown)
  clear hrun hown hgrow h0 hc
  have he : ∀ (x : Option Addr) (n k : Nat) (w : World), (Go.binOp .eql 23 (.slice x n k) (.slice none 0 0)).run Try.prog w = .ok (.bool x.isNone) w := fun x n k w => Lib.run_eql_slice_nil w _ _ x n k 0 0 Try.underlying23
  go_enter Try.func54, Try.ntmps54
  go_wp2_with (at_builtin; refine wpList_append_run rfl _ _ _ rfl rfl rfl Hr ?_)
  go_ret
  exact ⟨_, rfl, ho.out, hk.out⟩

theorem clone_any (w : World) (v : Value) (bs : List UInt8) (hc : SrcOf w v (bs.map bV)) (hl : bs.length ≤ 100000000) :
    Calls Try.prog 54 #[v] w fun e w' => ∃ v, e = .returned v ∧ w'.ownsRow w.heap.size 5 1 v bs.length (bs.map bV) ∧ Kept w w' := by
  rcases hc with ⟨rfl, h0⟩ | ⟨a, c, rfl, hc⟩
  · have : bs = [] := by simpa using h0
    subst this
    refine (clone_nil w).mono ?_
    rintro e w' ⟨rfl, rfl⟩
    exact ⟨_, rfl, World.ownsRow_nil _ _ _ _, Only.refl _ _⟩
  · have e : (bs.map bV).length = bs.length := by simp
    rw [e]
    exact clone_some w a c bs (.inr ⟨a, c, by simp, hc⟩) hl
end Go.Proofs.Ytbhpmeeknbbmmaa

/-
  Bits as lists of booleans, the first one first: numbers and bytes of them. No program is named here.
-/
namespace Go.Proofs.Lys

/-- The number whose bits below n are f's. -/
def natB (f : Nat → Bool) : Nat → Nat
  | 0 => 0
  | n + 1 => 2 ^ n * (f n).toNat + natB f n

theorem natB_lt (f : Nat → Bool) (n : Nat) : natB f n < 2 ^ n := by
  induction n with
  | zero => exact Nat.one_pos
  | succ n ih =>
    unfold natB
    rw [Nat.pow_succ]
    cases f n
    · simp; omega
    · simp; omega
theorem natB_bit (f : Nat → Bool) (n j : Nat) : (natB f n).testBit j = (decide (j < n) && f j) := by
  induction n with
  | zero => simp [natB]
  | succ n ih =>
    unfold natB
    rw [Nat.testBit_two_pow_mul_add _ (natB_lt f n), ih]
    by_cases h : j < n
    · rw [if_pos h]
      simp [h, show j < n + 1 by omega]
    · rw [if_neg h]
      by_cases e : j = n
      · subst e
        cases f j <;> simp
      · have h1 : ¬ j < n + 1 := by omega
        obtain ⟨m, hm⟩ : ∃ m, j - n = m + 1 := ⟨j - n - 1, by omega⟩
        rw [hm]
        cases f n <;> simp [h1, Nat.testBit_succ]

theorem getD_left (l c : List Bool) {i : Nat} (h : i < l.length) : (l ++ c).getD i false = l.getD i false := by
  rw [List.getD_eq_getElem?_getD, List.getD_eq_getElem?_getD, List.getElem?_append_left h]
theorem getD_right (l c : List Bool) {i : Nat} (h : l.length ≤ i) : (l ++ c).getD i false = c.getD (i - l.length) false := by
  rw [List.getD_eq_getElem?_getD, List.getD_eq_getElem?_getD, List.getElem?_append_right h]

/-- The i-th byte of bits. -/
def byteB (l : List Bool) (i : Nat) : Nat := natB (fun j => l.getD (8 * i + (7 - j)) false) 8
theorem byteB_lt (l : List Bool) (i : Nat) : byteB l i < 256 := natB_lt _ 8
theorem byteB_bit (l : List Bool) (i j : Nat) : (byteB l i).testBit j = (decide (j < 8) && l.getD (8 * i + (7 - j)) false) := natB_bit _ 8 j
theorem byteB_congr {l l' : List Bool} {i : Nat} (h : ∀ k, k < 8 → l.getD (8 * i + k) false = l'.getD (8 * i + k) false) : byteB l i = byteB l' i := by
  apply Nat.eq_of_testBit_eq
  intro j
  rw [byteB_bit, byteB_bit]
  by_cases hj : j < 8
  · rw [h _ (by omega)]
  · simp [hj]
theorem byteB_past {l : List Bool} {i : Nat} (h : l.length ≤ 8 * i) : byteB l i = 0 := by
  apply Nat.eq_of_testBit_eq
  intro j
  rw [byteB_bit, List.getD_eq_getElem?_getD, List.getElem?_eq_none (by omega)]
  simp

/-- The first k bytes of bits, and all of them. -/
def packK (l : List Bool) (k : Nat) : List UInt8 := (List.range k).map (fun i => UInt8.ofNat (byteB l i))
def packL (l : List Bool) : List UInt8 := packK l ((l.length + 7) / 8)
theorem packK_length (l : List Bool) (k : Nat) : (packK l k).length = k := by simp [packK]
theorem packL_length (l : List Bool) : (packL l).length = (l.length + 7) / 8 := packK_length _ _
theorem packK_succ (l : List Bool) (k : Nat) : packK l (k + 1) = packK l k ++ [UInt8.ofNat (byteB l k)] := by simp [packK, List.range_succ]
theorem packK_congr {l l' : List Bool} {k : Nat} (h : ∀ i, i < 8 * k → l.getD i false = l'.getD i false) : packK l k = packK l' k := by
  unfold packK
  refine List.map_congr_left (fun i hi => ?_)
  have hi' : i < k := List.mem_range.1 hi
  rw [byteB_congr (fun j hj => h _ (by omega))]
theorem packK_append (l c : List Bool) {k : Nat} (h : 8 * k ≤ l.length) : packK (l ++ c) k = packK l k :=
  packK_congr (fun i hi => by rw [getD_left _ _ (by omega)])
theorem packK_set (l : List Bool) (k : Nat) (x : UInt8) : (packK l (k + 1)).set k x = packK l k ++ [x] := by
  rw [packK_succ, List.set_append_right _ _ (by rw [packK_length]; exact Nat.le_refl _), packK_length]
  simp
theorem packK_get (l : List Bool) {k i : Nat} (h : i < k) : (packK l k)[i]? = some (UInt8.ofNat (byteB l i)) := by
  unfold packK
  rw [List.getElem?_map, List.getElem?_range h]
  rfl

/-- The lowest n bits of a number, the highest first. -/
def bitsL (u n : Nat) : List Bool := (List.range n).map (fun i => u.testBit (n - 1 - i))
theorem bitsL_length (u n : Nat) : (bitsL u n).length = n := by simp [bitsL]
theorem bitsL_get (u : Nat) {n i : Nat} (h : i < n) : (bitsL u n)[i]? = some (u.testBit (n - 1 - i)) := by
  unfold bitsL
  rw [List.getElem?_map, List.getElem?_range h]
  rfl
theorem bitsL_add (u a b : Nat) : bitsL u (a + b) = bitsL (u >>> b) a ++ bitsL u b := by
  apply List.ext_getElem?
  intro i
  by_cases h : i < a
  · rw [List.getElem?_append_left (by rw [bitsL_length]; exact h), bitsL_get _ h, bitsL_get _ (by omega), Nat.testBit_shiftRight]
    congr 2
    omega
  · rw [List.getElem?_append_right (by rw [bitsL_length]; omega), bitsL_length]
    by_cases h2 : i < a + b
    · rw [bitsL_get _ h2, bitsL_get _ (by omega)]
      congr 2
      omega
    · rw [List.getElem?_eq_none (by rw [bitsL_length]; omega), List.getElem?_eq_none (by rw [bitsL_length]; omega)]
theorem bitsL_succ (u n : Nat) : bitsL u (n + 1) = u.testBit n :: bitsL u n := by
  rw [Nat.add_comm, bitsL_add]
  simp [bitsL]
theorem bitsL_zero (u : Nat) : bitsL u 0 = [] := rfl

/-- The piece of a byte that some bits make behind others. -/
def pieceN (u lo some_ at_ : Nat) : Nat := ((u / 2 ^ lo % 256) * 2 ^ (8 - some_)) % 256 / 2 ^ at_
theorem pieceN_bit (u lo some_ at_ j : Nat) : (pieceN u lo some_ at_).testBit j = (decide (j + at_ < 8) && decide (8 - some_ ≤ j + at_) && u.testBit (lo + (j + at_ - (8 - some_)))) := by
  unfold pieceN
  rw [← Nat.shiftRight_eq_div_pow, ← Nat.shiftRight_eq_div_pow, ← Nat.shiftLeft_eq, Nat.testBit_shiftRight, show (256 : Nat) = 2 ^ 8 from rfl, Nat.testBit_mod_two_pow, Nat.testBit_shiftLeft, Nat.testBit_mod_two_pow, Nat.testBit_shiftRight]
  rw [Nat.add_comm at_ j]
  by_cases h1 : j + at_ < 8
  · by_cases h2 : 8 - some_ ≤ j + at_
    · have h3 : j + at_ - (8 - some_) < 8 := by omega
      simp [h1, h2, h3]
    · simp [h2]
  · simp [h1]
theorem byteB_piece (l : List Bool) (u lo some_ k at_ : Nat) (hl : l.length = 8 * k + at_) (hat : at_ < 8) (hs : at_ + some_ ≤ 8) :
    byteB (l ++ bitsL (u >>> lo) some_) k = byteB l k ||| pieceN u lo some_ at_ := by
  apply Nat.eq_of_testBit_eq
  intro j
  rw [Nat.testBit_or, byteB_bit, byteB_bit, pieceN_bit]
  by_cases hj : j < 8
  · simp only [hj, decide_true, Bool.true_and]
    by_cases h1 : 7 - j < at_
    · rw [getD_left _ _ (by omega)]
      have : ¬ j + at_ < 8 := by omega
      simp [this]
    · have e0 : l.getD (8 * k + (7 - j)) false = false := by
        rw [List.getD_eq_getElem?_getD, List.getElem?_eq_none (by omega)]
        rfl
      rw [e0, getD_right _ _ (by omega), hl]
      have h2 : j + at_ < 8 := by omega
      by_cases h3 : 7 - j - at_ < some_
      · rw [List.getD_eq_getElem?_getD, bitsL_get _ (by omega)]
        have h4 : 8 - some_ ≤ j + at_ := by omega
        simp only [h2, h4, decide_true, Bool.true_and, Bool.false_or, Option.getD_some]
        rw [Nat.testBit_shiftRight]
        congr 1
        omega
      · rw [List.getD_eq_getElem?_getD, List.getElem?_eq_none (by rw [bitsL_length]; omega)]
        have h4 : ¬ 8 - some_ ≤ j + at_ := by omega
        simp [h4]
  · have : ¬ j + at_ < 8 := by omega
    simp [hj, this]
theorem pieceN_lt (u lo some_ at_ : Nat) : pieceN u lo some_ at_ < 256 := by
  unfold pieceN
  have : ((u / 2 ^ lo % 256) * 2 ^ (8 - some_)) % 256 < 256 := Nat.mod_lt _ (by decide)
  exact Nat.lt_of_le_of_lt (Nat.div_le_self _ _) this

/-- One step of a writer, at the byte in which its last bits lie. -/
theorem pack_step (l : List Bool) (u lo some_ at_ k : Nat) (hl : l.length = 8 * k + at_) (hat : at_ < 8) (hs : at_ + some_ ≤ 8) (h0 : 0 < some_) :
    packL (l ++ bitsL (u >>> lo) some_) = packK l k ++ [UInt8.ofNat (byteB l k ||| pieceN u lo some_ at_)] := by
  unfold packL
  rw [List.length_append, bitsL_length, show (l.length + some_ + 7) / 8 = k + 1 by omega, packK_succ, packK_append _ _ (by omega), byteB_piece l u lo some_ k at_ hl hat hs]
theorem packL_at (l : List Bool) (k at_ : Nat) (hl : l.length = 8 * k + at_) (h0 : 0 < at_) (hat : at_ < 8) : packL l = packK l (k + 1) := by
  unfold packL
  rw [show (l.length + 7) / 8 = k + 1 by omega]
theorem packL_whole (l : List Bool) (k : Nat) (hl : l.length = 8 * k) : packL l ++ [0] = packK l (k + 1) := by
  unfold packL
  rw [show (l.length + 7) / 8 = k by omega, packK_succ, byteB_past (by omega)]
  rfl

/-- The bits of bytes. -/
def unpackL (bs : List UInt8) : List Bool := bs.flatMap (fun b => bitsL b.toNat 8)
theorem unpackL_length (bs : List UInt8) : (unpackL bs).length = 8 * bs.length := by
  induction bs with
  | nil => rfl
  | cons b t ih =>
    show (bitsL b.toNat 8 ++ unpackL t).length = _
    rw [List.length_append, ih, bitsL_length, List.length_cons]
    omega
theorem unpackL_cons (b : UInt8) (t : List UInt8) : unpackL (b :: t) = bitsL b.toNat 8 ++ unpackL t := rfl
theorem unpackL_append (a b : List UInt8) : unpackL (a ++ b) = unpackL a ++ unpackL b := by simp [unpackL]
theorem unpackL_get (bs : List UInt8) {i : Nat} (h : i < 8 * bs.length) : (unpackL bs)[i]? = some ((bs.getD (i / 8) 0).toNat.testBit (7 - i % 8)) := by
  induction bs generalizing i with
  | nil => simp at h
  | cons b t ih =>
    rw [unpackL_cons]
    by_cases h8 : i < 8
    · rw [List.getElem?_append_left (by rw [bitsL_length]; exact h8), bitsL_get _ h8, show i / 8 = 0 by omega, show i % 8 = i by omega]
      rfl
    · rw [List.getElem?_append_right (by rw [bitsL_length]; omega), bitsL_length, ih (by simp at h; omega), show (i - 8) % 8 = i % 8 by omega]
      obtain ⟨m, hm⟩ : ∃ m, i / 8 = m + 1 := ⟨i / 8 - 1, by omega⟩
      rw [hm, show (i - 8) / 8 = m by omega]
      rfl

/-- Bits that were made bytes are read as they were, with zeros up to a whole byte. -/
theorem unpack_pack (l : List Bool) : ∃ z, z < 8 ∧ unpackL (packL l) = l ++ List.replicate z false := by
  refine ⟨8 * ((l.length + 7) / 8) - l.length, by omega, ?_⟩
  apply List.ext_getElem?
  intro i
  by_cases h : i < 8 * ((l.length + 7) / 8)
  · rw [unpackL_get _ (by rw [packL_length]; exact h)]
    have e : (packL l).getD (i / 8) 0 = UInt8.ofNat (byteB l (i / 8)) := by
      rw [List.getD_eq_getElem?_getD]
      unfold packL
      rw [packK_get _ (by omega)]
      rfl
    rw [e, UInt8.toNat_ofNat', Nat.mod_eq_of_lt (by have := byteB_lt l (i / 8); simpa using this), byteB_bit, show 8 * (i / 8) + (7 - (7 - i % 8)) = i by omega]
    have : 7 - i % 8 < 8 := by omega
    simp only [this, decide_true, Bool.true_and]
    by_cases hl : i < l.length
    · rw [List.getElem?_append_left hl, List.getD_eq_getElem?_getD, List.getElem?_eq_getElem hl]
      rfl
    · rw [List.getElem?_append_right (by omega), List.getElem?_replicate, if_pos (by omega), List.getD_eq_getElem?_getD, List.getElem?_eq_none (by omega)]
      rfl
  · rw [List.getElem?_eq_none (by rw [unpackL_length, packL_length]; omega), List.getElem?_eq_none (by simp; omega)]

/-- The number that bits make, the highest first. -/
def valL (l : List Bool) : Nat := l.foldl (fun v b => 2 * v + b.toNat) 0
theorem valL_snoc (l : List Bool) (b : Bool) : valL (l ++ [b]) = 2 * valL l + b.toNat := by simp [valL]
theorem valL_nil : valL [] = 0 := rfl
theorem valL_append (l c : List Bool) : valL (l ++ c) = valL l * 2 ^ c.length + valL c := by
  induction hn : c.length generalizing c with
  | zero =>
    obtain rfl := List.length_eq_zero_iff.1 hn
    simp [valL_nil]
  | succ n ih =>
    obtain ⟨c', b, rfl⟩ : ∃ c' b, c = c' ++ [b] := by
      have hne : c ≠ [] := by intro e; simp [e] at hn
      exact ⟨_, _, (List.dropLast_concat_getLast hne).symm⟩
    rw [← List.append_assoc, valL_snoc, ih c' (by simpa using hn), valL_snoc, Nat.pow_succ]
    grind
theorem valL_lt (l : List Bool) : valL l < 2 ^ l.length := by
  induction hn : l.length generalizing l with
  | zero =>
    obtain rfl := List.length_eq_zero_iff.1 hn
    exact Nat.one_pos
  | succ n ih =>
    obtain ⟨c', b, rfl⟩ : ∃ c' b, l = c' ++ [b] := by
      have hne : l ≠ [] := by intro e; simp [e] at hn
      exact ⟨_, _, (List.dropLast_concat_getLast hne).symm⟩
    have := ih c' (by simpa using hn)
    rw [valL_snoc, Nat.pow_succ]
    cases b <;> simp <;> omega
theorem valL_bits (u n : Nat) : valL (bitsL u n) = u % 2 ^ n := by
  induction n generalizing u with
  | zero => rw [Nat.pow_zero, Nat.mod_one]; rfl
  | succ n ih =>
    rw [bitsL_add u n 1, valL_append, ih, bitsL_length]
    have e : valL (bitsL u 1) = u % 2 := by
      simp [bitsL, valL, Nat.testBit_zero, List.range_succ]
      rcases Nat.mod_two_eq_zero_or_one u with h | h <;> simp [h]
    rw [e, Nat.shiftRight_eq_div_pow, Nat.pow_one, Nat.pow_succ, Nat.mul_comm (2 ^ n) 2, Nat.mod_mul]
    omega

/-- The bits that are taken at one place of a byte. -/
theorem val_piece (bs : List UInt8) (t some_ : Nat) (h : t < 8 * bs.length) (hs : t % 8 + some_ ≤ 8) :
    valL (((unpackL bs).drop t).take some_) = ((bs.getD (t / 8) 0).toNat * 2 ^ (t % 8)) % 256 / 2 ^ (8 - some_) := by
  have hlen := unpackL_length bs
  have e : ((unpackL bs).drop t).take some_ = bitsL ((bs.getD (t / 8) 0).toNat / 2 ^ (8 - (t % 8 + some_))) some_ := by
    apply List.ext_getElem?
    intro i
    by_cases hi : i < some_
    · rw [List.getElem?_take, if_pos hi, List.getElem?_drop, unpackL_get _ (by omega), bitsL_get _ hi, ← Nat.shiftRight_eq_div_pow, Nat.testBit_shiftRight, show (t + i) / 8 = t / 8 by omega]
      congr 2
      omega
    · rw [List.getElem?_take, if_neg hi, List.getElem?_eq_none (by rw [bitsL_length]; omega)]
  rw [e, valL_bits]
  have hb : (bs.getD (t / 8) 0).toNat < 256 := (bs.getD (t / 8) 0).toNat_lt
  generalize (bs.getD (t / 8) 0).toNat = b at hb ⊢
  generalize ha : t % 8 = a at hs ⊢
  apply Nat.eq_of_testBit_eq
  intro j
  rw [← Nat.shiftRight_eq_div_pow, ← Nat.shiftRight_eq_div_pow, ← Nat.shiftLeft_eq, show (256 : Nat) = 2 ^ 8 from rfl, Nat.testBit_mod_two_pow, Nat.testBit_shiftRight, Nat.testBit_shiftRight, Nat.testBit_mod_two_pow, Nat.testBit_shiftLeft]
  by_cases hj : j < some_
  · have h1 : 8 - some_ + j < 8 := by omega
    have h2 : 8 - some_ + j ≥ a := by omega
    simp only [hj, h1, h2, decide_true, Bool.true_and]
    congr 1
    omega
  · have h1 : ¬ 8 - some_ + j < 8 := by omega
    simp [hj, h1]

/-- The document's own bytes, bit by bit. -/
theorem byteB_take (l : List Bool) (i : Nat) (h : i < l.length) : byteB (l.take (i + 1)) (i / 8) = byteB (l.take i) (i / 8) ||| (if l[i] then 2 ^ (7 - i % 8) else 0) := by
  have e : l.take (i + 1) = l.take i ++ bitsL (l[i].toNat >>> 0) 1 := by
    rw [List.take_succ_eq_append_getElem h]
    cases l[i] <;> simp [bitsL]
  rw [e, byteB_piece (l.take i) l[i].toNat 0 1 (i / 8) (i % 8) (by rw [List.length_take]; omega) (by omega) (by omega)]
  congr 1
  apply Nat.eq_of_testBit_eq
  intro j
  rw [pieceN_bit]
  cases l[i]
  · simp
  · simp only [Bool.toNat_true, if_true, Nat.testBit_two_pow]
    have h1 : Nat.testBit 1 (0 + (j + i % 8 - (8 - 1))) = decide (j + i % 8 - 7 = 0) := by
      rw [Nat.zero_add, show (1 : Nat) = 2 ^ 0 from rfl, Nat.testBit_two_pow]
      simp [eq_comm]
    rw [h1, Bool.eq_iff_iff]
    simp
    omega
theorem byteB_take_other (l : List Bool) (i k : Nat) (h : k ≠ i / 8) : byteB (l.take (i + 1)) k = byteB (l.take i) k := by
  refine byteB_congr (fun j hj => ?_)
  rw [List.getD_eq_getElem?_getD, List.getD_eq_getElem?_getD, List.getElem?_take, List.getElem?_take]
  by_cases h1 : 8 * k + j < i
  · rw [if_pos h1, if_pos (by omega)]
  · rw [if_neg h1, if_neg (by omega)]
theorem packK_take (l : List Bool) (i n : Nat) (h : i < l.length) (hn : i / 8 < n) : packK (l.take (i + 1)) n = (packK (l.take i) n).set (i / 8) (UInt8.ofNat (byteB (l.take i) (i / 8) ||| (if l[i] then 2 ^ (7 - i % 8) else 0))) := by
  apply List.ext_getElem?
  intro k
  rw [List.getElem?_set, packK_length]
  by_cases hk : k < n
  · rw [packK_get _ hk]
    by_cases e : i / 8 = k
    · subst e
      rw [if_pos rfl, if_pos hk, byteB_take l i h]
    · rw [if_neg e, packK_get _ hk, byteB_take_other l i k (fun e' => e e'.symm)]
  · rw [List.getElem?_eq_none (by rw [packK_length]; omega)]
    by_cases e : i / 8 = k
    · omega
    · rw [if_neg e, List.getElem?_eq_none (by rw [packK_length]; omega)]
theorem packK_take_no (l : List Bool) (i n : Nat) (h : i < l.length) (hb : l[i] = false) : packK (l.take (i + 1)) n = packK (l.take i) n := by
  refine packK_congr (fun j _ => ?_)
  rw [List.getD_eq_getElem?_getD, List.getD_eq_getElem?_getD, List.getElem?_take, List.getElem?_take]
  by_cases h1 : j < i
  · rw [if_pos h1, if_pos (by omega)]
  · rw [if_neg h1]
    by_cases h2 : j = i
    · subst h2
      rw [if_pos (by omega), List.getElem?_eq_getElem h, hb]
      rfl
    · rw [if_neg (by omega)]
theorem packK_take_yes (l : List Bool) (i n q sh : Nat) (h : i < l.length) (hn : i / 8 < n) (hb : l[i] = true) (hq : i / 8 = q) (hs : 7 - i % 8 = sh) : packK (l.take (i + 1)) n = (packK (l.take i) n).set q (UInt8.ofNat (byteB (l.take i) q ||| 2 ^ sh)) := by
  subst hq
  subst hs
  rw [packK_take l i n h hn, hb]
  simp
theorem packK_none (k : Nat) : packK [] k = List.replicate k 0 := by
  apply List.ext_getElem?
  intro i
  by_cases h : i < k
  · rw [packK_get _ h, List.getElem?_replicate, if_pos h, byteB_past (by simp)]
    rfl
  · rw [List.getElem?_eq_none (by rw [packK_length]; omega), List.getElem?_eq_none (by simp; omega)]
end Go.Proofs.Lys
