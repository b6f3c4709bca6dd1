/-
  Blocks of memory by what they hold, and what a call may change: no program is named here.
-/
import Derived.WalkKit
import Derived.ProofKit
import Derived.WalkLawsBesides
import Derived.Below
import Derived.Maps.RangeWalk
namespace Go.Proofs.Lys
open Go Go.RowKit

/-- Block b holds just these cells, of that type, and none of them is frozen. -/
def Blk (w : World) (b : Nat) (vs : List Value) (T : TypeId) : Prop := w.heap[b]? = some (.cells vs.toArray T (0, 0))

section
variable {w w' : World} {b b' : Nat} {vs vs' : List Value} {T T' : TypeId}

theorem Blk.cell (h : Blk w b vs T) (i : Nat) {v : Value} (hi : vs[i]? = some v) : w.cell? ⟨b, i, none⟩ = some v := by
  unfold Blk at h
  simp [World.cell?, h, hi]
theorem Blk.frozen (h : Blk w b vs T) (i : Nat) : w.frozen? ⟨b, i, none⟩ = false := by
  unfold Blk at h
  simp [World.frozen?, h]
theorem Blk.lt (h : Blk w b vs T) : b < w.heap.size := (Array.getElem?_eq_some_iff.1 h).1
theorem Blk.of_block (h : Blk w b vs T) (e : w'.heap[b]? = w.heap[b]?) : Blk w' b vs T := e.trans h
theorem Blk.set (h : Blk w b vs T) (i : Nat) (v : Value) : Blk (w.setCell ⟨b, i, none⟩ v) b (vs.set i v) T := by
  unfold Blk at h ⊢
  simp [World.setCell, Array.getElem?_modify, h]
theorem Blk.other (h : Blk w b vs T) {a : Addr} (hb : b ≠ a.block) (v : Value) : Blk (w.setCell a v) b vs T := h.of_block (Below.heap_setCell w a v b hb)
theorem Blk.alloc (h : Blk w b vs T) (o : Obj) : Blk (w.alloc o) b vs T := h.of_block (Below.heap_alloc w o b h.lt)
theorem Blk.drew (h : Blk w b vs T) : Blk w.drew b vs T := h
theorem Blk.new (w : World) (vs : List Value) (T : TypeId) : Blk (w.alloc (.cells vs.toArray T)) w.heap.size vs T := by
  unfold Blk World.alloc
  simp
theorem Blk.inj (h : Blk w b vs T) (h' : Blk w b vs' T') : vs = vs' ∧ T = T' := by
  unfold Blk at h h'
  rw [h] at h'
  simp at h'
  exact h'
theorem Blk.ne (h : Blk w b vs T) (h' : Blk w b' vs' T') (hT : T ≠ T') : b ≠ b' := by
  intro e
  subst e
  exact hT (h.inj h').2
theorem Blk.ne_len (h : Blk w b vs T) (h' : Blk w b' vs' T') (hl : vs.length ≠ vs'.length) : b ≠ b' := by
  intro e
  subst e
  exact hl (by rw [(h.inj h').1])

/-- Block b holds cells of that type. -/
def Typed (w : World) (b : Nat) (T : TypeId) : Prop := ∃ cs fz, w.heap[b]? = some (.cells cs T fz)
theorem Blk.typed (h : Blk w b vs T) : Typed w b T := ⟨_, _, h⟩
theorem Typed.ne (h : Typed w b T) (h' : Typed w b' T') (hT : T ≠ T') : b ≠ b' := by
  intro e
  subst e
  obtain ⟨cs, fz, h⟩ := h
  obtain ⟨cs', fz', h'⟩ := h'
  rw [h] at h'
  simp at h'
  exact hT h'.2.1
theorem Typed.ne_map {H : Type} {P : Program} {k : TypeId} {R : Value → Option (DataW H × List MemPlace)} {n : Nat} {D : DataW H} (h : Typed w b T) (h' : w.ownsMap P k R b' n D) : b ≠ b' := by
  intro e
  subst e
  obtain ⟨cs, fz, h⟩ := h
  obtain ⟨es, clock, h', _⟩ := h'
  rw [h] at h'
  cases h'

end

/-- The blocks that O holds may turn, and new ones may come: nothing else. -/
structure Only (O : Nat → Prop) (w w' : World) : Prop where
  os : w'.os = w.os
  tape : w'.tape = w.tape
  output : w'.output = w.output
  size : w.heap.size ≤ w'.heap.size
  block : ∀ k, k < w.heap.size → ¬ O k → w'.heap[k]? = w.heap[k]?

section
variable {O O' : Nat → Prop} {w w1 w2 : World}
theorem Only.refl (O : Nat → Prop) (w : World) : Only O w w := ⟨rfl, rfl, rfl, Nat.le_refl _, fun _ _ _ => rfl⟩
theorem Only.mono (h : Only O w w1) (hO : ∀ k, k < w.heap.size → O k → O' k) : Only O' w w1 :=
  ⟨h.os, h.tape, h.output, h.size, fun k hk hn => h.block k hk (fun ho => hn (hO k hk ho))⟩
theorem Only.trans (h : Only O w w1) (k : Only O' w1 w2) (hO : ∀ j, j < w.heap.size → O' j → O j) : Only O w w2 :=
  ⟨k.os.trans h.os, k.tape.trans h.tape, k.output.trans h.output, Nat.le_trans h.size k.size, fun j hj hn =>
    (k.block j (Nat.lt_of_lt_of_le hj h.size) (fun ho => hn (hO j hj ho))).trans (h.block j hj hn)⟩
theorem Only.drew (h : Only O w w1) : Only O w w1.drew := ⟨h.os, h.tape, h.output, h.size, h.block⟩
theorem Only.alloc (h : Only O w w1) (o : Obj) : Only O w (w1.alloc o) :=
  h.trans (O' := fun _ => False) ⟨rfl, rfl, rfl, by simp, fun k hk _ => Below.heap_alloc w1 o k hk⟩ (fun _ _ hf => hf.elim)
theorem Only.setCell (h : Only O w w1) {p : Addr} (hp : p.block < w.heap.size → O p.block) (v : Value) : Only O w (w1.setCell p v) :=
  h.trans (O' := fun k => k = p.block) ⟨rfl, rfl, rfl, by simp, fun k _ hn => Below.heap_setCell w1 p v k hn⟩ (fun j hj e => by subst e; exact hp hj)
theorem Only.grown (h : Only O w w1) {row : Option Nat} (g : w1.grownBy w2 row) (hr : ∀ k, row = some k → k < w.heap.size → O k) : Only O w w2 :=
  h.trans (O' := fun k => row = some k) ⟨g.os, g.tape, g.output, g.size, fun k hk hn => g.block k hk (fun e => hn e.symm)⟩ (fun j hj e => hr j e hj)
theorem Only.below (h : Below w.heap.size w w1) : Only (fun _ => False) w w1 := ⟨h.os, h.tape, h.output, h.size, fun k hk _ => h.block k hk⟩
theorem Only.toBelow (h : Only O w w1) {B : Nat} (hB : ∀ k, O k → B ≤ k) (hs : B ≤ w.heap.size) : Below B w w1 :=
  ⟨h.os, h.tape, h.output, h.size, fun k hk => h.block k (Nat.lt_of_lt_of_le hk hs) (fun ho => by have := hB k ho; omega)⟩
theorem Only.blk (h : Only O w w1) {b : Nat} {vs : List Value} {T : TypeId} (hb : Blk w b vs T) (hn : ¬ O b) : Blk w1 b vs T := hb.of_block (h.block b hb.lt hn)
theorem Only.map {H : Type} {P : Program} {k : TypeId} {R : Value → Option (DataW H × List MemPlace)} {b n : Nat} {D : DataW H} (h : Only O w w1) (hb : w.ownsMap P k R b n D) (hn : ¬ O b) : w1.ownsMap P k R b n D := by
  have hlt := hb.lt
  obtain ⟨es, clock, e, F, hs, hD⟩ := hb
  exact ⟨es, clock, (h.block b hlt hn).trans e, F, hs, hD⟩
theorem Only.row {base : Nat} {e : TypeId} {size : Nat} {v : Value} {n : Nat} {xs : List Value} (h : Only O w w1) (hr : w.ownsRow base e size v n xs) (hn : ∀ k, v.ownBlock = some k → ¬ O k) : w1.ownsRow base e size v n xs := by
  obtain ⟨hl, h1 | ⟨g, cap, cur, rfl, hb, hg, hc⟩⟩ := hr
  · exact ⟨hl, .inl h1⟩
  · exact ⟨hl, .inr ⟨g, cap, cur, rfl, hb, (h.block g (Array.getElem?_eq_some_iff.1 hg).1 (hn g rfl)).trans hg, hc⟩⟩
end

/-- A map's datum is a list of entries; how many there are bounds the map. -/
theorem map_tight {H : Type} {P : Program} {k : TypeId} {R : Value → Option (DataW H × List MemPlace)} {w : World} {b n : Nat} {l : List (Lit × DataW H)} (h : w.ownsMap P k R b n (.map l)) : w.ownsMap P k R b l.length (.map l) := by
  obtain ⟨es, clock, e, F, hs, hD⟩ := h
  refine ⟨es, clock, e, F, ?_, hD⟩
  have : l.length = es.size := by
    have := congrArg (fun d : DataW H => Maps.size d) hD
    simpa [Maps.size, length_sorted] using this
  omega
end Go.Proofs.Lys
