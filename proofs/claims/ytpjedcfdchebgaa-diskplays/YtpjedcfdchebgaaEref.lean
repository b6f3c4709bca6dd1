/-
  The document's own disk in memory.
-/
import Derived.Test.YtpjedcfdchebgaaEput2
namespace Go.Proofs.Ytpjedcfdchebgaa
open Go.RowKit Go.Proofs.Lys Go.Maps Go.Shelf
set_option linter.unusedVariables false

/-- A fuse, a fault: below 0 there is none. -/
def laidI : Option Nat → Int
  | none => -1
  | some n => (n : Int)

/-- Files, cell by cell. -/
def filL : List (Value × DFile) → List Value
  | [] => []
  | p :: r => p.1 :: .int .i64 (p.2.sure : Int) :: filL r
/-- Acts, cell by cell. -/
def actL : List DAct → List Value
  | [] => []
  | a :: r => .int .i64 (a.kind : Int) :: nmV a.name :: nmV a.to :: .int .i64 (a.file : Int) :: actL r
theorem filL_len (l : List (Value × DFile)) : (filL l).length = l.length * 2 := by
  induction l with
  | nil => rfl
  | cons p r ih => rw [filL, List.length_cons, List.length_cons, ih, List.length_cons]; omega
theorem actL_len (l : List DAct) : (actL l).length = l.length * 4 := by
  induction l with
  | nil => rfl
  | cons p r ih => rw [actL, List.length_cons, List.length_cons, List.length_cons, List.length_cons, ih, List.length_cons]; omega
theorem filL_app (l r : List (Value × DFile)) : filL (l ++ r) = filL l ++ filL r := by
  induction l with
  | nil => rfl
  | cons p l ih => rw [List.cons_append, filL, ih, filL]; rfl
theorem actL_app (l r : List DAct) : actL (l ++ r) = actL l ++ actL r := by
  induction l with
  | nil => rfl
  | cons p l ih => rw [List.cons_append, actL, ih, actL]; rfl
theorem filL_at (l : List (Value × DFile)) (i : Nat) (h : i < l.length) : (filL l)[i * 2]? = some l[i].1 ∧ (filL l)[i * 2 + 1]? = some (.int .i64 (l[i].2.sure : Int)) := by
  induction l generalizing i with
  | nil => simp at h
  | cons p r ih =>
    cases i with
    | zero => exact ⟨rfl, rfl⟩
    | succ i =>
      have := ih i (by simpa using h)
      rw [show (i + 1) * 2 = i * 2 + 2 by omega]
      exact this
theorem actL_at (l : List DAct) (i : Nat) (h : i < l.length) : (actL l)[i * 4]? = some (.int .i64 (l[i].kind : Int)) ∧ (actL l)[i * 4 + 1]? = some (nmV l[i].name) ∧ (actL l)[i * 4 + 2]? = some (nmV l[i].to) ∧ (actL l)[i * 4 + 3]? = some (.int .i64 (l[i].file : Int)) := by
  induction l generalizing i with
  | nil => simp at h
  | cons p r ih =>
    cases i with
    | zero => exact ⟨rfl, rfl, rfl, rfl⟩
    | succ i =>
      have := ih i (by simpa using h)
      rw [show (i + 1) * 4 = i * 4 + 4 by omega]
      exact this

/-- An act as the plain model has it: only one that gave a name has a file's number. -/
def plainAct (a : DAct) : DAct := if a.kind = 1 then ⟨1, a.name, a.to, 0⟩ else a

/-- Where the document's own disk lies: its block, its four slices, its files with their slices of bytes, its acts. -/
structure RConc where
  d : Nat
  fv : Value
  dv : Value
  sv : Value
  av : Value
  fs : List (Value × DFile)
  ac : List DAct

def RCells (c : RConc) (m : DModel) : List Value := [c.fv, c.dv, c.sv, c.av, .int .i64 (m.quota : Int), .bool m.off, .int .i64 (laidI m.fuse), .int .i64 (laidI m.fault), .int .i64 (m.steps : Int)]

structure RAt (w : World) (c : RConc) (O : Nat → Prop) (m : DModel) : Prop where
  cells : Blk w c.d (RCells c m) 70
  files : w.ownsRow 0 77 2 c.fv c.fs.length (filL c.fs)
  fsm : c.fs.map (·.2) = m.files
  bytes : ∀ p ∈ c.fs, w.ownsRow 0 5 1 p.1 p.2.b.length (p.2.b.map bV)
  lens : ∀ p ∈ c.fs, p.2.b.length ≤ 16777216 ∧ p.2.sure ≤ p.2.b.length
  dir : EntAt w 0 c.dv m.dir
  sure : EntAt w 0 c.sv m.sure
  acts : w.ownsRow 0 80 4 c.av c.ac.length (actL c.ac)
  acm : c.ac.map plainAct = m.acts
  quota : m.quota ≤ 67108864
  dirF : ∀ p ∈ m.dir, p.2 < m.files.length
  oD : O c.d
  oF : ∀ k, c.fv.ownBlock = some k → O k
  oB : ∀ p ∈ c.fs, ∀ k, p.1.ownBlock = some k → O k
  oDir : ∀ k, c.dv.ownBlock = some k → O k
  oSure : ∀ k, c.sv.ownBlock = some k → O k
  oAct : ∀ k, c.av.ownBlock = some k → O k
  top : ∀ k, O k → k < w.heap.size

section
variable {w w' : World} {c : RConc} {O O' : Nat → Prop} {m : DModel}
theorem RAt.only (h : RAt w c O m) (k : Only O' w w') (hn : ∀ j, O j → ¬ O' j) : RAt w' c O m :=
  { h with
    cells := k.blk h.cells (hn _ h.oD)
    files := ownN_only h.files k (fun b hb => hn b (h.oF b hb))
    bytes := fun p hp => ownN_only (h.bytes p hp) k (fun b hb => hn b (h.oB p hp b hb))
    dir := ownN_only h.dir k (fun b hb => hn b (h.oDir b hb))
    sure := ownN_only h.sure k (fun b hb => hn b (h.oSure b hb))
    acts := ownN_only h.acts k (fun b hb => hn b (h.oAct b hb))
    top := fun j hj => Nat.lt_of_lt_of_le (h.top j hj) k.size }
theorem RAt.stay (h : RAt w c O m) (k : Kept w w') : RAt w' c O m := h.only k (fun _ _ f => f)
theorem RAt.mono (h : RAt w c O m) (hO : ∀ k, O k → O' k) (ht : ∀ k, O' k → k < w.heap.size) : RAt w c O' m :=
  { h with oD := hO _ h.oD, oF := fun k e => hO k (h.oF k e), oB := fun p hp k e => hO k (h.oB p hp k e), oDir := fun k e => hO k (h.oDir k e), oSure := fun k e => hO k (h.oSure k e), oAct := fun k e => hO k (h.oAct k e), top := ht }
theorem RAt.nf (h : RAt w c O m) : c.fs.length = m.files.length := by rw [← h.fsm, List.length_map]
theorem RAt.fileAt (h : RAt w c O m) (i : Nat) (hi : i < c.fs.length) : m.fileAt i = c.fs[i].2 := by
  unfold DModel.fileAt
  rw [← h.fsm, List.getD_eq_getElem?_getD, List.getElem?_map, List.getElem?_eq_getElem hi]
  rfl
/-- Only the plain cells turn. -/
theorem RAt.scal {m' : DModel} (h : RAt w c O m) (k : Only (· = c.d) w w') (hc : Blk w' c.d (RCells c m') 70) (e1 : m'.files = m.files) (e2 : m'.dir = m.dir) (e3 : m'.sure = m.sure) (e4 : m'.acts = m.acts) (hq : m'.quota ≤ 67108864) : RAt w' c O m' := by
  have hd := h.cells.typed
  refine { cells := hc, files := ownN_only h.files k ?_, fsm := by rw [e1]; exact h.fsm, bytes := fun p hp => ownN_only (h.bytes p hp) k ?_, lens := h.lens, dir := ?_, sure := ?_, acts := ownN_only h.acts k ?_, acm := by rw [e4]; exact h.acm, quota := hq, dirF := by rw [e1, e2]; exact h.dirF, oD := h.oD, oF := h.oF, oB := h.oB, oDir := h.oDir, oSure := h.oSure, oAct := h.oAct, top := fun j hj => Nat.lt_of_lt_of_le (h.top j hj) k.size }
  · intro b hb e
    exact (ownN_typed h.files hb).ne hd (by decide) e
  · intro b hb e
    exact (ownN_typed (h.bytes p hp) hb).ne hd (by decide) e
  · rw [e2]
    exact ownN_only h.dir k (fun b hb e => (ownN_typed h.dir hb).ne hd (by decide) e)
  · rw [e3]
    exact ownN_only h.sure k (fun b hb e => (ownN_typed h.sure hb).ne hd (by decide) e)
  · intro b hb e
    exact (ownN_typed h.acts hb).ne hd (by decide) e
end
end Go.Proofs.Ytpjedcfdchebgaa
