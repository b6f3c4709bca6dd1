/-
  What it means that a disk lies in memory as the plain one tells, and what of that stays when other memory turns.
-/
import Derived.Test.YtpjedcfdchebgaaDdir
namespace Go.Proofs.Ytpjedcfdchebgaa
open Go.RowKit Go.Proofs.Lys Go.Maps
set_option linter.unusedVariables false

/-- A byte, as it lies. -/
def byteV (x : UInt8) : Value := .int .u8 x.toNat

/-- Where a disk lies: its block, its two maps, its files' blocks, their slices of bytes, the slice of acts and those acts, the two counts. -/
structure Conc where
  d : Nat
  mi : Nat
  ms : Nat
  blk : List Nat
  bv : List Value
  pv : Value
  pl : List Value
  fw : Int
  aw : Int

def Conc.bs (c : Conc) (i : Nat) : Value := c.bv.getD i (.slice none 0 0)

/-- An act's closure, and what it holds. -/
def ActAt (w : World) (O : Nat → Prop) (blk : List Nat) (v : Value) (a : DAct) : Prop :=
  (a.kind = 0 ∧ ∃ (bn be : Nat) (s : ByteArray), v = .func (.func 70) #[] #[.pointer (some ⟨be, 0, none⟩), .pointer (some ⟨bn, 0, none⟩)] ∧
    Blk w bn [.string s] 9 ∧ s.data.toList = a.name ∧ s.size ≤ maxLen ∧ Blk w be [.pointer (some ⟨blk.getD a.file 0, 0, none⟩)] 89 ∧ O bn ∧ O be) ∨
  (a.kind = 1 ∧ ∃ (b1 b2 : Nat) (s1 s2 : ByteArray), v = .func (.func 74) #[] #[.pointer (some ⟨b1, 0, none⟩), .pointer (some ⟨b2, 0, none⟩)] ∧
    Blk w b1 [.string s1] 9 ∧ s1.data.toList = a.name ∧ s1.size ≤ maxLen ∧ Blk w b2 [.string s2] 9 ∧ s2.data.toList = a.to ∧ s2.size ≤ maxLen ∧ O b1 ∧ O b2) ∨
  (a.kind = 2 ∧ ∃ (b1 : Nat) (s1 : ByteArray), v = .func (.func 75) #[] #[.pointer (some ⟨b1, 0, none⟩)] ∧
    Blk w b1 [.string s1] 9 ∧ s1.data.toList = a.name ∧ s1.size ≤ maxLen ∧ O b1)

structure DRest (w : World) (c : Conc) (O : Nat → Prop) (m : DModel) : Prop where
  isM : w.ownsMap Try.prog 9 ptrE c.mi m.dir.length (dirD c.blk m.dir)
  sureM : w.ownsMap Try.prog 9 ptrE c.ms m.sure.length (dirD c.blk m.sure)
  apart : c.mi ≠ c.ms
  nblk : c.blk.length = m.files.length
  nbv : c.bv.length = m.files.length
  nodup : c.blk.Nodup
  file : ∀ i, i < m.files.length → Blk w (c.blk.getD i 0) [c.bs i, .int .i64 ((m.fileAt i).sure : Int)] 117
  bytes : ∀ i, i < m.files.length → w.ownsRow 0 5 1 (c.bs i) (m.fileAt i).b.length ((m.fileAt i).b.map byteV)
  lens : ∀ i, i < m.files.length → (m.fileAt i).b.length ≤ 16777216 ∧ (m.fileAt i).sure ≤ (m.fileAt i).b.length
  sole : ∀ i j k, i < m.files.length → j < m.files.length → (c.bs i).ownBlock = some k → (c.bs j).ownBlock = some k → i = j
  pend : w.ownsRow 0 124 1 c.pv m.acts.length c.pl
  act : ∀ i a, m.acts[i]? = some a → ActAt w O c.blk (c.pl.getD i .nilFunc) a
  dirF : ∀ p ∈ m.dir, p.2 < m.files.length
  sureF : ∀ p ∈ m.sure, p.2 < m.files.length
  actF : ∀ a ∈ m.acts, a.kind = 0 → a.file < m.files.length
  synced : m.acts.foldl DD.act m.sure = m.dir
  oMi : O c.mi
  oMs : O c.ms
  oBlk : ∀ i, i < m.files.length → O (c.blk.getD i 0)
  oBs : ∀ i k, i < m.files.length → (c.bs i).ownBlock = some k → O k
  oPv : ∀ k, c.pv.ownBlock = some k → O k

def DCells (c : Conc) (m : DModel) : List Value := dCells m.quota m.steps (!m.off) m.fuse.isSome c.fw m.fault.isSome c.aw c.mi c.ms c.pv

structure DiskAt (w : World) (c : Conc) (O : Nat → Prop) (m : DModel) : Prop where
  cells : Blk w c.d (DCells c m) 65
  fuse : ∀ n, m.fuse = some n → c.fw = n ∧ (n : Int) ≤ 9223372036854775807
  fault : ∀ n, m.fault = some n → c.aw = n ∧ (n : Int) ≤ 9223372036854775807
  oD : O c.d
  top : ∀ k, O k → k < w.heap.size
  quota : m.quota ≤ 67108864
  rest : DRest w c O m

/-- New blocks become the disk's own. -/
def Grow (O : Nat → Prop) (w w' : World) (k : Nat) : Prop := O k ∨ (w.heap.size ≤ k ∧ k < w'.heap.size)

theorem row_typed {w : World} {e : TypeId} {v : Value} {n : Nat} {xs : List Value} (h : w.ownsRow 0 e 1 v n xs) {k : Nat} (hk : v.ownBlock = some k) : Typed w k e := by
  obtain ⟨_, ⟨rfl, _⟩ | ⟨g, cap, cur, rfl, _, hg, _⟩⟩ := h
  · cases hk
  · cases hk
    exact ⟨_, _, hg⟩

theorem row_block {w w' : World} {e : TypeId} {v : Value} {n : Nat} {xs : List Value} (h : w.ownsRow 0 e 1 v n xs) (hk : ∀ k, v.ownBlock = some k → w'.heap[k]? = w.heap[k]?) : w'.ownsRow 0 e 1 v n xs := by
  obtain ⟨hl, h1 | ⟨g, cap, cur, rfl, hb, hg, hc⟩⟩ := h
  · exact ⟨hl, .inl h1⟩
  · exact ⟨hl, .inr ⟨g, cap, cur, rfl, hb, (hk g rfl).trans hg, hc⟩⟩

theorem map_block {w w' : World} {k : TypeId} {b n : Nat} {D : DataW Unit} (h : w.ownsMap Try.prog k ptrE b n D) (hb : w'.heap[b]? = w.heap[b]?) : w'.ownsMap Try.prog k ptrE b n D := by
  obtain ⟨es, ck, e, r⟩ := h
  exact ⟨es, ck, hb.trans e, r⟩

theorem ActAt.kept {w w' : World} {O : Nat → Prop} {blk : List Nat} {v : Value} {a : DAct} {d : Nat} (h : ActAt w O blk v a) (hd : Typed w d 65) (hk : ∀ k, O k → k ≠ d → w'.heap[k]? = w.heap[k]?) : ActAt w' O blk v a := by
  rcases h with ⟨h0, bn, be, s, hv, h1, h2, h3, h4, o1, o2⟩ | ⟨h0, b1, b2, s1, s2, hv, h1, h2, h3, h4, h5, h6, o1, o2⟩ | ⟨h0, b1, s1, hv, h1, h2, h3, o1⟩
  · exact .inl ⟨h0, bn, be, s, hv, h1.of_block (hk _ o1 (h1.typed.ne hd (by decide))), h2, h3, h4.of_block (hk _ o2 (h4.typed.ne hd (by decide))), o1, o2⟩
  · exact .inr (.inl ⟨h0, b1, b2, s1, s2, hv, h1.of_block (hk _ o1 (h1.typed.ne hd (by decide))), h2, h3, h4.of_block (hk _ o2 (h4.typed.ne hd (by decide))), h5, h6, o1, o2⟩)
  · exact .inr (.inr ⟨h0, b1, s1, hv, h1.of_block (hk _ o1 (h1.typed.ne hd (by decide))), h2, h3, o1⟩)

theorem ActAt.mono {w : World} {O O' : Nat → Prop} {blk : List Nat} {v : Value} {a : DAct} (h : ActAt w O blk v a) (hO : ∀ k, O k → O' k) : ActAt w O' blk v a := by
  rcases h with ⟨h0, bn, be, s, hv, h1, h2, h3, h4, o1, o2⟩ | ⟨h0, b1, b2, s1, s2, hv, h1, h2, h3, h4, h5, h6, o1, o2⟩ | ⟨h0, b1, s1, hv, h1, h2, h3, o1⟩
  · exact .inl ⟨h0, bn, be, s, hv, h1, h2, h3, h4, hO _ o1, hO _ o2⟩
  · exact .inr (.inl ⟨h0, b1, b2, s1, s2, hv, h1, h2, h3, h4, h5, h6, hO _ o1, hO _ o2⟩)
  · exact .inr (.inr ⟨h0, b1, s1, hv, h1, h2, h3, hO _ o1⟩)

/-- Where the disk's own blocks, but its first one, are as they were. -/
theorem DRest.kept {w w' : World} {c : Conc} {O : Nat → Prop} {m : DModel} (h : DRest w c O m) (hd : Typed w c.d 65) (hk : ∀ k, O k → k ≠ c.d → w'.heap[k]? = w.heap[k]?) : DRest w' c O m :=
  { h with
    isM := map_block h.isM (hk _ h.oMi (fun e => hd.ne_map h.isM e.symm))
    sureM := map_block h.sureM (hk _ h.oMs (fun e => hd.ne_map h.sureM e.symm))
    file := fun i hi => (h.file i hi).of_block (hk _ (h.oBlk i hi) ((h.file i hi).typed.ne hd (by decide)))
    bytes := fun i hi => row_block (h.bytes i hi) (fun k e => hk _ (h.oBs i k hi e) ((row_typed (h.bytes i hi) e).ne hd (by decide)))
    pend := row_block h.pend (fun k e => hk _ (h.oPv k e) ((row_typed h.pend e).ne hd (by decide)))
    act := fun i a e => (h.act i a e).kept hd hk }

theorem DRest.mono {w : World} {c : Conc} {O O' : Nat → Prop} {m : DModel} (h : DRest w c O m) (hO : ∀ k, O k → O' k) : DRest w c O' m :=
  { h with
    act := fun i a e => (h.act i a e).mono hO
    oMi := hO _ h.oMi
    oMs := hO _ h.oMs
    oBlk := fun i hi => hO _ (h.oBlk i hi)
    oBs := fun i k hi e => hO _ (h.oBs i k hi e)
    oPv := fun k e => hO _ (h.oPv k e) }

/-- DRest looks at the files, the two directories and the acts alone. -/
theorem DRest.scal {w : World} {c c' : Conc} {O : Nat → Prop} {m m' : DModel} (h : DRest w c O m) (hf : m'.files = m.files) (hd : m'.dir = m.dir) (hs : m'.sure = m.sure) (ha : m'.acts = m.acts)
    (h1 : c'.mi = c.mi) (h2 : c'.ms = c.ms) (h3 : c'.blk = c.blk) (h4 : c'.bv = c.bv) (h5 : c'.pv = c.pv) (h6 : c'.pl = c.pl) : DRest w c' O m' := by
  obtain ⟨files, dir, sure, acts, q, st, off, fu, fa⟩ := m
  obtain ⟨files', dir', sure', acts', q', st', off', fu', fa'⟩ := m'
  obtain ⟨d, mi, ms, blk, bv, pv, pl, fw, aw⟩ := c
  obtain ⟨d', mi', ms', blk', bv', pv', pl', fw', aw'⟩ := c'
  simp only at hf hd hs ha h1 h2 h3 h4 h5 h6
  subst hf hd hs ha h1 h2 h3 h4 h5 h6
  exact ⟨h.isM, h.sureM, h.apart, h.nblk, h.nbv, h.nodup, h.file, h.bytes, h.lens, h.sole, h.pend, h.act, h.dirF, h.sureF, h.actF, h.synced, h.oMi, h.oMs, h.oBlk, h.oBs, h.oPv⟩

section
variable {w w' : World} {c : Conc} {O O' : Nat → Prop} {m : DModel}

theorem DiskAt.kept (h : DiskAt w c O m) (hk : ∀ k, O k → w'.heap[k]? = w.heap[k]?) (hs : w.heap.size ≤ w'.heap.size) : DiskAt w' c O m :=
  { h with
    cells := h.cells.of_block (hk _ h.oD)
    top := fun k hO => Nat.lt_of_lt_of_le (h.top k hO) hs
    rest := h.rest.kept h.cells.typed (fun k hO _ => hk k hO) }

/-- Another's work leaves a disk as it is. -/
theorem DiskAt.only (h : DiskAt w c O m) (k : Only O' w w') (hn : ∀ j, O j → ¬ O' j) : DiskAt w' c O m :=
  h.kept (fun j hO => k.block j (h.top j hO) (hn j hO)) k.size
theorem DiskAt.stay (h : DiskAt w c O m) (k : Stay w w') : DiskAt w' c O m := h.only k (fun _ _ f => f)
theorem DiskAt.mono (h : DiskAt w c O m) (hO : ∀ k, O k → O' k) (ht : ∀ k, O' k → k < w.heap.size) : DiskAt w c O' m :=
  { h with oD := hO _ h.oD, top := ht, rest := h.rest.mono hO }

/-- Only the disk's first block was written, and its numbers and flags alone. -/
theorem DiskAt.scal {m' : DModel} {fw aw : Int} (h : DiskAt w c O m) (k : Only (· = c.d) w w') (hc : Blk w' c.d (DCells { c with fw := fw, aw := aw } m') 65)
    (hf : m'.files = m.files) (hd : m'.dir = m.dir) (hs : m'.sure = m.sure) (ha : m'.acts = m.acts) (hq : m'.quota = m.quota)
    (h1 : ∀ n, m'.fuse = some n → fw = n ∧ (n : Int) ≤ 9223372036854775807) (h2 : ∀ n, m'.fault = some n → aw = n ∧ (n : Int) ≤ 9223372036854775807) : DiskAt w' { c with fw := fw, aw := aw } O m' :=
  { cells := hc
    fuse := h1
    fault := h2
    oD := h.oD
    top := fun j hO => Nat.lt_of_lt_of_le (h.top j hO) k.size
    quota := by rw [hq]; exact h.quota
    rest := (h.rest.kept h.cells.typed (fun j hO hne => k.block j (h.top j hO) hne)).scal hf hd hs ha rfl rfl rfl rfl rfl rfl }
end

theorem DiskAt.cell {w : World} {c : Conc} {O : Nat → Prop} {m : DModel} (h : DiskAt w c O m) {E : Nat} (hE : ¬ O E) (v : Value) : DiskAt (w.setCell ⟨E, 0, none⟩ v) c O m :=
  h.only (O' := fun k => k = E) ((Only.refl (fun k => k = E) w).setCell (fun _ => rfl) _) (fun j hj e => hE (e ▸ hj))

theorem Grow.left {O : Nat → Prop} {w w' : World} {k : Nat} (h : O k) : Grow O w w' k := .inl h
theorem Grow.trans {O : Nat → Prop} {w w1 w2 w3 w4 : World} (h1 : w.heap.size ≤ w1.heap.size) (h2 : w2.heap.size ≤ w3.heap.size) {k : Nat} (h : Grow O w1 w2 k) (hle : w.heap.size ≤ w.heap.size) : Grow O w w3 k := by
  rcases h with h | ⟨a, b⟩
  · exact .inl h
  · exact .inr ⟨by omega, by omega⟩
end Go.Proofs.Ytpjedcfdchebgaa
