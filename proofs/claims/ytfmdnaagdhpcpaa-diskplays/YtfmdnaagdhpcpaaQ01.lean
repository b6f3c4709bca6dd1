/-
  Dheap, Dmodel, Dsmall, Ddir, Dinv, Dacts, Dfind.
-/
import Derived.WalkKit
import Derived.ProofKit
import Derived.WalkLawsBesides
import Derived.Below
import Derived.Maps.RangeWalk
import Derived.Test.YtfmdnaagdhpcpaaProg

/-
  Blocks of memory by what they hold, and what a call may change: no program is named here.
-/
namespace Go.Proofs.Lys
open Go Go.RowKit

/-- Block b holds just these cells, of that type, and none of them is frozen. -/
def Blk (w : World) (b : Nat) (vs : List Value) (T : TypeId) : Prop := w.heap[b]? = some (.cells vs.toArray T (0, 0))

section
variable {w w' : World} {b b' : Nat} {vs vs' : List Value} {T T' : TypeId}

theorem Blk.cell (h : Blk w b vs T) (i : Nat) {v : Value} (hi : vs[i]? = some v) : w.cell? ⟨b, i, none⟩ = some v := by
  unfold Blk at h
  simp [World.cell?, h, hi]
theorem Blk.frozen (h : Blk w b vs T) (i : Nat) : w.frozen? ⟨b, i, none⟩ = false := by
  unfold Blk at h
  simp [World.frozen?, h]
theorem Blk.lt (h : Blk w b vs T) : b < w.heap.size := (Array.getElem?_eq_some_iff.1 h).1
theorem Blk.of_block (h : Blk w b vs T) (e : w'.heap[b]? = w.heap[b]?) : Blk w' b vs T := e.trans h
theorem Blk.set (h : Blk w b vs T) (i : Nat) (v : Value) : Blk (w.setCell ⟨b, i, none⟩ v) b (vs.set i v) T := by
  unfold Blk at h ⊢
  simp [World.setCell, Array.getElem?_modify, h]
theorem Blk.other (h : Blk w b vs T) {a : Addr} (hb : b ≠ a.block) (v : Value) : Blk (w.setCell a v) b vs T := h.of_block (Below.heap_setCell w a v b hb)
theorem Blk.alloc (h : Blk w b vs T) (o : Obj) : Blk (w.alloc o) b vs T := h.of_block (Below.heap_alloc w o b h.lt)
theorem Blk.drew (h : Blk w b vs T) : Blk w.drew b vs T := h
theorem Blk.new (w : World) (vs : List Value) (T : TypeId) : Blk (w.alloc (.cells vs.toArray T)) w.heap.size vs T := by
  unfold Blk World.alloc
  simp
theorem Blk.inj (h : Blk w b vs T) (h' : Blk w b vs' T') : vs = vs' ∧ T = T' := by
  unfold Blk at h h'
  rw [h] at h'
  simp at h'
  exact h'
theorem Blk.ne (h : Blk w b vs T) (h' : Blk w b' vs' T') (hT : T ≠ T') : b ≠ b' := by
  intro e
  subst e
  exact hT (h.inj h').2
theorem Blk.ne_len (h : Blk w b vs T) (h' : Blk w b' vs' T') (hl : vs.length ≠ vs'.length) : b ≠ b' := by
  intro e
  subst e
  exact hl (by rw [(h.inj h').1])

/-- Block b holds cells of that type. -/
def Typed (w : World) (b : Nat) (T : TypeId) : Prop := ∃ cs fz, w.heap[b]? = some (.cells cs T fz)
theorem Blk.typed (h : Blk w b vs T) : Typed w b T := ⟨_, _, h⟩
theorem Typed.ne (h : Typed w b T) (h' : Typed w b' T') (hT : T ≠ T') : b ≠ b' := by
  intro e
  subst e
  obtain ⟨cs, fz, h⟩ := h
  obtain ⟨cs', fz', h'⟩ := h'
  rw [h] at h'
  simp at h'
  exact hT h'.2.1
theorem Typed.ne_map {H : Type} {P : Program} {k : TypeId} {R : Value → Option (DataW H × List MemPlace)} {n : Nat} {D : DataW H} (h : Typed w b T) (h' : w.ownsMap P k R b' n D) : b ≠ b' := by
  intro e
  subst e
  obtain ⟨cs, fz, h⟩ := h
  obtain ⟨es, clock, h', _⟩ := h'
  rw [h] at h'
  cases h'

end

/-- The blocks that O holds may turn, and new ones may come: nothing else. -/
structure Only (O : Nat → Prop) (w w' : World) : Prop where
  os : w'.os = w.os
  tape : w'.tape = w.tape
  output : w'.output = w.output
  size : w.heap.size ≤ w'.heap.size
  block : ∀ k, k < w.heap.size → ¬ O k → w'.heap[k]? = w.heap[k]?

section
variable {O O' : Nat → Prop} {w w1 w2 : World}
theorem Only.refl (O : Nat → Prop) (w : World) : Only O w w := ⟨rfl, rfl, rfl, Nat.le_refl _, fun _ _ _ => rfl⟩
theorem Only.mono (h : Only O w w1) (hO : ∀ k, k < w.heap.size → O k → O' k) : Only O' w w1 :=
  ⟨h.os, h.tape, h.output, h.size, fun k hk hn => h.block k hk (fun ho => hn (hO k hk ho))⟩
theorem Only.trans (h : Only O w w1) (k : Only O' w1 w2) (hO : ∀ j, j < w.heap.size → O' j → O j) : Only O w w2 :=
  ⟨k.os.trans h.os, k.tape.trans h.tape, k.output.trans h.output, Nat.le_trans h.size k.size, fun j hj hn =>
    (k.block j (Nat.lt_of_lt_of_le hj h.size) (fun ho => hn (hO j hj ho))).trans (h.block j hj hn)⟩
theorem Only.drew (h : Only O w w1) : Only O w w1.drew := ⟨h.os, h.tape, h.output, h.size, h.block⟩
theorem Only.alloc (h : Only O w w1) (o : Obj) : Only O w (w1.alloc o) :=
  h.trans (O' := fun _ => False) ⟨rfl, rfl, rfl, by simp, fun k hk _ => Below.heap_alloc w1 o k hk⟩ (fun _ _ hf => hf.elim)
theorem Only.setCell (h : Only O w w1) {p : Addr} (hp : p.block < w.heap.size → O p.block) (v : Value) : Only O w (w1.setCell p v) :=
  h.trans (O' := fun k => k = p.block) ⟨rfl, rfl, rfl, by simp, fun k _ hn => Below.heap_setCell w1 p v k hn⟩ (fun j hj e => by subst e; exact hp hj)
theorem Only.grown (h : Only O w w1) {row : Option Nat} (g : w1.grownBy w2 row) (hr : ∀ k, row = some k → k < w.heap.size → O k) : Only O w w2 :=
  h.trans (O' := fun k => row = some k) ⟨g.os, g.tape, g.output, g.size, fun k hk hn => g.block k hk (fun e => hn e.symm)⟩ (fun j hj e => hr j e hj)
theorem Only.below (h : Below w.heap.size w w1) : Only (fun _ => False) w w1 := ⟨h.os, h.tape, h.output, h.size, fun k hk _ => h.block k hk⟩
theorem Only.toBelow (h : Only O w w1) {B : Nat} (hB : ∀ k, O k → B ≤ k) (hs : B ≤ w.heap.size) : Below B w w1 :=
  ⟨h.os, h.tape, h.output, h.size, fun k hk => h.block k (Nat.lt_of_lt_of_le hk hs) (fun ho => by have := hB k ho; omega)⟩
theorem Only.blk (h : Only O w w1) {b : Nat} {vs : List Value} {T : TypeId} (hb : Blk w b vs T) (hn : ¬ O b) : Blk w1 b vs T := hb.of_block (h.block b hb.lt hn)
theorem Only.map {H : Type} {P : Program} {k : TypeId} {R : Value → Option (DataW H × List MemPlace)} {b n : Nat} {D : DataW H} (h : Only O w w1) (hb : w.ownsMap P k R b n D) (hn : ¬ O b) : w1.ownsMap P k R b n D := by
  have hlt := hb.lt
  obtain ⟨es, clock, e, F, hs, hD⟩ := hb
  exact ⟨es, clock, (h.block b hlt hn).trans e, F, hs, hD⟩
theorem Only.row {base : Nat} {e : TypeId} {size : Nat} {v : Value} {n : Nat} {xs : List Value} (h : Only O w w1) (hr : w.ownsRow base e size v n xs) (hn : ∀ k, v.ownBlock = some k → ¬ O k) : w1.ownsRow base e size v n xs := by
  obtain ⟨hl, h1 | ⟨g, cap, cur, rfl, hb, hg, hc⟩⟩ := hr
  · exact ⟨hl, .inl h1⟩
  · exact ⟨hl, .inr ⟨g, cap, cur, rfl, hb, (h.block g (Array.getElem?_eq_some_iff.1 hg).1 (hn g rfl)).trans hg, hc⟩⟩
end

/-- A map's datum is a list of entries; how many there are bounds the map. -/
theorem map_tight {H : Type} {P : Program} {k : TypeId} {R : Value → Option (DataW H × List MemPlace)} {w : World} {b n : Nat} {l : List (Lit × DataW H)} (h : w.ownsMap P k R b n (.map l)) : w.ownsMap P k R b l.length (.map l) := by
  obtain ⟨es, clock, e, F, hs, hD⟩ := h
  refine ⟨es, clock, e, F, ?_, hD⟩
  have : l.length = es.size := by
    have := congrArg (fun d : DataW H => Maps.size d) hD
    simpa [Maps.size, length_sorted] using this
  omega
end Go.Proofs.Lys

/-
  The document's disk as plain data: files, two directories by rising names, acts that are pending, fuse and fault; what each call makes of it. No program is named here.
-/
namespace Go.Proofs.Lys
open Go

/-- A file: its bytes, how many are sure. -/
structure DFile where
  b : List UInt8
  sure : Nat

/-- An act: 0 a name was given, 1 taken and given, 2 taken away. -/
structure DAct where
  kind : Nat
  name : List UInt8
  to : List UInt8
  file : Nat

/-- A directory: names by rising bytes, each of a file's number. -/
abbrev DDir := List (List UInt8 × Nat)

structure DModel where
  files : List DFile
  dir : DDir
  sure : DDir
  acts : List DAct
  quota : Nat
  steps : Nat
  off : Bool
  fuse : Option Nat
  fault : Option Nat

structure DOp where
  kind : Int
  name : List UInt8
  to : List UInt8
  bytes : List UInt8

namespace DD

def look (l : DDir) (n : List UInt8) : Option Nat := (l.find? fun p => p.1 == n).map (·.2)

def drop (l : DDir) (n : List UInt8) : DDir := l.filter fun p => !(p.1 == n)

def ins (x : List UInt8 × Nat) : DDir → DDir
  | [] => [x]
  | y :: r => if bytesBefore x.1 y.1 then x :: y :: r else y :: ins x r

def put (l : DDir) (n : List UInt8) (f : Nat) : DDir := ins (n, f) (drop l n)

/-- An act, done to a directory. -/
def act (l : DDir) (a : DAct) : DDir :=
  if a.kind = 0 then put l a.name a.file
  else if a.kind = 1 then
    match look l a.name with
    | some f => put (drop l a.name) a.to f
    | none => l
  else drop l a.name

end DD

def namedB (n : List UInt8) : Bool := decide (1 ≤ n.length) && decide (n.length ≤ 60)

namespace DModel

def fileAt (m : DModel) (i : Nat) : DFile := m.files.getD i ⟨[], 0⟩

def used (m : DModel) : Nat := (m.dir.map fun p => (m.fileAt p.2).b.length).sum

/-- A step's own errors; 0: none. -/
def own (m : DModel) (o : DOp) : Nat :=
  if o.kind = 0 then
    if namedB o.name = false then 1 else if (DD.look m.dir o.name).isSome then 7 else 0
  else if o.kind = 1 then
    match DD.look m.dir o.name with
    | none => 6
    | some f => if 16777216 < (m.fileAt f).b.length + o.bytes.length then 2 else if m.quota < m.used + o.bytes.length then 11 else 0
  else if o.kind = 2 then
    if (DD.look m.dir o.name).isSome then 0 else 6
  else if o.kind = 3 then
    if (DD.look m.dir o.name).isSome then (if namedB o.to = false then 1 else 0) else 6
  else if o.kind = 4 then
    if (DD.look m.dir o.name).isSome then 0 else 6
  else 0

/-- What a step does, once nothing is in its way. -/
def done (m : DModel) (o : DOp) : DModel :=
  if o.kind = 0 then
    { m with files := m.files ++ [⟨[], 0⟩], dir := DD.put m.dir o.name m.files.length, acts := m.acts ++ [⟨0, o.name, [], m.files.length⟩] }
  else if o.kind = 1 then
    let f := (DD.look m.dir o.name).getD 0
    { m with files := m.files.set f ⟨(m.fileAt f).b ++ o.bytes, (m.fileAt f).sure⟩ }
  else if o.kind = 2 then
    let f := (DD.look m.dir o.name).getD 0
    { m with files := m.files.set f ⟨(m.fileAt f).b, (m.fileAt f).b.length⟩ }
  else if o.kind = 3 then
    let a : DAct := ⟨1, o.name, o.to, 0⟩
    { m with dir := DD.act m.dir a, acts := m.acts ++ [a] }
  else if o.kind = 4 then
    let a : DAct := ⟨2, o.name, [], 0⟩
    { m with dir := DD.act m.dir a, acts := m.acts ++ [a] }
  else { m with sure := m.dir, acts := [] }

def count (m : DModel) : DModel := { m with steps := m.steps + 1, fuse := m.fuse.map (· - 1), fault := m.fault.map (· - 1) }

def doOp (m : DModel) (o : DOp) : Nat × DModel :=
  if o.kind < 0 ∨ 5 < o.kind then (1, m)
  else if m.off = true then (12, m)
  else if m.fuse = some 0 then (12, { m with off := true })
  else if m.own o ≠ 0 then (m.own o, m)
  else if m.fault = some 0 then (10, { m with fault := none })
  else (0, (m.done o).count)

def lay (n : Int) : Option Nat := if n < 0 then none else some n.toNat

/-- The next number of those that tell what stays. -/
def next (l : List Int) : Int × List Int := (l.headD 0, l.tail)

def oddB (n : Int) : Bool := decide (n % 2 ≠ 0)

/-- The acts that are kept, done to the sure directory. -/
def keepActs : List DAct → List Int → DDir → DDir × List Int
  | [], l, d => (d, l)
  | a :: r, l, d => keepActs r l.tail (if oddB (l.headD 0) then DD.act d a else d)

/-- How many bytes of a tail stay. -/
def stays (k : Int) (tail : Nat) : Nat := if k < 0 then 0 else min k.toNat tail

def spoil (b : List UInt8) (sure : Nat) : List UInt8 :=
  b.mapIdx fun i x => if sure ≤ i ∧ (b.length - 1) / 512 * 512 ≤ i then x ^^^ 165 else x

/-- A file behind a crash, and the numbers that are left. -/
def settleF (f : DFile) (l : List Int) : DFile × List Int :=
  if f.b.length = f.sure then (f, l)
  else
    let b := f.b.take (f.sure + stays (l.headD 0) (f.b.length - f.sure))
    let b2 := if oddB (l.tail.headD 0) then spoil b f.sure else b
    (⟨b2, b2.length⟩, l.tail.tail)

def settleAll : List Nat → List DFile → List Int → List DFile
  | [], fs, _ => fs
  | i :: r, fs, l =>
    let s := settleF (fs.getD i ⟨[], 0⟩) l
    settleAll r (fs.set i s.1) s.2

def crash (m : DModel) (keep : List Int) : DModel :=
  let k := keepActs m.acts keep m.sure
  { m with off := false, fuse := none, fault := none, dir := k.1, sure := k.1, acts := [], files := settleAll (k.1.map (·.2)) m.files k.2 }

def start (q : Int) : DModel := ⟨[], [], [], [], (min (max q 0) 67108864).toNat, 0, false, none, none⟩

def list (m : DModel) : List (List UInt8) := if m.off then [] else m.dir.map (·.1)

end DModel
end Go.Proofs.Lys

/-
  What the small functions of package disk do: refuse, named, lay, due, odd, draw, strain, count.
-/
namespace Go.Proofs.Ytfmdnaagdhpcpaa
open Go.RowKit Go.Proofs.Lys
set_option linter.unusedVariables false

theorem ret_int {k : IntKind} {a b : Int} (h : a = b) : Ending.returned (.int k a) = .returned (.int k b) := by rw [h]
theorem ret_bool {a b : Bool} (h : a = b) : Ending.returned (.bool a) = .returned (.bool b) := by rw [h]

/-- The panic by which a step gives up. -/
abbrev gaveUp (n : Int) : Ending := .panicked [{ v := .iface 35 (.int .i64 n), recovered := false }]

/-- Nothing that was there has turned. -/
abbrev Stay (w w' : World) : Prop := Only (fun _ => False) w w'

theorem refuse_no (n : Int) (w : World) : Calls Try.prog 50 #[.bool false, .int .i64 n] w fun e w' => e = .returned (.tuple #[]) ∧ w' = w := by
  go_enter Try.func50, Try.ntmps50
  go_wp2
  go_end0
  exact ⟨rfl, rfl⟩

theorem refuse_yes (n : Int) (w : World) : Calls Try.prog 50 #[.bool true, .int .i64 n] w fun e w' => e = gaveUp n ∧ w' = w := by
  go_enter Try.func50, Try.ntmps50
  go_wp2
  exact ⟨rfl, rfl, rfl⟩

theorem named_any (s : ByteArray) (w : World) (hs : s.size ≤ maxLen) : Calls Try.prog 51 #[.string s] w fun e w' => e = .returned (.bool (namedB s.data.toList)) ∧ w' = w := by
  unfold maxLen at hs
  have hl : s.data.toList.length = s.size := by simp
  by_cases h1 : 1 ≤ s.size
  · by_cases h2 : s.size ≤ 60
    · go_enter Try.func51, Try.ntmps51
      go_wp2
      go_ret
      exact ⟨ret_bool (by unfold namedB; rw [hl]; rw [Bool.eq_iff_iff]; simp; omega), rfl⟩
    · go_enter Try.func51, Try.ntmps51
      go_wp2
      go_ret
      exact ⟨ret_bool (by unfold namedB; rw [hl]; rw [Bool.eq_iff_iff]; simp; omega), rfl⟩
  · have hd : decide ((1 : Int) ≤ (s.size : Int)) = false := by simp; omega
    go_enter Try.func51, Try.ntmps51
    go_wp2
    go_ret
    exact ⟨ret_bool (by unfold namedB; rw [hl]; rw [Bool.eq_iff_iff]; simp; omega), rfl⟩

theorem odd_any (n : Int) (w : World) (h0 : -9223372036854775808 ≤ n) (h1 : n ≤ 9223372036854775807) : Calls Try.prog 68 #[.int .i64 n] w fun e w' => e = .returned (.bool (DModel.oddB n)) ∧ w' = w := by
  go_enter Try.func68, Try.ntmps68
  go_wp2
  go_ret
  exact ⟨ret_bool (by
    unfold DModel.oddB
    rw [Bool.eq_iff_iff]
    have e : n.tmod 2 = 0 ↔ n % 2 = 0 := by rw [← Int.dvd_iff_tmod_eq_zero, ← Int.dvd_iff_emod_eq_zero]
    simp [e]), rfl⟩

theorem due_any (l : Bool) (n : Int) (w : World) : Calls Try.prog 73 #[.agg #[.bool l, .int .i64 n]] w fun e w' => e = .returned (.bool (l && decide (n ≤ 0))) ∧ Stay w w' := by
  cases l
  · go_enter Try.func73, Try.ntmps73
    go_wp2
    go_ret
    exact ⟨rfl, (Only.refl _ _).alloc _⟩
  · go_enter Try.func73, Try.ntmps73
    go_wp2
    go_ret
    exact ⟨ret_bool (by simp), (Only.refl _ _).alloc _⟩

theorem lay_any (n : Int) (w : World) : Calls Try.prog 39 #[.int .i64 n] w fun e w' => e = .returned (.agg #[.bool (decide (0 ≤ n)), .int .i64 n]) ∧ Stay w w' := by
  go_enter Try.func39, Try.ntmps39
  go_wp2
  exact bodyPost_ret (v := .agg #[.bool (decide (0 ≤ n)), .int .i64 n]) (by simp [results, Try.results39, go_sem]) rfl ⟨rfl, (Only.refl _ _).alloc _⟩

/-- The cells of a disk. -/
def dCells (q st : Int) (on fl : Bool) (fw : Int) (al : Bool) (aw : Int) (mi ms : Nat) (pv : Value) : List Value :=
  [.int .i64 q, .int .i64 st, .bool on, .bool fl, .int .i64 fw, .bool al, .int .i64 aw, .map (some mi), .map (some ms), pv]

theorem dfacts {w : World} {d : Nat} {q st : Int} {on fl : Bool} {fw : Int} {al : Bool} {aw : Int} {mi ms : Nat} {pv : Value} (h : Blk w d (dCells q st on fl fw al aw mi ms pv) 58) :
    w.cell? ⟨d, 0, none⟩ = some (.int .i64 q) ∧ w.cell? ⟨d, 1, none⟩ = some (.int .i64 st) ∧ w.cell? ⟨d, 2, none⟩ = some (.bool on) ∧ w.cell? ⟨d, 3, none⟩ = some (.bool fl) ∧ w.cell? ⟨d, 4, none⟩ = some (.int .i64 fw) ∧
    w.cell? ⟨d, 5, none⟩ = some (.bool al) ∧ w.cell? ⟨d, 6, none⟩ = some (.int .i64 aw) ∧ w.cell? ⟨d, 7, none⟩ = some (.map (some mi)) ∧ w.cell? ⟨d, 8, none⟩ = some (.map (some ms)) ∧ w.cell? ⟨d, 9, none⟩ = some pv ∧
    (∀ i, w.frozen? ⟨d, i, none⟩ = false) :=
  ⟨h.cell 0 rfl, h.cell 1 rfl, h.cell 2 rfl, h.cell 3 rfl, h.cell 4 rfl, h.cell 5 rfl, h.cell 6 rfl, h.cell 7 rfl, h.cell 8 rfl, h.cell 9 rfl, h.frozen⟩

section
variable {w : World} {d : Nat} {q st : Int} {on fl : Bool} {fw : Int} {al : Bool} {aw : Int} {mi ms : Nat} {pv : Value}

set_option maxHeartbeats 400000 in
theorem draw_on (h : Blk w d (dCells q st true fl fw al aw mi ms pv) 58) (hf : (fl && decide (fw ≤ 0)) = false) :
    Calls Try.prog 61 #[.pointer (some ⟨d, 0, none⟩)] w fun e w' => e = .returned (.tuple #[]) ∧ Stay w w' := by
  obtain ⟨c0, c1, c2, c3, c4, c5, c6, c7, c8, c9, cf⟩ := dfacts h
  go_enter Try.func61, Try.ntmps61
  go_wp2_with fail
  refine (due_any _ _ _).mono ?_
  rintro e w1 ⟨rfl, hs⟩
  rw [hf]
  clear c0 c1 c2 c3 c4 c5 c6 c7 c8 c9 cf
  obtain ⟨c0, c1, c2, c3, c4, c5, c6, c7, c8, c9, cf⟩ := dfacts (hs.blk h (fun f => f))
  go_wp2_with fail
  refine (refuse_no _ _).mono ?_
  rintro e w2 ⟨rfl, rfl⟩
  go_wp2_with fail
  go_end0
  exact ⟨rfl, hs⟩

set_option maxHeartbeats 400000 in
/-- Without power, or where the fuse blows. -/
theorem draw_off (h : Blk w d (dCells q st on fl fw al aw mi ms pv) 58) (hf : on = false ∨ (fl && decide (fw ≤ 0)) = true) :
    Calls Try.prog 61 #[.pointer (some ⟨d, 0, none⟩)] w fun e w' => e = gaveUp 12 ∧ Only (· = d) w w' ∧ Blk w' d (dCells q st false fl fw al aw mi ms pv) 58 := by
  obtain ⟨c0, c1, c2, c3, c4, c5, c6, c7, c8, c9, cf⟩ := dfacts h
  go_enter Try.func61, Try.ntmps61
  go_wp2_with fail
  refine (due_any _ _ _).mono ?_
  rintro e w1 ⟨rfl, hs⟩
  clear c0 c1 c2 c3 c4 c5 c6 c7 c8 c9 cf
  have h1 := hs.blk h (fun f => f)
  have hs' : Only (· = d) w w1 := hs.mono (fun _ _ f => f.elim)
  obtain ⟨c0, c1, c2, c3, c4, c5, c6, c7, c8, c9, cf⟩ := dfacts h1
  cases hd : (fl && decide (fw ≤ 0))
  · rw [hd] at hf
    obtain rfl : on = false := by simpa using hf
    go_wp2_with fail
    refine (refuse_yes _ _).mono ?_
    rintro e w2 ⟨rfl, rfl⟩
    exact ⟨rfl, rfl, hs', h1⟩
  · go_wp2_with fail
    refine (refuse_yes _ _).mono ?_
    rintro e w2 ⟨rfl, rfl⟩
    exact ⟨rfl, rfl, hs'.setCell (fun _ => rfl) _, h1.set 2 _⟩

set_option maxHeartbeats 400000 in
theorem strain_no (h : Blk w d (dCells q st on fl fw al aw mi ms pv) 58) (hf : (al && decide (aw ≤ 0)) = false) :
    Calls Try.prog 62 #[.pointer (some ⟨d, 0, none⟩)] w fun e w' => e = .returned (.tuple #[]) ∧ Stay w w' := by
  obtain ⟨c0, c1, c2, c3, c4, c5, c6, c7, c8, c9, cf⟩ := dfacts h
  go_enter Try.func62, Try.ntmps62
  go_wp2_with fail
  refine (due_any _ _ _).mono ?_
  rintro e w1 ⟨rfl, hs⟩
  rw [hf]
  go_wp2_with fail
  go_end0
  exact ⟨rfl, hs⟩

set_option maxHeartbeats 400000 in
theorem strain_yes (h : Blk w d (dCells q st on fl fw al aw mi ms pv) 58) (hf : (al && decide (aw ≤ 0)) = true) :
    Calls Try.prog 62 #[.pointer (some ⟨d, 0, none⟩)] w fun e w' => e = gaveUp 10 ∧ Only (· = d) w w' ∧ Blk w' d (dCells q st on fl fw false 0 mi ms pv) 58 := by
  obtain ⟨c0, c1, c2, c3, c4, c5, c6, c7, c8, c9, cf⟩ := dfacts h
  go_enter Try.func62, Try.ntmps62
  go_wp2_with fail
  refine (due_any _ _ _).mono ?_
  rintro e w1 ⟨rfl, hs⟩
  rw [hf]
  clear c0 c1 c2 c3 c4 c5 c6 c7 c8 c9 cf
  have h1 := hs.blk h (fun f => f)
  have hs' : Only (· = d) w w1 := hs.mono (fun _ _ f => f.elim)
  obtain ⟨c0, c1, c2, c3, c4, c5, c6, c7, c8, c9, cf⟩ := dfacts h1
  go_wp2_with fail
  exact ⟨rfl, rfl, (hs'.setCell (fun _ => rfl) _).setCell (fun _ => rfl) _, (h1.set 5 _).set 6 _⟩

set_option maxHeartbeats 400000 in
theorem count_any (h : Blk w d (dCells q st on fl fw al aw mi ms pv) 58) (hst0 : 0 ≤ st) (hst : st ≤ 1000000000000) :
    Calls Try.prog 63 #[.pointer (some ⟨d, 0, none⟩)] w fun e w' => e = .returned (.tuple #[]) ∧ Only (· = d) w w' ∧ Blk w' d (dCells q (st + 1) on fl (wrap64 (fw - 1)) al (wrap64 (aw - 1)) mi ms pv) 58 := by
  obtain ⟨c0, c1, c2, c3, c4, c5, c6, c7, c8, c9, cf⟩ := dfacts h
  go_enter Try.func63, Try.ntmps63
  go_wp2_with fail
  go_end0
  exact ⟨rfl, (((Only.refl (fun k => k = d) w).setCell (fun _ => rfl) _).setCell (fun _ => rfl) _).setCell (fun _ => rfl) _, ((h.set 1 _).set 4 _).set 6 _⟩
end
end Go.Proofs.Ytfmdnaagdhpcpaa

/-
  A directory in memory: a map of names to files' blocks, by rising names; what a look-up, a store and a delete make of it.
-/
namespace Go.Proofs.Ytfmdnaagdhpcpaa
open Go.RowKit Go.Proofs.Lys Go.Maps
set_option linter.unusedVariables false

/-- How a pointer to a file reads: its block's number. -/
def ptrE : Value → Option (DataW Unit × List MemPlace)
  | .pointer none => some (.lit (.int .i64 (-1)), [])
  | .pointer (some ⟨b, 0, none⟩) => some (.lit (.int .i64 b), [])
  | _ => none

theorem ptrE_some {v : Value} {b : Nat} {ps : List MemPlace} (h : ptrE v = some (.lit (.int .i64 b), ps)) : v = .pointer (some ⟨b, 0, none⟩) := by
  unfold ptrE at h
  split at h
  · simp at h
  · simp at h
    have : _ = b := Int.ofNat.inj h.1
    rw [this]
  · cases h
theorem ptrE_none {v : Value} {ps : List MemPlace} (h : ptrE v = some (.lit (.int .i64 (-1)), ps)) : v = .pointer none := by
  unfold ptrE at h
  split at h
  · rfl
  · simp at h
  · cases h

/-- An entry, as it reads. -/
def entD (blk : List Nat) (p : List UInt8 × Nat) : Lit × DataW Unit := (.string p.1, .lit (.int .i64 ((blk.getD p.2 0 : Nat) : Int)))
def dirD (blk : List Nat) (l : DDir) : DataW Unit := .map (l.map (entD blk))

/-- The pointer that a look-up gives. -/
def ptrOf (blk : List Nat) : Option Nat → Value
  | none => .pointer none
  | some f => .pointer (some ⟨blk.getD f 0, 0, none⟩)

theorem sameKey_string (a b : List UInt8) : (Lit.string a).sameKey (.string b) = (a == b) := by
  first | rfl | simp [Lit.sameKey]

theorem ins_dirD (blk : List Nat) (x : List UInt8 × Nat) : ∀ l : DDir, DataW.insert (entD blk x) (l.map (entD blk)) = (DD.ins x l).map (entD blk)
  | [] => rfl
  | y :: r => by
    show (if (Lit.string x.1).before (.string y.1) then _ else _) = _
    unfold DD.ins
    have e : (Lit.string x.1).before (.string y.1) = bytesBefore x.1 y.1 := rfl
    rw [e]
    split
    · rfl
    · rw [List.map_cons, ins_dirD blk x r]

theorem filter_dirD (blk : List Nat) (n : List UInt8) : ∀ l : DDir, (l.map (entD blk)).filter (ChangeMaps.notKey (.string n)) = (DD.drop l n).map (entD blk)
  | [] => rfl
  | y :: r => by
    have ih := filter_dirD blk n r
    unfold DD.drop at ih ⊢
    have e : ChangeMaps.notKey (.string n) (entD blk y) = !(y.1 == n) := by
      show (!(Lit.string y.1).sameKey (.string n)) = _
      rw [sameKey_string]
    rw [List.map_cons, List.filter_cons, List.filter_cons, e]
    split
    · rw [ih, List.map_cons]
    · exact ih

theorem put_dirD (blk : List Nat) (l : DDir) (n : List UInt8) (f : Nat) : (dirD blk l).put (.string n) (.lit (.int .i64 ((blk.getD f 0 : Nat) : Int))) = dirD blk (DD.put l n f) := by
  unfold dirD
  rw [DataW.put_eq]
  unfold ChangeMaps.putKey
  rw [filter_dirD]
  unfold DD.put
  rw [← ins_dirD]
  rfl

theorem del_dirD (blk : List Nat) (l : DDir) (n : List UInt8) : (dirD blk l).del (.string n) = dirD blk (DD.drop l n) := by
  unfold dirD
  rw [DataW.del_eq]
  unfold ChangeMaps.delKey
  rw [filter_dirD]

theorem find_dirD (blk : List Nat) (n : List UInt8) : ∀ l : DDir, (l.map (entD blk)).find? (fun p => p.1.sameKey (.string n)) = (l.find? fun p => p.1 == n).map (entD blk)
  | [] => rfl
  | y :: r => by
    have e : (entD blk y).1.sameKey (.string n) = (y.1 == n) := sameKey_string _ _
    rw [List.map_cons, List.find?_cons, List.find?_cons, e]
    cases (y.1 == n)
    · exact find_dirD blk n r
    · rfl

theorem at_dirD (blk : List Nat) (l : DDir) (n : List UInt8) : (dirD blk l).atKey (.string n) (.lit (.int .i64 (-1))) = match DD.look l n with | none => .lit (.int .i64 (-1)) | some f => .lit (.int .i64 ((blk.getD f 0 : Nat) : Int)) := by
  simp only [dirD, DataW.atKey, find_dirD, DD.look]
  cases l.find? (fun p => p.1 == n) <;> rfl

theorem has_dirD (blk : List Nat) (l : DDir) (n : List UInt8) : Maps.has (dirD blk l) (.string n) = (DD.look l n).isSome := by
  show (l.map (entD blk)).any (fun p => p.1.sameKey (.string n)) = _
  unfold DD.look
  rw [Option.isSome_map]
  induction l with
  | nil => rfl
  | cons y r ih =>
    have e : (entD blk y).1.sameKey (.string n) = (y.1 == n) := sameKey_string _ _
    rw [List.map_cons, List.any_cons, List.find?_cons, e, ih]
    cases (y.1 == n) <;> rfl

theorem law : Keyed Try.prog 9 := string_keyed Try.underlying9

theorem zeroP (w : World) : (zeroValue 82).run Try.prog w = .ok (.pointer none) w := by kernel_rfl

section
variable {w : World} {b n : Nat} {blk : List Nat} {l : DDir} {s : ByteArray}

theorem key_mk (hs : s.size ≤ maxLen) : keyOf Try.prog 9 (.string s) = some (.string s.data.toList) := WideMaps.keyOf_string_mk Try.underlying9 hs

/-- 'm[k]' in a directory. -/
theorem look_run (h : w.ownsMap Try.prog 9 ptrE b n (dirD blk l)) (hs : s.size ≤ maxLen) :
    (Instr.lookup 55 (.map (some b)) (.string s) false).run Try.prog w = .ok (ptrOf blk (DD.look l s.data.toList)) w := by
  obtain ⟨v, ps, hr, hv⟩ := h.lookup law Try.underlying55 (zeroP w) (zd := .lit (.int .i64 (-1))) (zp := []) rfl (key_mk hs)
  rw [at_dirD] at hv
  rw [hr]
  unfold ptrOf
  cases hl : DD.look l s.data.toList with
  | none => rw [hl] at hv; rw [ptrE_none hv]
  | some f => rw [hl] at hv; rw [ptrE_some hv]

/-- 'v, ok := m[k]' in a directory. -/
theorem look_ok_run (h : w.ownsMap Try.prog 9 ptrE b n (dirD blk l)) (hs : s.size ≤ maxLen) :
    (Instr.lookup 55 (.map (some b)) (.string s) true).run Try.prog w = .ok (.tuple #[ptrOf blk (DD.look l s.data.toList), .bool (DD.look l s.data.toList).isSome]) w := by
  obtain ⟨v, ps, hr, hv⟩ := h.look_ok law Try.underlying55 (zeroP w) (zd := .lit (.int .i64 (-1))) (zp := []) rfl (key_mk hs)
  rw [at_dirD] at hv
  rw [has_dirD] at hr
  rw [hr]
  unfold ptrOf
  cases hl : DD.look l s.data.toList with
  | none => rw [hl] at hv; rw [ptrE_none hv]
  | some f => rw [hl] at hv; rw [ptrE_some hv]

theorem ptrE_mk (g : Nat) : ptrE (.pointer (some ⟨g, 0, none⟩)) = some (.lit (.int .i64 (g : Int)), []) := rfl

/-- How many names: a put lays at most one more, a drop none. -/
theorem len_ins (x : List UInt8 × Nat) : ∀ l : DDir, (DD.ins x l).length = l.length + 1
  | [] => rfl
  | y :: r => by
    unfold DD.ins
    split
    · rfl
    · simp [len_ins x r]
theorem len_drop (l : DDir) (k : List UInt8) : (DD.drop l k).length ≤ l.length := List.length_filter_le _ _
theorem len_put (l : DDir) (k : List UInt8) (f : Nat) : (DD.put l k f).length ≤ l.length + 1 := by
  unfold DD.put
  rw [len_ins]
  have := len_drop l k
  omega
theorem len_act (l : DDir) (a : DAct) : (DD.act l a).length ≤ l.length + 1 := by
  unfold DD.act
  split
  · exact len_put _ _ _
  · split
    · split
      · have h1 := len_put (DD.drop l a.name) a.to ‹_›
        have h2 := len_drop l a.name
        omega
      · omega
    · have := len_drop l a.name
      omega

theorem dir_len (blk : List Nat) (l : DDir) : (l.map (entD blk)).length = l.length := by simp

/-- A store into a directory. -/
theorem put_run (h : w.ownsMap Try.prog 9 ptrE b l.length (dirD blk l)) (hs : s.size ≤ maxLen) (hl : l.length < 1000000) (f : Nat) :
    ∃ w', (Instr.mapUpdate 55 (.map (some b)) (.string s) (.pointer (some ⟨blk.getD f 0, 0, none⟩))).run Try.prog w = .ok () w' ∧
      w'.ownsMap Try.prog 9 ptrE b (DD.put l s.data.toList f).length (dirD blk (DD.put l s.data.toList f)) ∧ Only (· = b) w w' := by
  obtain ⟨w', hr, ho, ht⟩ := h.store law Try.underlying55 (by unfold maxLen; omega) (key_mk hs) (ptrE_mk (blk.getD f 0))
  rw [put_dirD] at ho
  refine ⟨w', hr, ?_, ?_⟩
  · have := map_tight ho
    rwa [dir_len] at this
  · obtain ⟨es, ck, es', ck', hb, rfl⟩ := ht
    exact ⟨rfl, rfl, rfl, by simp [ChangeMaps.setBlock], fun k _ hk => ChangeMaps.heap_setBlock_other hb _ hk⟩

/-- A delete. -/
theorem drop_run (h : w.ownsMap Try.prog 9 ptrE b l.length (dirD blk l)) (hs : s.size ≤ maxLen) (ty : TypeId) :
    ∃ w', (Builtin.delete_ #[55, 9] ty #[.map (some b), .string s]).run Try.prog w = .ok (.tuple #[]) w' ∧
      w'.ownsMap Try.prog 9 ptrE b (DD.drop l s.data.toList).length (dirD blk (DD.drop l s.data.toList)) ∧ Only (· = b) w w' := by
  obtain ⟨w', hr, ho, ht⟩ := h.drop law Try.underlying55 (key_mk hs) ty
  rw [del_dirD] at ho
  refine ⟨w', hr, ?_, ?_⟩
  · have := map_tight ho
    rwa [dir_len] at this
  · obtain ⟨es, ck, es', ck', hb, rfl⟩ := ht
    exact ⟨rfl, rfl, rfl, by simp [ChangeMaps.setBlock], fun k _ hk => ChangeMaps.heap_setBlock_other hb _ hk⟩
end
end Go.Proofs.Ytfmdnaagdhpcpaa

/-
  What it means that a disk lies in memory as the plain one tells, and what of that stays when other memory turns.
-/
namespace Go.Proofs.Ytfmdnaagdhpcpaa
open Go.RowKit Go.Proofs.Lys Go.Maps
set_option linter.unusedVariables false

/-- A byte, as it lies. -/
def byteV (x : UInt8) : Value := .int .u8 x.toNat

/-- Where a disk lies: its block, its two maps, its files' blocks, their slices of bytes, the slice of acts and those acts, the two counts. -/
structure Conc where
  d : Nat
  mi : Nat
  ms : Nat
  blk : List Nat
  bv : List Value
  pv : Value
  pl : List Value
  fw : Int
  aw : Int

def Conc.bs (c : Conc) (i : Nat) : Value := c.bv.getD i (.slice none 0 0)

/-- An act's closure, and what it holds. -/
def ActAt (w : World) (O : Nat → Prop) (blk : List Nat) (v : Value) (a : DAct) : Prop :=
  (a.kind = 0 ∧ ∃ (bn be : Nat) (s : ByteArray), v = .func (.func 53) #[] #[.pointer (some ⟨be, 0, none⟩), .pointer (some ⟨bn, 0, none⟩)] ∧
    Blk w bn [.string s] 9 ∧ s.data.toList = a.name ∧ s.size ≤ maxLen ∧ Blk w be [.pointer (some ⟨blk.getD a.file 0, 0, none⟩)] 82 ∧ O bn ∧ O be) ∨
  (a.kind = 1 ∧ ∃ (b1 b2 : Nat) (s1 s2 : ByteArray), v = .func (.func 57) #[] #[.pointer (some ⟨b1, 0, none⟩), .pointer (some ⟨b2, 0, none⟩)] ∧
    Blk w b1 [.string s1] 9 ∧ s1.data.toList = a.name ∧ s1.size ≤ maxLen ∧ Blk w b2 [.string s2] 9 ∧ s2.data.toList = a.to ∧ s2.size ≤ maxLen ∧ O b1 ∧ O b2) ∨
  (a.kind = 2 ∧ ∃ (b1 : Nat) (s1 : ByteArray), v = .func (.func 58) #[] #[.pointer (some ⟨b1, 0, none⟩)] ∧
    Blk w b1 [.string s1] 9 ∧ s1.data.toList = a.name ∧ s1.size ≤ maxLen ∧ O b1)

structure DRest (w : World) (c : Conc) (O : Nat → Prop) (m : DModel) : Prop where
  isM : w.ownsMap Try.prog 9 ptrE c.mi m.dir.length (dirD c.blk m.dir)
  sureM : w.ownsMap Try.prog 9 ptrE c.ms m.sure.length (dirD c.blk m.sure)
  apart : c.mi ≠ c.ms
  nblk : c.blk.length = m.files.length
  nbv : c.bv.length = m.files.length
  nodup : c.blk.Nodup
  file : ∀ i, i < m.files.length → Blk w (c.blk.getD i 0) [c.bs i, .int .i64 ((m.fileAt i).sure : Int)] 87
  bytes : ∀ i, i < m.files.length → w.ownsRow 0 5 1 (c.bs i) (m.fileAt i).b.length ((m.fileAt i).b.map byteV)
  lens : ∀ i, i < m.files.length → (m.fileAt i).b.length ≤ 16777216 ∧ (m.fileAt i).sure ≤ (m.fileAt i).b.length
  sole : ∀ i j k, i < m.files.length → j < m.files.length → (c.bs i).ownBlock = some k → (c.bs j).ownBlock = some k → i = j
  pend : w.ownsRow 0 95 1 c.pv m.acts.length c.pl
  act : ∀ i a, m.acts[i]? = some a → ActAt w O c.blk (c.pl.getD i .nilFunc) a
  dirF : ∀ p ∈ m.dir, p.2 < m.files.length
  sureF : ∀ p ∈ m.sure, p.2 < m.files.length
  actF : ∀ a ∈ m.acts, a.kind = 0 → a.file < m.files.length
  synced : m.acts.foldl DD.act m.sure = m.dir
  oMi : O c.mi
  oMs : O c.ms
  oBlk : ∀ i, i < m.files.length → O (c.blk.getD i 0)
  oBs : ∀ i k, i < m.files.length → (c.bs i).ownBlock = some k → O k
  oPv : ∀ k, c.pv.ownBlock = some k → O k

def DCells (c : Conc) (m : DModel) : List Value := dCells m.quota m.steps (!m.off) m.fuse.isSome c.fw m.fault.isSome c.aw c.mi c.ms c.pv

structure DiskAt (w : World) (c : Conc) (O : Nat → Prop) (m : DModel) : Prop where
  cells : Blk w c.d (DCells c m) 58
  fuse : ∀ n, m.fuse = some n → c.fw = n ∧ (n : Int) ≤ 9223372036854775807
  fault : ∀ n, m.fault = some n → c.aw = n ∧ (n : Int) ≤ 9223372036854775807
  oD : O c.d
  top : ∀ k, O k → k < w.heap.size
  quota : m.quota ≤ 67108864
  rest : DRest w c O m

/-- New blocks become the disk's own. -/
def Grow (O : Nat → Prop) (w w' : World) (k : Nat) : Prop := O k ∨ (w.heap.size ≤ k ∧ k < w'.heap.size)

theorem row_typed {w : World} {e : TypeId} {v : Value} {n : Nat} {xs : List Value} (h : w.ownsRow 0 e 1 v n xs) {k : Nat} (hk : v.ownBlock = some k) : Typed w k e := by
  obtain ⟨_, ⟨rfl, _⟩ | ⟨g, cap, cur, rfl, _, hg, _⟩⟩ := h
  · cases hk
  · cases hk
    exact ⟨_, _, hg⟩

theorem row_block {w w' : World} {e : TypeId} {v : Value} {n : Nat} {xs : List Value} (h : w.ownsRow 0 e 1 v n xs) (hk : ∀ k, v.ownBlock = some k → w'.heap[k]? = w.heap[k]?) : w'.ownsRow 0 e 1 v n xs := by
  obtain ⟨hl, h1 | ⟨g, cap, cur, rfl, hb, hg, hc⟩⟩ := h
  · exact ⟨hl, .inl h1⟩
  · exact ⟨hl, .inr ⟨g, cap, cur, rfl, hb, (hk g rfl).trans hg, hc⟩⟩

theorem map_block {w w' : World} {k : TypeId} {b n : Nat} {D : DataW Unit} (h : w.ownsMap Try.prog k ptrE b n D) (hb : w'.heap[b]? = w.heap[b]?) : w'.ownsMap Try.prog k ptrE b n D := by
  obtain ⟨es, ck, e, r⟩ := h
  exact ⟨es, ck, hb.trans e, r⟩

theorem ActAt.kept {w w' : World} {O : Nat → Prop} {blk : List Nat} {v : Value} {a : DAct} {d : Nat} (h : ActAt w O blk v a) (hd : Typed w d 58) (hk : ∀ k, O k → k ≠ d → w'.heap[k]? = w.heap[k]?) : ActAt w' O blk v a := by
  rcases h with ⟨h0, bn, be, s, hv, h1, h2, h3, h4, o1, o2⟩ | ⟨h0, b1, b2, s1, s2, hv, h1, h2, h3, h4, h5, h6, o1, o2⟩ | ⟨h0, b1, s1, hv, h1, h2, h3, o1⟩
  · exact .inl ⟨h0, bn, be, s, hv, h1.of_block (hk _ o1 (h1.typed.ne hd (by decide))), h2, h3, h4.of_block (hk _ o2 (h4.typed.ne hd (by decide))), o1, o2⟩
  · exact .inr (.inl ⟨h0, b1, b2, s1, s2, hv, h1.of_block (hk _ o1 (h1.typed.ne hd (by decide))), h2, h3, h4.of_block (hk _ o2 (h4.typed.ne hd (by decide))), h5, h6, o1, o2⟩)
  · exact .inr (.inr ⟨h0, b1, s1, hv, h1.of_block (hk _ o1 (h1.typed.ne hd (by decide))), h2, h3, o1⟩)

theorem ActAt.mono {w : World} {O O' : Nat → Prop} {blk : List Nat} {v : Value} {a : DAct} (h : ActAt w O blk v a) (hO : ∀ k, O k → O' k) : ActAt w O' blk v a := by
  rcases h with ⟨h0, bn, be, s, hv, h1, h2, h3, h4, o1, o2⟩ | ⟨h0, b1, b2, s1, s2, hv, h1, h2, h3, h4, h5, h6, o1, o2⟩ | ⟨h0, b1, s1, hv, h1, h2, h3, o1⟩
  · exact .inl ⟨h0, bn, be, s, hv, h1, h2, h3, h4, hO _ o1, hO _ o2⟩
  · exact .inr (.inl ⟨h0, b1, b2, s1, s2, hv, h1, h2, h3, h4, h5, h6, hO _ o1, hO _ o2⟩)
  · exact .inr (.inr ⟨h0, b1, s1, hv, h1, h2, h3, hO _ o1⟩)

/-- Where the disk's own blocks, but its first one, are as they were. -/
theorem DRest.kept {w w' : World} {c : Conc} {O : Nat → Prop} {m : DModel} (h : DRest w c O m) (hd : Typed w c.d 58) (hk : ∀ k, O k → k ≠ c.d → w'.heap[k]? = w.heap[k]?) : DRest w' c O m :=
  { h with
    isM := map_block h.isM (hk _ h.oMi (fun e => hd.ne_map h.isM e.symm))
    sureM := map_block h.sureM (hk _ h.oMs (fun e => hd.ne_map h.sureM e.symm))
    file := fun i hi => (h.file i hi).of_block (hk _ (h.oBlk i hi) ((h.file i hi).typed.ne hd (by decide)))
    bytes := fun i hi => row_block (h.bytes i hi) (fun k e => hk _ (h.oBs i k hi e) ((row_typed (h.bytes i hi) e).ne hd (by decide)))
    pend := row_block h.pend (fun k e => hk _ (h.oPv k e) ((row_typed h.pend e).ne hd (by decide)))
    act := fun i a e => (h.act i a e).kept hd hk }

theorem DRest.mono {w : World} {c : Conc} {O O' : Nat → Prop} {m : DModel} (h : DRest w c O m) (hO : ∀ k, O k → O' k) : DRest w c O' m :=
  { h with
    act := fun i a e => (h.act i a e).mono hO
    oMi := hO _ h.oMi
    oMs := hO _ h.oMs
    oBlk := fun i hi => hO _ (h.oBlk i hi)
    oBs := fun i k hi e => hO _ (h.oBs i k hi e)
    oPv := fun k e => hO _ (h.oPv k e) }

/-- DRest looks at the files, the two directories and the acts alone. -/
theorem DRest.scal {w : World} {c c' : Conc} {O : Nat → Prop} {m m' : DModel} (h : DRest w c O m) (hf : m'.files = m.files) (hd : m'.dir = m.dir) (hs : m'.sure = m.sure) (ha : m'.acts = m.acts)
    (h1 : c'.mi = c.mi) (h2 : c'.ms = c.ms) (h3 : c'.blk = c.blk) (h4 : c'.bv = c.bv) (h5 : c'.pv = c.pv) (h6 : c'.pl = c.pl) : DRest w c' O m' := by
  obtain ⟨files, dir, sure, acts, q, st, off, fu, fa⟩ := m
  obtain ⟨files', dir', sure', acts', q', st', off', fu', fa'⟩ := m'
  obtain ⟨d, mi, ms, blk, bv, pv, pl, fw, aw⟩ := c
  obtain ⟨d', mi', ms', blk', bv', pv', pl', fw', aw'⟩ := c'
  simp only at hf hd hs ha h1 h2 h3 h4 h5 h6
  subst hf hd hs ha h1 h2 h3 h4 h5 h6
  exact ⟨h.isM, h.sureM, h.apart, h.nblk, h.nbv, h.nodup, h.file, h.bytes, h.lens, h.sole, h.pend, h.act, h.dirF, h.sureF, h.actF, h.synced, h.oMi, h.oMs, h.oBlk, h.oBs, h.oPv⟩

section
variable {w w' : World} {c : Conc} {O O' : Nat → Prop} {m : DModel}

theorem DiskAt.kept (h : DiskAt w c O m) (hk : ∀ k, O k → w'.heap[k]? = w.heap[k]?) (hs : w.heap.size ≤ w'.heap.size) : DiskAt w' c O m :=
  { h with
    cells := h.cells.of_block (hk _ h.oD)
    top := fun k hO => Nat.lt_of_lt_of_le (h.top k hO) hs
    rest := h.rest.kept h.cells.typed (fun k hO _ => hk k hO) }

/-- Another's work leaves a disk as it is. -/
theorem DiskAt.only (h : DiskAt w c O m) (k : Only O' w w') (hn : ∀ j, O j → ¬ O' j) : DiskAt w' c O m :=
  h.kept (fun j hO => k.block j (h.top j hO) (hn j hO)) k.size
theorem DiskAt.stay (h : DiskAt w c O m) (k : Stay w w') : DiskAt w' c O m := h.only k (fun _ _ f => f)
theorem DiskAt.mono (h : DiskAt w c O m) (hO : ∀ k, O k → O' k) (ht : ∀ k, O' k → k < w.heap.size) : DiskAt w c O' m :=
  { h with oD := hO _ h.oD, top := ht, rest := h.rest.mono hO }

/-- Only the disk's first block was written, and its numbers and flags alone. -/
theorem DiskAt.scal {m' : DModel} {fw aw : Int} (h : DiskAt w c O m) (k : Only (· = c.d) w w') (hc : Blk w' c.d (DCells { c with fw := fw, aw := aw } m') 58)
    (hf : m'.files = m.files) (hd : m'.dir = m.dir) (hs : m'.sure = m.sure) (ha : m'.acts = m.acts) (hq : m'.quota = m.quota)
    (h1 : ∀ n, m'.fuse = some n → fw = n ∧ (n : Int) ≤ 9223372036854775807) (h2 : ∀ n, m'.fault = some n → aw = n ∧ (n : Int) ≤ 9223372036854775807) : DiskAt w' { c with fw := fw, aw := aw } O m' :=
  { cells := hc
    fuse := h1
    fault := h2
    oD := h.oD
    top := fun j hO => Nat.lt_of_lt_of_le (h.top j hO) k.size
    quota := by rw [hq]; exact h.quota
    rest := (h.rest.kept h.cells.typed (fun j hO hne => k.block j (h.top j hO) hne)).scal hf hd hs ha rfl rfl rfl rfl rfl rfl }
end

theorem DiskAt.cell {w : World} {c : Conc} {O : Nat → Prop} {m : DModel} (h : DiskAt w c O m) {E : Nat} (hE : ¬ O E) (v : Value) : DiskAt (w.setCell ⟨E, 0, none⟩ v) c O m :=
  h.only (O' := fun k => k = E) ((Only.refl (fun k => k = E) w).setCell (fun _ => rfl) _) (fun j hj e => hE (e ▸ hj))

theorem Grow.left {O : Nat → Prop} {w w' : World} {k : Nat} (h : O k) : Grow O w w' k := .inl h
theorem Grow.trans {O : Nat → Prop} {w w1 w2 w3 w4 : World} (h1 : w.heap.size ≤ w1.heap.size) (h2 : w2.heap.size ≤ w3.heap.size) {k : Nat} (h : Grow O w1 w2 k) (hle : w.heap.size ≤ w.heap.size) : Grow O w w3 k := by
  rcases h with h | ⟨a, b⟩
  · exact .inl h
  · exact .inr ⟨by omega, by omega⟩
end Go.Proofs.Ytfmdnaagdhpcpaa

/-
  The acts: each closure, called at a directory, does to it what the act says.
-/
namespace Go.Proofs.Ytfmdnaagdhpcpaa
open Go.RowKit Go.Proofs.Lys Go.Maps
set_option linter.unusedVariables false

section
variable {P : Program} (w : World) {ops : Array Oper} {rest : List Oper} {o : Oper} {a : Act} {Q : Exit → Act → World → Prop}

theorem wpList_mapUpdate_run (hg : o.guard = none) (m x v : Operand) (t : TypeId) (hop : o.op = Op.mapUpdate t m x v) {mv xv vv : Value} {w' : World} (hrun : Hid ((Instr.mapUpdate t mv xv vv).run P w = .ok () w'))
    (hm : a.eval m = mv) (hx : a.eval x = xv) (hv : a.eval v = vv) (hK : wpList P ops Q rest (a.put o.dst undef) w') : wpList P ops Q (o :: rest) a w := by
  refine wpList_plain hg fun K' hK' => ?_
  unfold Oper.wp
  simp [execOp, hop, hm, hx, hv, hrun.out, Result.andThen]
  exact hK' _ _ hK

theorem wpList_delete_run (hg : o.guard = none) (m x : Operand) (t k : TypeId) (hop : o.op = Op.call { callee := Callee.builtin Builtin.delete, args := #[m, x], argTypes := #[t, k] }) {mv xv : Value} {w' : World}
    (hrun : Hid ((Builtin.delete_ #[t, k] 0 #[mv, xv]).run P w = .ok (.tuple #[]) w')) (hm : a.eval m = mv) (hx : a.eval x = xv) (hK : wpList P ops Q rest (a.put o.dst (.tuple #[])) w') : wpList P ops Q (o :: rest) a w := by
  refine wpList_plain hg fun K' hK' => ?_
  have hr : (Builtin.delete_ #[t, k] o.type #[mv, xv]).run P w = .ok (.tuple #[]) w' := hrun.out
  unfold Oper.wp
  simp [execOp, hop, resolve, invoke, builtin, hm, hx, hr, Result.andThen]
  exact hK' _ _ hK
end

section
variable {w : World} {b : Nat} {blk : List Nat} {l : DDir} {s s2 : ByteArray}

theorem Hid.mk {p : Prop} (h : p) : Hid p := h

theorem ba_eta (s : ByteArray) (n : List UInt8) (h : s.data.toList = n) : s = ⟨n.toArray⟩ := by
  subst h
  rfl

set_option maxHeartbeats 400000 in
theorem create_act (bn be f : Nat) (h : w.ownsMap Try.prog 9 ptrE b l.length (dirD blk l)) (hl : l.length < 1000000) (hs : s.size ≤ maxLen)
    (h1 : Blk w bn [.string s] 9) (h2 : Blk w be [.pointer (some ⟨blk.getD f 0, 0, none⟩)] 82) :
    Calls Try.prog 53 #[.map (some b), .pointer (some ⟨be, 0, none⟩), .pointer (some ⟨bn, 0, none⟩)] w fun e w' => e = .returned (.tuple #[]) ∧
      w'.ownsMap Try.prog 9 ptrE b (DD.put l s.data.toList f).length (dirD blk (DD.put l s.data.toList f)) ∧ Only (· = b) w w' := by
  obtain ⟨w1, hr, ho, hk⟩ := put_run h hs hl f
  have Hr := Hid.mk hr
  clear hr
  have c1 := h1.cell 0 rfl
  have c2 := h2.cell 0 rfl
  go_enter Try.func53, Try.ntmps53
  go_wp2_with (at_mapUpdate; refine wpList_mapUpdate_run _ rfl _ _ _ _ rfl Hr rfl rfl rfl ?_)
  go_end0
  exact ⟨rfl, ho, hk⟩

set_option maxHeartbeats 400000 in
theorem remove_act (bn : Nat) (h : w.ownsMap Try.prog 9 ptrE b l.length (dirD blk l)) (hs : s.size ≤ maxLen) (h1 : Blk w bn [.string s] 9) :
    Calls Try.prog 58 #[.map (some b), .pointer (some ⟨bn, 0, none⟩)] w fun e w' => e = .returned (.tuple #[]) ∧
      w'.ownsMap Try.prog 9 ptrE b (DD.drop l s.data.toList).length (dirD blk (DD.drop l s.data.toList)) ∧ Only (· = b) w w' := by
  obtain ⟨w1, hr, ho, hk⟩ := drop_run h hs 0
  have Hr := Hid.mk hr
  clear hr
  have c1 := h1.cell 0 rfl
  go_enter Try.func58, Try.ntmps58
  go_wp2_with (at_delete; refine wpList_delete_run _ rfl _ _ _ _ rfl Hr rfl rfl ?_)
  go_end0
  exact ⟨rfl, ho, hk⟩

set_option maxHeartbeats 400000 in
theorem rename_act_some (b1 b2 f : Nat) (h : w.ownsMap Try.prog 9 ptrE b l.length (dirD blk l)) (hl : l.length < 1000000) (hs : s.size ≤ maxLen) (hs2 : s2.size ≤ maxLen)
    (h1 : Blk w b1 [.string s] 9) (h2 : Blk w b2 [.string s2] 9) (hf : DD.look l s.data.toList = some f) :
    Calls Try.prog 57 #[.map (some b), .pointer (some ⟨b1, 0, none⟩), .pointer (some ⟨b2, 0, none⟩)] w fun e w' => e = .returned (.tuple #[]) ∧
      w'.ownsMap Try.prog 9 ptrE b (DD.put (DD.drop l s.data.toList) s2.data.toList f).length (dirD blk (DD.put (DD.drop l s.data.toList) s2.data.toList f)) ∧ Only (· = b) w w' := by
  have hr0 := look_ok_run h hs
  rw [hf] at hr0
  simp only [ptrOf, Option.isSome_some] at hr0
  obtain ⟨w1, hr1, ho1, hk1⟩ := drop_run h hs 0
  have h1' := hk1.blk h1 (fun e => h1.typed.ne_map h e)
  have h2' := hk1.blk h2 (fun e => h2.typed.ne_map h e)
  obtain ⟨w2, hr2, ho2, hk2⟩ := put_run ho1 hs2 (Nat.lt_of_le_of_lt (len_drop _ _) hl) f
  have Hr1 := Hid.mk hr1
  have Hr2 := Hid.mk hr2
  clear hr1 hr2
  have c1 := h1.cell 0 rfl
  have c2 := h2.cell 0 rfl
  have c1' := h1'.cell 0 rfl
  have c2' := h2'.cell 0 rfl
  go_enter Try.func57, Try.ntmps57
  go_wp2_with (first
    | (at_delete; refine wpList_delete_run _ rfl _ _ _ _ rfl Hr1 rfl rfl ?_)
    | (at_mapUpdate; refine wpList_mapUpdate_run _ rfl _ _ _ _ rfl Hr2 rfl rfl rfl ?_))
  go_end0
  exact ⟨rfl, ho2, hk1.trans hk2 (fun _ _ e => e)⟩

set_option maxHeartbeats 400000 in
theorem rename_act_none (b1 b2 : Nat) (h : w.ownsMap Try.prog 9 ptrE b l.length (dirD blk l)) (hs : s.size ≤ maxLen)
    (h1 : Blk w b1 [.string s] 9) (hf : DD.look l s.data.toList = none) :
    Calls Try.prog 57 #[.map (some b), .pointer (some ⟨b1, 0, none⟩), .pointer (some ⟨b2, 0, none⟩)] w fun e w' => e = .returned (.tuple #[]) ∧ w' = w := by
  have hr0 := look_ok_run h hs
  rw [hf] at hr0
  simp only [ptrOf, Option.isSome_none] at hr0
  have c1 := h1.cell 0 rfl
  go_enter Try.func57, Try.ntmps57
  go_wp2
  go_end0
  exact ⟨rfl, rfl⟩
end
end Go.Proofs.Ytfmdnaagdhpcpaa

/-
  Looking at a disk: find, Steps, On, Room; laying a fuse or a fault.
-/
namespace Go.Proofs.Ytfmdnaagdhpcpaa
open Go.RowKit Go.Proofs.Lys Go.Maps
set_option linter.unusedVariables false

section
variable {w : World} {c : Conc} {O : Nat → Prop} {m : DModel} {s : ByteArray}

theorem ret_val {a b : Value} (h : a = b) : Ending.returned a = .returned b := by rw [h]

set_option maxHeartbeats 400000 in
theorem find_some (h : DiskAt w c O m) (hs : s.size ≤ maxLen) {f : Nat} (hf : DD.look m.dir s.data.toList = some f) :
    Calls Try.prog 54 #[.pointer (some ⟨c.d, 0, none⟩), .string s] w fun e w' => e = .returned (.pointer (some ⟨c.blk.getD f 0, 0, none⟩)) ∧ w' = w := by
  have hr := look_run h.rest.isM hs
  rw [hf] at hr
  simp only [ptrOf] at hr
  obtain ⟨c0, c1, c2, c3, c4, c5, c6, c7, c8, c9, cf⟩ := dfacts h.cells
  go_enter Try.func54, Try.ntmps54
  go_wp2_with fail
  refine (refuse_no _ _).mono ?_
  rintro e w1 ⟨rfl, rfl⟩
  go_wp2_with fail
  go_ret
  exact ⟨rfl, rfl⟩

set_option maxHeartbeats 400000 in
theorem find_none (h : DiskAt w c O m) (hs : s.size ≤ maxLen) (hf : DD.look m.dir s.data.toList = none) :
    Calls Try.prog 54 #[.pointer (some ⟨c.d, 0, none⟩), .string s] w fun e w' => e = gaveUp 6 ∧ w' = w := by
  have hr := look_run h.rest.isM hs
  rw [hf] at hr
  simp only [ptrOf] at hr
  obtain ⟨c0, c1, c2, c3, c4, c5, c6, c7, c8, c9, cf⟩ := dfacts h.cells
  go_enter Try.func54, Try.ntmps54
  go_wp2_with fail
  refine (refuse_yes _ _).mono ?_
  rintro e w1 ⟨rfl, rfl⟩
  exact ⟨rfl, rfl, rfl⟩

theorem steps_any (h : DiskAt w c O m) : Calls Try.prog 26 #[.pointer (some ⟨c.d, 0, none⟩)] w fun e w' => e = .returned (.int .i64 (m.steps : Int)) ∧ w' = w := by
  obtain ⟨c0, c1, c2, c3, c4, c5, c6, c7, c8, c9, cf⟩ := dfacts h.cells
  go_enter Try.func26, Try.ntmps26
  go_wp2
  go_ret
  exact ⟨rfl, rfl⟩

theorem on_any (h : DiskAt w c O m) : Calls Try.prog 45 #[.pointer (some ⟨c.d, 0, none⟩)] w fun e w' => e = .returned (.bool (!m.off)) ∧ w' = w := by
  obtain ⟨c0, c1, c2, c3, c4, c5, c6, c7, c8, c9, cf⟩ := dfacts h.cells
  go_enter Try.func45, Try.ntmps45
  go_wp2
  go_ret
  exact ⟨rfl, rfl⟩

theorem lay_isSome (n : Int) : decide (0 ≤ n) = (DModel.lay n).isSome := by
  unfold DModel.lay
  by_cases h : n < 0
  · rw [if_pos h]
    simp
    omega
  · rw [if_neg h]
    simp
    omega
theorem lay_eq {n : Int} {k : Nat} (h : DModel.lay n = some k) : n = k := by
  unfold DModel.lay at h
  split at h
  · cases h
  · cases h
    omega

set_option maxHeartbeats 400000 in
theorem fuse_any (h : DiskAt w c O m) (n : Int) (hn : n ≤ 9223372036854775807) :
    Calls Try.prog 13 #[.pointer (some ⟨c.d, 0, none⟩), .int .i64 n] w fun e w' => e = .returned (.tuple #[]) ∧ Only O w w' ∧ DiskAt w' { c with fw := n } O { m with fuse := DModel.lay n } := by
  obtain ⟨c0, c1, c2, c3, c4, c5, c6, c7, c8, c9, cf⟩ := dfacts h.cells
  go_enter Try.func13, Try.ntmps13
  go_wp2_with fail
  refine (lay_any _ _).mono ?_
  rintro e w1 ⟨rfl, hs⟩
  clear c0 c1 c2 c3 c4 c5 c6 c7 c8 c9 cf
  have h1 := h.stay hs
  obtain ⟨c0, c1, c2, c3, c4, c5, c6, c7, c8, c9, cf⟩ := dfacts h1.cells
  go_wp2_with fail
  go_end0
  have hk : Only (fun k => k = c.d) w1 ((w1.setCell ⟨c.d, 3, none⟩ (.bool (decide (0 ≤ n)))).setCell ⟨c.d, 4, none⟩ (.int .i64 n)) := ((Only.refl (fun k => k = c.d) w1).setCell (fun _ => rfl) _).setCell (fun _ => rfl) _
  have hc := (h1.cells.set 3 (.bool (decide (0 ≤ n)))).set 4 (.int .i64 n)
  rw [lay_isSome] at hk hc ⊢
  refine ⟨rfl, (hs.mono (fun _ _ f => f.elim)).trans (hk.mono (fun k _ e => e ▸ h.oD)) (fun _ _ e => e), h1.scal (fw := n) (aw := c.aw) hk hc rfl rfl rfl rfl rfl (fun k e => ⟨lay_eq e, lay_eq e ▸ hn⟩) h1.fault⟩

set_option maxHeartbeats 400000 in
theorem fault_any (h : DiskAt w c O m) (n : Int) (hn : n ≤ 9223372036854775807) :
    Calls Try.prog 15 #[.pointer (some ⟨c.d, 0, none⟩), .int .i64 n] w fun e w' => e = .returned (.tuple #[]) ∧ Only O w w' ∧ DiskAt w' { c with aw := n } O { m with fault := DModel.lay n } := by
  obtain ⟨c0, c1, c2, c3, c4, c5, c6, c7, c8, c9, cf⟩ := dfacts h.cells
  go_enter Try.func15, Try.ntmps15
  go_wp2_with fail
  refine (lay_any _ _).mono ?_
  rintro e w1 ⟨rfl, hs⟩
  clear c0 c1 c2 c3 c4 c5 c6 c7 c8 c9 cf
  have h1 := h.stay hs
  obtain ⟨c0, c1, c2, c3, c4, c5, c6, c7, c8, c9, cf⟩ := dfacts h1.cells
  go_wp2_with fail
  go_end0
  have hk : Only (fun k => k = c.d) w1 ((w1.setCell ⟨c.d, 5, none⟩ (.bool (decide (0 ≤ n)))).setCell ⟨c.d, 6, none⟩ (.int .i64 n)) := ((Only.refl (fun k => k = c.d) w1).setCell (fun _ => rfl) _).setCell (fun _ => rfl) _
  have hc := (h1.cells.set 5 (.bool (decide (0 ≤ n)))).set 6 (.int .i64 n)
  rw [lay_isSome] at hk hc ⊢
  refine ⟨rfl, (hs.mono (fun _ _ f => f.elim)).trans (hk.mono (fun k _ e => e ▸ h.oD)) (fun _ _ e => e), h1.scal (fw := c.fw) (aw := n) hk hc rfl rfl rfl rfl rfl h1.fuse (fun k e => ⟨lay_eq e, lay_eq e ▸ hn⟩)⟩
end
end Go.Proofs.Ytfmdnaagdhpcpaa
