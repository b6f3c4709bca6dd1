/-
  The document's disk as plain data: files, two directories by rising names, acts that are pending, fuse and fault; what each call makes of it. No program is named here.
-/
import Derived.Maps.RangeWalk
namespace Go.Proofs.Lys
open Go

/-- A file: its bytes, how many are sure. -/
structure DFile where
  b : List UInt8
  sure : Nat

/-- An act: 0 a name was given, 1 taken and given, 2 taken away. -/
structure DAct where
  kind : Nat
  name : List UInt8
  to : List UInt8
  file : Nat

/-- A directory: names by rising bytes, each of a file's number. -/
abbrev DDir := List (List UInt8 × Nat)

structure DModel where
  files : List DFile
  dir : DDir
  sure : DDir
  acts : List DAct
  quota : Nat
  steps : Nat
  off : Bool
  fuse : Option Nat
  fault : Option Nat

structure DOp where
  kind : Int
  name : List UInt8
  to : List UInt8
  bytes : List UInt8

namespace DD

def look (l : DDir) (n : List UInt8) : Option Nat := (l.find? fun p => p.1 == n).map (·.2)

def drop (l : DDir) (n : List UInt8) : DDir := l.filter fun p => !(p.1 == n)

def ins (x : List UInt8 × Nat) : DDir → DDir
  | [] => [x]
  | y :: r => if bytesBefore x.1 y.1 then x :: y :: r else y :: ins x r

def put (l : DDir) (n : List UInt8) (f : Nat) : DDir := ins (n, f) (drop l n)

/-- An act, done to a directory. -/
def act (l : DDir) (a : DAct) : DDir :=
  if a.kind = 0 then put l a.name a.file
  else if a.kind = 1 then
    match look l a.name with
    | some f => put (drop l a.name) a.to f
    | none => l
  else drop l a.name

end DD

def namedB (n : List UInt8) : Bool := decide (1 ≤ n.length) && decide (n.length ≤ 60)

namespace DModel

def fileAt (m : DModel) (i : Nat) : DFile := m.files.getD i ⟨[], 0⟩

def used (m : DModel) : Nat := (m.dir.map fun p => (m.fileAt p.2).b.length).sum

/-- A step's own errors; 0: none. -/
def own (m : DModel) (o : DOp) : Nat :=
  if o.kind = 0 then
    if namedB o.name = false then 1 else if (DD.look m.dir o.name).isSome then 7 else 0
  else if o.kind = 1 then
    match DD.look m.dir o.name with
    | none => 6
    | some f => if 16777216 < (m.fileAt f).b.length + o.bytes.length then 2 else if m.quota < m.used + o.bytes.length then 11 else 0
  else if o.kind = 2 then
    if (DD.look m.dir o.name).isSome then 0 else 6
  else if o.kind = 3 then
    if (DD.look m.dir o.name).isSome then (if namedB o.to = false then 1 else 0) else 6
  else if o.kind = 4 then
    if (DD.look m.dir o.name).isSome then 0 else 6
  else 0

/-- What a step does, once nothing is in its way. -/
def done (m : DModel) (o : DOp) : DModel :=
  if o.kind = 0 then
    { m with files := m.files ++ [⟨[], 0⟩], dir := DD.put m.dir o.name m.files.length, acts := m.acts ++ [⟨0, o.name, [], m.files.length⟩] }
  else if o.kind = 1 then
    let f := (DD.look m.dir o.name).getD 0
    { m with files := m.files.set f ⟨(m.fileAt f).b ++ o.bytes, (m.fileAt f).sure⟩ }
  else if o.kind = 2 then
    let f := (DD.look m.dir o.name).getD 0
    { m with files := m.files.set f ⟨(m.fileAt f).b, (m.fileAt f).b.length⟩ }
  else if o.kind = 3 then
    let a : DAct := ⟨1, o.name, o.to, 0⟩
    { m with dir := DD.act m.dir a, acts := m.acts ++ [a] }
  else if o.kind = 4 then
    let a : DAct := ⟨2, o.name, [], 0⟩
    { m with dir := DD.act m.dir a, acts := m.acts ++ [a] }
  else { m with sure := m.dir, acts := [] }

def count (m : DModel) : DModel := { m with steps := m.steps + 1, fuse := m.fuse.map (· - 1), fault := m.fault.map (· - 1) }

def doOp (m : DModel) (o : DOp) : Nat × DModel :=
  if o.kind < 0 ∨ 5 < o.kind then (1, m)
  else if m.off = true then (12, m)
  else if m.fuse = some 0 then (12, { m with off := true })
  else if m.own o ≠ 0 then (m.own o, m)
  else if m.fault = some 0 then (10, { m with fault := none })
  else (0, (m.done o).count)

def lay (n : Int) : Option Nat := if n < 0 then none else some n.toNat

/-- The next number of those that tell what stays. -/
def next (l : List Int) : Int × List Int := (l.headD 0, l.tail)

def oddB (n : Int) : Bool := decide (n % 2 ≠ 0)

/-- The acts that are kept, done to the sure directory. -/
def keepActs : List DAct → List Int → DDir → DDir × List Int
  | [], l, d => (d, l)
  | a :: r, l, d => keepActs r l.tail (if oddB (l.headD 0) then DD.act d a else d)

/-- How many bytes of a tail stay. -/
def stays (k : Int) (tail : Nat) : Nat := if k < 0 then 0 else min k.toNat tail

def spoil (b : List UInt8) (sure : Nat) : List UInt8 :=
  b.mapIdx fun i x => if sure ≤ i ∧ (b.length - 1) / 512 * 512 ≤ i then x ^^^ 165 else x

/-- A file behind a crash, and the numbers that are left. -/
def settleF (f : DFile) (l : List Int) : DFile × List Int :=
  if f.b.length = f.sure then (f, l)
  else
    let b := f.b.take (f.sure + stays (l.headD 0) (f.b.length - f.sure))
    let b2 := if oddB (l.tail.headD 0) then spoil b f.sure else b
    (⟨b2, b2.length⟩, l.tail.tail)

def settleAll : List Nat → List DFile → List Int → List DFile
  | [], fs, _ => fs
  | i :: r, fs, l =>
    let s := settleF (fs.getD i ⟨[], 0⟩) l
    settleAll r (fs.set i s.1) s.2

def crash (m : DModel) (keep : List Int) : DModel :=
  let k := keepActs m.acts keep m.sure
  { m with off := false, fuse := none, fault := none, dir := k.1, sure := k.1, acts := [], files := settleAll (k.1.map (·.2)) m.files k.2 }

def start (q : Int) : DModel := ⟨[], [], [], [], (min (max q 0) 67108864).toNat, 0, false, none, none⟩

def list (m : DModel) : List (List UInt8) := if m.off then [] else m.dir.map (·.1)

end DModel
end Go.Proofs.Lys
