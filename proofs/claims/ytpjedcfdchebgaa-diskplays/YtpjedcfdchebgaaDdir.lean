/-
  A directory in memory: a map of names to files' blocks, by rising names; what a look-up, a store and a delete make of it.
-/
import Derived.Test.YtpjedcfdchebgaaDsmall
namespace Go.Proofs.Ytpjedcfdchebgaa
open Go.RowKit Go.Proofs.Lys Go.Maps
set_option linter.unusedVariables false

/-- How a pointer to a file reads: its block's number. -/
def ptrE : Value → Option (DataW Unit × List MemPlace)
  | .pointer none => some (.lit (.int .i64 (-1)), [])
  | .pointer (some ⟨b, 0, none⟩) => some (.lit (.int .i64 b), [])
  | _ => none

theorem ptrE_some {v : Value} {b : Nat} {ps : List MemPlace} (h : ptrE v = some (.lit (.int .i64 b), ps)) : v = .pointer (some ⟨b, 0, none⟩) := by
  unfold ptrE at h
  split at h
  · simp at h
  · simp at h
    have : _ = b := Int.ofNat.inj h.1
    rw [this]
  · cases h
theorem ptrE_none {v : Value} {ps : List MemPlace} (h : ptrE v = some (.lit (.int .i64 (-1)), ps)) : v = .pointer none := by
  unfold ptrE at h
  split at h
  · rfl
  · simp at h
  · cases h

/-- An entry, as it reads. -/
def entD (blk : List Nat) (p : List UInt8 × Nat) : Lit × DataW Unit := (.string p.1, .lit (.int .i64 ((blk.getD p.2 0 : Nat) : Int)))
def dirD (blk : List Nat) (l : DDir) : DataW Unit := .map (l.map (entD blk))

/-- The pointer that a look-up gives. -/
def ptrOf (blk : List Nat) : Option Nat → Value
  | none => .pointer none
  | some f => .pointer (some ⟨blk.getD f 0, 0, none⟩)

theorem sameKey_string (a b : List UInt8) : (Lit.string a).sameKey (.string b) = (a == b) := by
  first | rfl | simp [Lit.sameKey]

theorem ins_dirD (blk : List Nat) (x : List UInt8 × Nat) : ∀ l : DDir, DataW.insert (entD blk x) (l.map (entD blk)) = (DD.ins x l).map (entD blk)
  | [] => rfl
  | y :: r => by
    show (if (Lit.string x.1).before (.string y.1) then _ else _) = _
    unfold DD.ins
    have e : (Lit.string x.1).before (.string y.1) = bytesBefore x.1 y.1 := rfl
    rw [e]
    split
    · rfl
    · rw [List.map_cons, ins_dirD blk x r]

theorem filter_dirD (blk : List Nat) (n : List UInt8) : ∀ l : DDir, (l.map (entD blk)).filter (ChangeMaps.notKey (.string n)) = (DD.drop l n).map (entD blk)
  | [] => rfl
  | y :: r => by
    have ih := filter_dirD blk n r
    unfold DD.drop at ih ⊢
    have e : ChangeMaps.notKey (.string n) (entD blk y) = !(y.1 == n) := by
      show (!(Lit.string y.1).sameKey (.string n)) = _
      rw [sameKey_string]
    rw [List.map_cons, List.filter_cons, List.filter_cons, e]
    split
    · rw [ih, List.map_cons]
    · exact ih

theorem put_dirD (blk : List Nat) (l : DDir) (n : List UInt8) (f : Nat) : (dirD blk l).put (.string n) (.lit (.int .i64 ((blk.getD f 0 : Nat) : Int))) = dirD blk (DD.put l n f) := by
  unfold dirD
  rw [DataW.put_eq]
  unfold ChangeMaps.putKey
  rw [filter_dirD]
  unfold DD.put
  rw [← ins_dirD]
  rfl

theorem del_dirD (blk : List Nat) (l : DDir) (n : List UInt8) : (dirD blk l).del (.string n) = dirD blk (DD.drop l n) := by
  unfold dirD
  rw [DataW.del_eq]
  unfold ChangeMaps.delKey
  rw [filter_dirD]

theorem find_dirD (blk : List Nat) (n : List UInt8) : ∀ l : DDir, (l.map (entD blk)).find? (fun p => p.1.sameKey (.string n)) = (l.find? fun p => p.1 == n).map (entD blk)
  | [] => rfl
  | y :: r => by
    have e : (entD blk y).1.sameKey (.string n) = (y.1 == n) := sameKey_string _ _
    rw [List.map_cons, List.find?_cons, List.find?_cons, e]
    cases (y.1 == n)
    · exact find_dirD blk n r
    · rfl

theorem at_dirD (blk : List Nat) (l : DDir) (n : List UInt8) : (dirD blk l).atKey (.string n) (.lit (.int .i64 (-1))) = match DD.look l n with | none => .lit (.int .i64 (-1)) | some f => .lit (.int .i64 ((blk.getD f 0 : Nat) : Int)) := by
  simp only [dirD, DataW.atKey, find_dirD, DD.look]
  cases l.find? (fun p => p.1 == n) <;> rfl

theorem has_dirD (blk : List Nat) (l : DDir) (n : List UInt8) : Maps.has (dirD blk l) (.string n) = (DD.look l n).isSome := by
  show (l.map (entD blk)).any (fun p => p.1.sameKey (.string n)) = _
  unfold DD.look
  rw [Option.isSome_map]
  induction l with
  | nil => rfl
  | cons y r ih =>
    have e : (entD blk y).1.sameKey (.string n) = (y.1 == n) := sameKey_string _ _
    rw [List.map_cons, List.any_cons, List.find?_cons, e, ih]
    cases (y.1 == n) <;> rfl

theorem law : Keyed Try.prog 9 := string_keyed Try.underlying9

theorem zeroP (w : World) : (zeroValue 89).run Try.prog w = .ok (.pointer none) w := by kernel_rfl

section
variable {w : World} {b n : Nat} {blk : List Nat} {l : DDir} {s : ByteArray}

theorem key_mk (hs : s.size ≤ maxLen) : keyOf Try.prog 9 (.string s) = some (.string s.data.toList) := WideMaps.keyOf_string_mk Try.underlying9 hs

/-- 'm[k]' in a directory. -/
theorem look_run (h : w.ownsMap Try.prog 9 ptrE b n (dirD blk l)) (hs : s.size ≤ maxLen) :
    (Instr.lookup 62 (.map (some b)) (.string s) false).run Try.prog w = .ok (ptrOf blk (DD.look l s.data.toList)) w := by
  obtain ⟨v, ps, hr, hv⟩ := h.lookup law Try.underlying62 (zeroP w) (zd := .lit (.int .i64 (-1))) (zp := []) rfl (key_mk hs)
  rw [at_dirD] at hv
  rw [hr]
  unfold ptrOf
  cases hl : DD.look l s.data.toList with
  | none => rw [hl] at hv; rw [ptrE_none hv]
  | some f => rw [hl] at hv; rw [ptrE_some hv]

/-- 'v, ok := m[k]' in a directory. -/
theorem look_ok_run (h : w.ownsMap Try.prog 9 ptrE b n (dirD blk l)) (hs : s.size ≤ maxLen) :
    (Instr.lookup 62 (.map (some b)) (.string s) true).run Try.prog w = .ok (.tuple #[ptrOf blk (DD.look l s.data.toList), .bool (DD.look l s.data.toList).isSome]) w := by
  obtain ⟨v, ps, hr, hv⟩ := h.look_ok law Try.underlying62 (zeroP w) (zd := .lit (.int .i64 (-1))) (zp := []) rfl (key_mk hs)
  rw [at_dirD] at hv
  rw [has_dirD] at hr
  rw [hr]
  unfold ptrOf
  cases hl : DD.look l s.data.toList with
  | none => rw [hl] at hv; rw [ptrE_none hv]
  | some f => rw [hl] at hv; rw [ptrE_some hv]

theorem ptrE_mk (g : Nat) : ptrE (.pointer (some ⟨g, 0, none⟩)) = some (.lit (.int .i64 (g : Int)), []) := rfl

/-- How many names: a put lays at most one more, a drop none. -/
theorem len_ins (x : List UInt8 × Nat) : ∀ l : DDir, (DD.ins x l).length = l.length + 1
  | [] => rfl
  | y :: r => by
    unfold DD.ins
    split
    · rfl
    · simp [len_ins x r]
theorem len_drop (l : DDir) (k : List UInt8) : (DD.drop l k).length ≤ l.length := List.length_filter_le _ _
theorem len_put (l : DDir) (k : List UInt8) (f : Nat) : (DD.put l k f).length ≤ l.length + 1 := by
  unfold DD.put
  rw [len_ins]
  have := len_drop l k
  omega
theorem len_act (l : DDir) (a : DAct) : (DD.act l a).length ≤ l.length + 1 := by
  unfold DD.act
  split
  · exact len_put _ _ _
  · split
    · split
      · have h1 := len_put (DD.drop l a.name) a.to ‹_›
        have h2 := len_drop l a.name
        omega
      · omega
    · have := len_drop l a.name
      omega

theorem dir_len (blk : List Nat) (l : DDir) : (l.map (entD blk)).length = l.length := by simp

/-- A store into a directory. -/
theorem put_run (h : w.ownsMap Try.prog 9 ptrE b l.length (dirD blk l)) (hs : s.size ≤ maxLen) (hl : l.length < 1000000) (f : Nat) :
    ∃ w', (Instr.mapUpdate 62 (.map (some b)) (.string s) (.pointer (some ⟨blk.getD f 0, 0, none⟩))).run Try.prog w = .ok () w' ∧
      w'.ownsMap Try.prog 9 ptrE b (DD.put l s.data.toList f).length (dirD blk (DD.put l s.data.toList f)) ∧ Only (· = b) w w' := by
  obtain ⟨w', hr, ho, ht⟩ := h.store law Try.underlying62 (by unfold maxLen; omega) (key_mk hs) (ptrE_mk (blk.getD f 0))
  rw [put_dirD] at ho
  refine ⟨w', hr, ?_, ?_⟩
  · have := map_tight ho
    rwa [dir_len] at this
  · obtain ⟨es, ck, es', ck', hb, rfl⟩ := ht
    exact ⟨rfl, rfl, rfl, by simp [ChangeMaps.setBlock], fun k _ hk => ChangeMaps.heap_setBlock_other hb _ hk⟩

/-- A delete. -/
theorem drop_run (h : w.ownsMap Try.prog 9 ptrE b l.length (dirD blk l)) (hs : s.size ≤ maxLen) (ty : TypeId) :
    ∃ w', (Builtin.delete_ #[62, 9] ty #[.map (some b), .string s]).run Try.prog w = .ok (.tuple #[]) w' ∧
      w'.ownsMap Try.prog 9 ptrE b (DD.drop l s.data.toList).length (dirD blk (DD.drop l s.data.toList)) ∧ Only (· = b) w w' := by
  obtain ⟨w', hr, ho, ht⟩ := h.drop law Try.underlying62 (key_mk hs) ty
  rw [del_dirD] at ho
  refine ⟨w', hr, ?_, ?_⟩
  · have := map_tight ho
    rwa [dir_len] at this
  · obtain ⟨es, ck, es', ck', hb, rfl⟩ := ht
    exact ⟨rfl, rfl, rfl, by simp [ChangeMaps.setBlock], fun k _ hk => ChangeMaps.heap_setBlock_other hb _ hk⟩
end
end Go.Proofs.Ytpjedcfdchebgaa
