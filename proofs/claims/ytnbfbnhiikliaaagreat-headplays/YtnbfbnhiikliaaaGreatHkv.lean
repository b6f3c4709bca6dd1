/-
  Maps by texts, to numbers or to blocks: what a look-up and a store make of them.
-/
import Derived.Test.YtnbfbnhiikliaaaGreatHsmp
import Derived.Maps.RangeWalk
import Derived.Maps.Ext
import Derived.Maps.OwnSet
namespace Go.Proofs.YtnbfbnhiikliaaaGreat.Hd
open Go.RowKit Go.Proofs.Lys Go.Maps Go.Proofs.YtnbfbnhiikliaaaGreat.N
set_option linter.unusedVariables false

/-- How a pointer to a series reads: its block's number. -/
def ptrE : Value → Option (DataW Unit × List MemPlace)
  | .pointer none => some (.lit (.int .i64 (-1)), [])
  | .pointer (some ⟨b, 0, none⟩) => some (.lit (.int .i64 b), [])
  | _ => none
theorem ptrE_some {v : Value} {b : Nat} {ps : List MemPlace} (h : ptrE v = some (.lit (.int .i64 b), ps)) : v = .pointer (some ⟨b, 0, none⟩) := by
  unfold ptrE at h
  split at h
  · simp at h
  · simp at h
    have : _ = b := Int.ofNat.inj h.1
    rw [this]
  · cases h
theorem ptrE_none {v : Value} {ps : List MemPlace} (h : ptrE v = some (.lit (.int .i64 (-1)), ps)) : v = .pointer none := by
  unfold ptrE at h
  split at h
  · rfl
  · simp at h
  · cases h
theorem ptrE_mk (g : Nat) : ptrE (.pointer (some ⟨g, 0, none⟩)) = some (.lit (.int .i64 (g : Int)), []) := rfl
def ptrV : Option Nat → Value
  | none => .pointer none
  | some b => .pointer (some ⟨b, 0, none⟩)
theorem ptrE_inv (v : Value) (y : DataW Unit × List MemPlace) (h : ptrE v = some y) : ∃ c, v = ptrV c := by
  unfold ptrE at h
  split at h
  · exact ⟨none, rfl⟩
  · exact ⟨some _, rfl⟩
  · cases h

abbrev Key := List UInt8
abbrev KV := List (Key × Int)
def entD (p : Key × Int) : Lit × DataW Unit := (.string p.1, .lit (.int .i64 p.2))
def kvD (l : KV) : DataW Unit := .map (l.map entD)
def kvIns (x : Key × Int) : KV → KV
  | [] => [x]
  | y :: r => if bytesBefore x.1 y.1 then x :: y :: r else y :: kvIns x r
def kvDrop (l : KV) (k : Key) : KV := l.filter (fun p => !(p.1 == k))
def kvPut (l : KV) (k : Key) (v : Int) : KV := kvIns (k, v) (kvDrop l k)
def kvGet (l : KV) (k : Key) : Option Int := (l.find? (fun p => p.1 == k)).map (·.2)

theorem sameKey_string (a b : Key) : (Lit.string a).sameKey (.string b) = (a == b) := by
  first | rfl | simp [Lit.sameKey]
theorem ins_kvD (x : Key × Int) : ∀ l : KV, DataW.insert (entD x) (l.map entD) = (kvIns x l).map entD
  | [] => rfl
  | y :: r => by
    show (if (Lit.string x.1).before (.string y.1) then _ else _) = _
    unfold kvIns
    have e : (Lit.string x.1).before (.string y.1) = bytesBefore x.1 y.1 := rfl
    rw [e]
    split
    · rfl
    · rw [List.map_cons, ins_kvD x r]
theorem filter_kvD (n : Key) : ∀ l : KV, (l.map entD).filter (ChangeMaps.notKey (.string n)) = (kvDrop l n).map entD
  | [] => rfl
  | y :: r => by
    have ih := filter_kvD n r
    unfold kvDrop at ih ⊢
    have e : ChangeMaps.notKey (.string n) (entD y) = !(y.1 == n) := by
      show (!(Lit.string y.1).sameKey (.string n)) = _
      rw [sameKey_string]
    rw [List.map_cons, List.filter_cons, List.filter_cons, e]
    split
    · rw [ih, List.map_cons]
    · exact ih
theorem put_kvD (l : KV) (n : Key) (v : Int) : (kvD l).put (.string n) (.lit (.int .i64 v)) = kvD (kvPut l n v) := by
  unfold kvD
  rw [DataW.put_eq]
  unfold ChangeMaps.putKey
  rw [filter_kvD]
  unfold kvPut
  rw [← ins_kvD]
  rfl
theorem find_kvD (n : Key) : ∀ l : KV, (l.map entD).find? (fun p => p.1.sameKey (.string n)) = (l.find? fun p => p.1 == n).map entD
  | [] => rfl
  | y :: r => by
    have e : (entD y).1.sameKey (.string n) = (y.1 == n) := sameKey_string _ _
    rw [List.map_cons, List.find?_cons, List.find?_cons, e]
    cases (y.1 == n)
    · exact find_kvD n r
    · rfl
theorem at_kvD (l : KV) (n : Key) (zd : DataW Unit) : (kvD l).atKey (.string n) zd = match kvGet l n with | none => zd | some v => .lit (.int .i64 v) := by
  simp only [kvD, DataW.atKey, find_kvD, kvGet]
  cases l.find? (fun p => p.1 == n) <;> rfl
theorem has_kvD (l : KV) (n : Key) : Maps.has (kvD l) (.string n) = (kvGet l n).isSome := by
  show (l.map entD).any (fun p => p.1.sameKey (.string n)) = _
  unfold kvGet
  rw [Option.isSome_map]
  induction l with
  | nil => rfl
  | cons y r ih =>
    have e : (entD y).1.sameKey (.string n) = (y.1 == n) := sameKey_string _ _
    rw [List.map_cons, List.any_cons, List.find?_cons, e, ih]
    cases (y.1 == n) <;> rfl
theorem size_kvD (l : KV) : Maps.size (kvD l) = l.length := by simp [kvD, Maps.size]

/-- No key twice. -/
def Apart (l : KV) : Prop := l.Pairwise (fun p q => p.1 ≠ q.1)
theorem kvIns_perm (x : Key × Int) (l : KV) : (kvIns x l).Perm (x :: l) := by
  induction l with
  | nil => exact .refl _
  | cons y r ih =>
    unfold kvIns
    split
    · exact .refl _
    · exact (ih.cons y).trans (.swap _ _ _)
theorem kvPut_perm (l : KV) (k : Key) (v : Int) : (kvPut l k v).Perm ((k, v) :: kvDrop l k) := kvIns_perm _ _
theorem get_some {l : KV} (h : Apart l) {k : Key} {v : Int} : kvGet l k = some v ↔ (k, v) ∈ l := by
  unfold kvGet
  constructor
  · intro e
    obtain ⟨x, hx, rfl⟩ := Option.map_eq_some_iff.1 e
    have h1 := List.find?_some hx
    have h2 := List.mem_of_find?_eq_some hx
    have e1 : x.1 = k := by simpa using h1
    rw [← e1]
    exact h2
  · intro e
    induction l with
    | nil => cases e
    | cons y r ih =>
      have hz := List.pairwise_cons.1 h
      rw [List.find?_cons]
      rcases List.mem_cons.1 e with e1 | e1
      · rw [← e1]
        simp
      · have : (y.1 == k) = false := by
          have := hz.1 _ e1
          simpa using this
        rw [this]
        exact ih hz.2 e1
theorem get_none {l : KV} {k : Key} : kvGet l k = none ↔ ∀ v, (k, v) ∉ l := by
  unfold kvGet
  rw [Option.map_eq_none_iff, List.find?_eq_none]
  constructor
  · intro h v hv
    have := h _ hv
    simp at this
  · intro h x hx
    simp only [beq_iff_eq]
    intro e
    exact h x.2 (by rw [← e]; exact hx)
theorem drop_mem {l : KV} {k : Key} {x : Key × Int} : x ∈ kvDrop l k ↔ x ∈ l ∧ x.1 ≠ k := by
  unfold kvDrop
  rw [List.mem_filter]
  simp
theorem drop_none {l : KV} {k : Key} (h : kvGet l k = none) : kvDrop l k = l := by
  unfold kvDrop
  rw [List.filter_eq_self]
  intro x hx
  have := get_none.1 h x.2
  simp only [Bool.not_eq_true', beq_eq_false_iff_ne]
  intro e
  exact this (by rw [← e]; exact hx)
theorem put_apart {l : KV} (h : Apart l) (k : Key) (v : Int) : Apart (kvPut l k v) := by
  refine ((kvPut_perm l k v).pairwise_iff (fun {_ _} hne => Ne.symm hne)).2 ?_
  refine List.pairwise_cons.2 ⟨fun x hx => fun e => (drop_mem.1 hx).2 e.symm, h.filter _⟩
theorem get_put {l : KV} (h : Apart l) (k : Key) (v : Int) (k' : Key) : kvGet (kvPut l k v) k' = if k' = k then some v else kvGet l k' := by
  have hp := put_apart h k v
  have hm : ∀ x, x ∈ kvPut l k v ↔ x = (k, v) ∨ (x ∈ l ∧ x.1 ≠ k) := fun x => by
    rw [(kvPut_perm l k v).mem_iff, List.mem_cons, drop_mem]
  split
  · rename_i e
    rw [e]
    exact (get_some hp).2 ((hm _).2 (.inl rfl))
  · rename_i e
    cases hg : kvGet l k' with
    | none =>
      refine get_none.2 (fun u hu => ?_)
      rcases (hm _).1 hu with h1 | h1
      · exact e (congrArg Prod.fst h1)
      · exact get_none.1 hg u h1.1
    | some u => exact (get_some hp).2 ((hm _).2 (.inr ⟨(get_some h).1 hg, e⟩))

theorem law : Keyed Tryz.prog 9 := string_keyed Tryz.underlying9
theorem key_mk {s : ByteArray} (hs : s.size ≤ maxLen) : keyOf Tryz.prog 9 (.string s) = some (.string s.data.toList) := WideMaps.keyOf_string_mk Tryz.underlying9 hs
theorem key_inv (key : Value) (kl : Lit) (h : keyOf Tryz.prog 9 key = some kl) : ∃ x : ByteArray, key = .string x ∧ kl = .string x.data.toList := by
  cases key <;> simp [keyOf, Tryz.underlying9, mapKey] at h
  obtain ⟨h1, rfl⟩ := h
  exact ⟨_, rfl, rfl⟩

section
variable {w : World} {b n : Nat} {l : KV} {s : ByteArray} {R : Value → Option (DataW Unit × List MemPlace)}
theorem kv_apart (h : w.ownsMap Tryz.prog 9 R b n (kvD l)) : Apart l := by
  obtain ⟨es, e, hp, _⟩ := h.entries law
  unfold kvD at e
  cases e
  rw [List.pairwise_map] at hp
  exact hp.imp (fun {a b} hne e => hne (by unfold entD; rw [e]))
theorem kv_tight (h : w.ownsMap Tryz.prog 9 R b n (kvD l)) : w.ownsMap Tryz.prog 9 R b l.length (kvD l) := by
  have := map_tight h
  rw [List.length_map] at this
  exact this
theorem zeroP (w : World) : (zeroValue 72).run Tryz.prog w = .ok (.pointer none) w := by kernel_rfl
theorem zeroI (w : World) : (zeroValue 3).run Tryz.prog w = .ok (.int .i64 0) w := by kernel_rfl

/-- 'm[k]' in a map of series. -/
theorem look_yes (h : w.ownsMap Tryz.prog 9 ptrE b n (kvD l)) (hs : s.size ≤ maxLen) {f : Nat} (hg : kvGet l s.data.toList = some (f : Int)) :
    (Instr.lookup 63 (.map (some b)) (.string s) false).run Tryz.prog w = .ok (.pointer (some ⟨f, 0, none⟩)) w := by
  obtain ⟨v, ps, hr, hv⟩ := h.lookup law Tryz.underlying63 (zeroP w) (zd := .lit (.int .i64 (-1))) (zp := []) rfl (key_mk hs)
  rw [at_kvD, hg] at hv
  rw [hr, ptrE_some hv]
theorem look_no (h : w.ownsMap Tryz.prog 9 ptrE b n (kvD l)) (hs : s.size ≤ maxLen) (hg : kvGet l s.data.toList = none) :
    (Instr.lookup 63 (.map (some b)) (.string s) false).run Tryz.prog w = .ok (.pointer none) w := by
  obtain ⟨v, ps, hr, hv⟩ := h.lookup law Tryz.underlying63 (zeroP w) (zd := .lit (.int .i64 (-1))) (zp := []) rfl (key_mk hs)
  rw [at_kvD, hg] at hv
  rw [hr, ptrE_none hv]
theorem look_nil (w : World) (s : ByteArray) : (Instr.lookup 63 (.map none) (.string s) false).run Tryz.prog w = .ok (.pointer none) w := by
  kernel_rfl
/-- A store into a map of series. -/
theorem put_run (h : w.ownsMap Tryz.prog 9 ptrE b n (kvD l)) (hs : s.size ≤ maxLen) (hn : n < 1000000) (f : Nat) :
    ∃ w', (Instr.mapUpdate 63 (.map (some b)) (.string s) (.pointer (some ⟨f, 0, none⟩))).run Tryz.prog w = .ok () w' ∧
      w'.ownsMap Tryz.prog 9 ptrE b (kvPut l s.data.toList (f : Int)).length (kvD (kvPut l s.data.toList (f : Int))) ∧ Only (· = b) w w' ∧ w'.heap.size = w.heap.size := by
  obtain ⟨w', hr, ho, ht⟩ := h.store law Tryz.underlying63 (by unfold maxLen; omega) (key_mk hs) (ptrE_mk f)
  rw [put_kvD] at ho
  refine ⟨w', hr, kv_tight ho, ?_, ?_⟩
  · obtain ⟨es, ck, es', ck', hb, rfl⟩ := ht
    exact ⟨rfl, rfl, rfl, by simp [ChangeMaps.setBlock], fun k _ hk => ChangeMaps.heap_setBlock_other hb _ hk⟩
  · obtain ⟨es, ck, es', ck', hb, rfl⟩ := ht
    simp [ChangeMaps.setBlock]
/-- 'v, ok := m[k]' in a map of numbers. -/
theorem look_int (h : w.ownsMap Tryz.prog 9 (plainElem Tryz.prog 3) b n (kvD l)) (hs : s.size ≤ maxLen) :
    (Instr.lookup 88 (.map (some b)) (.string s) true).run Tryz.prog w = .ok (.tuple #[.int .i64 ((kvGet l s.data.toList).getD 0), .bool (kvGet l s.data.toList).isSome]) w := by
  obtain ⟨v, ps, hr, hv⟩ := h.look_ok law Tryz.underlying88 (zeroI w) (zd := .lit (.int .i64 0)) (zp := []) (plainElem_int Tryz.underlying3 (by decide)) (key_mk hs)
  rw [has_kvD] at hr
  rw [at_kvD] at hv
  obtain ⟨c, rfl, hc, _⟩ := plainElem_int_inv Tryz.underlying3 hv
  rw [hr]
  cases hg : kvGet l s.data.toList with
  | none => rw [hg] at hc; cases hc; rfl
  | some x => rw [hg] at hc; cases hc; rfl
/-- A store into a map of numbers. -/
theorem put_int (h : w.ownsMap Tryz.prog 9 (plainElem Tryz.prog 3) b n (kvD l)) (hs : s.size ≤ maxLen) (hn : n < 1000000) {x : Int} (hx : -9223372036854775808 ≤ x ∧ x ≤ 9223372036854775807) :
    ∃ w', (Instr.mapUpdate 88 (.map (some b)) (.string s) (.int .i64 x)).run Tryz.prog w = .ok () w' ∧
      w'.ownsMap Tryz.prog 9 (plainElem Tryz.prog 3) b (n + 1) (kvD (kvPut l s.data.toList x)) ∧ Only (· = b) w w' ∧ w'.heap.size = w.heap.size := by
  have hwf : (Lit.int .i64 x).wf = true := by
    simp [Lit.wf, IntKind.min, IntKind.max, IntKind.bits, IntKind.signed]
    omega
  obtain ⟨w', hr, ho, ht⟩ := h.store law Tryz.underlying88 (by unfold maxLen; omega) (key_mk hs) (plainElem_int Tryz.underlying3 hwf)
  rw [put_kvD] at ho
  refine ⟨w', hr, ho, ?_, ?_⟩
  · obtain ⟨es, ck, es', ck', hb, rfl⟩ := ht
    exact ⟨rfl, rfl, rfl, by simp [ChangeMaps.setBlock], fun k _ hk => ChangeMaps.heap_setBlock_other hb _ hk⟩
  · obtain ⟨es, ck, es', ck', hb, rfl⟩ := ht
    simp [ChangeMaps.setBlock]
end
end Go.Proofs.YtnbfbnhiikliaaaGreat.Hd
