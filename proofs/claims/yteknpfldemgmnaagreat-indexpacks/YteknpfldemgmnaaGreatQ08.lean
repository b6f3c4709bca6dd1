/-
  Xkv.
-/
import Derived.Test.YteknpfldemgmnaaGreatQ02
import Derived.Test.YteknpfldemgmnaaGreatQ06
import Derived.Test.YteknpfldemgmnaaGreatQ03
import Derived.Test.YteknpfldemgmnaaGreatQ07
import Derived.Maps.RangeWalk
import Derived.Maps.Ext
import Derived.Maps.OwnSet
import Derived.DeepKeys3

/-
  Maps by pairs of a name and a value, to slices: what a look-up and a store make of them.
-/
namespace Go.Proofs.YteknpfldemgmnaaGreat.X
open Go.RowKit Go.Proofs.Lys Go.Maps Go.Proofs.YteknpfldemgmnaaGreat.N
set_option linter.unusedVariables false
set_option linter.unusedSimpArgs false

/-- A slice as a value: none, or its block, its length and its room. -/
def slV : Option (Nat × Nat × Nat) → Value
  | none => .slice none 0 0
  | some (b, n, c) => .slice (some ⟨b, 0, none⟩) n c
def slD : Option (Nat × Nat × Nat) → DataW Unit
  | none => .nil
  | some (b, n, c) => .agg [.lit (.int .i64 b), .lit (.int .i64 n), .lit (.int .i64 c)]
def slE : Value → Option (DataW Unit × List MemPlace)
  | .slice none 0 0 => some (.nil, [])
  | .slice (some ⟨b, 0, none⟩) n c => some (.agg [.lit (.int .i64 b), .lit (.int .i64 n), .lit (.int .i64 c)], [])
  | _ => none
theorem slE_mk (c : Option (Nat × Nat × Nat)) : slE (slV c) = some (slD c, []) := by
  rcases c with _ | ⟨b, n, c⟩ <;> rfl
theorem slE_inv (v : Value) (y : DataW Unit × List MemPlace) (h : slE v = some y) : ∃ c, v = slV c := by
  unfold slE at h
  split at h
  · exact ⟨none, rfl⟩
  · exact ⟨some (_, _, _), rfl⟩
  · cases h
theorem slD_inj {c d : Option (Nat × Nat × Nat)} (h : slD c = slD d) : c = d := by
  rcases c with _ | ⟨b, n, c⟩ <;> rcases d with _ | ⟨b', n', c'⟩ <;> simp [slD] at h ⊢
  omega
theorem slE_some {v : Value} {c : Option (Nat × Nat × Nat)} {ps : List MemPlace} (h : slE v = some (slD c, ps)) : v = slV c := by
  obtain ⟨d, rfl⟩ := slE_inv v _ h
  rw [slE_mk] at h
  rw [slD_inj (Prod.mk.inj (Option.some.inj h)).1]

abbrev Key := List UInt8
abbrev Sl := Option (Nat × Nat × Nat)
abbrev KV := List (Key × Sl)
def entD (p : Key × Sl) : Lit × DataW Unit := (.string p.1, slD p.2)
def kvD (l : KV) : DataW Unit := .map (l.map entD)
def kvIns (x : Key × Sl) : KV → KV
  | [] => [x]
  | y :: r => if bytesBefore x.1 y.1 then x :: y :: r else y :: kvIns x r
def kvDrop (l : KV) (k : Key) : KV := l.filter (fun p => !(p.1 == k))
def kvPut (l : KV) (k : Key) (v : Sl) : KV := kvIns (k, v) (kvDrop l k)
def kvGet (l : KV) (k : Key) : Option Sl := (l.find? (fun p => p.1 == k)).map (·.2)

theorem sameKey_string (a b : Key) : (Lit.string a).sameKey (.string b) = (a == b) := by
  first | rfl | simp [Lit.sameKey]
theorem ins_kvD (x : Key × Sl) : ∀ l : KV, DataW.insert (entD x) (l.map entD) = (kvIns x l).map entD
  | [] => rfl
  | y :: r => by
    show (if (Lit.string x.1).before (.string y.1) then _ else _) = _
    unfold kvIns
    have e : (Lit.string x.1).before (.string y.1) = bytesBefore x.1 y.1 := rfl
    rw [e]
    split
    · rfl
    · rw [List.map_cons, ins_kvD x r]
theorem filter_kvD (n : Key) : ∀ l : KV, (l.map entD).filter (ChangeMaps.notKey (.string n)) = (kvDrop l n).map entD
  | [] => rfl
  | y :: r => by
    have ih := filter_kvD n r
    unfold kvDrop at ih ⊢
    have e : ChangeMaps.notKey (.string n) (entD y) = !(y.1 == n) := by
      show (!(Lit.string y.1).sameKey (.string n)) = _
      rw [sameKey_string]
    rw [List.map_cons, List.filter_cons, List.filter_cons, e]
    split
    · rw [ih, List.map_cons]
    · exact ih
theorem put_kvD (l : KV) (n : Key) (v : Sl) : (kvD l).put (.string n) (slD v) = kvD (kvPut l n v) := by
  unfold kvD
  rw [DataW.put_eq]
  unfold ChangeMaps.putKey
  rw [filter_kvD]
  unfold kvPut
  rw [← ins_kvD]
  rfl
theorem find_kvD (n : Key) : ∀ l : KV, (l.map entD).find? (fun p => p.1.sameKey (.string n)) = (l.find? fun p => p.1 == n).map entD
  | [] => rfl
  | y :: r => by
    have e : (entD y).1.sameKey (.string n) = (y.1 == n) := sameKey_string _ _
    rw [List.map_cons, List.find?_cons, List.find?_cons, e]
    cases (y.1 == n)
    · exact find_kvD n r
    · rfl
theorem at_kvD (l : KV) (n : Key) (zd : DataW Unit) : (kvD l).atKey (.string n) zd = match kvGet l n with | none => zd | some v => slD v := by
  simp only [kvD, DataW.atKey, find_kvD, kvGet]
  cases l.find? (fun p => p.1 == n) <;> rfl
theorem has_kvD (l : KV) (n : Key) : Maps.has (kvD l) (.string n) = (kvGet l n).isSome := by
  show (l.map entD).any (fun p => p.1.sameKey (.string n)) = _
  unfold kvGet
  rw [Option.isSome_map]
  induction l with
  | nil => rfl
  | cons y r ih =>
    have e : (entD y).1.sameKey (.string n) = (y.1 == n) := sameKey_string _ _
    rw [List.map_cons, List.any_cons, List.find?_cons, e, ih]
    cases (y.1 == n) <;> rfl
theorem size_kvD (l : KV) : Maps.size (kvD l) = l.length := by simp [kvD, Maps.size]

/-- No key twice. -/
def Apart (l : KV) : Prop := l.Pairwise (fun p q => p.1 ≠ q.1)
theorem kvIns_perm (x : Key × Sl) (l : KV) : (kvIns x l).Perm (x :: l) := by
  induction l with
  | nil => exact .refl _
  | cons y r ih =>
    unfold kvIns
    split
    · exact .refl _
    · exact (ih.cons y).trans (.swap _ _ _)
theorem kvPut_perm (l : KV) (k : Key) (v : Sl) : (kvPut l k v).Perm ((k, v) :: kvDrop l k) := kvIns_perm _ _
theorem get_some {l : KV} (h : Apart l) {k : Key} {v : Sl} : kvGet l k = some v ↔ (k, v) ∈ l := by
  unfold kvGet
  constructor
  · intro e
    obtain ⟨x, hx, rfl⟩ := Option.map_eq_some_iff.1 e
    have h1 := List.find?_some hx
    have h2 := List.mem_of_find?_eq_some hx
    have e1 : x.1 = k := by simpa using h1
    rw [← e1]
    exact h2
  · intro e
    induction l with
    | nil => cases e
    | cons y r ih =>
      have hz := List.pairwise_cons.1 h
      rw [List.find?_cons]
      rcases List.mem_cons.1 e with e1 | e1
      · rw [← e1]
        simp
      · have : (y.1 == k) = false := by
          have := hz.1 _ e1
          simpa using this
        rw [this]
        exact ih hz.2 e1
theorem get_none {l : KV} {k : Key} : kvGet l k = none ↔ ∀ v, (k, v) ∉ l := by
  unfold kvGet
  rw [Option.map_eq_none_iff, List.find?_eq_none]
  constructor
  · intro h v hv
    have := h _ hv
    simp at this
  · intro h x hx
    simp only [beq_iff_eq]
    intro e
    exact h x.2 (by rw [← e]; exact hx)
theorem drop_mem {l : KV} {k : Key} {x : Key × Sl} : x ∈ kvDrop l k ↔ x ∈ l ∧ x.1 ≠ k := by
  unfold kvDrop
  rw [List.mem_filter]
  simp
theorem put_apart {l : KV} (h : Apart l) (k : Key) (v : Sl) : Apart (kvPut l k v) := by
  refine ((kvPut_perm l k v).pairwise_iff (fun {_ _} hne => Ne.symm hne)).2 ?_
  refine List.pairwise_cons.2 ⟨fun x hx => fun e => (drop_mem.1 hx).2 e.symm, h.filter _⟩

/-- The key of a pair. -/
def keyB (x : Lab) : Key := keyBytes [.string x.1.data.toList, .string x.2.data.toList]
theorem law : Keyed Tryz.prog 43 := Keyed.of_law (deep_law (m := 2) (by omega) (by kernel_rfl) (by kernel_rfl) (by kernel_rfl))
abbrev labV (x : Lab) : Value := .agg #[.string x.1, .string x.2]
theorem cellsL : Tryz.prog.cellsOf 43 = 2 := by kernel_rfl
theorem cellsS : Tryz.prog.cellsOf 9 = 1 := by kernel_rfl
theorem lits_two (d : Nat) (u v : Value) : Tryz.prog.keyLits (d + 1 + 1) 43 [u, v] = (Tryz.prog.keyLits (d + 1) 9 [u]).bind fun a => (Tryz.prog.keyLits (d + 1) 9 [v]).bind fun b => some (a ++ b) := by
  conv => lhs; unfold Program.keyLits
  rw [Tryz.underlying43]
  simp [cellsL, cellsS]
  generalize Tryz.prog.keyLits (d + 1) 9 [u] = A
  generalize Tryz.prog.keyLits (d + 1) 9 [v] = B
  cases A <;> cases B <;> simp
theorem lits_not (d : Nat) (cs : List Value) (h : cs.length ≠ 2) : Tryz.prog.keyLits (d + 1 + 1) 43 cs = none := by
  unfold Program.keyLits
  rw [Tryz.underlying43]
  simp [cellsL, h]
theorem lits_str (d : Nat) (x : Value) : Tryz.prog.keyLits (d + 1) 9 [x] = match x with | .string s => if s.size ≤ maxLen then some [.string s.data.toList] else none | _ => none := by
  unfold Program.keyLits
  rw [Tryz.underlying9]
  cases x <;> rfl
theorem types_two : ∃ d, Tryz.prog.types.size + 1 = d + 1 + 1 := by
  have h0 : decide (0 < Tryz.prog.types.size) = true := by kernel_rfl
  have h0 := of_decide_eq_true h0
  exact ⟨Tryz.prog.types.size - 1, by omega⟩
theorem lits_eq (s t : ByteArray) (hs : s.size ≤ maxLen) (ht : t.size ≤ maxLen) : Tryz.prog.keyLits (Tryz.prog.types.size + 1) 43 [.string s, .string t] = some [.string s.data.toList, .string t.data.toList] := by
  obtain ⟨d, hd⟩ := types_two
  rw [hd, lits_two, lits_str, lits_str]
  simp only [if_pos hs, if_pos ht]
  rfl
theorem key_mk {x : Lab} (h1 : x.1.size ≤ maxLen) (h2 : x.2.size ≤ maxLen) : keyOf Tryz.prog 43 (labV x) = some (.string (keyB x)) := by
  have hk : Tryz.prog.keyType 43 = true := by kernel_rfl
  have hf : (labV x).formed Tryz.prog 43 = true := by kernel_rfl
  unfold keyOf
  rw [Tryz.underlying43]
  simp only [hk, hf, Bool.and_self, if_true]
  have : (labV x).cells.toList = [.string x.1, .string x.2] := rfl
  rw [this, lits_eq _ _ h1 h2]
  rfl
theorem key_inv (key : Value) (kl : Lit) (h : keyOf Tryz.prog 43 key = some kl) : ∃ x : Lab, key = labV x ∧ kl = .string (keyB x) := by
  obtain ⟨cs, ls, rfl, hl, hk⟩ := keyOf_top (by rw [Tryz.underlying43]) h
  obtain ⟨d, hd⟩ := types_two
  rw [hd] at hl
  have hlen : cs.toList.length = 2 := by
    by_cases e : cs.toList.length = 2
    · exact e
    · rw [lits_not _ _ e] at hl
      cases hl
  obtain ⟨u, v, hcs⟩ : ∃ u v, cs.toList = [u, v] := by
    match hq : cs.toList, hlen with
    | [u, v], _ => exact ⟨u, v, rfl⟩
  rw [hcs, lits_two, lits_str, lits_str] at hl
  have hc : cs = #[u, v] := by
    apply Array.ext'
    rw [hcs]
  obtain ⟨a, ha, hl⟩ := Option.bind_eq_some_iff.1 hl
  obtain ⟨b, hb, hab⟩ := Option.bind_eq_some_iff.1 hl
  split at ha
  · rename_i s
    split at ha
    · cases ha
      split at hb
      · split at hb
        · cases hb
          cases hab
          exact ⟨(s, _), by rw [hc], hk⟩
        · cases hb
      · cases hb
    · cases ha
  · cases ha
theorem keyB_inj {x y : Lab} (hx : x.1.size ≤ maxLen ∧ x.2.size ≤ maxLen) (hy : y.1.size ≤ maxLen ∧ y.2.size ≤ maxLen) (h : keyB x = keyB y) : x = y := by
  have h1 := key_mk hx.1 hx.2
  have h2 := key_mk hy.1 hy.2
  rw [h] at h1
  have := law.inj h1 h2
  simp only [labV, Value.agg.injEq, Array.mk.injEq, List.cons.injEq, Value.string.injEq, and_true] at this
  exact Prod.ext this.1 this.2

section
variable {w : World} {b n : Nat} {l : KV} {x : Lab}
theorem kv_apart (h : w.ownsMap Tryz.prog 43 slE b n (kvD l)) : Apart l := by
  obtain ⟨es, e, hp, _⟩ := h.entries law
  unfold kvD at e
  cases e
  rw [List.pairwise_map] at hp
  exact hp.imp (fun {a b} hne e => hne (by unfold entD; rw [e]))
theorem kv_tight (h : w.ownsMap Tryz.prog 43 slE b n (kvD l)) : w.ownsMap Tryz.prog 43 slE b l.length (kvD l) := by
  have := map_tight h
  rw [List.length_map] at this
  exact this
theorem zeroS (w : World) : (zeroValue 45).run Tryz.prog w = .ok (.slice none 0 0) w := by kernel_rfl
/-- 'm[k]'. -/
theorem look_sl (h : w.ownsMap Tryz.prog 43 slE b n (kvD l)) (h1 : x.1.size ≤ maxLen) (h2 : x.2.size ≤ maxLen) :
    (Instr.lookup 57 (.map (some b)) (labV x) false).run Tryz.prog w = .ok (slV ((kvGet l (keyB x)).getD none)) w := by
  obtain ⟨v, ps, hr, hv⟩ := h.lookup law Tryz.underlying57 (zeroS w) (zd := .nil) (zp := []) rfl (key_mk h1 h2)
  rw [at_kvD] at hv
  rw [hr]
  cases hg : kvGet l (keyB x) with
  | none => rw [hg] at hv; rw [slE_some (c := none) hv]; rfl
  | some c => rw [hg] at hv; rw [slE_some (c := c) hv]; rfl
/-- 'm[k] = append(m[k], ..)'. -/
theorem entry_sl (h : w.ownsMap Tryz.prog 43 slE b n (kvD l)) (hn : n < 1000000) (h1 : x.1.size ≤ maxLen) (h2 : x.2.size ≤ maxLen) :
    ∃ st w1, (Instr.mapEntry 57 (.map (some b)) (labV x)).run Tryz.prog w = .ok (.tuple #[slV ((kvGet l (keyB x)).getD none), .int .i64 st]) w1 ∧ Only (· = b) w w1 ∧ w1.heap.size = w.heap.size ∧
      ∀ W : World, W.heap[b]? = w1.heap[b]? → ∀ c : Sl, ∃ W', (Instr.entryStore 57 (.map (some b)) (.int .i64 st) (slV c)).run Tryz.prog W = .ok () W' ∧
        W'.ownsMap Tryz.prog 43 slE b (kvPut l (keyB x) c).length (kvD (kvPut l (keyB x) c)) ∧ Only (· = b) W W' ∧ W'.heap.size = W.heap.size := by
  have tu : ∀ {w w' : World}, w.mapTurned w' b → Only (· = b) w w' ∧ w'.heap.size = w.heap.size := fun {w w'} ht => by
    obtain ⟨es, ck, es', ck', hb, rfl⟩ := ht
    exact ⟨⟨rfl, rfl, rfl, by simp [ChangeMaps.setBlock], fun k _ hk => ChangeMaps.heap_setBlock_other hb _ hk⟩, by simp [ChangeMaps.setBlock]⟩
  obtain ⟨v, ps, st, w1, hr, hv, ht, hB⟩ := entry_run h law Tryz.underlying57 (by unfold maxLen; omega) (zeroS w) (zd := .nil) (zp := []) rfl (key_mk h1 h2)
  refine ⟨st, w1, ?_, (tu ht).1, (tu ht).2, fun W hW c => ?_⟩
  · rw [at_kvD] at hv
    rw [hr]
    cases hg : kvGet l (keyB x) with
    | none => rw [hg] at hv; rw [slE_some (c := none) hv]; rfl
    | some c => rw [hg] at hv; rw [slE_some (c := c) hv]; rfl
  · obtain ⟨W', hr', ho, ht'⟩ := hB W hW (slV c) (slD c) [] (slE_mk c)
    rw [put_kvD] at ho
    exact ⟨W', hr', kv_tight ho, (tu ht').1, (tu ht').2⟩
end
end Go.Proofs.YteknpfldemgmnaaGreat.X
