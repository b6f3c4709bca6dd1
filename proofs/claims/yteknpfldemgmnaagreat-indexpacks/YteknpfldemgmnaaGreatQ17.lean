/-
  Xst.
-/
import Derived.Test.YteknpfldemgmnaaGreatQ08
import Derived.Test.YteknpfldemgmnaaGreatQ13
import Derived.Test.YteknpfldemgmnaaGreatQ16

/-
  An index in memory: its block, its map, its lists.
-/
namespace Go.Proofs.YteknpfldemgmnaaGreat.X
open Go.RowKit Go.Proofs.Lys Go.Maps Go.Proofs.YteknpfldemgmnaaGreat.N
set_option linter.unusedVariables false
set_option linter.unusedSimpArgs false

/-- A list of numbers that is owned. -/
abbrev NumAt (w : World) (B : Nat) (v : Value) (l : List Int) : Prop := w.ownsRow B 3 1 v l.length (l.map (Value.int .i64))
structure EntC where
  lab : Lab
  c : Sl
  l : List Int
def keyC (e : EntC) : Key × Sl := (keyB e.lab, e.c)
def postC (e : EntC) : Post := (e.lab, e.l)
structure IxC where
  xb : Nat
  mb : Nat
  n : Nat
  kv : KV
  es : List EntC
def EntC.has (e : EntC) (k : Nat) : Prop := (slV e.c).ownBlock = some k
structure IxAt (w : World) (x : IxC) (O : Nat → Prop) : Prop where
  blk : Blk w x.xb [.int .i64 (x.n : Int), .map (some x.mb)] 59
  map : w.ownsMap Tryz.prog 43 slE x.mb x.kv.length (kvD x.kv)
  perm : x.kv.Perm (x.es.map keyC)
  each : ∀ e ∈ x.es, NumAt w 0 (slV e.c) e.l
  apart : x.es.Pairwise (fun a b => ∀ k, a.has k → ¬ b.has k)
  labs : x.es.Pairwise (fun a b => a.lab ≠ b.lab)
  small : ∀ e ∈ x.es, e.lab.1.size ≤ 100000 ∧ e.lab.2.size ≤ 100000
  own : ∀ k, (k = x.xb ∨ k = x.mb ∨ ∃ e ∈ x.es, e.has k) → O k
  lt : ∀ k, O k → k < w.heap.size
/-- The index holds these posts. -/
structure Is (x : IxC) (P : Posts) : Prop where
  perm : (x.es.map postC).Perm P
  sort : SortP P
theorem IxAt.only {w w' : World} {x : IxC} {O O' : Nat → Prop} (h : IxAt w x O) (k : Only O' w w') (hO : ∀ j, O j → ¬ O' j) : IxAt w' x O where
  blk := k.blk h.blk (hO _ (h.own _ (.inl rfl)))
  map := k.map h.map (hO _ (h.own _ (.inr (.inl rfl))))
  perm := h.perm
  each := fun e he => ownN_only (h.each e he) k (fun b hb => hO b (h.own b (.inr (.inr ⟨e, he, hb⟩))))
  apart := h.apart
  labs := h.labs
  small := h.small
  own := h.own
  lt := fun j hj => Nat.lt_of_lt_of_le (h.lt j hj) k.size
theorem IxAt.stay {w w' : World} {x : IxC} {O : Nat → Prop} (h : IxAt w x O) (k : Kept w w') : IxAt w' x O := h.only k (fun _ _ f => f)
theorem IxAt.weak {w : World} {x : IxC} {O O' : Nat → Prop} (h : IxAt w x O) (hO : ∀ j, O j → O' j) (hl : ∀ k, O' k → k < w.heap.size) : IxAt w x O' :=
  ⟨h.blk, h.map, h.perm, h.each, h.apart, h.labs, h.small, fun k hk => hO k (h.own k hk), hl⟩
theorem small_max {x : Lab} (h : x.1.size ≤ 100000 ∧ x.2.size ≤ 100000) : x.1.size ≤ maxLen ∧ x.2.size ≤ maxLen := by
  unfold maxLen
  omega
theorem IxAt.kvLen {w : World} {x : IxC} {O : Nat → Prop} (h : IxAt w x O) : x.kv.length = x.es.length := by
  have := h.perm.length_eq
  simpa using this
theorem Is.len {x : IxC} {P : Posts} (h : Is x P) : x.es.length = P.length := by
  have := h.perm.length_eq
  simpa using this
theorem Is.mem {x : IxC} {P : Posts} (h : Is x P) {e : EntC} (he : e ∈ x.es) : (e.lab, e.l) ∈ P := h.perm.mem_iff.1 (List.mem_map.2 ⟨e, he, rfl⟩)
/-- A pair has an entry, or none. -/
theorem IxAt.find {w : World} {x : IxC} {O : Nat → Prop} {P : Posts} (h : IxAt w x O) (hI : Is x P) (y : Lab) (hy : y.1.size ≤ 100000 ∧ y.2.size ≤ 100000) :
    (∃ e ∈ x.es, e.lab = y ∧ kvGet x.kv (keyB y) = some e.c ∧ lookP P y = e.l) ∨ ((∀ e ∈ x.es, e.lab ≠ y) ∧ kvGet x.kv (keyB y) = none ∧ lookP P y = []) := by
  cases e : kvGet x.kv (keyB y) with
  | none =>
    have hne : ∀ e ∈ x.es, e.lab ≠ y := fun e' he' ht => by
      exact get_none.1 e e'.c (h.perm.mem_iff.2 (List.mem_map.2 ⟨e', he', by unfold keyC; rw [ht]⟩))
    refine .inr ⟨hne, rfl, look_none (fun p hp e2 => ?_)⟩
    obtain ⟨e', he', e3⟩ := List.mem_map.1 (hI.perm.mem_iff.2 hp)
    exact hne e' he' (by rw [← e2, ← e3]; rfl)
  | some v =>
    have hm := h.perm.mem_iff.1 ((get_some (kv_apart h.map)).1 e)
    obtain ⟨c, hc, hk⟩ := List.mem_map.1 hm
    unfold keyC at hk
    have e1 := congrArg Prod.fst hk
    have e2 := congrArg Prod.snd hk
    simp only at e1 e2
    have e3 := keyB_inj (small_max (h.small c hc)) (small_max hy) e1
    refine .inl ⟨c, hc, e3, by rw [e2], ?_⟩
    exact look_sorted hI.sort (by rw [← e3]; exact hI.mem hc)
theorem pw_inj {es : List EntC} (h : es.Pairwise (fun a b => a.lab ≠ b.lab)) {a b : EntC} (ha : a ∈ es) (hb : b ∈ es) (e : a.lab = b.lab) : a = b := by
  induction es with
  | nil => cases ha
  | cons c r ih =>
    have hz := List.pairwise_cons.1 h
    rcases List.mem_cons.1 ha with e1 | ha'
    · rcases List.mem_cons.1 hb with e2 | hb'
      · rw [e1, e2]
      · exact absurd (by rw [← e1]; exact e) (hz.1 b hb')
    · rcases List.mem_cons.1 hb with e2 | hb'
      · exact absurd (by rw [← e2]; exact e.symm) (hz.1 a ha')
      · exact ih hz.2 ha' hb'
theorem apart_inj {es : List EntC} (h : es.Pairwise (fun a b => ∀ k, a.has k → ¬ b.has k)) {a b : EntC} (ha : a ∈ es) (hb : b ∈ es) {k : Nat} (h1 : a.has k) (h2 : b.has k) : a = b := by
  induction es with
  | nil => cases ha
  | cons c r ih =>
    have hz := List.pairwise_cons.1 h
    rcases List.mem_cons.1 ha with e1 | ha'
    · rcases List.mem_cons.1 hb with e2 | hb'
      · rw [e1, e2]
      · exact absurd h2 (hz.1 b hb' k (by rw [← e1]; exact h1))
    · rcases List.mem_cons.1 hb with e2 | hb'
      · exact absurd h1 (hz.1 a ha' k (by rw [← e2]; exact h2))
      · exact ih hz.2 ha' hb'
/-- The slice at a pair, and its numbers. -/
def slOf (x : IxC) (y : Lab) : Sl := (kvGet x.kv (keyB y)).getD none
theorem IxAt.slice {w : World} {x : IxC} {O : Nat → Prop} {P : Posts} (h : IxAt w x O) (hI : Is x P) (y : Lab) (hy : y.1.size ≤ 100000 ∧ y.2.size ≤ 100000) :
    NumAt w 0 (slV (slOf x y)) (lookP P y) ∧ (∀ k, (slV (slOf x y)).ownBlock = some k → O k ∧ k ≠ x.xb ∧ k ≠ x.mb ∧ ∀ e ∈ x.es, e.lab ≠ y → ¬ e.has k) := by
  unfold slOf
  rcases h.find hI y hy with ⟨e, he, rfl, h1, h2⟩ | ⟨_, h1, h2⟩
  · rw [h1, h2]
    refine ⟨h.each e he, fun k hk => ⟨h.own k (.inr (.inr ⟨e, he, hk⟩)), ?_, ?_, fun e' he' hne hk' => ?_⟩⟩
    · exact fun e2 => (h.blk.typed.ne (ownN_typed (h.each e he) hk) (by decide)) e2.symm
    · exact (ownN_typed (h.each e he) hk).ne_map h.map
    · exact hne (by rw [apart_inj h.apart he' he hk' hk])
  · rw [h1, h2]
    exact ⟨World.ownsRow_nil _ _ _ _, fun k hk => by cases hk⟩
theorem IxAt.ne {w : World} {x : IxC} {O : Nat → Prop} (h : IxAt w x O) : x.xb ≠ x.mb ∧ ∀ e ∈ x.es, ∀ k, e.has k → k ≠ x.xb ∧ k ≠ x.mb :=
  ⟨h.blk.typed.ne_map h.map, fun e he k hk => ⟨fun e2 => (h.blk.typed.ne (ownN_typed (h.each e he) hk) (by decide)) e2.symm, (ownN_typed (h.each e he) hk).ne_map h.map⟩⟩
/-- Blocks that are the old ones and new ones. -/
abbrev OX (O : Nat → Prop) (w w' : World) : Nat → Prop := fun k => O k ∨ (w.heap.size ≤ k ∧ k < w'.heap.size)
/-- The index with one number more at a pair. -/
def putC (x : IxC) (y : Lab) (i : Int) (l : List Int) (c : Sl) : IxC := ⟨x.xb, x.mb, x.n, kvPut x.kv (keyB y) c, ⟨y, c, l ++ [i]⟩ :: x.es.filter (fun e => !decide (e.lab = y))⟩
theorem put_is {x : IxC} {P : Posts} (hI : Is x P) (y : Lab) (i : Int) (c : Sl) : Is (putC x y i (lookP P y) c) (addP y i P) := by
  refine ⟨?_, addP_sort y i hI.sort⟩
  refine List.Perm.trans ?_ (add_perm y i hI.sort).symm
  unfold putC
  rw [List.map_cons]
  refine List.Perm.cons _ ?_
  have : (x.es.filter (fun e => !decide (e.lab = y))).map postC = (x.es.map postC).filter (fun p => !decide (p.1 = y)) := by
    rw [List.filter_map]
    rfl
  rw [this]
  exact hI.perm.filter _
theorem put_at {w w2 w3 w4 : World} {x : IxC} {O : Nat → Prop} {P : Posts} (h : IxAt w x O) (hI : Is x P) (y : Lab) (hy : y.1.size ≤ 100000 ∧ y.2.size ≤ 100000) (i : Int) (c : Sl)
    (k2 : Only (fun k => k = x.mb) w w2) (k3 : Only (fun k => (slV (slOf x y)).ownBlock = some k) w2 w3) (hrow : NumAt w3 0 (slV c) (lookP P y ++ [i])) (hloc : ∀ k, (slV c).ownBlock = some k → (slV (slOf x y)).ownBlock = some k ∨ w2.heap.size ≤ k)
    (hm4 : w4.ownsMap Tryz.prog 43 slE x.mb (kvPut x.kv (keyB y) c).length (kvD (kvPut x.kv (keyB y) c))) (k4 : Only (· = x.mb) w3 w4) :
    IxAt w4 (putC x y i (lookP P y) c) (OX O w w4) ∧ Only O w w4 := by
  obtain ⟨hs1, hs2⟩ := h.slice hI y hy
  have s2 := k2.size
  have s3 := k3.size
  have s4 := k4.size
  have hon : Only O w w4 := (Only.trans (Only.trans (k2.mono (O' := O) (fun j hj e => by rw [e]; exact h.own _ (.inr (.inl rfl)))) k3 (fun j hj e => (hs2 j e).1)) k4 (fun j hj e => by rw [e]; exact h.own _ (.inr (.inl rfl))))
  have hne := h.ne
  have hcb : ∀ k, (slV c).ownBlock = some k → k ≠ x.mb := fun k hk => by
    rcases hloc k hk with e | e
    · exact (hs2 k e).2.2.1
    · have := h.lt x.mb (h.own _ (.inr (.inl rfl)))
      omega
  have old : ∀ e ∈ x.es, e.lab ≠ y → NumAt w4 0 (slV e.c) e.l := fun e he hne2 => by
    refine ownN_only (ownN_only (ownN_only (h.each e he) k2 (fun b hb => (hne.2 e he b hb).2)) k3 (fun b hb e2 => ?_)) k4 (fun b hb => (hne.2 e he b hb).2)
    exact (hs2 b e2).2.2.2 e he hne2 hb
  have filt : ∀ e, e ∈ x.es.filter (fun e => !decide (e.lab = y)) → e ∈ x.es ∧ e.lab ≠ y := fun e he => by
    have := List.mem_filter.1 he
    exact ⟨this.1, by simpa using this.2⟩
  refine ⟨⟨?_, hm4, ?_, ?_, ?_, ?_, ?_, ?_, ?_⟩, hon⟩
  · exact k4.blk (k3.blk (k2.blk h.blk hne.1) (fun e => (hs2 _ e).2.1 rfl)) hne.1
  · refine (kvPut_perm _ _ _).trans ?_
    unfold putC
    rw [List.map_cons]
    refine List.Perm.cons _ ?_
    have : (x.es.filter (fun e => !decide (e.lab = y))).map keyC = (x.es.map keyC).filter (fun p => !(p.1 == keyB y)) := by
      rw [List.filter_map]
      refine congrArg _ (List.filter_congr (fun e he => ?_))
      show (!decide (e.lab = y)) = !(keyB e.lab == keyB y)
      congr 1
      by_cases e2 : e.lab = y
      · rw [e2]
        simp
      · rw [decide_eq_false e2]
        have : ¬ keyB e.lab = keyB y := fun e3 => e2 (keyB_inj (small_max (h.small e he)) (small_max hy) e3)
        simp [this]
    rw [this]
    exact h.perm.filter _
  · intro e he
    rcases List.mem_cons.1 he with e1 | e1
    · rw [e1]
      exact ownN_only hrow k4 hcb
    · exact old e (filt e e1).1 (filt e e1).2
  · refine List.pairwise_cons.2 ⟨fun e he k h1 h2 => ?_, h.apart.filter _⟩
    rcases hloc k h1 with e2 | e2
    · exact (hs2 k e2).2.2.2 e (filt e he).1 (filt e he).2 h2
    · have := (h.lt k (h.own k (.inr (.inr ⟨e, (filt e he).1, h2⟩))))
      omega
  · refine List.pairwise_cons.2 ⟨fun e he => fun e2 => (filt e he).2 e2.symm, h.labs.filter _⟩
  · intro e he
    rcases List.mem_cons.1 he with e1 | e1
    · rw [e1]
      exact hy
    · exact h.small e (filt e e1).1
  · rintro k (e | e | ⟨e, he, hk⟩)
    · exact .inl (h.own k (.inl e))
    · exact .inl (h.own k (.inr (.inl e)))
    · rcases List.mem_cons.1 he with e1 | e1
      · rw [e1] at hk
        rcases hloc k hk with e2 | e2
        · exact .inl (hs2 k e2).1
        · refine .inr ⟨by omega, ?_⟩
          have := (ownN_lt hrow hk).2
          omega
      · exact .inl (h.own k (.inr (.inr ⟨e, (filt e e1).1, hk⟩)))
  · rintro k (h1 | h1)
    · have := h.lt k h1
      omega
    · exact h1.2
end Go.Proofs.YteknpfldemgmnaaGreat.X
