/-
  The document's own disk: put.
-/
import Derived.Test.YtpjedcfdchebgaaEdrop
import Derived.WideAt
namespace Go.Proofs.Ytpjedcfdchebgaa
open Go.RowKit Go.Proofs.Lys Go.Maps Go.Shelf
set_option linter.unusedVariables false

theorem EntSrc.cell {w : World} {a : Option Addr} {c M : Nat} {l : DDir} (h : EntSrc w (.slice a M c) l) (hM : l.length = M) (k : Nat) (hk : k < M) : ∃ b o, a = some ⟨b, o, none⟩ ∧ w.cell? ⟨b, o + k * 2, none⟩ = some (nmV (l[k]'(by omega)).1) ∧ w.cell? ⟨b, o + k * 2 + 1, none⟩ = some (.int .i64 ((l[k]'(by omega)).2 : Int)) := by
  rcases h with ⟨a, c, e, e2⟩ | ⟨hpos, b, o, c, e1, hc⟩
  · subst e2
    simp at hM
    omega
  · rw [hM] at e1
    cases e1
    exact ⟨b, o, rfl, (hc k (by omega)).1, (hc k (by omega)).2⟩

/-- Where a name that is not there comes in. -/
theorem ins_at (x : List UInt8 × Nat) (l : DDir) (k : Nat) (hk : k ≤ l.length) (h1 : ∀ j (hj : j < l.length), j < k → bytesBefore l[j].1 x.1 = true) (h2 : ∀ hj : k < l.length, bytesBefore l[k].1 x.1 = false) (hne : ∀ p ∈ l, p.1 ≠ x.1) : DD.ins x l = l.take k ++ x :: l.drop k := by
  induction l generalizing k with
  | nil =>
    have : k = 0 := by simpa using hk
    subst this
    rfl
  | cons y r ih =>
    cases k with
    | zero =>
      have hb := h2 (by simp)
      have hy : bytesBefore x.1 y.1 = true := by
        rcases WideAt.bytes_total y.1 x.1 (hne y (by simp)) with e | e
        · exact absurd (e.symm.trans hb) (by decide)
        · exact e
      unfold DD.ins
      rw [if_pos hy]
      rfl
    | succ k =>
      have hb := h1 0 (by simp) (by omega)
      have hy : bytesBefore x.1 y.1 = false := by
        cases h : bytesBefore x.1 y.1 with
        | false => rfl
        | true =>
          have := WideShapes.bytes_trans x.1 y.1 x.1 h hb
          rw [WideAt.bytes_irrefl] at this
          cases this
      unfold DD.ins
      rw [if_neg (by rw [hy]; decide), ih k (by simpa using hk) (fun j hj hjk => h1 (j + 1) (by simpa using hj) (by omega)) (fun hj => h2 (by simpa using hj)) (fun p hp => hne p (List.mem_cons_of_mem _ hp))]
      rfl

/-- A row of entries in two. -/
theorem ent_cut {w : World} {B : Nat} {v : Value} {l : DDir} (h : EntAt w B v l) (k : Nat) (hk : k ≤ l.length) :
    ∃ a1 c1 a2 c2, (∀ W, (Instr.sliceAt 67 v none (some (.int .i64 (k : Int))) none).run Try.prog W = .ok (.slice a1 k c1) W) ∧ EntSrc w (.slice a1 k c1) (l.take k) ∧ (∀ W, (Instr.sliceAt 67 v (some (.int .i64 (k : Int))) none none).run Try.prog W = .ok (.slice a2 (l.length - k) c2) W) ∧ EntSrc w (.slice a2 (l.length - k) c2) (l.drop k) := by
  have ht := Try.underlying67
  rcases h.2 with ⟨rfl, h0⟩ | ⟨g, cap, cur, rfl, hb, hg, hnc, hcm, hcs, htake⟩
  · have hl : l = [] := List.length_eq_zero_iff.1 h0
    subst hl
    have hk0 : k = 0 := by simpa using hk
    subst hk0
    exact ⟨none, 0, none, 0, fun W => by kernel_rfl, .inl ⟨_, _, rfl, rfl⟩, fun W => by kernel_rfl, .inl ⟨_, _, rfl, rfl⟩⟩
  · have hs := h.src
    have hkc : k ≤ cap := by omega
    refine ⟨some ⟨g, 0, none⟩, cap, some (if cap = k then ⟨g, 0, none⟩ else ⟨g, k * 2, none⟩), cap - k, fun W => ?_, ?_, fun W => ?_, ?_⟩
    · simp [Instr.sliceAt, Instr.slice, Instr.sliceBounds, Instr.sliceBound, run_underlying ht, asIntOf, hkc, Addr.add, Result.andThen]
    · rcases hs with ⟨a, c, e, e2⟩ | ⟨hpos, b, o, c, e1, hc⟩
      · subst e2
        have hk0 : k = 0 := by simpa using hk
        subst hk0
        exact .inl ⟨_, _, rfl, rfl⟩
      · cases e1
        by_cases hk0 : k = 0
        · subst hk0
          exact .inl ⟨_, _, rfl, rfl⟩
        · have hlt : (l.take k).length = k := by rw [List.length_take]; omega
          refine .inr ⟨by omega, g, 0, cap, by rw [hlt], fun i hi => ?_⟩
          rw [List.getElem_take]
          exact hc i (by omega)
    · simp [Instr.sliceAt, Instr.slice, Instr.sliceBounds, Instr.sliceBound, run_underlying ht, asIntOf, hk, Addr.add, Result.andThen]
      by_cases hck : cap = k
      · rw [if_pos hck, if_pos hck]
      · rw [if_neg hck, if_neg hck]
        by_cases hk0 : k * 2 = 0
        · rw [if_pos hk0, hk0]
        · rw [if_neg hk0]
    · by_cases hkl : k = l.length
      · subst hkl
        rw [Nat.sub_self, List.drop_length]
        exact .inl ⟨_, _, rfl, rfl⟩
      · rcases hs with ⟨a, c, e, e2⟩ | ⟨hpos, b, o, c, e1, hc⟩
        · subst e2
          simp at hk hkl
          omega
        · cases e1
          have hlt : (l.drop k).length = l.length - k := List.length_drop
          refine .inr ⟨by omega, g, k * 2, cap - k, by rw [hlt, if_neg (by omega)], fun i hi => ?_⟩
          rw [List.getElem_drop]
          have := hc (k + i) (by omega)
          rw [Nat.zero_add, Nat.add_mul] at this
          exact this

/-- The three rows that put lays. -/
theorem put_rows {w : World} {B : Nat} {v : Value} {l : DDir} (h : EntAt w B v l) (hl : l.length ≤ 100000) (k : Nat) (hk : k ≤ l.length) (x : List UInt8 × Nat) :
    ∃ a1 c1 a2 c2 a3 c3 w2 g4 c4 w3 g5 c5 w4,
      Hid (∀ W, (Instr.sliceAt 67 v none (some (.int .i64 (k : Int))) none).run Try.prog W = .ok (.slice a1 k c1) W) ∧
      Hid (∀ W, (Instr.sliceAt 67 v (some (.int .i64 (k : Int))) none none).run Try.prog W = .ok (.slice a2 (l.length - k) c2) W) ∧
      Hid ((Builtin.append_ #[67, 67] 0 #[.slice none 0 0, .slice a1 k c1]).run Try.prog w = .ok (.slice a3 k c3) w2) ∧
      Hid ((Builtin.append_ #[67, 67] 0 #[.slice a3 k c3, .slice (some ⟨w2.heap.size, 0, none⟩) 1 1]).run Try.prog (w2.alloc (.cells #[.string ⟨x.1.toArray⟩, .int .i64 (x.2 : Int)] 82)).drew = .ok (.slice (some ⟨g4, 0, none⟩) (k + 1) c4) w3) ∧
      Hid ((Builtin.append_ #[67, 67] 0 #[.slice (some ⟨g4, 0, none⟩) (k + 1) c4, .slice a2 (l.length - k) c2]).run Try.prog w3 = .ok (.slice (some ⟨g5, 0, none⟩) (l.length + 1) c5) w4) ∧
      Hid (EntAt w4 w.heap.size (.slice (some ⟨g5, 0, none⟩) (l.length + 1) c5) (l.take k ++ x :: l.drop k)) ∧ Hid (Kept w w4) := by
  obtain ⟨a1, c1, a2, c2, s1, e1, s2, e2⟩ := ent_cut h k hk
  have hlt : (l.take k).length = k := by rw [List.length_take]; omega
  have hld : (l.drop k).length = l.length - k := List.length_drop
  have hnil : EntAt w w.heap.size (.slice none 0 0) [] := ⟨rfl, .inl ⟨rfl, rfl⟩⟩
  obtain ⟨v3, w2, r3, o3, g3, _⟩ := ent_append hnil e1 (by rw [hlt]; simp; omega) (Nat.le_refl _)
  rw [List.nil_append] at o3
  have o3' := o3
  obtain ⟨a3, c3, rfl⟩ := ownN_slice o3
  rw [hlt] at r3 o3
  have k2 : Kept w w2 := (Only.refl _ w).grown g3 (fun j hj => by cases hj)
  have k2a : Kept w (w2.alloc (.cells #[nmV x.1, .int .i64 (x.2 : Int)] 82)).drew := (k2.alloc _).drew
  have ka : Kept w2 (w2.alloc (.cells #[nmV x.1, .int .i64 (x.2 : Int)] 82)).drew := ((Only.refl _ w2).alloc _).drew
  obtain ⟨v4, w3, r4, o4, g4, _⟩ := ent_append (ownN_stay o3' ka) ((ent_lit w2 x).stay (Only.refl _ _).drew) (by rw [hlt]; simp; omega) (Nat.le_trans k2.size ka.size)
  have o4' := o4
  obtain ⟨g4b, c4, rfl⟩ := ownN_some o4 (by simp)
  have h4 : (l.take k ++ [x]).length = k + 1 := by rw [List.length_append, hlt]; rfl
  rw [h4] at r4
  rw [hlt] at r4 g4
  have k3 : Kept w w3 := k2a.grown g4 (fun j hj hjl => by rw [hlt] at o3'; have := (ownN_lt o3' hj).1; omega)
  obtain ⟨v5, w4, r5, o5, g5, _⟩ := ent_append o4' (e2.stay k3) (by rw [h4, hld]; omega) k3.size
  have o5' := o5
  obtain ⟨g5b, c5, rfl⟩ := ownN_some o5 (by simp; omega)
  have h5 : (l.take k ++ [x] ++ l.drop k).length = l.length + 1 := by rw [List.length_append, h4, hld]; omega
  rw [h5] at r5 o5
  rw [h4] at r5 g5 o4'
  have k4 : Kept w w4 := k3.grown g5 (fun j hj hjl => by have := (ownN_lt o4' hj).1; omega)
  refine ⟨a1, c1, a2, c2, a3, c3, w2, g4b, c4, w3, g5b, c5, w4, s1, s2, r3, r4, r5, ?_, k4⟩
  show EntAt _ _ _ _
  rw [h5] at o5'
  have e : l.take k ++ [x] ++ l.drop k = l.take k ++ x :: l.drop k := by simp
  rw [e] at o5'
  exact o5'
end Go.Proofs.Ytpjedcfdchebgaa
