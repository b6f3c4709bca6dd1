/-
  Olaw, Lread14.
-/
import Derived.Test.YteknpfldemgmnaaGreatQ41
import Derived.Test.YteknpfldemgmnaaGreatQ46
import Derived.Deep.Slices
import Derived.OpenShut
import Derived.ChangeOld

/-
  The law's own small functions; what came in.
-/
namespace Go.Proofs.YteknpfldemgmnaaGreat.Po
open Go.RowKit Go.Proofs.Lys
set_option linter.unusedVariables false

theorem alive_pack : packR [3, 4, 9] = ([3, 3, 0, 4], 0) := by decide +kernel
theorem alive_and : setL 0 [1, 2, 3] [2, 3, 4] = [2, 3] := by decide +kernel
theorem lit_isrc (w : World) (l : List Int) (n : Nat) (hn : l.length = n) (hm : n ≤ 1000) : ISrc (w.alloc (.cells (l.map (Value.int .i64)).toArray 3)) (.slice (some ⟨w.heap.size, 0, none⟩) n n) l := by
  subst hn
  have h := World.ownsRow_lit (base := 0) (size := 1) (e := 3) w (l.map (Value.int .i64)).toArray l.length (Nat.zero_le _) (by unfold maxLen; omega) (by simp)
  exact own_isrc (by simpa using h)

open Go.ChangeShapes in
theorem open_row {H : Type} {enc : TypeId × Value → H} {w : World} {spare : Nat → Bool} {held : Bool} {base : Nat} {a0 : Option Addr} {len0 cap0 : Nat} {x : DataW H × List MemPlace} {t e : TypeId} {k : IntKind} (ht : Tryz.prog.underlying t = some (.slice e)) (he : Tryz.prog.underlying e = some (.int k)) (hc : Tryz.prog.cellsOf e = 1)
    (h : ∃ m, DataW.trod enc Tryz.prog w base spare held m t (Value.slice a0 len0 cap0).cells.toList = some x) : ∃ zs : List Int, SrcOf w (.slice a0 len0 cap0) (zs.map (Value.int k)) ∧ zs.length = len0 ∧ len0 ≤ cap0 ∧ cap0 ≤ maxLen ∧ ∀ n ∈ zs, (Lit.int k n).wf = true := by
  obtain ⟨fuel, hf⟩ := h
  rcases open_ints ht he hc hf with ⟨hcs, _⟩ | ⟨a, l, c, zs, hcs, _, hl, hm, hz, _, hcell, hwz⟩
  · simp [Value.cells] at hcs
    obtain ⟨rfl, rfl, rfl⟩ := hcs
    exact ⟨[], .inl ⟨rfl, rfl⟩, rfl, Nat.le_refl _, Nat.zero_le _, by simp⟩
  · simp [Value.cells] at hcs
    obtain ⟨rfl, rfl, rfl⟩ := hcs
    have hzl : len0 ≤ zs.length := by rw [hz]; split <;> omega
    have hlen : (zs.take len0).length = len0 := by rw [List.length_take]; omega
    refine ⟨zs.take len0, .inr ⟨a, cap0, by rw [List.length_map, hlen], fun j u hu => ?_⟩, hlen, hl, hm, fun n hn => hwz n (List.mem_of_mem_take hn)⟩
    rw [List.getElem?_map, List.getElem?_take] at hu
    split at hu
    · rw [List.getElem?_eq_getElem (by omega)] at hu
      cases hu
      rw [hcell j (by omega), List.getD_eq_getElem?_getD, List.getElem?_eq_getElem (by omega)]
      rfl
    · cases hu
/-- Numbers, and bytes, that came in. -/
def IIn (w : World) (v : Value) (l : List Int) : Prop := ISrc w v l ∧ l.length ≤ 9223372036854775807
def BIn (w : World) (v : Value) (l : List UInt8) : Prop := BSrc w v l ∧ l.length ≤ 9223372036854775807
theorem open_isrc {H : Type} {enc : TypeId × Value → H} {w : World} {spare : Nat → Bool} {held : Bool} {base : Nat} {a0 : Option Addr} {len0 cap0 : Nat} {x : DataW H × List MemPlace}
    (h : ∃ m, DataW.trod enc Tryz.prog w base spare held m 45 (Value.slice a0 len0 cap0).cells.toList = some x) : ∃ l : List Int, IIn w (.slice a0 len0 cap0) l := by
  obtain ⟨zs, h1, h2, h3, h4, _⟩ := open_row Tryz.underlying45 Tryz.underlying3 (by kernel_rfl) h
  have hm : maxLen = 9223372036854775807 := by decide
  exact ⟨zs, ⟨h1, a0, cap0, by rw [h2], by omega⟩, by omega⟩
theorem open_bsrc {H : Type} {enc : TypeId × Value → H} {w : World} {spare : Nat → Bool} {held : Bool} {base : Nat} {a0 : Option Addr} {len0 cap0 : Nat} {x : DataW H × List MemPlace}
    (h : ∃ m, DataW.trod enc Tryz.prog w base spare held m 30 (Value.slice a0 len0 cap0).cells.toList = some x) : ∃ bs : List UInt8, BIn w (.slice a0 len0 cap0) bs := by
  obtain ⟨zs, h1, h2, h3, h4, h5⟩ := open_row Tryz.underlying30 Tryz.underlying5 (by kernel_rfl) h
  obtain ⟨bs, hl, hb⟩ := bytes_src h1 h5
  have hm : maxLen = 9223372036854775807 := by decide
  exact ⟨bs, ⟨hb, a0, cap0, by rw [hl, h2], by omega⟩, by omega⟩
end Go.Proofs.YteknpfldemgmnaaGreat.Po

/-
  Which list stands at the beginning of all bytes, by the code and by the document.
-/
namespace Go.Proofs.YteknpfldemgmnaaGreat.Po
open Go.RowKit Go.Proofs.Lys
set_option linter.unusedVariables false

/-- A copy in new memory, by append to none. -/
theorem copy_bytes {w : World} {v : Value} {bs : List UInt8} (h : SrcOf w v (bs.map bV)) (hl : bs.length ≤ 100000000) :
    ∃ v' w', Hid ((Builtin.append_ #[30, 30] 0 #[.slice none 0 0, v]).run Tryz.prog w = .ok v' w') ∧ w'.ownsRow w.heap.size 5 1 v' bs.length (bs.map bV) ∧ Kept w w' := by
  obtain ⟨v', w', hrun, hown, hg, _⟩ := append_src (P := Tryz.prog) Tryz.underlying30 Tryz.infoB rfl (by decide) (World.ownsRow_nil w w.heap.size 5 1) h (bytes_one bs) (by simp; omega) (Nat.le_refl _)
  refine ⟨v', w', hrun, ?_, (Only.refl _ w).grown hg (fun k e _ => by cases e)⟩
  simpa using hown
theorem copy_ints {w : World} {v : Value} {l : List Int} (h : SrcOf w v (l.map (Value.int .i64))) (hl : l.length ≤ 100000000) :
    ∃ v' w', Hid ((Builtin.append_ #[45, 45] 0 #[.slice none 0 0, v]).run Tryz.prog w = .ok v' w') ∧ w'.ownsRow w.heap.size 3 1 v' l.length (l.map (Value.int .i64)) ∧ Kept w w' := by
  obtain ⟨v', w', hrun, hown, hg, _⟩ := append_src (P := Tryz.prog) Tryz.underlying45 infoI6 rfl (by decide) (World.ownsRow_nil w w.heap.size 3 1) h (ints_one l) (by simp; omega) (Nat.le_refl _)
  refine ⟨v', w', hrun, ?_, (Only.refl _ w).grown hg (fun k e _ => by cases e)⟩
  simpa using hown

theorem rd_short : ∀ (n : Nat) (last : Int) (acc : List Int) (at_ : Nat) (bs : List UInt8) (l : List Int) (k : Nat), rdA n last acc at_ bs = some (l, k) → l.length = acc.length + n := by
  intro n
  induction n with
  | zero =>
    intro last acc at_ bs l k h
    rw [rdA] at h
    simp only [Option.some.injEq, Prod.mk.injEq] at h
    rw [← h.1]
    rfl
  | succ n ih =>
    intro last acc at_ bs l k h
    cases hn : numB bs with
    | none =>
      rw [rd_none hn] at h
      cases h
    | some q =>
      obtain ⟨d, j⟩ := q
      by_cases h2 : last + d + 1 < 1099511627776
      · rw [rd_go hn h2] at h
        have := ih _ _ _ _ _ _ h
        simp at this
        omega
      · rw [rd_high hn h2] at h
        cases h
theorem read_short {bs : List UInt8} {l : List Int} {k : Nat} (h : readR bs = some (l, k)) : l.length ≤ 1000000 := by
  unfold readR at h
  cases hn : numB bs with
  | none =>
    rw [hn] at h
    cases h
  | some q =>
    obtain ⟨c, j⟩ := q
    rw [hn] at h
    simp only at h
    by_cases hc : c ≤ 10000
    · rw [if_pos hc] at h
      have := rd_short _ _ _ _ _ _ _ h
      simp at this
      omega
    · rw [if_neg hc] at h
      cases h

end Go.Proofs.YteknpfldemgmnaaGreat.Po
