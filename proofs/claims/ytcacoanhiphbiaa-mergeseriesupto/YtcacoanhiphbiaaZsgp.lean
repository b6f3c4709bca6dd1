/-
  Series: the groups of items that are put together.
-/
import Derived.Test.YtcacoanhiphbiaaZsown
import Derived.Test.YtcacoanhiphbiaaZsamp
namespace Go.Proofs.Ytcacoanhiphbiaa.Ms
open Go Go.RowKit Go.Proofs.Lys
open Go.Proofs.Ytcacoanhiphbiaa.N (Labs LabAt LabSrc)
set_option linter.unusedVariables false
set_option linter.unusedSimpArgs false

/-- How many items a heap has in memory. -/
def restN (hb : Nat) (w : World) : Nat :=
  match w.cell? ⟨hb, 0, none⟩ with
  | some (.slice (some ⟨g, _, _⟩) n _) => ((List.range n).map (fun i => match w.cell? ⟨g, i * 2, none⟩ with | some (.slice _ k _) => k | _ => 0)).sum
  | _ => 0
theorem flat_sum (h : List Run) : (flat h).length = (h.map (fun r => r.2.1.length)).sum := by
  induction h with
  | nil => rfl
  | cons r t ih => rw [flat_cons, List.length_append, ih, List.map_cons, List.sum_cons]
theorem restN_eq {RK : Rank} {w0 : World} {hb : Nat} {h : List Run} {a : Option Addr} {c : Nat} {w : World} (H : HeapC RK w0 hb h a c w) : restN hb w = (flat h).length := by
  have h0 : w.cell? ⟨hb, 0, none⟩ = some (.slice a h.length c) := H.blk.cell 0 rfl
  by_cases hz : h.length = 0
  · have : h = [] := List.length_eq_zero_iff.1 hz
    subst this
    unfold restN
    rw [h0]
    cases a with
    | none => rfl
    | some p => rfl
  · obtain ⟨g, rfl, hW⟩ := H.toW (by omega)
    unfold restN
    rw [h0]
    simp only
    rw [flat_sum]
    congr 1
    apply List.ext_getElem?
    intro i
    rw [List.getElem?_map, List.getElem?_map]
    by_cases hi : i < h.length
    · rw [List.getElem?_eq_getElem (by simpa using hi), List.getElem?_eq_getElem hi]
      simp only [List.getElem_range, Option.map_some]
      obtain ⟨a1, c1, e, _⟩ := (hW.src _ (List.getElem_mem hi)).2
      rw [(hW.cells hi).1, e]
    · rw [List.getElem?_eq_none (by simpa using hi), List.getElem?_eq_none (by omega)]
      rfl
theorem HeapC.only {RK : Rank} {w0 : World} {hb : Nat} {h : List Run} {a : Option Addr} {c : Nat} {w w' : World} {O : Nat → Prop} (H : HeapC RK w0 hb h a c w) (k : Only O w w') (hO : ∀ q, O q → w0.heap.size ≤ q ∧ q ≠ hb ∧ (Value.slice a h.length c).ownBlock ≠ some q) : HeapC RK w0 hb h a c w' :=
  ⟨Only.blk k H.blk (fun e => (hO _ e).2.1 rfl), ownN_only H.row k (fun b hb' e => (hO b e).2.2 hb'), H.src, H.kept.trans k (fun j hj e => by have := (hO j e).1; omega), H.base⟩
theorem flat_le {h : List Run} (hne : ∀ r ∈ h, r.2.1 ≠ []) : h.length ≤ (flat h).length := by
  induction h with
  | nil => exact Nat.le_refl _
  | cons r t ih =>
    rw [flat_cons, List.length_append, List.length_cons]
    have h1 := ih (fun r hr => hne r (List.mem_cons_of_mem _ hr))
    have h2 := List.length_pos_iff.2 (hne r List.mem_cons_self)
    omega


/-- Groups: each of one rank, the ranks rise. -/
def GrpOk (Gs : List Smps) : Prop := (∀ G ∈ Gs, G ≠ [] ∧ ∃ r : Int, ∀ x ∈ G, x.1 = r) ∧ Gs.Pairwise (fun A B => ∀ a ∈ A, ∀ b ∈ B, a.1 < b.1)
/-- What a group leaves: the labels of its first, its samples put together; nothing, if it has none. -/
def outG (G : Smps) : Option Ser := match G with
  | [] => none
  | x :: t => if Mg.mrg ((x :: t).flatMap (fun y => y.2.smps)) = [] then none else some (x.2.labs, Mg.mrg ((x :: t).flatMap (fun y => y.2.smps)))
theorem grp_nil : GrpOk [] := ⟨fun G h => (by cases h), List.Pairwise.nil⟩
theorem grp_app {Gs : List Smps} {G : Smps} (h : GrpOk Gs) (h0 : G ≠ []) (r : Int) (hr : ∀ x ∈ G, x.1 = r) (hl : ∀ y ∈ Gs.flatten, y.1 < r) : GrpOk (Gs ++ [G]) := by
  refine ⟨fun A hA => ?_, ?_⟩
  · rcases List.mem_append.1 hA with hA | hA
    · exact h.1 A hA
    · rw [List.mem_singleton.1 hA]
      exact ⟨h0, r, hr⟩
  · rw [List.pairwise_append]
    refine ⟨h.2, List.pairwise_singleton _ _, fun A hA B hB a ha b hb => ?_⟩
    rw [List.mem_singleton.1 hB] at hb
    rw [hr b hb]
    exact hl a (List.mem_flatten.2 ⟨A, hA, ha⟩)
theorem SerAt.apartT {w w' : World} {B : Nat} {v : Value} {xs : List SV} {O : Nat → Prop} (h : SerAt w B v xs) (k : Only O w w') (hO : ∀ j, Typed w j 29 ∨ Typed w j 45 ∨ Typed w j 36 → ¬ O j) : SerAt w' B v xs :=
  ⟨ownN_only h.row k (fun b hb => hO b (.inl (ownN_typed h.row hb))), fun x hx => N.ownN_only (h.lab x hx) k (fun b hb => hO b (.inr (.inl (N.ownN_typed (h.lab x hx) hb)))), fun x hx => ownN_only (h.smp x hx) k (fun b hb => hO b (.inr (.inr (ownN_typed (h.smp x hx) hb)))), h.apart⟩
/-- How many samples items have. -/
def wsum (l : Smps) : Nat := (l.map (fun y => y.2.smps.length)).sum
theorem wsum_cons (x : Smp) (l : Smps) : wsum (x :: l) = x.2.smps.length + wsum l := by simp [wsum]
theorem wsum_app (a b : Smps) : wsum (a ++ b) = wsum a + wsum b := by simp [wsum]
theorem wsum_put (x : Smp) (l : Smps) : wsum (putS x l) = x.2.smps.length + wsum l := by
  induction l with
  | nil => rfl
  | cons y r ih =>
    rw [putS]
    split
    · rw [wsum_cons, ih, wsum_cons]; omega
    · rw [wsum_cons]
theorem wsum_all (l : Smps) : ∀ o, wsum (putAll o l) = wsum o + wsum l := by
  induction l with
  | nil => intro o; rfl
  | cons x r ih => intro o; rw [putAll_cons, ih, wsum_put, wsum_cons]; omega
theorem wsum_mrg (l : Smps) : wsum (mrg l) = wsum l := by
  have h := wsum_all l []
  have e : mrg l = putAll [] l := rfl
  rw [e, h]
  show 0 + _ = _
  omega
theorem MrgI.weight {h : List Run} {out F : Smps} (hM : MrgI h out (mrg F)) : wsum out ≤ wsum F := by
  obtain ⟨rem, _, _, _, ht, _⟩ := hM.rest
  have h1 := wsum_all (flat rem) out
  rw [ht, wsum_mrg] at h1
  omega
theorem flat_smps (G : Smps) : ((G.map (fun y => y.2.smps)).flatten).length = wsum G := by
  unfold wsum
  rw [List.length_flatten, List.map_map]
  rfl
theorem outG_some {f : Smp} {G' : Smps} {s : Mg.Smps} (hs : Mg.mrg (((f :: G').map (fun y => y.2.smps)).flatten) = s) (h0 : s ≠ []) : outG (f :: G') = some (f.2.labs, s) := by
  unfold outG
  have e : (f :: G').flatMap (fun y => y.2.smps) = ((f :: G').map (fun y => y.2.smps)).flatten := by rw [List.flatMap_def]
  simp only
  rw [e, hs, if_neg h0]
theorem outG_none {f : Smp} {G' : Smps} (hs : Mg.mrg (((f :: G').map (fun y => y.2.smps)).flatten) = []) : outG (f :: G') = none := by
  unfold outG
  have e : (f :: G').flatMap (fun y => y.2.smps) = ((f :: G').map (fun y => y.2.smps)).flatten := by rw [List.flatMap_def]
  simp only
  rw [e, hs, if_pos rfl]
/-- What Series tells. -/
def SerP (w : World) (F : Smps) (e : Ending) (w' : World) : Prop := ∃ u Gs qs, e = .returned u ∧ GrpOk Gs ∧ Gs.flatten = mrg F ∧ SerAt w' w.heap.size u qs ∧ qs.map SV.ser = Gs.filterMap outG ∧ Kept w w'
/-- The heads stand behind what is out. -/
def HeadB (h : List Run) (P : Smps) : Prop := ∀ v x xs p t, h = (v, x :: xs, p) :: t → ∀ y ∈ P, y.1 < x.1
end Go.Proofs.Ytcacoanhiphbiaa.Ms
