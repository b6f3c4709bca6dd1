/-
  The groups of items are what the document's own insertion makes.
-/
import Derived.Test.YtcacoanhiphbiaaZsgp
import Derived.Test.YtcacoanhiphbiaaZlaw
namespace Go.Proofs.Ytcacoanhiphbiaa.Ms
open Go.Proofs.Ytcacoanhiphbiaa.N (Labs cmpL cmpL_good)
open Go.Proofs.Ytcacoanhiphbiaa.Mg (cmpZ)
set_option linter.unusedVariables false
set_option linter.unusedSimpArgs false

/-- A series put into others, by its labels. -/
def insD (x : Ser) : List Ser → List Ser
  | [] => [(x.1, Mg.mrg x.2)]
  | y :: r => if cmpL y.1 x.1 < 0 then y :: insD x r else if cmpL y.1 x.1 = 0 then (y.1, Mg.mrg (y.2 ++ x.2)) :: r else (x.1, Mg.mrg x.2) :: y :: r
/-- The document's own: those without samples are left out. -/
def stepD (o : List Ser) (x : Ser) : List Ser := if x.2 = [] then o else insD x o
def serI (x : Smp) : Ser := (x.2.labs, x.2.smps)
def rkG (G : Smps) : Int := (G.headD d0).1
/-- An item put into groups. -/
def insG (x : Smp) : List Smps → List Smps
  | [] => [[x]]
  | G :: r => if rkG G < x.1 then G :: insG x r else if rkG G = x.1 then (G ++ [x]) :: r else [x] :: G :: r
theorem rkG_all {G : Smps} (h : G ≠ [] ∧ ∃ r : Int, ∀ x ∈ G, x.1 = r) : ∀ x ∈ G, x.1 = rkG G := by
  obtain ⟨h0, r, hr⟩ := h
  cases G with
  | nil => exact absurd rfl h0
  | cons y t =>
    intro x hx
    rw [hr x hx]
    exact (hr y List.mem_cons_self).symm
theorem grp_cons {G : Smps} {A : List Smps} : GrpOk (G :: A) ↔ (G ≠ [] ∧ ∃ r : Int, ∀ x ∈ G, x.1 = r) ∧ (∀ B ∈ A, ∀ a ∈ G, ∀ b ∈ B, a.1 < b.1) ∧ GrpOk A := by
  unfold GrpOk
  rw [List.pairwise_cons]
  constructor
  · rintro ⟨h1, h2, h3⟩
    exact ⟨h1 G List.mem_cons_self, h2, fun B hB => h1 B (List.mem_cons_of_mem _ hB), h3⟩
  · rintro ⟨h1, h2, h3, h4⟩
    refine ⟨fun B hB => ?_, h2, h4⟩
    rcases List.mem_cons.1 hB with rfl | hB
    · exact h1
    · exact h3 B hB
theorem insG_mem {x : Smp} : ∀ {Gs : List Smps} {B : Smps}, B ∈ insG x Gs → ∀ b ∈ B, b = x ∨ ∃ G ∈ Gs, b ∈ G
  | [], B, h, b, hb => by
    have : B = [x] := List.mem_singleton.1 h
    subst this
    exact .inl (List.mem_singleton.1 hb)
  | G :: r, B, h, b, hb => by
    unfold insG at h
    split at h
    · rcases List.mem_cons.1 h with rfl | h
      · exact .inr ⟨_, List.mem_cons_self, hb⟩
      · rcases insG_mem h b hb with e | ⟨A, hA, hbA⟩
        · exact .inl e
        · exact .inr ⟨A, List.mem_cons_of_mem _ hA, hbA⟩
    · split at h
      · rcases List.mem_cons.1 h with rfl | h
        · rcases List.mem_append.1 hb with hb | hb
          · exact .inr ⟨G, List.mem_cons_self, hb⟩
          · exact .inl (List.mem_singleton.1 hb)
        · exact .inr ⟨B, List.mem_cons_of_mem _ h, hb⟩
      · rcases List.mem_cons.1 h with rfl | h
        · exact .inl (List.mem_singleton.1 hb)
        · exact .inr ⟨B, h, hb⟩
theorem insG_ok {x : Smp} : ∀ {Gs : List Smps}, GrpOk Gs → GrpOk (insG x Gs)
  | [], h => ⟨fun G hG => by rw [List.mem_singleton.1 hG]; exact ⟨by simp, x.1, fun y hy => by rw [List.mem_singleton.1 hy]⟩, List.pairwise_singleton _ _⟩
  | G :: r, h => by
    obtain ⟨h1, h2, h3⟩ := grp_cons.1 h
    have hall := rkG_all h1
    unfold insG
    split
    · rename_i hlt
      refine grp_cons.2 ⟨h1, fun B hB a ha b hb => ?_, insG_ok h3⟩
      rcases insG_mem hB b hb with rfl | ⟨A, hA, hbA⟩
      · rw [hall a ha]; exact hlt
      · exact h2 A hA a ha b hbA
    · split
      · rename_i h4 heq
        refine grp_cons.2 ⟨⟨by simp, x.1, fun y hy => ?_⟩, fun B hB a ha b hb => ?_, h3⟩
        · rcases List.mem_append.1 hy with hy | hy
          · rw [hall y hy, heq]
          · rw [List.mem_singleton.1 hy]
        · obtain ⟨g, hg⟩ := List.exists_mem_of_ne_nil _ h1.1
          have h5 := h2 B hB g hg b hb
          rw [hall g hg, heq] at h5
          rcases List.mem_append.1 ha with ha | ha
          · exact h2 B hB a ha b hb
          · rw [List.mem_singleton.1 ha]; exact h5
      · rename_i h4 h5
        refine grp_cons.2 ⟨⟨by simp, x.1, fun y hy => by rw [List.mem_singleton.1 hy]⟩, fun B hB a ha b hb => ?_, h⟩
        rw [List.mem_singleton.1 ha]
        obtain ⟨g, hg⟩ := List.exists_mem_of_ne_nil _ h1.1
        rcases List.mem_cons.1 hB with rfl | hB
        · rw [hall b hb]; omega
        · have h6 := h2 B hB g hg b hb
          rw [hall g hg] at h6
          omega
theorem putS_le {x : Smp} : ∀ {G : Smps} (t : Smps), (∀ y ∈ G, y.1 ≤ x.1) → putS x (G ++ t) = G ++ putS x t
  | [], t, _ => rfl
  | y :: G, t, h => by
    rw [List.cons_append, putS, if_pos (h y List.mem_cons_self), putS_le t (fun z hz => h z (List.mem_cons_of_mem _ hz))]
    rfl
theorem putS_gt {x : Smp} : ∀ {t : Smps}, (∀ y ∈ t, x.1 < y.1) → putS x t = x :: t
  | [], _ => rfl
  | y :: t, h => by
    rw [putS, if_neg (by have := h y List.mem_cons_self; omega)]
theorem insG_flat {x : Smp} : ∀ {Gs : List Smps}, GrpOk Gs → (insG x Gs).flatten = putS x Gs.flatten
  | [], _ => by simp [insG, putS]
  | G :: r, h => by
    obtain ⟨h1, h2, h3⟩ := grp_cons.1 h
    have hall := rkG_all h1
    obtain ⟨g, hg⟩ := List.exists_mem_of_ne_nil _ h1.1
    have hgt : ∀ y ∈ r.flatten, rkG G < y.1 := fun y hy => by
      obtain ⟨B, hB, hyB⟩ := List.mem_flatten.1 hy
      have := h2 B hB g hg y hyB
      rw [hall g hg] at this
      exact this
    unfold insG
    rw [List.flatten_cons]
    split
    · rename_i hlt
      rw [List.flatten_cons, insG_flat h3, putS_le _ (fun y hy => by rw [hall y hy]; omega)]
    · split
      · rename_i h4 heq
        rw [List.flatten_cons, putS_le _ (fun y hy => by rw [hall y hy]; omega), putS_gt (fun y hy => by have := hgt y hy; omega)]
        simp
      · rename_i h4 h5
        rw [List.flatten_cons, List.flatten_cons, putS_gt (fun y hy => by
          rcases List.mem_append.1 hy with hy | hy
          · rw [hall y hy]; omega
          · have := hgt y hy; omega)]
        rfl
/-- Groups are told by what they are together. -/
theorem grp_inj : ∀ {A B : List Smps}, GrpOk A → GrpOk B → A.flatten = B.flatten → A = B
  | [], [], _, _, _ => rfl
  | [], H :: B, _, hB, e => by
    have := (grp_cons.1 hB).1.1
    rw [List.flatten_nil, List.flatten_cons] at e
    have := List.append_eq_nil_iff.1 e.symm
    exact absurd this.1 (grp_cons.1 hB).1.1
  | G :: A, [], hA, _, e => by
    rw [List.flatten_nil, List.flatten_cons] at e
    exact absurd (List.append_eq_nil_iff.1 e).1 (grp_cons.1 hA).1.1
  | G :: A, H :: B, hA, hB, e => by
    have key : ∀ {G : Smps} {A : List Smps}, GrpOk (G :: A) → ∀ r, r = rkG G → (G ++ A.flatten).takeWhile (fun x => decide (x.1 = r)) = G := by
      intro G A h r hr
      obtain ⟨h1, h2, h3⟩ := grp_cons.1 h
      have hall := rkG_all h1
      obtain ⟨g, hg⟩ := List.exists_mem_of_ne_nil _ h1.1
      rw [List.takeWhile_append_of_pos (fun x hx => by rw [hall x hx, hr]; simp)]
      cases hf : A.flatten with
      | nil => simp
      | cons y t =>
        have hy : y ∈ A.flatten := by rw [hf]; exact List.mem_cons_self
        obtain ⟨C, hC, hyC⟩ := List.mem_flatten.1 hy
        have := h2 C hC g hg y hyC
        rw [hall g hg] at this
        rw [List.takeWhile_cons_of_neg (by simp; omega), List.append_nil]
    rw [List.flatten_cons, List.flatten_cons] at e
    have hr : rkG G = rkG H := by
      obtain ⟨x, xs, hx⟩ := List.exists_cons_of_ne_nil (grp_cons.1 hA).1.1
      obtain ⟨y, ys, hy⟩ := List.exists_cons_of_ne_nil (grp_cons.1 hB).1.1
      rw [hx, hy] at e ⊢
      simp only [List.cons_append, List.cons.injEq] at e
      show x.1 = y.1
      rw [e.1]
    have h1 := key hA _ rfl
    have h2 := key hB _ rfl
    rw [e, hr, h2] at h1
    subst h1
    rw [grp_inj (grp_cons.1 hA).2.2 (grp_cons.1 hB).2.2 (List.append_cancel_left e)]
end Go.Proofs.Ytcacoanhiphbiaa.Ms
