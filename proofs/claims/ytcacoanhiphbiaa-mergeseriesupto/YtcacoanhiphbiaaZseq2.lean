/-
  The groups of items are what the document's own insertion makes: the fold; ranks of labels.
-/
import Derived.Test.YtcacoanhiphbiaaZseq
import Derived.Test.YtcacoanhiphbiaaZrmrg
namespace Go.Proofs.Ytcacoanhiphbiaa.Ms
open Go.Proofs.Ytcacoanhiphbiaa.N (Labs cmpL cmpL_good)
open Go.Proofs.Ytcacoanhiphbiaa.Mg (cmpZ)
set_option linter.unusedVariables false
set_option linter.unusedSimpArgs false

theorem mput_ne (x : Mg.Smp) : ∀ l : Mg.Smps, Mg.putS x l ≠ []
  | [] => by simp [Mg.putS]
  | y :: r => by
    unfold Mg.putS
    split
    · simp
    · split <;> simp
theorem mrg_nil_iff {l : Mg.Smps} : Mg.mrg l = [] ↔ l = [] := by
  constructor
  · intro h
    rcases List.eq_nil_or_concat l with rfl | ⟨t, x, e⟩
    · rfl
    · rw [List.concat_eq_append] at e
      subst e
      rw [Mg.mrg_put] at h
      exact absurd h (mput_ne _ _)
  · rintro rfl
    rfl
theorem outG_eq {f : Smp} {t : Smps} : outG (f :: t) = if (f :: t).flatMap (fun y => y.2.smps) = [] then none else some (f.2.labs, Mg.mrg ((f :: t).flatMap (fun y => y.2.smps))) := by
  unfold outG
  simp only [mrg_nil_iff]
theorem insD_gt {x : Ser} {l : List Ser} (h : ∀ y ∈ l, 0 < cmpL y.1 x.1) : insD x l = (x.1, Mg.mrg x.2) :: l := by
  cases l with
  | nil => rfl
  | cons y r =>
    have := h y List.mem_cons_self
    rw [insD, if_neg (by omega), if_neg (by omega)]
/-- Items whose ranks are those of their labels. -/
def RkOk (RK : Rank) (x : Smp) : Prop := x.2.labs ∈ RK.ls ∧ RK.rk x.2.labs = x.1
theorem rk_cmp {RK : Rank} {x y : Smp} (hx : RkOk RK x) (hy : RkOk RK y) : cmpL x.2.labs y.2.labs = cmpZ x.1 y.1 := by
  rw [RK.ok _ hx.1 _ hy.1, hx.2, hy.2]
theorem rk_lt {RK : Rank} {x y : Smp} (hx : RkOk RK x) (hy : RkOk RK y) (h : x.1 < y.1) : cmpL x.2.labs y.2.labs < 0 := by
  rw [rk_cmp hx hy]
  unfold cmpZ
  rw [if_pos h]
  decide
theorem rk_gt {RK : Rank} {x y : Smp} (hx : RkOk RK x) (hy : RkOk RK y) (h : y.1 < x.1) : 0 < cmpL x.2.labs y.2.labs := by
  rw [rk_cmp hx hy]
  unfold cmpZ
  rw [if_neg (by omega), if_pos h]
  decide
theorem rk_eq {RK : Rank} {x y : Smp} (hx : RkOk RK x) (hy : RkOk RK y) (h : x.1 = y.1) : cmpL x.2.labs y.2.labs = 0 ∧ x.2.labs = y.2.labs := by
  have h0 : cmpL x.2.labs y.2.labs = 0 := by
    rw [rk_cmp hx hy, h]
    unfold cmpZ
    rw [if_neg (by omega), if_neg (by omega)]
  exact ⟨h0, cmpL_good.zero _ _ h0⟩
theorem outG_lab {RK : Rank} {G : Smps} {s : Ser} (h : outG G = some s) : ∃ f ∈ G, rkG G = f.1 ∧ s.1 = f.2.labs := by
  cases G with
  | nil => cases h
  | cons f t =>
    rw [outG_eq] at h
    split at h
    · cases h
    · simp only [Option.some.injEq] at h
      exact ⟨f, List.mem_cons_self, rfl, by rw [← h]⟩
theorem step_eq {RK : Rank} {x : Smp} (hx : RkOk RK x) : ∀ {Gs : List Smps}, GrpOk Gs → (∀ G ∈ Gs, ∀ y ∈ G, RkOk RK y) → (insG x Gs).filterMap outG = stepD (Gs.filterMap outG) (serI x)
  | [], _, _ => by
    show [[x]].filterMap outG = stepD [] (serI x)
    unfold stepD
    rw [List.filterMap_cons, outG_eq]
    simp only [List.flatMap_cons, List.flatMap_nil, List.append_nil, List.filterMap_nil, serI, insD]
    by_cases h : x.2.smps = []
    · simp [h]
    · simp [h]
  | G :: r, hg, hR => by
    obtain ⟨h1, h2, h3⟩ := grp_cons.1 hg
    have hall := rkG_all h1
    obtain ⟨f, t, rfl⟩ := List.exists_cons_of_ne_nil h1.1
    have hf : RkOk RK f := hR _ List.mem_cons_self f List.mem_cons_self
    have hRr : ∀ G ∈ r, ∀ y ∈ G, RkOk RK y := fun G hG => hR G (List.mem_cons_of_mem _ hG)
    have hrf : rkG (f :: t) = f.1 := rfl
    have hgt : ∀ (b : Int), b ≤ f.1 → ∀ s ∈ r.filterMap outG, RkOk RK x → x.1 = b → 0 < cmpL s.1 x.2.labs := by
      intro b hb s hs hx' he
      obtain ⟨C, hC, hCs⟩ := List.mem_filterMap.1 hs
      obtain ⟨c, hc, _, hcl⟩ := outG_lab (RK := RK) hCs
      rw [hcl]
      exact rk_gt (hRr C hC c hc) hx (by have := h2 C hC f List.mem_cons_self c hc; omega)
    unfold insG
    split
    · rename_i hlt
      rw [hrf] at hlt
      rw [List.filterMap_cons, step_eq hx h3 hRr, List.filterMap_cons]
      cases ho : outG (f :: t) with
      | none => rfl
      | some s =>
        obtain ⟨c, hc, hrc, hcl⟩ := outG_lab (RK := RK) ho
        have hlt2 : cmpL s.1 x.2.labs < 0 := by
          rw [hcl]
          exact rk_lt (hR _ List.mem_cons_self c hc) hx (by rw [← hrc, hrf]; exact hlt)
        unfold stepD serI
        simp only
        split
        · rfl
        · rw [insD, if_pos hlt2]
    · split
      · rename_i h4 heq
        rw [hrf] at heq
        have heq2 := rk_eq hf hx heq
        rw [List.filterMap_cons, List.filterMap_cons, List.cons_append, outG_eq, outG_eq]
        have e : (f :: (t ++ [x])).flatMap (fun y => y.2.smps) = (f :: t).flatMap (fun y => y.2.smps) ++ x.2.smps := by
          rw [← List.cons_append, List.flatMap_append]
          simp
        rw [e]
        generalize (f :: t).flatMap (fun y => y.2.smps) = A
        unfold stepD serI
        by_cases hA : A = []
        · subst hA
          by_cases hs : x.2.smps = []
          · simp [hs]
          · simp only [List.nil_append, if_neg hs, if_true]
            rw [insD_gt (fun s hs' => hgt x.1 (by omega) s hs' hx rfl), heq2.2]
        · have h5 : A ++ x.2.smps ≠ [] := fun e => hA (List.append_eq_nil_iff.1 e).1
          by_cases hs : x.2.smps = []
          · simp [hs, hA]
          · simp only [if_neg hs, if_neg h5, if_neg hA]
            rw [insD, if_neg (by simp only; omega), if_pos heq2.1]
            have := Mg.mrg_left A [] x.2.smps
            simp only [List.append_nil] at this
            simp only [this]
      · rename_i h4 h5
        rw [hrf] at h4 h5
        have hgt2 : ∀ s ∈ ((f :: t) :: r).filterMap outG, 0 < cmpL s.1 x.2.labs := by
          intro s hs
          obtain ⟨C, hC, hCs⟩ := List.mem_filterMap.1 hs
          obtain ⟨c, hc, hrc, hcl⟩ := outG_lab (RK := RK) hCs
          rw [hcl]
          refine rk_gt (hR C hC c hc) hx ?_
          rcases List.mem_cons.1 hC with rfl | hC
          · rw [← hrc, hrf]; omega
          · have := h2 C hC f List.mem_cons_self c hc
            omega
        rw [List.filterMap_cons, outG_eq]
        unfold stepD serI
        simp only [List.flatMap_cons, List.flatMap_nil, List.append_nil]
        by_cases hs : x.2.smps = []
        · simp [hs]
        · simp only [if_neg hs]
          rw [insD_gt hgt2]
/-- What the program tells is what the document's own tells. -/
theorem groups_eq {RK : Rank} (F : Smps) (hR : ∀ x ∈ F, RkOk RK x) {Gs : List Smps} (hg : GrpOk Gs) (he : Gs.flatten = mrg F) : Gs.filterMap outG = (F.map serI).foldl stepD [] := by
  have main : ∀ (l : Smps) (A : List Smps), GrpOk A → (∀ G ∈ A, ∀ y ∈ G, RkOk RK y) → (∀ x ∈ l, RkOk RK x) →
      GrpOk (l.foldl (fun a x => insG x a) A) ∧ (l.foldl (fun a x => insG x a) A).flatten = putAll A.flatten l ∧ (l.foldl (fun a x => insG x a) A).filterMap outG = (l.map serI).foldl stepD (A.filterMap outG) := by
    intro l
    induction l with
    | nil => intro A hA _ _; exact ⟨hA, rfl, rfl⟩
    | cons x l ih =>
      intro A hA hRA hl
      have hx := hl x List.mem_cons_self
      have h2 : ∀ G ∈ insG x A, ∀ y ∈ G, RkOk RK y := fun G hG y hy => by
        rcases insG_mem hG y hy with rfl | ⟨B, hB, hyB⟩
        · exact hx
        · exact hRA B hB y hyB
      have h3 := ih (insG x A) (insG_ok hA) h2 (fun y hy => hl y (List.mem_cons_of_mem _ hy))
      rw [insG_flat hA, step_eq hx hA hRA] at h3
      exact h3
  obtain ⟨h1, h2, h3⟩ := main F [] grp_nil (fun G hG => by cases hG) hR
  have e : Gs = F.foldl (fun a x => insG x a) [] := grp_inj hg h1 (by rw [he, h2]; rfl)
  rw [e, h3]
  rfl
/-- Ranks of labels: how many of a list stand below. -/
def rankOf (ls : List Labs) (a : Labs) : Int := ((ls.filter (fun b => decide (cmpL b a < 0))).length : Nat)
theorem rank_lt {ls : List Labs} {a b : Labs} (ha : a ∈ ls) (h : cmpL a b < 0) : rankOf ls a < rankOf ls b := by
  unfold rankOf
  have hab : cmpL a b = -1 := by
    rcases cmpL_good.rng a b with e | e | e <;> omega
  have key : ∀ l : List Labs, (l.filter (fun c => decide (cmpL c a < 0))).length ≤ (l.filter (fun c => decide (cmpL c b < 0))).length ∧ (a ∈ l → (l.filter (fun c => decide (cmpL c a < 0))).length < (l.filter (fun c => decide (cmpL c b < 0))).length) := by
    intro l
    induction l with
    | nil => exact ⟨Nat.le_refl _, fun h => by cases h⟩
    | cons c l ih =>
      have imp : cmpL c a < 0 → cmpL c b < 0 := fun h1 => by
        have hca : cmpL c a = -1 := by rcases cmpL_good.rng c a with e | e | e <;> omega
        have := cmpL_good.trans c a b hca hab
        omega
      by_cases h1 : cmpL c a < 0
      · have h2 := imp h1
        rw [List.filter_cons_of_pos (by simpa using h1), List.filter_cons_of_pos (by simpa using h2), List.length_cons, List.length_cons]
        refine ⟨by omega, fun hm => ?_⟩
        rcases List.mem_cons.1 hm with rfl | hm
        · have := cmpL_good.self a
          omega
        · have := ih.2 hm
          omega
      · rw [List.filter_cons_of_neg (by simpa using h1)]
        by_cases h2 : cmpL c b < 0
        · rw [List.filter_cons_of_pos (by simpa using h2), List.length_cons]
          exact ⟨by omega, fun _ => by omega⟩
        · rw [List.filter_cons_of_neg (by simpa using h2)]
          refine ⟨ih.1, fun hm => ?_⟩
          rcases List.mem_cons.1 hm with rfl | hm
          · exact absurd h h2
          · exact ih.2 hm
  have := (key ls).2 ha
  omega
theorem rank_ok (ls : List Labs) : ∀ a ∈ ls, ∀ b ∈ ls, cmpL a b = cmpZ (rankOf ls a) (rankOf ls b) := by
  intro a ha b hb
  unfold cmpZ
  rcases cmpL_good.rng a b with e | e | e
  · rw [if_pos (rank_lt ha (by omega)), e]
  · have := cmpL_good.zero _ _ e
    subst this
    rw [if_neg (by omega), if_neg (by omega), e]
  · have h1 : cmpL b a < 0 := by have := cmpL_good.anti a b; omega
    have h2 := rank_lt hb h1
    rw [if_neg (by omega), if_pos h2, e]
/-- The ranks of a list's labels. -/
def mkRank (ls : List Labs) (h : ∀ a ∈ ls, a.length ≤ 1000000) : Rank := ⟨ls, rankOf ls, rank_ok ls, h⟩
end Go.Proofs.Ytcacoanhiphbiaa.Ms
