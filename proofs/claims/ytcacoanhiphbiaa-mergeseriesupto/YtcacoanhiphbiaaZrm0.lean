/-
  The document's own MergeSeries: what its steps make of rows.
-/
import Derived.Test.YtcacoanhiphbiaaZsv
import Derived.BigQuiet
import Derived.Deep.QuietTactic
namespace Go.Proofs.Ytcacoanhiphbiaa.Ms
open Go Go.RowKit Go.Proofs.Lys Go.Maps
open Go.Proofs.Ytcacoanhiphbiaa.N (Labs LabAt LabSrc cmpL)
set_option linter.unusedVariables false
set_option linter.unusedSimpArgs false

theorem insD_at (x : Ser) : ∀ (l : List Ser) (k : Nat), k ≤ l.length → (∀ j (h : j < l.length), j < k → cmpL l[j].1 x.1 < 0) →
    (∀ h : k < l.length, cmpL l[k].1 x.1 = 0 → insD x l = l.take k ++ (l[k].1, Mg.mrg (l[k].2 ++ x.2)) :: l.drop (k + 1)) ∧
    ((k = l.length ∨ ∃ h : k < l.length, 0 < cmpL l[k].1 x.1) → insD x l = l.take k ++ (x.1, Mg.mrg x.2) :: l.drop k)
  | [], k, hk, hb => by
    have : k = 0 := by simpa using hk
    subst this
    exact ⟨fun h => absurd h (Nat.lt_irrefl 0), fun _ => rfl⟩
  | y :: l, 0, hk, hb => by
    refine ⟨fun h h0 => ?_, fun h => ?_⟩
    · have h0' : cmpL y.1 x.1 = 0 := h0
      rw [insD, if_neg (by omega), if_pos h0']
      rfl
    · rcases h with h | ⟨h, h1⟩
      · simp at h
      · have h1' : 0 < cmpL y.1 x.1 := h1
        rw [insD, if_neg (by omega), if_neg (by omega)]
        rfl
  | y :: l, k + 1, hk, hb => by
    have hy : cmpL y.1 x.1 < 0 := hb 0 (by simp) (by omega)
    obtain ⟨i1, i2⟩ := insD_at x l k (by simpa using hk) (fun j hj hjk => hb (j + 1) (by simpa using hj) (by omega))
    refine ⟨fun h h0 => ?_, fun h => ?_⟩
    · rw [insD, if_pos hy, i1 (by simpa using h) h0]
      rfl
    · rw [insD, if_pos hy, i2 (by
        rcases h with h | ⟨h, h1⟩
        · exact .inl (by simpa using h)
        · exact .inr ⟨by simpa using h, h1⟩)]
      rfl
theorem svL_set (l : List SV) (i : Nat) (h : i < l.length) (v : Value) (s : Mg.Smps) : (svL l).set (i * 2 + 1) v = svL (l.set i ⟨l[i].lv, v, l[i].labs, s⟩) := by
  induction l generalizing i with
  | nil => simp at h
  | cons q r ih =>
    cases i with
    | zero => rfl
    | succ i =>
      rw [show (i + 1) * 2 + 1 = i * 2 + 1 + 1 + 1 by omega]
      show _ = svL (q :: r.set i _)
      rw [svL, svL, List.set_cons_succ, List.set_cons_succ, ih i (by simpa using h)]
      rfl
theorem SV.has_lv {x : SV} {k : Nat} (h : x.lv.ownBlock = some k) : x.has k := .inl h
/-- A series gets other samples. -/
theorem SerAt.set {w : World} {B g n cap : Nat} {qs : List SV} (h : SerAt w B (.slice (some ⟨g, 0, none⟩) n cap) qs) {k : Nat} (hk : k < qs.length) {sv : Value} {s : Mg.Smps} (hs : SmpAt w B sv s) (hf : ∀ j, sv.ownBlock = some j → ∀ y ∈ qs, ¬ y.has j) :
    SerAt (w.setCell ⟨g, k * 2 + 1, none⟩ sv) B (.slice (some ⟨g, 0, none⟩) n cap) (qs.set k ⟨qs[k].lv, sv, qs[k].labs, s⟩) ∧ (qs.set k ⟨qs[k].lv, sv, qs[k].labs, s⟩).map SV.ser = (qs.map SV.ser).take k ++ (qs[k].labs, s) :: (qs.map SV.ser).drop (k + 1) := by
  have hn : n = qs.length := by
    obtain ⟨_, _, e⟩ := ownN_slice h.row
    injection e
  subst hn
  have hO : Only (fun j => j = g) w (w.setCell ⟨g, k * 2 + 1, none⟩ sv) := (Only.refl (fun j => j = g) w).setCell (p := ⟨g, k * 2 + 1, none⟩) (fun _ => rfl) _
  have hg := ownN_typed h.row rfl
  have hl : ∀ x ∈ qs, LabAt (w.setCell ⟨g, k * 2 + 1, none⟩ sv) B x.lv x.labs := fun x hx => N.ownN_only (h.lab x hx) hO (fun b hb e => (Typed.ne (N.ownN_typed (h.lab x hx) hb) hg (by decide)) e)
  have hm : ∀ x ∈ qs, SmpAt (w.setCell ⟨g, k * 2 + 1, none⟩ sv) B x.sv x.smps := fun x hx => ownN_only (h.smp x hx) hO (fun b hb e => (Typed.ne (ownN_typed (h.smp x hx) hb) hg (by decide)) e)
  have hs2 : SmpAt (w.setCell ⟨g, k * 2 + 1, none⟩ sv) B sv s := ownN_only hs hO (fun b hb e => (Typed.ne (ownN_typed hs hb) hg (by decide)) e)
  refine ⟨⟨?_, fun x hx => ?_, fun x hx => ?_, ?_⟩, ?_⟩
  · have h1 := (h.row.stored (k * 2 + 1) sv).1
    rw [svL_set qs k hk sv s] at h1
    rw [List.length_set]
    exact h1
  · rcases List.mem_or_eq_of_mem_set hx with hx | rfl
    · exact hl x hx
    · have := hl qs[k] (List.getElem_mem hk)
      exact this
  · rcases List.mem_or_eq_of_mem_set hx with hx | rfl
    · exact hm x hx
    · exact hs2
  · rw [List.pairwise_iff_getElem]
    intro i j hi hj hij q hq
    rw [List.length_set] at hi hj
    have ha := List.pairwise_iff_getElem.1 h.apart
    simp only [List.getElem_set] at hq ⊢
    by_cases e1 : k = i
    · subst e1
      rw [if_pos rfl] at hq
      rw [if_neg (by omega)]
      rcases hq with hq | hq
      · exact ha k j hi hj hij q (.inl hq)
      · exact hf q hq _ (List.getElem_mem hj)
    · rw [if_neg e1] at hq
      by_cases e2 : k = j
      · subst e2
        rw [if_pos rfl]
        rintro (h1 | h1)
        · exact ha i k hi hj hij q hq (.inl h1)
        · exact hf q h1 _ (List.getElem_mem hi) hq
      · rw [if_neg e2]
        exact ha i j hi hj hij q hq
  · rw [List.map_set, List.set_eq_take_append_cons_drop, if_pos (by rw [List.length_map]; exact hk)]
    rfl
/-- A series is put between others: a row of its own. -/
theorem SerAt.put {w X : World} {B : Nat} {u v : Value} {qs : List SV} (h : SerAt w B u qs) (kX : Kept w X) {k : Nat} (hk : k ≤ qs.length) {lv sv : Value} {l : Labs} {s : Mg.Smps} (hl : LabAt X B lv l) (hs : SmpAt X B sv s)
    (hf : ∀ j, (lv.ownBlock = some j ∨ sv.ownBlock = some j) → ∀ y ∈ qs, ¬ y.has j) (hrow : X.ownsRow B 29 2 v (qs.take k ++ [(⟨lv, sv, l, s⟩ : SV)] ++ qs.drop k).length (svL (qs.take k ++ [(⟨lv, sv, l, s⟩ : SV)] ++ qs.drop k))) :
    SerAt X B v (qs.take k ++ [(⟨lv, sv, l, s⟩ : SV)] ++ qs.drop k) ∧ (qs.take k ++ [(⟨lv, sv, l, s⟩ : SV)] ++ qs.drop k).map SV.ser = (qs.map SV.ser).take k ++ (l, s) :: (qs.map SV.ser).drop k := by
  have hX := h.stay kX
  have mem : ∀ x ∈ qs.take k ++ [(⟨lv, sv, l, s⟩ : SV)] ++ qs.drop k, x ∈ qs ∨ x = ⟨lv, sv, l, s⟩ := fun x hx => by
    rcases List.mem_append.1 hx with hx | hx
    · rcases List.mem_append.1 hx with hx | hx
      · exact .inl (List.mem_of_mem_take hx)
      · exact .inr (List.mem_singleton.1 hx)
    · exact .inl (List.mem_of_mem_drop hx)
  refine ⟨⟨hrow, fun x hx => ?_, fun x hx => ?_, ?_⟩, ?_⟩
  · rcases mem x hx with hx | rfl
    · exact hX.lab x hx
    · exact hl
  · rcases mem x hx with hx | rfl
    · exact hX.smp x hx
    · exact hs
  · have ha := h.apart
    rw [← List.take_append_drop k qs, List.pairwise_append] at ha
    rw [List.append_assoc, List.pairwise_append]
    refine ⟨ha.1, ?_, fun a ha1 b hb q hq => ?_⟩
    · rw [List.singleton_append, List.pairwise_cons]
      exact ⟨fun b hb q hq => hf q hq b (List.mem_of_mem_drop hb), ha.2.1⟩
    · rw [List.singleton_append] at hb
      rcases List.mem_cons.1 hb with rfl | hb
      · exact fun h1 => hf q h1 a (List.mem_of_mem_take ha1) hq
      · exact ha.2.2 a ha1 b hb q hq
  · rw [List.map_append, List.map_append, List.map_take, List.map_drop, List.append_assoc]
    rfl
section
variable {P : Program} {ops : Array Oper} {Q : Exit → Act → World → Prop} {md : Region.Mode} {S : World → Prop} {L : Nat}
/-- Three may come up. -/
theorem wpAnyL_three {i j k : Nat} {oi oj ok : Oper} {fuel : Nat} {listed : Array Bool} {a : Act} {w : World} (hr : Region.ready md ops listed = [i, j, k]) (hoi : ops[i]? = some oi) (hoj : ops[j]? = some oj) (hok : ops[k]? = some ok) (hwi : Region.wanted oi (yielded ops a.tmps) = true) (hwj : Region.wanted oj (yielded ops a.tmps) = true) (hwk : Region.wanted ok (yielded ops a.tmps) = true)
    (h1 : Oper.wp P oi a w (fun a' w' => S w' ∧ wpAnyL P md ops Q S L fuel (listed.setIfInBounds i true) a' w') Q)
    (h2 : Oper.wp P oj a w (fun a' w' => S w' ∧ wpAnyL P md ops Q S L fuel (listed.setIfInBounds j true) a' w') Q)
    (h3 : Oper.wp P ok a w (fun a' w' => S w' ∧ wpAnyL P md ops Q S L fuel (listed.setIfInBounds k true) a' w') Q) : wpAnyL P md ops Q S L (fuel + 1) listed a w := by
  refine ⟨fun h0 => (by rw [hr] at h0; cases h0), fun q hq => ?_⟩
  rw [hr] at hq
  have e : q = i ∨ q = j ∨ q = k := by simpa using hq
  rcases e with rfl | rfl | rfl
  · refine wpOp_step hoi (fun K hK => ?_)
    rw [if_pos hwi]
    exact Oper.wp_mono (fun a' w' h' => hK a' w' ⟨fun _ => h'.1, h'.2⟩) h1
  · refine wpOp_step hoj (fun K hK => ?_)
    rw [if_pos hwj]
    exact Oper.wp_mono (fun a' w' h' => hK a' w' ⟨fun _ => h'.1, h'.2⟩) h2
  · refine wpOp_step hok (fun K hK => ?_)
    rw [if_pos hwk]
    exact Oper.wp_mono (fun a' w' h' => hK a' w' ⟨fun _ => h'.1, h'.2⟩) h3
end
/-- A region whose ways meet again: what it leaves is told once. -/
theorem wp_region_then16 {P : Program} {id : Nat} {ops : Array Oper} {b : Bool} {Q : Exit → Act → World → Prop} {a : Act} {w : World} {A : Nat → Nat → Value → Value → Act} (D : Nat → Value → Value → World → Prop)
    (h1 : (Code.region id ops b).wp P (fun e a' w' => e = .normal ∧ ∃ pb nb uv sv, a' = A pb nb uv sv ∧ D nb uv sv w') a w) (h2 : ∀ pb nb uv sv w', D nb uv sv w' → Q .normal (A pb nb uv sv) w') : (Code.region id ops b).wp P Q a w :=
  Code.wp_mono (fun e a' w' h => by obtain ⟨rfl, pb, nb, uv, sv, rfl, hD⟩ := h; exact h2 pb nb uv sv w' hD) h1
end Go.Proofs.Ytcacoanhiphbiaa.Ms
