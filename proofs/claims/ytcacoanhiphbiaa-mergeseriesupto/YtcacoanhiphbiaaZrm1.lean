/-
  The document's own MergeSeries: how far it is.
-/
import Derived.Test.YtcacoanhiphbiaaZrm0
namespace Go.Proofs.Ytcacoanhiphbiaa.Ms
open Go Go.RowKit Go.Proofs.Lys Go.Maps
open Go.Proofs.Ytcacoanhiphbiaa.N (Labs LabAt LabSrc cmpL)
set_option linter.unusedVariables false
set_option linter.unusedSimpArgs false

theorem ll_cell {RK : Rank} {w : World} {a : Option Addr} {M c : Nat} {vs : List Value} {ls : List Smps} (h : LLSrc RK w (.slice a M c) vs ls) (hM : ls.length = M) (k : Nat) (hk : k < M) : ∃ b o a1 c1, a = some ⟨b, o, none⟩ ∧ w.cell? ⟨b, o + k, none⟩ = some (.slice a1 (ls[k]'(by omega)).length c1) ∧ SSrc RK w (.slice a1 (ls[k]'(by omega)).length c1) (ls[k]'(by omega)) := by
  have hv : vs.length = M := h.len.trans hM
  have he := h.each k (by omega) (by omega)
  obtain ⟨a1, c1, e1, hc1⟩ := he.2
  rcases h.src.shape with ⟨hnil, _⟩ | ⟨hpos, b, o, c', e, hcc⟩
  · rw [hnil] at hv; simp at hv; omega
  · simp only [Value.slice.injEq] at e
    refine ⟨b, o, a1, c1, e.1, ?_, by rw [← e1]; exact he⟩
    rw [← e1]
    exact hcc k _ (List.getElem?_eq_getElem (by omega))
def sumQ (qs : List SV) : Nat := (qs.map (fun q => q.smps.length)).sum
theorem sumQ_cons (q : SV) (r : List SV) : sumQ (q :: r) = q.smps.length + sumQ r := by unfold sumQ; rw [List.map_cons, List.sum_cons]
theorem sumQ_app (a b : List SV) : sumQ (a ++ b) = sumQ a + sumQ b := by unfold sumQ; rw [List.map_append, List.sum_append]
theorem sumQ_mem {qs : List SV} {q : SV} (h : q ∈ qs) : q.smps.length ≤ sumQ qs := by
  induction qs with
  | nil => cases h
  | cons y r ih =>
    rw [sumQ_cons]
    rcases List.mem_cons.1 h with rfl | h
    · omega
    · have := ih h
      omega
theorem sumQ_set (q : SV) : ∀ (qs : List SV) (t : Nat) (h : t < qs.length), sumQ (qs.set t q) + qs[t].smps.length = sumQ qs + q.smps.length
  | y :: r, 0, h => by
    rw [List.set_cons_zero, sumQ_cons, sumQ_cons]
    show q.smps.length + sumQ r + y.smps.length = _
    omega
  | y :: r, t + 1, h => by
    have ht : t < r.length := by simpa using h
    rw [List.set_cons_succ, sumQ_cons, sumQ_cons]
    have := sumQ_set q r t ht
    show y.smps.length + sumQ (r.set t q) + r[t].smps.length = _
    omega
theorem wsum_take (l : Smps) (k : Nat) : wsum (l.take k) ≤ wsum l := by
  have h := congrArg wsum (List.take_append_drop k l)
  rw [wsum_app] at h
  omega
/-- What the document's own tells. -/
def RmP (w : World) (F : Smps) (e : Ending) (w' : World) : Prop := ∃ u qs, e = .returned u ∧ SerAt w' w.heap.size u qs ∧ qs.map SV.ser = (F.map serI).foldl stepD [] ∧ Kept w w'
/-- How far it is. -/
structure RmI (w : World) (F : Smps) (u : Value) (qs : List SV) (W : World) : Prop where
  row : SerAt W w.heap.size u qs
  is : qs.map SV.ser = (F.map serI).foldl stepD []
  sum : sumQ qs ≤ wsum F
  len : qs.length ≤ F.length
  labn : ∀ q ∈ qs, q.labs.length ≤ 90000
  kept : Kept w W
theorem RmI.stay {w : World} {F : Smps} {u : Value} {qs : List SV} {W W' : World} (h : RmI w F u qs W) (k : Kept W W') : RmI w F u qs W' := ⟨h.row.stay k, h.is, h.sum, h.len, h.labn, h.kept.trans k (fun _ _ f => f)⟩
theorem RmI.skip {w : World} {F : Smps} {u : Value} {qs : List SV} {W : World} (h : RmI w F u qs W) {x : Smp} (hx : x.2.smps = []) : RmI w (F ++ [x]) u qs W := by
  refine ⟨h.row, ?_, ?_, ?_, h.labn, h.kept⟩
  · rw [h.is, List.map_append, List.foldl_append]
    show _ = stepD _ (serI x)
    unfold stepD serI
    rw [if_pos hx]
  · rw [wsum_app]; have := h.sum; omega
  · rw [List.length_append]; have := h.len; omega
theorem step_snoc (F : Smps) {x : Smp} (hx : x.2.smps ≠ []) : ((F ++ [x]).map serI).foldl stepD [] = insD (serI x) ((F.map serI).foldl stepD []) := by
  rw [List.map_append, List.foldl_append]
  show stepD _ (serI x) = _
  unfold stepD
  rw [if_neg]
  exact hx
theorem before_map {qs : List SV} {l : Labs} {t : Nat} (hb : ∀ j (h : j < qs.length), j < t → cmpL qs[j].labs l < 0) : ∀ j (h : j < (qs.map SV.ser).length), j < t → cmpL (qs.map SV.ser)[j].1 l < 0 := by
  intro j h hj
  rw [List.getElem_map]
  exact hb j (by rw [List.length_map] at h; exact h) hj
/-- The series is there already. -/
theorem RmI.set {w W0 W : World} {F : Smps} {g n cap : Nat} {qs : List SV} (h : RmI w F (.slice (some ⟨g, 0, none⟩) n cap) qs W0) (k : Kept W0 W) {x : Smp} {t : Nat} (ht : t < qs.length)
    (hb : ∀ j (h : j < qs.length), j < t → cmpL qs[j].labs x.2.labs < 0) (h0 : cmpL qs[t].labs x.2.labs = 0) (hx : x.2.smps ≠ []) {sv : Value} (hs : SmpAt W W0.heap.size sv (Mg.mrg (qs[t].smps ++ x.2.smps))) :
    RmI w (F ++ [x]) (.slice (some ⟨g, 0, none⟩) n cap) (qs.set t ⟨qs[t].lv, sv, qs[t].labs, Mg.mrg (qs[t].smps ++ x.2.smps)⟩) (W.setCell ⟨g, t * 2 + 1, none⟩ sv) := by
  have hS := (h.row.stay k).set ht (ownN_base hs h.kept.size) (fun j hj y hy e => by
    have h1 := (ownN_lt hs hj).1
    rcases e with e | e
    · have := (N.ownN_lt (h.row.lab y hy) e).2; omega
    · have := (ownN_lt (h.row.smp y hy) e).2; omega)
  refine ⟨hS.1, ?_, ?_, ?_, fun q hq => ?_, ?_⟩
  · rw [hS.2, step_snoc F hx, ← h.is]
    have hi := (insD_at (serI x) (qs.map SV.ser) t (by rw [List.length_map]; omega) (before_map hb)).1 (by rw [List.length_map]; exact ht) (by rw [List.getElem_map]; exact h0)
    rw [hi, List.getElem_map]
    rfl
  · have h1 := sumQ_set ⟨qs[t].lv, sv, qs[t].labs, Mg.mrg (qs[t].smps ++ x.2.smps)⟩ qs t ht
    have h2 := Mg.mrg_len (qs[t].smps ++ x.2.smps)
    rw [List.length_append] at h2
    have h3 := h.sum
    rw [wsum_app, wsum_cons]
    show _ ≤ wsum F + (x.2.smps.length + 0)
    have h4 : (Mg.mrg (qs[t].smps ++ x.2.smps)).length = (⟨qs[t].lv, sv, qs[t].labs, Mg.mrg (qs[t].smps ++ x.2.smps)⟩ : SV).smps.length := rfl
    omega
  · rw [List.length_set, List.length_append]; have := h.len; omega
  · rcases List.mem_or_eq_of_mem_set hq with hq | rfl
    · exact h.labn q hq
    · exact h.labn qs[t] (List.getElem_mem _)
  · refine (h.kept.trans k (fun _ _ f => f)).setCell (fun hlt => ?_) _
    have h1 : w.heap.size ≤ g := (ownN_lt h.row.row rfl).1
    have h2 : g < w.heap.size := hlt
    omega
/-- The series is new. -/
theorem RmI.put {w W0 W : World} {F : Smps} {u v : Value} {qs : List SV} (h : RmI w F u qs W0) (k : Kept W0 W) {x : Smp} {t : Nat} (ht : t ≤ qs.length)
    (hb : ∀ j (h : j < qs.length), j < t → cmpL qs[j].labs x.2.labs < 0) (hp : t = qs.length ∨ ∃ h : t < qs.length, 0 < cmpL qs[t].labs x.2.labs) (hx : x.2.smps ≠ []) (hln : x.2.labs.length ≤ 90000) {lv sv : Value} {m : Mg.Smps} (hm : Mg.mrg x.2.smps = m)
    (hl : LabAt W W0.heap.size lv x.2.labs) (hs : SmpAt W W0.heap.size sv m) (hrow : W.ownsRow w.heap.size 29 2 v (qs.take t ++ [(⟨lv, sv, x.2.labs, m⟩ : SV)] ++ qs.drop t).length (svL (qs.take t ++ [(⟨lv, sv, x.2.labs, m⟩ : SV)] ++ qs.drop t))) :
    RmI w (F ++ [x]) v (qs.take t ++ [(⟨lv, sv, x.2.labs, m⟩ : SV)] ++ qs.drop t) W := by
  subst hm
  have hS := h.row.put k ht (ownN_base hl h.kept.size) (ownN_base hs h.kept.size) (fun j hj y hy e => by
    have h1 : W0.heap.size ≤ j := by
      rcases hj with hj | hj
      · exact (N.ownN_lt hl hj).1
      · exact (ownN_lt hs hj).1
    rcases e with e | e
    · have := (N.ownN_lt (h.row.lab y hy) e).2; omega
    · have := (ownN_lt (h.row.smp y hy) e).2; omega) hrow
  refine ⟨hS.1, ?_, ?_, ?_, fun q hq => ?_, h.kept.trans k (fun _ _ f => f)⟩
  · rw [hS.2, step_snoc F hx, ← h.is]
    exact ((insD_at (serI x) (qs.map SV.ser) t (by rw [List.length_map]; exact ht) (before_map hb)).2 (by
      rcases hp with hp | ⟨hp, h1⟩
      · exact .inl (by rw [List.length_map]; exact hp)
      · exact .inr ⟨by rw [List.length_map]; exact hp, by rw [List.getElem_map]; exact h1⟩)).symm
  · have h1 := sumQ_app (qs.take t) (qs.drop t)
    rw [List.take_append_drop] at h1
    have h2 := Mg.mrg_len x.2.smps
    have h3 := h.sum
    rw [sumQ_app, sumQ_app, sumQ_cons, wsum_app, wsum_cons]
    show sumQ (qs.take t) + ((Mg.mrg x.2.smps).length + 0) + sumQ (qs.drop t) ≤ wsum F + (x.2.smps.length + 0)
    omega
  · have h1 := h.len
    rw [List.length_append, List.length_append, List.length_take, List.length_drop, List.length_append]
    simp only [List.length_cons, List.length_nil]
    omega
  · rcases List.mem_append.1 hq with hq | hq
    · rcases List.mem_append.1 hq with hq | hq
      · exact h.labn q (List.mem_of_mem_take hq)
      · rw [List.mem_singleton.1 hq]; exact hln
    · exact h.labn q (List.mem_of_mem_drop hq)
end Go.Proofs.Ytcacoanhiphbiaa.Ms
