/-
  Xown, Xrd2, Xrd3, Xrd4, Xun.
-/
import Derived.Test.YteknpfldemgmnaaGreatQ40
import Derived.Test.YteknpfldemgmnaaGreatQ45
import Derived.Test.YteknpfldemgmnaaGreatQ29
import Derived.Test.YteknpfldemgmnaaGreatQ47

/-
  Labels that are copied, and what is written over: series and posts.
-/
namespace Go.Proofs.YteknpfldemgmnaaGreat.X
open Go.RowKit Go.Proofs.Lys Go.Maps Go.Proofs.YteknpfldemgmnaaGreat.N
set_option linter.unusedVariables false
set_option linter.unusedSimpArgs false

theorem Tryz.infoLabs : (Tryz.prog.info? 44).map (fun i => (i.zero, i.size, i.bytes)) = some (some (.slice none 0 0), 1, 24) := by kernel_rfl
/-- Series' labels in blocks of their own. -/
structure OwnR (w : World) (B : Nat) (v : Value) (vs : List Value) (L : List Labs) : Prop where
  row : w.ownsRow B 44 1 v vs.length vs
  len : vs.length = L.length
  each : ∀ j (h : j < vs.length) (h2 : j < L.length), LabAt w B vs[j] L[j]
  apart : vs.Pairwise (fun a b => ∀ k, a.ownBlock = some k → ¬ b.ownBlock = some k)
theorem OwnR.src {w : World} {B : Nat} {v : Value} {vs : List Value} {L : List Labs} (h : OwnR w B v vs L) : LSrc w v L := ⟨vs, own_src h.row, h.len, fun i a b => LabAt.src (h.each i a b)⟩
theorem OwnR.stay {w W : World} {B : Nat} {v : Value} {vs : List Value} {L : List Labs} (h : OwnR w B v vs L) (k : Kept w W) : OwnR W B v vs L := ⟨ownN_stay h.row k, h.len, fun j a b => ownN_stay (h.each j a b) k, h.apart⟩
/-- A series more. -/
theorem own_more {w0 w : World} {v xv : Value} {vs : List Value} {L : List Labs} {l : Labs} (h : OwnR w w0.heap.size v vs L) (hk : Kept w0 w) (hs : LabSrc w xv l) (hl : l.length ≤ 100000) (hL : L.length ≤ 100000) :
    ∃ a2 n2 c2 w2 a5 n5 c5 w5, Hid ((Builtin.append_ #[44, 44] 0 #[.slice none 0 0, xv]).run Tryz.prog w = .ok (.slice a2 n2 c2) w2) ∧
      Hid ((Builtin.append_ #[22, 22] 0 #[v, .slice (some ⟨w2.heap.size, 0, none⟩) 1 1]).run Tryz.prog (w2.alloc (.cells #[.slice a2 n2 c2] 44)) = .ok (.slice a5 n5 c5) w5) ∧ Hid (n5 = L.length + 1) ∧ Hid (OwnR w5 w0.heap.size (.slice a5 n5 c5) (vs ++ [.slice a2 n2 c2]) (L ++ [l])) ∧ Hid (Kept w0 w5) := by
  obtain ⟨a2, c2, w2, r2, o2, k2⟩ := lab_copy hs (by omega)
  have ka : Kept w2 (w2.alloc (.cells #[.slice a2 l.length c2] 44)) := (Only.refl _ w2).alloc _
  have h2 := h.stay (k2.trans ka (fun _ _ f => f))
  have hlit : SrcOf (w2.alloc (.cells #[.slice a2 l.length c2] 44)) (.slice (some ⟨w2.heap.size, 0, none⟩) 1 1) [.slice a2 l.length c2] := by
    have hb := Blk.new w2 [.slice a2 l.length c2] 44
    refine .inr ⟨⟨w2.heap.size, 0, none⟩, 1, rfl, fun j u hu => ?_⟩
    have : j = 0 := by have := (List.getElem?_eq_some_iff.1 hu).1; simpa using this
    subst this
    cases hu
    exact hb.cell 0 rfl
  have hsz := hk.size
  have hsz2 := k2.size
  have hsza := ka.size
  obtain ⟨v5, w5, r5, o5, g5, _⟩ := append_src (P := Tryz.prog) (base := w0.heap.size) Tryz.underlying22 Tryz.infoLabs rfl (by decide) h2.row hlit (by intro u hu; rw [List.mem_singleton.1 hu]; rfl) (by have := h.len; simp; omega) (by omega)
  have o5' : w5.ownsRow w0.heap.size 44 1 v5 (vs ++ [Value.slice a2 l.length c2]).length (vs ++ [Value.slice a2 l.length c2]) := by
    rw [List.length_append]
    exact o5
  obtain ⟨a5, c5, rfl⟩ := ownN_slice o5'
  have ko : Only (fun j => v.ownBlock = some j) (w2.alloc (.cells #[.slice a2 l.length c2] 44)) w5 := (Only.refl _ _).grown g5 (fun j e _ => e)
  have hlow : ∀ j, v.ownBlock = some j → w0.heap.size ≤ j := fun j hj => (ownN_lt h.row hj).1
  refine ⟨a2, l.length, c2, w2, a5, _, c5, w5, r2, r5, ?_, ⟨o5', ?_, fun j hj hj2 => ?_, ?_⟩, ?_⟩
  · show (vs ++ [Value.slice a2 l.length c2]).length = L.length + 1
    rw [List.length_append, h.len]
    rfl
  · rw [List.length_append, List.length_append, h.len]
    rfl
  · rw [List.length_append, List.length_singleton] at hj hj2
    by_cases e : j < vs.length
    · rw [List.getElem_append_left e, List.getElem_append_left (by rw [← h.len]; exact e)]
      exact ownN_only (h2.each j e (by rw [← h.len]; exact e)) ko (fun b hb e2 => ((ownN_typed (h2.each j e (by rw [← h.len]; exact e)) hb).ne (ownN_typed h2.row e2) (by decide)) rfl)
    · have e2 : j = vs.length := by omega
      have e3 : j = L.length := by rw [← h.len]; exact e2
      have g1 : (vs ++ [Value.slice a2 l.length c2])[j]'(by simp; omega) = .slice a2 l.length c2 := by simp [e2]
      have g2 : (L ++ [l])[j]'(by simp; omega) = l := by simp [e3]
      rw [g1, g2]
      refine ownN_base (ownN_only (ownN_stay o2 ka) ko (fun b hb e4 => ?_)) hsz
      have h6 := (ownN_lt o2 hb).1
      have h7 := (ownN_lt h.row e4).2
      omega
  · refine List.pairwise_append.2 ⟨h.apart, List.pairwise_singleton _ _, fun a ha b hb k h1 h3 => ?_⟩
    rw [List.mem_singleton.1 hb] at h3
    obtain ⟨j, hj, rfl⟩ := List.getElem_of_mem ha
    have h4 := (ownN_lt (h.each j hj (by rw [← h.len]; exact hj)) h1).2
    have h5 := (ownN_lt o2 h3).1
    omega
  · exact ((hk.trans k2 (fun _ _ f => f)).trans ka (fun _ _ f => f)).trans ko (fun j hj e => by have := hlow j e; omega)
/-- Blocks of labels that may be written over. -/
structure Rooms (w : World) (B : Nat) (v : Value) (us vs : List Value) (L : List Labs) : Prop where
  row : w.ownsRow B 44 1 v vs.length us
  len : vs.length = L.length
  each : ∀ j (h : j < vs.length) (h2 : j < L.length), ∃ xs, w.ownsRow B 43 2 vs[j] L[j].length xs
  apart : vs.Pairwise (fun a b => ∀ k, a.ownBlock = some k → ¬ b.ownBlock = some k)
theorem Rooms.stay {w W : World} {B : Nat} {v : Value} {us vs : List Value} {L : List Labs} (h : Rooms w B v us vs L) (k : Kept w W) : Rooms W B v us vs L :=
  ⟨ownN_stay h.row k, h.len, fun j a b => by obtain ⟨xs, hx⟩ := h.each j a b; exact ⟨xs, ownN_stay hx k⟩, h.apart⟩
theorem OwnR.rooms {w : World} {B : Nat} {v : Value} {vs : List Value} {L : List Labs} (h : OwnR w B v vs L) : Rooms w B v vs vs L := ⟨h.row, h.len, fun j a b => ⟨_, h.each j a b⟩, h.apart⟩
theorem pw_vs {vs : List Value} (h : vs.Pairwise (fun a b => ∀ k, a.ownBlock = some k → ¬ b.ownBlock = some k)) {i j : Nat} (hi : i < vs.length) (hj : j < vs.length) (hne : i ≠ j) {k : Nat} (h1 : vs[i].ownBlock = some k) : ¬ vs[j].ownBlock = some k := by
  rw [List.pairwise_iff_getElem] at h
  rcases Nat.lt_or_ge i j with e | e
  · exact h i j hi hj e k h1
  · exact fun h2 => h j i hj hi (by omega) k h2 h1
/-- A label is written over. -/
theorem Rooms.wipe {w : World} {B : Nat} {v : Value} {us vs : List Value} {L : List Labs} (h : Rooms w B v us vs L) {i : Nat} (hi : i < vs.length) (hi2 : i < L.length) {k : Nat} (hk : k < L[i].length) :
    ∃ g cap, vs[i] = .slice (some ⟨g, 0, none⟩) L[i].length cap ∧ B ≤ g ∧ g < w.heap.size ∧ w.frozen? ⟨g, k * 2, none⟩ = false ∧ w.frozen? ⟨g, k * 2 + 1, none⟩ = false ∧ (∃ u, w.cell? ⟨g, k * 2, none⟩ = some u) ∧ (∃ u, w.cell? ⟨g, k * 2 + 1, none⟩ = some u) ∧ (w.setCell ⟨g, k * 2, none⟩ (.string ⟨#[]⟩)).frozen? ⟨g, k * 2 + 1, none⟩ = false ∧
      Rooms ((w.setCell ⟨g, k * 2, none⟩ (.string ⟨#[]⟩)).setCell ⟨g, k * 2 + 1, none⟩ (.string ⟨#[]⟩)) B v us vs L ∧ Only (fun j => j = g) w ((w.setCell ⟨g, k * 2, none⟩ (.string ⟨#[]⟩)).setCell ⟨g, k * 2 + 1, none⟩ (.string ⟨#[]⟩)) := by
  obtain ⟨xs, hx⟩ := h.each i hi hi2
  obtain ⟨g, cap, e⟩ := ownN_some hx (by omega)
  rw [e] at hx
  have hgb : (Value.slice (some ⟨g, 0, none⟩) L[i].length cap).ownBlock = some g := rfl
  have hgv : vs[i].ownBlock = some g := by rw [e]; rfl
  have hlt := ownN_lt hx hgb
  have hxl : xs.length = L[i].length * 2 := hx.1
  have h1 := (hx.stored (k * 2) (.string ⟨#[]⟩)).1
  have h2 := (h1.stored (k * 2 + 1) (.string ⟨#[]⟩)).1
  have hS : Only (fun j => j = g) w ((w.setCell ⟨g, k * 2, none⟩ (.string ⟨#[]⟩)).setCell ⟨g, k * 2 + 1, none⟩ (.string ⟨#[]⟩)) := ((Only.refl (fun j => j = g) w).setCell (p := ⟨g, k * 2, none⟩) (fun _ => rfl) _).setCell (p := ⟨g, k * 2 + 1, none⟩) (fun _ => rfl) _
  refine ⟨g, cap, e, hlt.1, hlt.2, hx.frozenAt _, hx.frozenAt _, ⟨_, by rw [hx.cellAt (k * 2) (by omega)]; exact List.getElem?_eq_getElem (by omega)⟩, ⟨_, by rw [hx.cellAt (k * 2 + 1) (by omega)]; exact List.getElem?_eq_getElem (by omega)⟩, h1.frozenAt _, ⟨?_, h.len, fun j hj hj2 => ?_, h.apart⟩, hS⟩
  · exact ownN_only h.row hS (fun b hb e2 => ((ownN_typed hx hgb).ne (ownN_typed h.row (by rw [← e2]; exact hb)) (by decide)) rfl)
  · by_cases ej : j = i
    · subst ej
      exact ⟨_, by rw [e]; exact h2⟩
    · obtain ⟨ys, hy⟩ := h.each j hj hj2
      exact ⟨ys, ownN_only hy hS (fun b hb e2 => pw_vs h.apart hi hj (fun e3 => ej e3.symm) hgv (by rw [← e2]; exact hb))⟩
/-- A series is put away. -/
theorem Rooms.drop {w : World} {B : Nat} {v : Value} {us vs : List Value} {L : List Labs} (h : Rooms w B v us vs L) {i : Nat} (hi : i < vs.length) :
    ∃ g cap, v = .slice (some ⟨g, 0, none⟩) vs.length cap ∧ B ≤ g ∧ g < w.heap.size ∧ w.frozen? ⟨g, i, none⟩ = false ∧ (∃ u, w.cell? ⟨g, i, none⟩ = some u) ∧
      Rooms (w.setCell ⟨g, i, none⟩ (.slice none 0 0)) B v (us.set i (.slice none 0 0)) vs L ∧ Only (fun j => j = g) w (w.setCell ⟨g, i, none⟩ (.slice none 0 0)) := by
  have hr := h.row
  obtain ⟨g, cap, e⟩ := ownN_some hr (by omega)
  rw [e] at hr
  have hgb : (Value.slice (some ⟨g, 0, none⟩) vs.length cap).ownBlock = some g := rfl
  have hlt := ownN_lt hr hgb
  have hul : us.length = vs.length * 1 := hr.1
  have h1 := (hr.stored i (.slice none 0 0)).1
  have hS : Only (fun j => j = g) w (w.setCell ⟨g, i, none⟩ (.slice none 0 0)) := (Only.refl (fun j => j = g) w).setCell (p := ⟨g, i, none⟩) (fun _ => rfl) _
  refine ⟨g, cap, e, hlt.1, hlt.2, hr.frozenAt _, ⟨_, by rw [hr.cellAt i (by omega)]; exact List.getElem?_eq_getElem (by omega)⟩, ⟨by rw [e]; exact h1, h.len, fun j hj hj2 => ?_, h.apart⟩, hS⟩
  obtain ⟨ys, hy⟩ := h.each j hj hj2
  exact ⟨ys, ownN_only hy hS (fun b hb e2 => ((ownN_typed hr hgb).ne (ownN_typed hy (by rw [← e2]; exact hb)) (by decide)) rfl)⟩
/-- Lists that may be written over. -/
structure RoomP (w : World) (B : Nat) (v : Value) (qs : List PV) : Prop where
  row : PvAt w B v qs
  each : ∀ j (h : j < qs.length), ∃ xs, w.ownsRow B 3 1 qs[j].lv qs[j].l.length xs
  apart : qs.Pairwise (fun a b => ∀ k, a.has k → ¬ b.has k)
theorem PostAt.rooms {w : World} {B : Nat} {v : Value} {qs : List PV} (h : PostAt w B v qs) : RoomP w B v qs := ⟨h.row, fun j hj => ⟨_, h.num _ (List.getElem_mem hj)⟩, h.apart⟩
theorem RoomP.wipe {w : World} {B : Nat} {v : Value} {qs : List PV} (h : RoomP w B v qs) {i : Nat} (hi : i < qs.length) {k : Nat} (hk : k < qs[i].l.length) :
    ∃ g cap, qs[i].lv = .slice (some ⟨g, 0, none⟩) qs[i].l.length cap ∧ B ≤ g ∧ g < w.heap.size ∧ w.frozen? ⟨g, k, none⟩ = false ∧ (∃ u, w.cell? ⟨g, k, none⟩ = some u) ∧
      RoomP (w.setCell ⟨g, k, none⟩ (.int .i64 (-1))) B v qs ∧ Only (fun j => j = g) w (w.setCell ⟨g, k, none⟩ (.int .i64 (-1))) := by
  obtain ⟨xs, hx⟩ := h.each i hi
  obtain ⟨g, cap, e⟩ := ownN_some hx (by omega)
  rw [e] at hx
  have hgb : (Value.slice (some ⟨g, 0, none⟩) qs[i].l.length cap).ownBlock = some g := rfl
  have hgv : qs[i].has g := by unfold PV.has; rw [e]; rfl
  have hlt := ownN_lt hx hgb
  have hxl : xs.length = qs[i].l.length * 1 := hx.1
  have h1 := (hx.stored k (.int .i64 (-1))).1
  have hS : Only (fun j => j = g) w (w.setCell ⟨g, k, none⟩ (.int .i64 (-1))) := (Only.refl (fun j => j = g) w).setCell (p := ⟨g, k, none⟩) (fun _ => rfl) _
  refine ⟨g, cap, e, hlt.1, hlt.2, hx.frozenAt _, ⟨_, by rw [hx.cellAt k (by omega)]; exact List.getElem?_eq_getElem (by omega)⟩, ⟨?_, fun j hj => ?_, h.apart⟩, hS⟩
  · exact ownN_only h.row hS (fun b hb e2 => ((ownN_typed hx hgb).ne (ownN_typed h.row (by rw [← e2]; exact hb)) (by decide)) rfl)
  · by_cases ej : j = i
    · subst ej
      exact ⟨_, by rw [e]; exact h1⟩
    · obtain ⟨ys, hy⟩ := h.each j hj
      exact ⟨ys, ownN_only hy hS (fun b hb e2 => pw_at h.apart hi hj (fun e3 => ej e3.symm) hgv (by unfold PV.has; rw [← e2]; exact hb))⟩
end Go.Proofs.YteknpfldemgmnaaGreat.X

/-
  A label more of a series, in rows that are owned; the bytes of an index, read.
-/
namespace Go.Proofs.YteknpfldemgmnaaGreat.X
open Go.RowKit Go.Proofs.Lys Go.Maps Go.Proofs.YteknpfldemgmnaaGreat.N
set_option linter.unusedVariables false
set_option linter.unusedSimpArgs false

/-- A label more of series i. -/
theorem own_put {w : World} {B g cap : Nat} {vs : List Value} {L : List Labs} (h : OwnR w B (.slice (some ⟨g, 0, none⟩) vs.length cap) vs L) (hB : B ≤ w.heap.size) {i : Nat} (hi : i < vs.length) (hi2 : i < L.length) (y : Lab) (hl : L[i].length ≤ 900000) :
    ∃ la lc w2 a2 n2 c2, vs[i] = .slice la L[i].length lc ∧ Hid ((Builtin.append_ #[44, 44] 0 #[.slice la L[i].length lc, .slice (some ⟨w.heap.size, 0, none⟩) 1 1]).run Tryz.prog (w.alloc (.cells #[.string y.1, .string y.2] 43)) = .ok (.slice a2 n2 c2) w2) ∧
      w2.frozen? ⟨g, i, none⟩ = false ∧ (∃ u, w2.cell? ⟨g, i, none⟩ = some u) ∧ Hid (OwnR (w2.setCell ⟨g, i, none⟩ (.slice a2 n2 c2)) B (.slice (some ⟨g, 0, none⟩) vs.length cap) (vs.set i (.slice a2 n2 c2)) (L.set i (L[i] ++ [y])) ∧ Only (fun j => j = g ∨ vs[i].ownBlock = some j) w (w2.setCell ⟨g, i, none⟩ (.slice a2 n2 c2))) ∧ w2.cell? ⟨g, i, none⟩ = some (.slice la L[i].length lc) ∧ Only (fun j => vs[i].ownBlock = some j) w w2 := by
  have hat := h.each i hi hi2
  obtain ⟨la, lc, e⟩ := ownN_slice hat
  have ka : Kept w (w.alloc (.cells #[.string y.1, .string y.2] 43)) := (Only.refl _ w).alloc _
  have hna := ownN_stay hat ka
  rw [e] at hna
  obtain ⟨v2, w2, hr, ho, hg, hloc⟩ := lab_append hna (lab_lit w y) (by simp; omega) (Nat.le_trans hB ka.size)
  obtain ⟨a2, c2, e2⟩ := ownN_slice ho
  have k2 : Only (fun j => vs[i].ownBlock = some j) (w.alloc (.cells #[.string y.1, .string y.2] 43)) w2 := (Only.refl _ _).grown hg (fun j hj _ => by rw [e]; exact hj)
  have hgb : (Value.slice (some ⟨g, 0, none⟩) vs.length cap).ownBlock = some g := rfl
  have hBg := (ownN_lt h.row hgb).1
  have hne : ∀ j (hj : j < vs.length) (hj2 : j < L.length) b, vs[j].ownBlock = some b → b ≠ g := fun j hj hj2 b hb e3 => ((ownN_typed (h.each j hj hj2) hb).ne (ownN_typed h.row (by rw [e3]; exact hgb)) (by decide)) rfl
  have hrow2 : w2.ownsRow B 44 1 (.slice (some ⟨g, 0, none⟩) vs.length cap) vs.length vs := ownN_only (ownN_stay h.row ka) k2 (fun b hb hq => hne i hi hi2 b hq (by rw [hgb] at hb; cases hb; rfl))
  have hset := (hrow2.stored i v2).1
  have hS : Only (fun j => j = g) w2 (w2.setCell ⟨g, i, none⟩ v2) := (Only.refl (fun j => j = g) w2).setCell (p := ⟨g, i, none⟩) (fun _ => rfl) _
  have hv2g : ∀ b, v2.ownBlock = some b → b ≠ g := fun b hb e3 => ((ownN_typed ho hb).ne (ownN_typed hrow2 (by rw [e3]; exact hgb)) (by decide)) rfl
  have hnew : ∀ (q : Nat) (hq : q < vs.length) (j : Nat), q ≠ i → v2.ownBlock = some j → ¬ vs[q].ownBlock = some j := fun q hq j hqi hj hq2 => by
    have hqL : q < L.length := by rw [← h.len]; exact hq
    rcases hloc with e3 | e3
    · rw [e3] at hj
      exact pw_vs h.apart hi hq (fun e4 => hqi e4.symm) (by rw [e]; exact hj) hq2
    · rw [e3] at hj
      cases hj
      have h3 := (ownN_lt (h.each q hq hqL) hq2).2
      have := ka.size
      omega
  have hul : vs.length = vs.length * 1 := by omega
  subst e2
  refine ⟨la, lc, w2, a2, _, c2, e, hid hr, hrow2.frozenAt _, ⟨_, by rw [hrow2.cellAt i (by omega)]; exact List.getElem?_eq_getElem hi⟩, hid (And.intro (OwnR.mk ?_ ?_ (fun j hj hj2 => ?_) ?_) ?_), by rw [hrow2.cellAt i (by omega), List.getElem?_eq_getElem hi, e], (ka.mono (fun _ _ f => f.elim)).trans k2 (fun _ _ e => e)⟩
  · rw [List.length_set]
    exact hset
  · rw [List.length_set, List.length_set]
    exact h.len
  · rw [List.length_set] at hj hj2
    rw [List.getElem_set, List.getElem_set]
    by_cases e3 : i = j
    · rw [if_pos e3, if_pos e3]
      exact ownN_only ho hS (fun b hb e4 => hv2g b hb e4)
    · rw [if_neg e3, if_neg e3]
      refine ownN_only (ownN_only (ownN_stay (h.each j hj hj2) ka) k2 (fun b hb hq => pw_vs h.apart hi hj e3 hq hb)) hS (fun b hb e4 => hne j hj hj2 b hb e4)
  · rw [List.pairwise_iff_getElem]
    intro a b ha hb hab j h1 h2
    rw [List.length_set] at ha hb
    rw [List.getElem_set] at h1 h2
    split at h1
    · rename_i e1
      rw [if_neg (by omega)] at h2
      exact hnew b hb j (by omega) h1 h2
    · rename_i e1
      split at h2
      · rename_i e3
        exact hnew a ha j (by omega) h2 h1
      · exact pw_vs h.apart ha hb (by omega) h1 h2
  · exact ((ka.mono (O' := fun j => j = g ∨ vs[i].ownBlock = some j) (fun _ _ f => f.elim)).trans k2 (fun j _ hq => .inr hq)).trans hS (fun j _ e3 => .inl e3)
end Go.Proofs.YteknpfldemgmnaaGreat.X

/-
  The bytes of an index, read: in plain words.
-/
namespace Go.Proofs.YteknpfldemgmnaaGreat.X
open Go.RowKit Go.Proofs.Lys Go.Maps Go.Proofs.YteknpfldemgmnaaGreat.N
set_option linter.unusedVariables false
set_option linter.unusedSimpArgs false

theorem numB_le {bs : List UInt8} {d k : Nat} (h : Po.numB bs = some (d, k)) : k ≤ bs.length := by
  unfold Po.numB at h
  split at h
  · cases h
    rcases Po.getA_cases bs 0 0 (by decide) (by decide) with e | ⟨u, k, e, _, hk⟩
    · rw [e]; exact Nat.zero_le _
    · rw [e]; show k ≤ _; omega
  · cases h
theorem rd_bounds : ∀ (n : Nat) (last : Int) (acc : List Int) (at_ : Nat) (bs : List UInt8) (l : List Int) (k : Nat), Po.rdA n last acc at_ bs = some (l, k) → -1 ≤ last → (∀ x ∈ acc, 0 ≤ x) → (∀ x ∈ l, 0 ≤ x) ∧ k ≤ at_ + bs.length ∧ l.length = acc.length + n := by
  intro n
  induction n with
  | zero =>
    intro last acc at_ bs l k h h1 h2
    rw [Po.rdA] at h
    cases h
    exact ⟨h2, by omega, rfl⟩
  | succ n ih =>
    intro last acc at_ bs l k h h1 h2
    rw [Po.rdA] at h
    cases hn : Po.numB bs with
    | none => rw [hn] at h; cases h
    | some dk =>
      obtain ⟨d, q⟩ := dk
      rw [hn] at h
      simp only at h
      split at h
      · have hq := numB_le hn
        obtain ⟨g1, g2, g3⟩ := ih _ _ _ _ _ _ h (by omega) (fun x hx => by
          rcases List.mem_append.1 hx with e | e
          · exact h2 x e
          · rw [List.mem_singleton.1 e]; omega)
        rw [List.length_drop] at g2
        rw [List.length_append, List.length_singleton] at g3
        exact ⟨g1, by omega, by omega⟩
      · cases h
theorem read_bounds {bs : List UInt8} {l : List Int} {k : Nat} (h : Po.readR bs = some (l, k)) : (∀ x ∈ l, 0 ≤ x) ∧ k ≤ bs.length ∧ l.length ≤ 10000 := by
  unfold Po.readR at h
  cases hn : Po.numB bs with
  | none => rw [hn] at h; cases h
  | some dk =>
    obtain ⟨d, q⟩ := dk
    rw [hn] at h
    simp only at h
    split at h
    · have hq := numB_le hn
      obtain ⟨g1, g2, g3⟩ := rd_bounds _ _ _ _ _ _ _ h (by omega) (fun x hx => by cases hx)
      rw [List.length_drop] at g2
      rw [List.length_nil] at g3
      exact ⟨g1, by omega, by omega⟩
    · cases h
/-- A label more of a series. -/
def putAt (L : List Labs) (n : Nat) (y : Lab) : List Labs := L.set n (L.getD n [] ++ [y])
/-- A label more of many series. -/
def putL (y : Lab) : List Int → List Labs → Option (List Labs)
  | [], L => some L
  | i :: r, L => if i < (L.length : Int) then putL y r (putAt L i.toNat y) else none
/-- Posts, one behind the other. -/
def rdM : Nat → List Labs → List UInt8 → Option (List Labs)
  | 0, L, _ => some L
  | m + 1, L, bs => match txtR bs with
    | none => none
    | some (s, r1) => match txtR r1 with
      | none => none
      | some (t, r2) => match Po.readR r2 with
        | none => none
        | some (l, k) => match putL (mkB s, mkB t) l L with
          | none => none
          | some L2 => rdM m L2 (r2.drop k)
def readI (bs : List UInt8) : Option (List Labs) := match numR bs with
  | none => none
  | some (c, k) => if 1000 < c then none else match numR (bs.drop k) with
    | none => none
    | some (m, q) => rdM m (List.replicate c []) ((bs.drop k).drop q)
theorem putAt_len (L : List Labs) (n : Nat) (y : Lab) : (putAt L n y).length = L.length := List.length_set
theorem putL_len (y : Lab) : ∀ (l : List Int) (L L2 : List Labs), putL y l L = some L2 → L2.length = L.length
  | [], L, L2, h => by cases h; rfl
  | i :: r, L, L2, h => by
    rw [putL] at h
    split at h
    · rw [putL_len y r _ _ h, putAt_len]
    · cases h
theorem txtR_le {bs s r : List UInt8} (h : txtR bs = some (s, r)) : s.length + r.length ≤ bs.length := by
  unfold txtR at h
  cases hn : numR bs with
  | none => rw [hn] at h; cases h
  | some nk =>
    obtain ⟨n, k⟩ := nk
    rw [hn] at h
    simp only at h
    split at h
    · cases h
      simp only [List.length_take, List.length_drop]
      omega
    · cases h
end Go.Proofs.YteknpfldemgmnaaGreat.X

/-
  read.
-/
namespace Go.Proofs.YteknpfldemgmnaaGreat.X
open Go.RowKit Go.Proofs.Lys Go.Maps Go.Proofs.YteknpfldemgmnaaGreat.N
set_option linter.unusedVariables false
set_option linter.unusedSimpArgs false

/-- What read tells. -/
def ReadP (w : World) (bs : List UInt8) (e : Ending) (w' : World) : Prop :=
  (readI bs = none ∧ e = gave 5 ∧ Kept w w') ∨ ∃ v vs L, readI bs = some L ∧ e = .returned v ∧ OwnR w' w.heap.size v vs L ∧ Kept w w'
theorem ownR_nil (w : World) (B c : Nat) (v : Value) (h : w.ownsRow B 44 1 v c (List.replicate c (.slice none 0 0))) : OwnR w B v (List.replicate c (.slice none 0 0)) (List.replicate c []) := by
  refine ⟨by rw [List.length_replicate]; exact h, by rw [List.length_replicate, List.length_replicate], fun j hj hj2 => ?_, ?_⟩
  · rw [List.getElem_replicate, List.getElem_replicate]
    exact World.ownsRow_nil _ _ _ _
  · rw [List.pairwise_iff_getElem]
    intro i j hi hj _ k h1
    rw [List.getElem_replicate] at h1
    cases h1
theorem putAt_eq {L : List Labs} {n : Nat} (h : n < L.length) (y : Lab) : putAt L n y = L.set n (L[n] ++ [y]) := by
  unfold putAt
  rw [List.getD_eq_getElem?_getD, List.getElem?_eq_getElem h]
  rfl

theorem OwnR.only_ne {w W : World} {B R : Nat} {v : Value} {vs : List Value} {L : List Labs} (h : OwnR w B v vs L) (k : Only (fun j => j = R) w W) (hR : R < B) : OwnR W B v vs L :=
  ⟨ownN_only h.row k (fun b hb e => by have := (ownN_lt h.row hb).1; omega), h.len, fun j a b => ownN_only (h.each j a b) k (fun b2 hb e => by have := (ownN_lt (h.each j a b) hb).1; omega), h.apart⟩
theorem RdAt.only {w0 w W : World} {R B : Nat} {v : Value} {bs : List UInt8} (h : RdAt w0 w R v bs) (k : Only (fun j => B ≤ j) w W) (hR : R < B) (hB : w0.heap.size ≤ B) : RdAt w0 W R v bs :=
  ⟨k.blk h.blk (fun f => by omega), h.src, h.kept.trans k (fun j hj f => by omega), h.le⟩
theorem getA_pos (l : List UInt8) : ∀ i n u k, getA l i n = (u, k, 0) → i + 1 ≤ k := by
  induction l with
  | nil => intro i n u k h; cases h
  | cons c t ih =>
    intro i n u k h
    by_cases ho : 10 ≤ i ∨ (i = 9 ∧ 1 < c.toNat % 128)
    · rw [getA_over ho] at h; cases h
    · by_cases hm : 128 ≤ c.toNat
      · rw [getA_go (by omega) (by omega) hm] at h
        have := ih _ _ _ _ h
        omega
      · by_cases hz : c.toNat = 0 ∧ 0 < i
        · rw [getA_nought (by omega) hz.1 hz.2] at h; cases h
        · rw [getA_last (by omega) (by omega) (by omega) (by omega)] at h
          cases h
          omega
theorem numB_pos {bs : List UInt8} {d k : Nat} (h : Po.numB bs = some (d, k)) : 1 ≤ k := by
  unfold Po.numB at h
  split at h
  · rename_i hc
    cases h
    rcases Po.getA_cases bs 0 0 (by decide) (by decide) with e | ⟨u, k, e, h1, hk⟩
    · rw [e] at hc; exact absurd hc.1 (by decide)
    · have := getA_pos bs 0 0 u k e
      rw [e]; show 1 ≤ k; omega
  · cases h
theorem rd_takes : ∀ (n : Nat) (last : Int) (acc : List Int) (at_ : Nat) (bs : List UInt8) (l : List Int) (k : Nat), Po.rdA n last acc at_ bs = some (l, k) → at_ + n ≤ k := by
  intro n
  induction n with
  | zero =>
    intro last acc at_ bs l k h
    rw [Po.rdA] at h
    cases h
    omega
  | succ n ih =>
    intro last acc at_ bs l k h
    rw [Po.rdA] at h
    cases hn : Po.numB bs with
    | none => rw [hn] at h; cases h
    | some dk =>
      obtain ⟨d, q⟩ := dk
      rw [hn] at h
      simp only at h
      split at h
      · have hq := numB_pos hn
        have := ih _ _ _ _ _ _ h
        omega
      · cases h
theorem read_takes {bs : List UInt8} {l : List Int} {k : Nat} (h : Po.readR bs = some (l, k)) : l.length ≤ k := by
  unfold Po.readR at h
  cases hn : Po.numB bs with
  | none => rw [hn] at h; cases h
  | some dk =>
    obtain ⟨d, q⟩ := dk
    rw [hn] at h
    simp only at h
    split at h
    · obtain ⟨g1, g2, g3⟩ := rd_bounds _ _ _ _ _ _ _ h (by omega) (fun x hx => by cases hx)
      have := rd_takes _ _ _ _ _ _ _ h
      rw [List.length_nil] at g3
      omega
    · cases h
/-- No series is longer than what room is left for. -/
def LenB (L : List Labs) (n : Nat) : Prop := ∀ x ∈ L, x.length + n ≤ 300000
theorem LenB.put {L : List Labs} {n i : Nat} {y : Lab} (h : LenB L (n + 1)) (hi : i < L.length) : LenB (L.set i (L[i] ++ [y])) n := by
  intro x hx
  rcases List.mem_or_eq_of_mem_set hx with e | e
  · have := h x e; omega
  · have := h L[i] (List.getElem_mem hi)
    rw [e, List.length_append, List.length_singleton]; omega
/-- A label more of series i, beside the reader and a list. -/
theorem put_step {w0 w : World} {R B B2 g cap cc n i n0 : Nat} {v u : Value} {rest : List UInt8} {vs xs : List Value} {L : List Labs} (h : OwnR w B (.slice (some ⟨g, 0, none⟩) cc cap) vs L) (hvs : vs.length = cc) (hrd : RdAt w0 w R v rest) (hR : R < B) (hB : B ≤ w.heap.size) (hlst : w.ownsRow B2 3 1 u n xs) (hi : i < cc) (y : Lab) (hlen : LenB L (n0 + 1)) :
    ∃ la ln lc w2 a2 n2 c2 vs2 w3, w.cell? ⟨g, i, none⟩ = some (.slice la ln lc) ∧ Hid ((Builtin.append_ #[44, 44] 0 #[.slice la ln lc, .slice (some ⟨w.heap.size, 0, none⟩) 1 1]).run Tryz.prog (w.alloc (.cells #[.string y.1, .string y.2] 43)) = .ok (.slice a2 n2 c2) w2) ∧
      w2.frozen? ⟨g, i, none⟩ = false ∧ (∃ u, w2.cell? ⟨g, i, none⟩ = some u) ∧ w2.setCell ⟨g, i, none⟩ (.slice a2 n2 c2) = w3 ∧ Hid (OwnR w3 B (.slice (some ⟨g, 0, none⟩) cc cap) vs2 (putAt L i y)) ∧ Hid (vs2.length = cc) ∧ Hid (RdAt w0 w3 R v rest) ∧ Hid (w3.ownsRow B2 3 1 u n xs) ∧ Hid (LenB (putAt L i y) n0) ∧ w.heap.size ≤ w3.heap.size := by
  subst hvs
  have hi2 : i < L.length := by rw [← h.len]; exact hi
  have hl := hlen L[i] (List.getElem_mem hi2)
  obtain ⟨la, lc, w2, a2, n2, c2, e1, hr, hf, hc, hq, _, _⟩ := own_put h hB hi hi2 y (by omega)
  have hgb : (Value.slice (some ⟨g, 0, none⟩) vs.length cap).ownBlock = some g := rfl
  have hBg := (ownN_lt h.row hgb).1
  have hat := h.each i hi hi2
  have ho := hq.out.2
  refine ⟨la, L[i].length, lc, w2, a2, n2, c2, vs.set i (.slice a2 n2 c2), _, ?_, hr, hf, hc, rfl, ?_, ?_, ?_, ?_, ?_, ho.size⟩
  · rw [h.row.cellAt i (by omega), List.getElem?_eq_getElem hi, e1]
  · show OwnR _ _ _ _ _
    rw [putAt_eq hi2]
    exact hq.out.1
  · show _ = _
    rw [List.length_set]
  · exact hid (hrd.only (B := B) (ho.mono (fun j _ e => by
      rcases e with e | e
      · omega
      · exact (ownN_lt hat e).1)) hR (by have := hrd.le; omega))
  · exact hid (ownN_only hlst ho (fun b hb e => by
      rcases e with e | e
      · exact ((ownN_typed hlst hb).ne (ownN_typed h.row (by rw [e]; exact hgb)) (by decide)) rfl
      · exact ((ownN_typed hlst hb).ne (ownN_typed hat e) (by decide)) rfl))
  · show LenB _ _
    rw [putAt_eq hi2]
    exact hlen.put hi2
theorem OwnR.base {w : World} {B B' : Nat} {v : Value} {vs : List Value} {L : List Labs} (h : OwnR w B v vs L) (hb : B' ≤ B) : OwnR w B' v vs L := ⟨ownN_base h.row hb, h.len, fun j a b => ownN_base (h.each j a b) hb, h.apart⟩
theorem made_nil (K : Nat) : (madeCells #[Value.slice none 0 0] K).toList = List.replicate K (.slice none 0 0) := by
  apply List.ext_getElem?
  intro i
  by_cases h : i < K
  · simp [madeCells, h, Nat.mod_one]
  · rw [List.getElem?_eq_none (by simp [size_madeCells]; omega), List.getElem?_eq_none (by simp; omega)]

set_option maxRecDepth 100000 in
set_option maxHeartbeats 6400000 in
theorem read_ix (w : World) (v : Value) (bs : List UInt8) (hs : Po.BSrc w v bs) (hl : bs.length ≤ 300000) :
    Calls Tryz.prog 32 #[v] w (ReadP w bs) := by
  have HR := hid (fun W => refuse_no 5 W)
  have HY := hid (fun W => refuse_yes 5 W)
  obtain ⟨i0, hi0, hz0, hz1, hz2⟩ := info_parts Tryz.infoLabs
  have hrd0 : RdAt w (w.alloc (.cells #[v] 102)) w.heap.size v bs := ⟨Blk.new w [v] 102, hs, (Only.refl _ w).alloc _, Nat.le_refl _⟩
  have HRD0 := hid hrd0
  have HN0 := hid (number_any w _ w.heap.size v bs hrd0 (by omega))
  obtain ⟨a, c, rfl, _⟩ := hs.2
  have hk0 : Kept w (w.alloc (.cells #[.slice a bs.length c] 102)) := (Only.refl _ w).alloc _
  have HK0 := hid hk0
  have HNO : Hid (∀ w', readI bs = none → Kept w w' → ReadP w bs (gave 5) w') := fun w' h k => .inl ⟨h, rfl, k⟩
  obtain ⟨M, hM⟩ : ∃ M, bs.length = M := ⟨_, rfl⟩
  rw [hM] at HN0 HRD0 HK0 ⊢
  clear hrd0 hs hk0
  go_enter Tryz.func32, Tryz.ntmps32
  go_wp2_with fail
  refine HN0.out.mono ?_
  intro e w1 h1
  obtain ⟨hno, rfl, hw⟩ | ⟨cc, k1, v1, hn1, rfl, hrd1, hon1⟩ := h1
  · replace hw := hw.symm
    subst hw
    exact ⟨rfl, HNO.out _ (by unfold readI; rw [hno]) HK0.out⟩
  · have hle1 := numR_le hn1
    have HRD1 := hid hrd1
    have K1 := hid (show Kept w w1 from hrd1.kept)
    have HN1 := hid hn1
    clear hrd1 hon1 hn1
    by_cases hcc : 1000 < cc
    · have d1 : decide (1000 < cc) = true := decide_eq_true hcc
      have d2 : decide ((1000 : Int) < (cc : Int)) = true := decide_eq_true (by omega)
      have HF := hid (HNO.out w1 (by unfold readI; rw [HN1.out]; simp only; rw [if_pos hcc]) K1.out)
      go_wp2_with fail
      refine (HY.out w1).mono ?_
      rintro e w' ⟨rfl, hw⟩
      replace hw := hw.symm
      subst hw
      exact ⟨rfl, HF.out⟩
    · have d1 : decide (1000 < cc) = false := decide_eq_false hcc
      have d2 : decide ((1000 : Int) < (cc : Int)) = false := decide_eq_false (by omega)
      have d3 : ¬ 1000 < cc := hcc
      have hmk : ∀ w, (Instr.makeSlice 22 (.int .i64 (cc : Int)) (.int .i64 (cc : Int))).run Tryz.prog w = .ok (.slice (some ⟨w.heap.size, 0, none⟩) cc cc) (w.alloc (.cells (madeCells #[Value.slice none 0 0] cc) 44)) := fun w => by
        have := run_make (P := Tryz.prog) w 22 44 i0 (.slice none 0 0) Tryz.underlying22 hi0 hz0 .i64 .i64 (cc : Int) (cc : Int) (by omega) (by omega) (by rw [hz2]; omega) (by omega)
        rw [hz1] at this
        simp only [Int.toNat_natCast, Nat.mul_one] at this
        exact this
      have hk2 : Kept w1 (w1.alloc (.cells (madeCells #[Value.slice none 0 0] cc) 44)) := (Only.refl _ w1).alloc _
      have hown2 : (w1.alloc (.cells (madeCells #[Value.slice none 0 0] cc) 44)).ownsRow w1.heap.size 44 1 (.slice (some ⟨w1.heap.size, 0, none⟩) cc cc) cc (List.replicate cc (.slice none 0 0)) := by
        rw [← made_nil]
        exact World.ownsRow_lit w1 _ cc (Nat.le_refl _) (by unfold maxLen; omega) (by rw [size_madeCells]; omega)
      obtain ⟨w2, hw2⟩ : ∃ w2, w1.alloc (.cells (madeCells #[Value.slice none 0 0] cc) 44) = w2 := ⟨_, rfl⟩
      have hmk1 := hmk w1
      rw [hw2] at hmk1 hk2 hown2
      have HRD2 := hid (HRD1.out.stay hk2)
      have K2 := hid (K1.out.trans hk2 (fun _ _ f => f))
      obtain ⟨base2, hbase2⟩ : ∃ b, w1.heap.size = b := ⟨_, rfl⟩
      rw [hbase2] at hmk1 hown2
      have hb2 : w.heap.size < base2 ∧ base2 < w2.heap.size := by
        have := HRD1.out.blk.lt
        have := World.size_alloc w1 (.cells (madeCells #[Value.slice none 0 0] cc) 44)
        rw [hw2] at this
        omega
      have HO2 := hid (ownR_nil w2 base2 cc _ hown2)
      have HN2 := hid (number_any w w2 w.heap.size v1 (bs.drop k1) HRD2.out (by rw [List.length_drop]; omega))
      clear hmk hown2 hk2 hw2 hbase2
      go_wp2_with fail
      refine (HR.out w1).mono ?_
      rintro e w' ⟨rfl, hw⟩
      replace hw := hw.symm
      subst hw
      go_wp2_with fail
      refine HN2.out.mono ?_
      intro e w3 h3
      have HBB := hid hb2
      obtain ⟨hno, rfl, hw⟩ | ⟨m, k2, v2, hn2, rfl, hrd3, hon3⟩ := h3
      · replace hw := hw.symm
        subst hw
        exact ⟨rfl, HNO.out _ (by unfold readI; rw [HN1.out]; simp only; rw [if_neg hcc, hno]) K2.out⟩
      · have hle2 := numR_le hn2
        have HRI : Hid (readI bs = rdM m (List.replicate cc []) ((bs.drop k1).drop k2)) := by
          show _ = _
          unfold readI; rw [HN1.out]; simp only; rw [if_neg hcc, hn2]
        have hon3b : Only (fun j => w.heap.size = j) w2 w3 := hon3.mono (fun j _ e => e.symm)
        have HO3 := hid (HO2.out.only_ne hon3 (by omega))
        have HRD3 := hid hrd3
        have hs3 := hon3.size
        have hb3 : w.heap.size < base2 ∧ base2 < w3.heap.size := by omega
        have hrl : ((bs.drop k1).drop k2).length ≤ M := by rw [List.length_drop, List.length_drop]; omega
        generalize (bs.drop k1).drop k2 = rest0 at HRI HRD3 hrl
        clear hrd3 hon3 hon3b HO2 HN2 HRD2 K2 hn2 hmk1 HRD1 K1 HN1 HN0 HRD0 HK0 hb2 HBB hs3
        generalize hvs0 : List.replicate cc (Value.slice none 0 0) = vs0 at HO3
        have HL0 : Hid ((List.replicate cc ([] : Labs)).length = cc) := by show _ = _; simp
        go_wp2_with fail
        have HL1 : Hid (LenB (List.replicate cc ([] : Labs)) rest0.length) := by
          show LenB _ _
          intro x hx
          rw [List.eq_of_mem_replicate hx, List.length_nil]
          omega
        have HV0 : Hid (vs0.length = cc) := by show _ = _; rw [← hvs0, List.length_replicate]
        have hm63 := hle2.2
        clear hvs0
        go_loopw [22] (fun s22 wr => ∃ (i : Nat) (v : Value) (rest : List UInt8) (vs : List Value) (L : List Labs), i ≤ m ∧ s22 = .int .i64 (i : Int) ∧ Hid (RdAt w wr w.heap.size v rest) ∧ Hid (OwnR wr base2 (.slice (some ⟨base2, 0, none⟩) cc cc) vs L) ∧ Hid (vs.length = cc) ∧ Hid (readI bs = rdM (m - i) L rest) ∧ rest.length ≤ M ∧ Hid (LenB L rest.length) ∧ base2 < wr.heap.size) (fun s22 _ => m - (intOf s22).toNat)
        case atStart => exact ⟨0, _, rest0, vs0, _, by omega, rfl, HRD3, HO3, HV0, HRI, hrl, HL1, hb3.2⟩
        case round =>
          obtain ⟨i, vr, rest, vs, L, hi, rfl, hrd, hor, hvl, hri, hrle, hlb, hbs⟩ := hrel
          by_cases hlt : i < m
          · have HT1 := hid (rtext_ix w wr w.heap.size vr rest hrd.out (by omega))
            obtain ⟨mi, hmi⟩ : ∃ mi, m - i = mi + 1 := ⟨m - i - 1, by omega⟩
            have HMI : Hid (m - (i + 1) = mi) := by show _ = _; omega
            rw [hmi] at hri
            clear hmi HRD3 HO3 HV0 HRI HL1
            go_wp2_with fail
            refine HT1.out.mono ?_
            intro e wa ha
            obtain ⟨hno, rfl, hon⟩ | ⟨s, r1, va, ht1, rfl, hrda, hona⟩ := ha
            · exact ⟨rfl, HNO.out _ (by rw [hri.out, rdM, hno]) (hrd.out.kept.trans hon (fun j hj e => by have := hrd.out.le; omega))⟩
            · have hl1 := txtR_le ht1
              have hora := hid (hor.out.only_ne hona hb3.1)
              have hsa := hona.size
              have HT2 := hid (rtext_ix w wa w.heap.size va r1 hrda (by omega))
              have HRa := hid hrda
              have HTT := hid ht1
              clear hrda hona ht1 hrd hor HT1
              go_wp2_with fail
              refine HT2.out.mono ?_
              intro e wb hb
              obtain ⟨hno, rfl, hon⟩ | ⟨t, r2, vb, ht2, rfl, hrdb, honb⟩ := hb
              · exact ⟨rfl, HNO.out _ (by rw [hri.out, rdM, HTT.out]; simp only; rw [hno]) (HRa.out.kept.trans hon (fun j hj e => by have := HRa.out.le; omega))⟩
              · have hl2 := txtR_le ht2
                have horb := hid (hora.out.only_ne honb hb3.1)
                have hsb := honb.size
                have HT3 := hid (list_ix w wb w.heap.size vb r2 hrdb (by omega) (fun l k h => (read_bounds h).2.1))
                have HRb := hid hrdb
                have HTU := hid ht2
                clear hrdb honb ht2 HT2 hora
                go_wp2_with fail
                refine HT3.out.mono ?_
                intro e wc hc
                obtain ⟨hno, rfl, hon⟩ | ⟨u, l, k, vc, ht3, rfl, hown, hrdc, honc⟩ := hc
                · exact ⟨rfl, HNO.out _ (by rw [hri.out, rdM, HTT.out]; simp only; rw [HTU.out]; simp only; rw [hno]) (HRb.out.kept.trans hon (fun j hj e => by have := HRb.out.le; omega))⟩
                · have hl3 := read_bounds ht3
                  have hl4 := read_takes ht3
                  obtain ⟨la, lc, rfl⟩ := ownN_slice hown
                  have horc := hid (horb.out.only_ne honc hb3.1)
                  have hsc := honc.size
                  have HOWN := hid hown
                  have HRC := hid hrdc
                  have HTL := hid ht3
                  have HPOS := hid hl3.1
                  obtain ⟨LN, hLN⟩ : ∃ LN, l.length = LN := ⟨_, rfl⟩
                  have HLN := hid hLN
                  have hdl : (r2.drop k).length + k = r2.length := by rw [List.length_drop]; omega
                  have hln : LN ≤ 10000 ∧ LN ≤ k := ⟨by have := hl3.2.2; omega, by omega⟩
                  rw [hLN] at HOWN ⊢
                  have HSTEP : Hid (readI bs = match putL (mkB s, mkB t) l L with | none => none | some L2 => rdM mi L2 (r2.drop k)) := by
                    show _ = _
                    rw [hri.out, rdM, HTT.out]; simp only; rw [HTU.out]; simp only; rw [HTL.out]
                    try rfl
                  generalize r2.drop k = r3 at HRC hdl HSTEP
                  have HLB3 : Hid (LenB L ((LN - 0) + r3.length)) := by
                    show LenB _ _
                    intro x hx
                    have := hlb.out x hx
                    omega
                  have hr3 : r3.length ≤ M := by omega
                  obtain ⟨bl, hbl⟩ : ∃ bl, wb.heap.size = bl := ⟨_, rfl⟩
                  rw [hbl] at HOWN
                  have hbs3 : base2 < wc.heap.size := by omega
                  clear hown hrdc ht3 honc hl3 HT3 horb hLN HTL HTU HTT hri hdl hl4 hbl
                  go_wp2_with fail
                  go_loopw [31] (fun s31 wr => ∃ (j : Nat) (vs : List Value) (L' : List Labs), j ≤ LN ∧ s31 = .int .i64 (j : Int) ∧ Hid (RdAt w wr w.heap.size vc r3) ∧ Hid (OwnR wr base2 (.slice (some ⟨base2, 0, none⟩) cc cc) vs L') ∧ Hid (vs.length = cc) ∧ Hid (wr.ownsRow bl 3 1 (.slice la LN lc) LN (l.map (Value.int .i64))) ∧ Hid (putL (mkB s, mkB t) l L = putL (mkB s, mkB t) (l.drop j) L') ∧ Hid (LenB L' ((LN - j) + r3.length)) ∧ base2 < wr.heap.size) (fun s31 _ => LN - (intOf s31).toNat)
                  case atStart => exact ⟨0, vs, L, by omega, rfl, HRC, horc, hvl, HOWN, hid rfl, HLB3, hbs3⟩
                  case round =>
                    obtain ⟨j, vs4, L4, hj, rfl, hrd4, hor4, hvl4, hls4, hpl4, hlb4, hbs4⟩ := hrel
                    by_cases hjl : j < LN
                    · have hjl2 : j < l.length := by have := HLN.out; omega
                      have hx0 := HPOS.out l[j] (List.getElem_mem hjl2)
                      obtain ⟨gl, cl, hgl⟩ := ownN_some hls4.out (by omega)
                      have hcl : ∃ b, la = some ⟨b, 0, none⟩ := ⟨gl, by cases hgl; rfl⟩
                      obtain ⟨b, rfl⟩ := hcl
                      clear hgl
                      have hcj : wr.cell? ⟨b, j, none⟩ = some (.int .i64 l[j]) := by
                        rw [hls4.out.cellAt j (by omega), List.getElem?_map, List.getElem?_eq_getElem hjl2]
                        rfl
                      have HDR : Hid (l.drop j = l[j] :: l.drop (j + 1)) := List.drop_eq_getElem_cons hjl2
                      have hL4 : L4.length = cc := by rw [← hor4.out.len]; exact hvl4.out
                      generalize l[j] = x at hx0 hcj HDR
                      obtain ⟨q, rfl⟩ : ∃ q : Nat, x = (q : Int) := ⟨x.toNat, by omega⟩
                      by_cases hq : q < cc
                      · have dq : decide (cc ≤ q) = false := decide_eq_false (by omega)
                        have dq2 : ¬ cc ≤ q := by omega
                        have hlb5 : LenB L4 ((LN - (j + 1) + r3.length) + 1) := by
                          intro x hx
                          have := hlb4.out x hx
                          omega
                        obtain ⟨la5, ln5, lc5, w5, a5, n5, c5, vs5, w6, r5, r6, r7, ⟨u7, r8⟩, r9, o1, o2, o3, o4, o5, o6⟩ := put_step hor4.out hvl4.out hrd4.out hb3.1 (by omega) hls4.out hq (mkB s, mkB t) hlb5
                        have HPL : Hid (putL (mkB s, mkB t) l L = putL (mkB s, mkB t) (l.drop (j + 1)) (putAt L4 q (mkB s, mkB t))) := by
                          show _ = _
                          rw [hpl4.out, HDR.out, putL, if_pos (by rw [hL4]; omega)]
                          rfl
                        dsimp only at r6
                        clear hlb5 hlb4 hpl4 HDR hrd4 hor4 hls4 hvl4
                        go_wp2_with fail
                        refine (HR.out wr).mono ?_
                        rintro e w' ⟨rfl, hw⟩
                        replace hw := hw.symm
                        subst hw
                        go_wp2_with (at_builtin; refine Lys.wpList_append_run rfl _ _ _ rfl rfl rfl r6 ?_)
                        (try go_wp2_with fail)
                        refine ⟨⟨j + 1, vs5, _, by omega, by go_num, o3, o1, o2, o4, HPL, o5, by omega⟩, ?_⟩
                        simp [intOf]
                        omega
                      · have dq : decide (cc ≤ q) = true := decide_eq_true (by omega)
                        have HF := hid (HNO.out wr (by
                          rw [HSTEP.out, hpl4.out, HDR.out, putL, if_neg (by rw [hL4]; omega)]) hrd4.out.kept)
                        go_wp2_with fail
                        refine (HY.out wr).mono ?_
                        rintro e w' ⟨rfl, hw⟩
                        replace hw := hw.symm
                        subst hw
                        exact ⟨rfl, HF.out⟩
                    · have hje : j = LN := by omega
                      have HPL : Hid (putL (mkB s, mkB t) l L = some L4) := by
                        show _ = _
                        rw [hpl4.out, List.drop_eq_nil_of_le (by have := HLN.out; omega), putL]
                      have HRI2 : Hid (readI bs = rdM (m - (i + 1)) L4 r3) := by
                        show _ = _
                        rw [HSTEP.out, HPL.out, HMI.out]
                      have HLB5 : Hid (LenB L4 r3.length) := by
                        show LenB _ _
                        intro x hx
                        have := hlb4.out x hx
                        omega
                      have hne : ¬ ((j : Int) < (LN : Int)) := by omega
                      clear hje
                      go_wp2_with fail
                      go_roundw
                      case rel => exact ⟨i + 1, vc, r3, vs4, L4, by omega, by go_num, hrd4, hor4, hvl4, HRI2, hr3, HLB5, hbs4⟩
                      case measure => simp [intOf]; omega
          · have hie : m - i = 0 := by omega
            have HF : Hid (readI bs = some L) := by show _ = _; rw [hri.out, hie, rdM]
            have hne : ¬ ((i : Int) < (m : Int)) := by omega
            clear hie
            go_wp2_with fail
            go_ret
            exact .inr ⟨_, vs, L, HF.out, rfl, hor.out.base (by omega), hrd.out.kept⟩
end Go.Proofs.YteknpfldemgmnaaGreat.X

/-
  Unpack: what it defers, bytes.Equal, what read's series are.
-/
namespace Go.Proofs.YteknpfldemgmnaaGreat.X
open Go.RowKit Go.Proofs.Lys Go.Maps Go.Proofs.YteknpfldemgmnaaGreat.N
set_option linter.unusedVariables false
set_option linter.unusedSimpArgs false

theorem unNo (p q : Addr) (w : World) :
    CallsD Tryz.prog 31 #[.pointer (some p), .pointer (some q)] .returning w fun e u' w' => e = .returned (.tuple #[]) ∧ u' = .returning ∧ w' = w := by
  refine callsD_of_wpS Tryz.func31 rfl fun c₀ cs hu => ?_
  apply wpS_seq
  apply wpS_region
  simp [wpOpsS, go_sem, recoverD, hu, Tryz.ntmps31, Exit.thenS]
  apply wpS_seq
  apply wpS_region
  simp [wpOpsS, go_sem, Exit.thenS]
  refine wpS_cond (t := false) (by simp [Act.eval, Array.replicate]) ?_
  simp only [Bool.false_eq_true, if_false]
  refine wpS_of_wp (wp_skip ?_)
  cases c₀
  simp_all [bodyPostS, results, Tryz.results31]

set_option maxHeartbeats 800000 in
theorem unUp (p q : Nat) (x : Value) (y n : Int) (w : World) (hp : Blk w p [x] 26) (hq : Blk w q [.int .i64 y] 27) :
    CallsD Tryz.prog 31 #[.pointer (some ⟨p, 0, none⟩), .pointer (some ⟨q, 0, none⟩)] (.panicking [{ v := .iface 27 (.int .i64 n), recovered := false }]) w fun e u' w' =>
      e = .returned (.tuple #[]) ∧ u' = .panicking [{ v := .iface 27 (.int .i64 n), recovered := true }] ∧ Only (fun k => k = p ∨ k = q) w w' ∧ Blk w' p [.pointer none] 26 ∧ Blk w' q [.int .i64 n] 27 := by
  have hne : p ≠ q := hp.ne hq (by decide)
  have c0 := hp.cell 0 rfl
  have f0 := hp.frozen 0
  have hp1 := hp.set 0 (.pointer none)
  have hq1 := hq.other (a := ⟨p, 0, none⟩) (fun e => hne e.symm) (.pointer none)
  have d0 := hq1.cell 0 rfl
  have g0 := hq1.frozen 0
  have HF := hid (show Only (fun k => k = p ∨ k = q) w ((w.setCell ⟨p, 0, none⟩ (.pointer none)).setCell ⟨q, 0, none⟩ (.int .i64 n)) ∧ Blk ((w.setCell ⟨p, 0, none⟩ (.pointer none)).setCell ⟨q, 0, none⟩ (.int .i64 n)) p [.pointer none] 26 ∧ Blk ((w.setCell ⟨p, 0, none⟩ (.pointer none)).setCell ⟨q, 0, none⟩ (.int .i64 n)) q [.int .i64 n] 27 from
    ⟨((Only.refl (fun k => k = p ∨ k = q) w).setCell (p := ⟨p, 0, none⟩) (fun _ => .inl rfl) _).setCell (p := ⟨q, 0, none⟩) (fun _ => .inr rfl) _, hp1.other (a := ⟨q, 0, none⟩) hne _, hq1.set 0 _⟩)
  have hta : ∀ w, (Instr.typeAssert (.iface 27 (.int .i64 n)) 20 27 false).run Tryz.prog w = .ok (.int .i64 n) w := by
    intro w
    simp [Instr.typeAssert, run_underlying Tryz.underlying27, Result.andThen]
  clear hp1 hq1
  refine callsD_of_wpS Tryz.func31 rfl fun c₀ cs hu => ?_
  apply wpS_seq
  apply wpS_region
  simp [wpOpsS, go_sem, recoverD, hu, Tryz.ntmps31, Exit.thenS]
  apply wpS_seq
  apply wpS_region
  simp [wpOpsS, go_sem, Exit.thenS]
  refine wpS_cond (t := true) (by simp [Act.eval, Array.replicate]) ?_
  simp only [if_true]
  refine wpS_of_wp ?_
  go_wp2_with fail
  refine (show Code.wp _ _ _ ⟨#[.pointer (some ⟨p, 0, none⟩), .pointer (some ⟨q, 0, none⟩), .iface 27 (.int .i64 n), .iface 27 (.int .i64 n), .iface 27 (.int .i64 n), .bool true, undef, undef], []⟩ _ from ?_)
  refine wp_region_noPanic ?_
  refine wp_region_last (L := 3) (S := fun _ => True) (by kernel_rfl) ?_
  refine wpAnyL_take (i := 0) (v := .iface 27 (.int .i64 n)) rfl (by kernel_rfl) (by kernel_rfl) (by kernel_rfl) (by kernel_rfl) (by kernel_rfl) (fun _ _ _ h => h) (Or.inl ⟨by rfl, ?_⟩) trivial ?_
  · (intro w' hSw; go_simp)
  (try simp only [List.getElem_toArray, List.getElem_cons_succ, List.getElem_cons_zero])
  go_frame
  refine wpAnyL_take (i := 1) (v := .int .i64 n) rfl (by kernel_rfl) (by kernel_rfl) (by kernel_rfl) (by kernel_rfl) (by kernel_rfl) (fun _ _ _ h => h) (Or.inl ⟨by rfl, ?_⟩) trivial ?_
  · (intro w' hSw; go_simp)
  (try simp only [List.getElem_toArray, List.getElem_cons_succ, List.getElem_cons_zero])
  go_frame
  refine wpAnyL_one (i := 2) (by kernel_rfl) rfl rfl ?_
  go_simp
  (try go_frame)
  generalize w.setCell ⟨p, 0, none⟩ (.pointer none) = w1 at d0 g0 HF ⊢
  refine wpAnyL_last (by kernel_rfl) (by kernel_rfl) rfl rfl ?_
  go_simp
  refine NoPanic.normal ?_
  go_wp2_with fail
  refine ⟨rfl, _, rfl, .tuple #[], by simp [results, Tryz.results31], rfl, rfl, HF.out.1.drew, HF.out.2.1.drew, HF.out.2.2.drew⟩

theorem xstr_eq (a b : List UInt8) : ((⟨a.toArray⟩ : ByteArray).toList == (⟨b.toArray⟩ : ByteArray).toList) = decide (a = b) := by
  rw [ByteArray.toList_eq, ByteArray.toList_eq]
  by_cases h : a = b <;> simp [h]
theorem beq_any {w : World} {v u : Value} {a b : List UInt8} (h : SrcOf w v (a.map bV)) (h' : SrcOf w u (b.map bV)) :
    Calls Tryz.prog 34 #[v, u] w fun e w' => w' = w ∧ ((a = b ∧ e = .returned (.bool true)) ∨ (a ≠ b ∧ e = .returned (.bool false))) := by
  have c1 := conv_bytes h
  have c2 := conv_bytes h'
  have hs := xstr_eq a b
  generalize (⟨a.toArray⟩ : ByteArray) = sa at c1 hs
  generalize (⟨b.toArray⟩ : ByteArray) = sb at c2 hs
  clear h h'
  by_cases hab : a = b
  · have hs' : (sa.toList == sb.toList) = true := by rw [hs]; simp [hab]
    have hb : (a == b) = true := by simp [hab]
    have HS := hid hab
    clear hs hab
    go_enter Tryz.func34, Tryz.ntmps34
    go_wp2
    go_ret
    exact ⟨rfl, .inl ⟨HS.out, rfl⟩⟩
  · have hs' : (sa.toList == sb.toList) = false := by rw [hs]; simp [hab]
    have hb : (a == b) = false := by simp [hab]
    have HS := hid hab
    clear hs hab
    go_enter Tryz.func34, Tryz.ntmps34
    go_wp2
    go_ret
    exact ⟨rfl, .inr ⟨HS.out, rfl⟩⟩
/-- No series is longer than what room is left for. -/
def LenC (L : List Labs) (n : Nat) : Prop := ∀ x ∈ L, x.length + n ≤ 100000
theorem LenC.put {L : List Labs} {n i : Nat} {y : Lab} (h : LenC L (n + 1)) (hi : i < L.length) : LenC (L.set i (L[i] ++ [y])) n := by
  intro x hx
  rcases List.mem_or_eq_of_mem_set hx with e | e
  · have := h x e; omega
  · have := h L[i] (List.getElem_mem hi)
    rw [e, List.length_append, List.length_singleton]; omega
/-- What is put to series of which none is great. -/
theorem putL_ok (y : Lab) (hy : y.1.size ≤ 100000 ∧ y.2.size ≤ 100000) (n : Nat) : ∀ (l : List Int) (L L2 : List Labs), (∀ x ∈ l, 0 ≤ x) → putL y l L = some L2 → LenC L (l.length + n) → (∀ x ∈ L, Small x) → LenC L2 n ∧ ∀ x ∈ L2, Small x
  | [], L, L2, _, h, hb, hs => by
    cases h
    exact ⟨fun x hx => by have := hb x hx; rw [List.length_nil] at this; omega, hs⟩
  | i :: r, L, L2, h0, h, hb, hs => by
    rw [putL] at h
    split at h
    · rename_i hi
      have hi0 := h0 i (List.mem_cons_self ..)
      have hq : i.toNat < L.length := by omega
      rw [putAt_eq hq] at h
      refine putL_ok y hy n r _ L2 (fun x hx => h0 x (List.mem_cons_of_mem _ hx)) h (LenC.put (fun x hx => by have := hb x hx; rw [List.length_cons] at this; omega) hq) (fun x hx => ?_)
      rcases List.mem_or_eq_of_mem_set hx with e | e
      · exact hs x e
      · rw [e]
        intro z hz
        rcases List.mem_append.1 hz with g | g
        · exact hs _ (List.getElem_mem hq) z g
        · rw [List.mem_singleton.1 g]; exact hy
    · cases h
theorem mkB_size (s : List UInt8) : (mkB s).size = s.length := by
  simp [mkB, ByteArray.size]
theorem rdM_ok : ∀ (m : Nat) (L : List Labs) (bs : List UInt8) (L2 : List Labs), rdM m L bs = some L2 → bs.length ≤ 100000 → LenC L bs.length → (∀ x ∈ L, Small x) → L2.length = L.length ∧ OkS L2 := by
  intro m
  induction m with
  | zero =>
    intro L bs L2 h _ hb hs
    rw [rdM] at h
    cases h
    exact ⟨rfl, fun x hx => ⟨by have := hb x hx; omega, hs x hx⟩⟩
  | succ m ih =>
    intro L bs L2 h hl hb hs
    rw [rdM] at h
    cases h1 : txtR bs with
    | none => rw [h1] at h; cases h
    | some p =>
      obtain ⟨s, r1⟩ := p
      rw [h1] at h
      simp only at h
      cases h2 : txtR r1 with
      | none => rw [h2] at h; cases h
      | some p =>
        obtain ⟨t, r2⟩ := p
        rw [h2] at h
        simp only at h
        cases h3 : Po.readR r2 with
        | none => rw [h3] at h; cases h
        | some p =>
          obtain ⟨l, k⟩ := p
          rw [h3] at h
          simp only at h
          cases h4 : putL (mkB s, mkB t) l L with
          | none => rw [h4] at h; cases h
          | some L3 =>
            rw [h4] at h
            simp only at h
            have g1 := txtR_le h1
            have g2 := txtR_le h2
            have g3 := read_bounds h3
            have g4 := read_takes h3
            obtain ⟨o1, o2⟩ := putL_ok (mkB s, mkB t) ⟨by rw [mkB_size]; omega, by rw [mkB_size]; omega⟩ (r2.drop k).length l L L3 g3.1 h4 (fun x hx => by have := hb x hx; rw [List.length_drop]; omega) hs
            obtain ⟨e1, e2⟩ := ih L3 (r2.drop k) L2 h (by rw [List.length_drop]; omega) o1 o2
            exact ⟨by rw [e1, putL_len _ _ _ _ h4], e2⟩
/-- Series that were read: not many, none great. -/
theorem readI_ok {bs : List UInt8} {L : List Labs} (h : readI bs = some L) (hl : bs.length ≤ 100000) : L.length ≤ 1000 ∧ OkS L := by
  unfold readI at h
  cases h1 : numR bs with
  | none => rw [h1] at h; cases h
  | some p =>
    obtain ⟨c, k⟩ := p
    rw [h1] at h
    simp only at h
    split at h
    · cases h
    · rename_i hc
      cases h2 : numR (bs.drop k) with
      | none => rw [h2] at h; cases h
      | some p =>
        obtain ⟨m, q⟩ := p
        rw [h2] at h
        simp only at h
        obtain ⟨e1, e2⟩ := rdM_ok m _ _ _ h (by rw [List.length_drop, List.length_drop]; omega) (fun x hx => by
          rw [List.eq_of_mem_replicate hx, List.length_nil, List.length_drop, List.length_drop]; omega) (fun x hx => by
          rw [List.eq_of_mem_replicate hx]
          intro z hz
          cases hz)
        rw [List.length_replicate] at e1
        exact ⟨by omega, e2⟩
end Go.Proofs.YteknpfldemgmnaaGreat.X
