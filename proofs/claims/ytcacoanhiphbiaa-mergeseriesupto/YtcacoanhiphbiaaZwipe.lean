/-
  The law's own Wipe: what was told is written over.
-/
import Derived.Test.YtcacoanhiphbiaaZsown
import Derived.Handy
namespace Go.Proofs.Ytcacoanhiphbiaa.Ms
open Go.RowKit Go.Proofs.Lys Go.Maps
open Go.Proofs.Ytcacoanhiphbiaa.N (Labs LabAt labL)
set_option linter.unusedVariables false
set_option linter.unusedSimpArgs false

theorem only_cellW {O : Nat → Prop} {w W : World} (k : Only O w W) {a : Addr} {v : Value} (hO : ¬ O a.block) (h : w.cell? a = some v) : W.cell? a = some v := by
  rw [World.cell?_of_block (k.block _ (World.block_lt_of_cell? w _ h) hO)]
  exact h
/-- The blocks of a row of series. -/
def SerO (v : Value) (qs : List SV) (j : Nat) : Prop := v.ownBlock = some j ∨ ∃ q ∈ qs, q.has j
theorem two_cellsW {w : World} {B g n cap k : Nat} {e : TypeId} {xs : List Value} (h : w.ownsRow B e 2 (.slice (some ⟨g, 0, none⟩) n cap) n xs) (hk : k < n) (p q : Value) :
    (∃ x, w.cell? ⟨g, k * 2, none⟩ = some x) ∧ w.frozen? ⟨g, k * 2, none⟩ = false ∧ (∃ x, (w.setCell ⟨g, k * 2, none⟩ p).cell? ⟨g, k * 2 + 1, none⟩ = some x) ∧ (w.setCell ⟨g, k * 2, none⟩ p).frozen? ⟨g, k * 2 + 1, none⟩ = false ∧
    ((w.setCell ⟨g, k * 2, none⟩ p).setCell ⟨g, k * 2 + 1, none⟩ q).ownsRow B e 2 (.slice (some ⟨g, 0, none⟩) n cap) n ((xs.set (k * 2) p).set (k * 2 + 1) q) := by
  have hl : xs.length = n * 2 := h.1
  have h1 := (h.stored (k * 2) p).1
  refine ⟨⟨xs[k * 2]'(by omega), ?_⟩, h.frozenAt _, ⟨(xs.set (k * 2) p)[k * 2 + 1]'(by rw [List.length_set]; omega), ?_⟩, h1.frozenAt _, (h1.stored (k * 2 + 1) q).1⟩
  · rw [h.cellAt (k * 2) (by omega)]
    exact List.getElem?_eq_getElem _
  · rw [h1.cellAt (k * 2 + 1) (by omega)]
    exact List.getElem?_eq_getElem _
theorem only_twoW {w w1 : World} {g a b : Nat} {p q : Value} {O : Nat → Prop} (h : Only O w w1) (hO : g < w.heap.size → O g) : Only O w ((w1.setCell ⟨g, a, none⟩ p).setCell ⟨g, b, none⟩ q) := (h.setCell (p := ⟨g, a, none⟩) hO _).setCell (p := ⟨g, b, none⟩) hO _

/-- What the wiping knows behind i series. -/
structure WipI (w wr : World) (B g cap n : Nat) (qs : List SV) (i : Nat) (xs : List Value) : Prop where
  row : wr.ownsRow B 29 2 (.slice (some ⟨g, 0, none⟩) n cap) n xs
  rest : ∀ j, i * 2 ≤ j → xs[j]? = (svL qs)[j]?
  lab : ∀ q ∈ qs.drop i, LabAt wr B q.lv q.labs
  smp : ∀ q ∈ qs.drop i, SmpAt wr B q.sv q.smps
  only : Only (SerO (.slice (some ⟨g, 0, none⟩) n cap) qs) w wr

set_option maxRecDepth 100000 in
set_option maxHeartbeats 6400000 in
theorem wipe_any {w : World} {B : Nat} {v : Value} {qs : List SV} (h : SerAt w B v qs) (hn : qs.length ≤ 100000) (hs : ∀ q ∈ qs, q.labs.length ≤ 100000 ∧ q.smps.length ≤ 100000) :
    Calls Try.prog 9 #[v] w fun e w' => e = .returned (.tuple #[]) ∧ Only (SerO v qs) w w' := by
  by_cases h0 : qs.length = 0
  · obtain ⟨a, c, rfl⟩ := ownN_slice h.row
    rw [h0]
    clear h hs hn
    go_enter Try.func9, Try.ntmps9
    go_wp2
    refine wp_loop_rounds 1 ?_
    rw [rounds_succ]
    go_wp2
    go_returns
    exact ⟨rfl, Only.refl _ _⟩
  obtain ⟨g, cap, rfl⟩ := ownN_some h.row (by omega)
  obtain ⟨n, hN⟩ : ∃ n, qs.length = n := ⟨_, rfl⟩
  have H0 : Hid (WipI w w B g cap n qs 0 (svL qs)) := hid ⟨by have := h.row; rw [hN] at this; exact this, fun _ _ => rfl, fun q hq => h.lab q (List.mem_of_mem_drop hq), fun q hq => h.smp q (List.mem_of_mem_drop hq), Only.refl _ _⟩
  have HN := hid hN
  have HSz := hid hs
  have HAP := hid h.apart
  rw [hN] at hn ⊢
  clear h hs hN h0
  go_enter Try.func9, Try.ntmps9
  go_wp2_with fail
  go_loopw [2, 3, 4] (fun s _ _ wt => ∃ (i : Nat) (xs : List Value), i ≤ n ∧ s = .int .i64 (i : Int) ∧ WipI w wt B g cap n qs i xs) (fun s _ _ _ => n - (intOf s).toNat)
  case atStart => exact ⟨0, _, by omega, rfl, H0.out⟩
  case round =>
    obtain ⟨i, xs, hi, rfl, hW⟩ := hrel
    have HW := hid hW
    by_cases hlt : i < n
    · have hil : i < qs.length := by have := HN.out; omega
      have hmem : qs[i] ∈ qs.drop i := by rw [List.drop_eq_getElem_cons hil]; exact List.mem_cons_self ..
      have hx := svL_at qs i hil
      have c1 : wr.cell? ⟨g, i * 2, none⟩ = some (qs[i]'hil).lv := by
        rw [hW.row.cellAt (i * 2) (by omega), hW.rest _ (Nat.le_refl _)]
        exact hx.1
      have c2 : wr.cell? ⟨g, i * 2 + 1, none⟩ = some (qs[i]'hil).sv := by
        rw [hW.row.cellAt (i * 2 + 1) (by omega), hW.rest _ (by omega)]
        exact hx.2
      have hlab := hW.lab _ hmem
      have hsmp := hW.smp _ hmem
      obtain ⟨hsl, hss⟩ := HSz.out _ (List.getElem_mem hil)
      have HAPi : Hid (∀ q ∈ qs.drop (i + 1), ∀ k, (qs[i]'hil).has k → ¬ q.has k) := hid (fun q hq k h1 h2 => by
        obtain ⟨j, hj, e⟩ := List.getElem_of_mem hq
        rw [List.getElem_drop] at e
        have hj2 : j < qs.length - (i + 1) := by rw [List.length_drop] at hj; exact hj
        have := List.pairwise_iff_getElem.1 HAP.out i (i + 1 + j) hil (by omega) (by omega) k h1
        rw [e] at this
        exact this h2)
      have HQin : Hid ((qs[i]'hil) ∈ qs) := hid (List.getElem_mem hil)
      generalize qs[i]'hil = x at c1 c2 hlab hsmp hsl hss HAPi HQin
      obtain ⟨lv, sv, labs, smps⟩ := x
      simp only at c1 c2 hlab hsmp hsl hss
      obtain ⟨la, lc, hle⟩ := ownN_slice hlab
      obtain ⟨sa, sc, hse⟩ := ownN_slice hsmp
      subst hle hse
      obtain ⟨NL, hNL⟩ : ∃ N, labs.length = N := ⟨_, rfl⟩
      obtain ⟨NS, hNS⟩ : ∃ N, smps.length = N := ⟨_, rfl⟩
      have hlab' : wr.ownsRow B 45 2 (.slice la NL lc) NL (labL labs) := by have h2 : wr.ownsRow B 45 2 (.slice la labs.length lc) labs.length (labL labs) := hlab; rw [hNL] at h2; exact h2
      have hsmp' : wr.ownsRow B 36 2 (.slice sa NS sc) NS (smpL smps) := by have h2 : wr.ownsRow B 36 2 (.slice sa smps.length sc) smps.length (smpL smps) := hsmp; rw [hNS] at h2; exact h2
      rw [hNL] at c1 hsl HAPi HQin
      rw [hNS] at c2 hss HAPi HQin
      have HLb := hid hlab'
      have HSb := hid hsmp'
      have HNL := hid hNL
      have HNS := hid hNS
      obtain ⟨wo, hwo⟩ : ∃ wo, wo = wr := ⟨_, rfl⟩
      subst hwo
      have C1 := hid c1
      have C2 := hid c2
      clear hx hmem hW hlab hsmp hlab' hsmp' hNL hNS hil
      go_wp2_with fail
      go_loopw [3] (fun s wt => ∃ (k : Nat) (ys : List Value), k ≤ NS ∧ s = .int .i64 (k : Int) ∧ wt.ownsRow B 36 2 (.slice sa NS sc) NS ys ∧ Only (fun j => (Value.slice sa NS sc).ownBlock = some j) wo wt) (fun s _ => NS - (intOf s).toNat)
      case atStart => exact ⟨0, _, by omega, rfl, HSb.out, Only.refl _ _⟩
      case round =>
        obtain ⟨k, ys, hk, rfl, hy, ko⟩ := hrel
        have hgne : ¬ (Value.slice sa NS sc).ownBlock = some g := fun e => (ownN_typed HSb.out e).ne (ownN_typed HW.out.row rfl) (by decide) rfl
        have t2 := only_cellW ko hgne C2.out
        by_cases hks : k < NS
        · obtain ⟨gs, caps, hgs⟩ := ownN_some hy (by omega)
          cases hgs
          obtain ⟨⟨x1, y1⟩, f1, ⟨x2, y2⟩, f2, hst⟩ := two_cellsW hy hks (.int .i64 (-1)) (.int .i64 (-1))
          have HST := hid hst
          have HKO := hid (only_twoW (a := k * 2) (b := k * 2 + 1) (p := .int .i64 (-1)) (q := .int .i64 (-1)) ko (fun _ => rfl))
          clear hy ko hst hgne c1 c2
          go_wp2_with fail
          go_roundw
          case rel => exact ⟨k + 1, _, by omega, by go_num, HST.out, HKO.out⟩
          case measure => simp [intOf]; omega
        · have hlne : ∀ j, (Value.slice la NL lc).ownBlock = some j → ¬ (Value.slice sa NS sc).ownBlock = some j := fun j e1 e2 => (ownN_typed HLb.out e1).ne (ownN_typed HSb.out e2) (by decide) rfl
          have HLb2 := hid (ownN_only HLb.out ko hlne)
          have C1b := hid (only_cellW ko hgne C1.out)
          have HKO := hid ko
          clear hy ko hlne c1 c2
          obtain ⟨wp, hwp⟩ : ∃ wp, wp = wr := ⟨_, rfl⟩
          subst hwp
          go_wp2_with fail
          go_loopw [4] (fun s wt => ∃ (k : Nat) (ys : List Value), k ≤ NL ∧ s = .int .i64 (k : Int) ∧ wt.ownsRow B 45 2 (.slice la NL lc) NL ys ∧ Only (fun j => (Value.slice la NL lc).ownBlock = some j) wp wt) (fun s _ => NL - (intOf s).toNat)
          case atStart => exact ⟨0, _, by omega, rfl, HLb2.out, Only.refl _ _⟩
          case round =>
            obtain ⟨m, ys, hm, rfl, hy, kl⟩ := hrel
            have hgl : ¬ (Value.slice la NL lc).ownBlock = some g := fun e => (ownN_typed HLb.out e).ne (ownN_typed HW.out.row rfl) (by decide) rfl
            have t1 := only_cellW kl hgl C1b.out
            by_cases hml : m < NL
            · obtain ⟨gs, caps, hgs⟩ := ownN_some hy (by omega)
              cases hgs
              obtain ⟨⟨x1, y1⟩, f1, ⟨x2, y2⟩, f2, hst⟩ := two_cellsW hy hml (.string ⟨#[]⟩) (.string ⟨#[]⟩)
              have HST := hid hst
              have HKL := hid (only_twoW (a := m * 2) (b := m * 2 + 1) (p := .string ⟨#[]⟩) (q := .string ⟨#[]⟩) kl (fun _ => rfl))
              clear hy kl hst hgl t2
              go_wp2_with fail
              go_roundw
              case rel => exact ⟨m + 1, _, by omega, by go_num, HST.out, HKL.out⟩
              case measure => simp [intOf]; omega
            · have hall : Only (fun j => (Value.slice sa NS sc).ownBlock = some j ∨ (Value.slice la NL lc).ownBlock = some j) wo wr := (HKO.out.mono (fun _ _ e => .inl e)).trans kl (fun j _ e => .inr e)
              have hrow := ownN_only HW.out.row hall (fun b hb e => by
                cases hb
                rcases e with e | e
                · exact hgne e
                · exact hgl e)
              obtain ⟨⟨x1, y1⟩, f1, ⟨x2, y2⟩, f2, hst⟩ := two_cellsW hrow hlt (.slice none 0 0) (.slice none 0 0)
              have hfin : Only (fun j => ((Value.slice sa NS sc).ownBlock = some j ∨ (Value.slice la NL lc).ownBlock = some j) ∨ j = g) wo ((wr.setCell ⟨g, i * 2, none⟩ (.slice none 0 0)).setCell ⟨g, i * 2 + 1, none⟩ (.slice none 0 0)) := only_twoW (hall.mono (fun _ _ e => .inl e)) (fun _ => .inr rfl)
              have hkeep : ∀ q ∈ qs.drop (i + 1), ∀ j, q.has j → ¬ (((Value.slice sa NS sc).ownBlock = some j ∨ (Value.slice la NL lc).ownBlock = some j) ∨ j = g) := fun q hq j hj e => by
                rcases e with e | e
                · exact HAPi.out q hq j (by rcases e with e | e; exact .inr e; exact .inl e) hj
                · subst e
                  have hq2 : q ∈ qs.drop i := by
                    rw [← List.drop_drop] at hq
                    exact List.mem_of_mem_drop hq
                  rcases hj with hj | hj
                  · exact (ownN_typed (HW.out.lab q hq2) hj).ne (ownN_typed HW.out.row rfl) (by decide) rfl
                  · exact (ownN_typed (HW.out.smp q hq2) hj).ne (ownN_typed HW.out.row rfl) (by decide) rfl
              have hsub : ∀ q, q ∈ qs.drop (i + 1) → q ∈ qs.drop i := fun q hq => by
                rw [← List.drop_drop] at hq
                exact List.mem_of_mem_drop hq
              have HNEW : Hid (WipI w ((wr.setCell ⟨g, i * 2, none⟩ (.slice none 0 0)).setCell ⟨g, i * 2 + 1, none⟩ (.slice none 0 0)) B g cap n qs (i + 1) ((xs.set (i * 2) (.slice none 0 0)).set (i * 2 + 1) (.slice none 0 0))) := hid ⟨hst, fun j hj => by rw [List.getElem?_set_ne (by omega), List.getElem?_set_ne (by omega)]; exact HW.out.rest j (by omega), fun q hq => ownN_only (HW.out.lab q (hsub q hq)) hfin (fun b hb => hkeep q hq b (.inl hb)), fun q hq => ownN_only (HW.out.smp q (hsub q hq)) hfin (fun b hb => hkeep q hq b (.inr hb)), HW.out.only.trans hfin (fun j _ e => by
                rcases e with e | e
                · exact .inr ⟨_, HQin.out, by rcases e with e | e; exact .inr e; exact .inl e⟩
                · exact .inl (by rw [e]; rfl))⟩
              clear hall hrow hst hfin hkeep hsub hy kl hgl hgne t2 y1
              go_wp2_with fail
              go_roundw
              case rel => exact ⟨i + 1, _, by omega, by go_num, HNEW.out⟩
              case measure => simp [intOf]; omega
    · have HO := hid hW.only
      clear hW
      go_wp2_with fail
      go_returns
      exact ⟨rfl, HO.out⟩
end Go.Proofs.Ytcacoanhiphbiaa.Ms
