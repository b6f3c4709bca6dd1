/-
  Whether a list rises, by the code and by the document.
-/
import Derived.Test.YtdgkdgbdkhnpcaaGreatOlib
namespace Go.Proofs.YtdgkdgbdkhnpcaaGreat.Po
open Go.RowKit Go.Proofs.Lys
set_option linter.unusedVariables false

set_option maxRecDepth 100000 in
set_option maxHeartbeats 1600000 in
theorem check_any (w : World) (v : Value) (l : List Int) (hs : SrcOf w v (l.map (Value.int .i64))) (hl : l.length ≤ 1000000000000000) :
    Calls Tryz.prog 61 #[v] w fun e w' => e = .returned (.bool (upB (-1) l)) ∧ w' = w := by
  rcases hs.shape with ⟨hnil, a, c, rfl⟩ | ⟨hpos, b, o, c, rfl, hc⟩
  · have e0 : l = [] := List.map_eq_nil_iff.1 hnil
    subst e0
    go_enter Tryz.func61, Tryz.ntmps61
    go_wp2
    refine wp_loop_rounds 1 ?_
    rw [rounds_succ]
    go_wp2
    go_ret
    exact ⟨rfl, rfl⟩
  · rw [List.length_map] at hpos ⊢
    obtain ⟨L, hL⟩ : ∃ L, l.length = L := ⟨_, rfl⟩
    rw [hL] at hpos hl ⊢
    have HC : Hid (∀ j (hj : j < l.length), w.cell? ⟨b, o + j, none⟩ = some (.int .i64 l[j])) := fun j hj => hc j _ (by rw [List.getElem?_map, List.getElem?_eq_getElem hj]; rfl)
    have HL := hid hL
    clear hL hc hs
    go_enter Tryz.func61, Tryz.ntmps61
    go_wp2
    go_loop [3, 8] (fun t s => ∃ (k : Nat) (last : Int), k ≤ L ∧ t = .int .i64 last ∧ s = .int .i64 (k : Int) ∧ upB last (l.drop k) = upB (-1) l) (fun t s => L - (intOf s).toNat)
    case atStart => exact ⟨0, -1, by omega, rfl, rfl, rfl⟩
    case round =>
      obtain ⟨k, last, hk, rfl, rfl, hr⟩ := hrel
      by_cases hlt : k < L
      · have hkl : k < l.length := by have := HL.out; omega
        have hcell := HC.out k hkl
        rw [List.drop_eq_getElem_cons hkl] at hr
        obtain ⟨x, hx⟩ : ∃ x, l[k] = x := ⟨_, rfl⟩
        rw [hx] at hcell hr
        clear hx
        by_cases h1 : x ≤ last
        · have HR := hid ((up_low h1).symm.trans hr)
          clear hr
          go_wp2
          go_ret
          exact ⟨by rw [← HR.out]; rfl, rfl⟩
        · by_cases h2 : 1099511627776 ≤ x
          · have HR := hid ((up_high h2).symm.trans hr)
            clear hr
            go_wp2
            go_ret
            exact ⟨by rw [← HR.out]; rfl, rfl⟩
          · have HR := hid ((up_go (by omega) (by omega)).symm.trans hr)
            clear hr
            go_wp2
            go_round
            case rel => exact ⟨k + 1, x, by omega, rfl, by go_num, HR.out⟩
            case measure => simp [intOf]; omega
      · have e0 : l.drop k = [] := List.drop_of_length_le (by have := HL.out; omega)
        rw [e0] at hr
        have HR : Hid (upB (-1) l = true) := hr.symm
        clear hr
        go_wp2
        go_ret
        exact ⟨by rw [HR.out]; rfl, rfl⟩

set_option maxRecDepth 100000 in
set_option maxHeartbeats 1600000 in
theorem rrising_any (w : World) (v : Value) (l : List Int) (hs : SrcOf w v (l.map (Value.int .i64))) (hl : l.length ≤ 9223372036854775807) :
    Calls Tryz.prog 63 #[v] w fun e w' => e = .returned (.bool (upB (-1) l)) ∧ Kept w w' := by
  rcases hs.shape with ⟨hnil, a, c, rfl⟩ | ⟨hpos, b, o, c, rfl, hc⟩
  · have e0 : l = [] := List.map_eq_nil_iff.1 hnil
    subst e0
    go_enter Tryz.func63, Tryz.ntmps63
    go_wp2
    refine wp_loop_rounds 1 ?_
    rw [rounds_succ]
    go_wp2
    go_ret
    exact ⟨rfl, Only.refl _ _⟩
  · rw [List.length_map] at hpos hs ⊢
    obtain ⟨L, hL⟩ : ∃ L, l.length = L := ⟨_, rfl⟩
    have HS := hid hs
    rw [hL] at hpos hl HS ⊢
    have HL := hid hL
    clear hL hc hs
    go_enter Tryz.func63, Tryz.ntmps63
    go_wp2
    go_loopw [3] (fun s wr => ∃ (k : Nat), k ≤ L ∧ s = .int .i64 (k : Int) ∧ Kept w wr ∧ upB (if k = 0 then -1 else l.getD (k - 1) 0) (l.drop k) = upB (-1) l) (fun s _ => L - (intOf s).toNat)
    case atStart => exact ⟨0, by omega, rfl, Only.refl _ _, rfl⟩
    case round =>
      obtain ⟨k, hk, rfl, kr, hr⟩ := hrel
      by_cases hlt : k < L
      · have hkl : k < l.length := by have := HL.out; omega
        have hcell := int_cells (HS.out.stay kr) k hkl
        rw [List.drop_eq_getElem_cons hkl] at hr
        obtain ⟨x, hx⟩ : ∃ x, l[k] = x := ⟨_, rfl⟩
        have HN : Hid (l.getD (k + 1 - 1) 0 = x) := by show _ = _; simp [List.getD_eq_getElem?_getD, List.getElem?_eq_getElem hkl, hx]
        rw [hx] at hcell hr
        clear hx
        by_cases h1 : x < 0
        · have hq : upB (-1) l = false := by
            rw [← hr]
            by_cases h0 : k = 0
            · rw [if_pos h0]
              exact up_low (by omega)
            · rw [if_neg h0]
              cases e : upB (l.getD (k - 1) 0) (x :: l.drop (k + 1)) with
              | false => rfl
              | true =>
                rw [if_neg h0, e] at hr
                have := up_mem hr.symm (x := x) (List.mem_of_getElem? (i := k) (by rw [List.getElem?_eq_getElem hkl]; have := HN.out; simp [List.getD_eq_getElem?_getD, List.getElem?_eq_getElem hkl] at this; rw [this]))
                omega
          have HR := hid hq
          have d1 : decide (x < 0) = true := by simp [h1]
          clear hr hq h1
          go_wp2_with fail
          go_quiet (fail)
          go_wp2_with fail
          go_ret
          exact ⟨by rw [HR.out]; rfl, (kept_drewN kr nq)⟩
        · have d1 : decide (x < 0) = false := by simp; omega
          by_cases h2 : 1099511627776 ≤ x
          · have d2 : decide (1099511627776 ≤ x) = true := by simp [h2]
            have HR := hid ((up_high h2).symm.trans hr)
            clear hr
            go_wp2_with fail
            go_quiet (fail)
            go_wp2_with fail
            go_ret
            exact ⟨by rw [← HR.out]; rfl, (kept_drewN kr nq)⟩
          · have d2 : decide (1099511627776 ≤ x) = false := by simp; omega
            by_cases h0 : k = 0
            · subst h0
              simp only [Nat.add_zero] at hcell
              rw [if_pos rfl, up_go (by omega) (by omega)] at hr
              have HR := hid hr
              clear hr
              go_wp2_with fail
              go_quiet (fail)
              go_wp2_with fail
              go_roundw
              case rel =>
                refine ⟨1, by omega, rfl, (kept_drewN kr nq), ?_⟩
                rw [if_neg (by omega), HN.out]
                exact HR.out
              case measure => simp [intOf]; omega
            · obtain ⟨k', rfl⟩ : ∃ k', k = k' + 1 := ⟨k - 1, by omega⟩
              have hkl' : k' < l.length := by omega
              have hcell' := int_cells (HS.out.stay kr) k' hkl'
              obtain ⟨y, hy⟩ : ∃ y, l[k'] = y := ⟨_, rfl⟩
              have hy2 : l.getD (k' + 1 - 1) 0 = y := by simp [List.getD_eq_getElem?_getD, List.getElem?_eq_getElem hkl', hy]
              rw [hy] at hcell'
              rw [if_neg h0, hy2] at hr
              clear hy hy2
              have d0 : decide ((0 : Int) < (k' : Int) + 1) = true := by simp; try omega
              by_cases h3 : x ≤ y
              · have d3 : decide (x ≤ y) = true := by simp [h3]
                have HR := hid ((up_low h3).symm.trans hr)
                clear hr
                go_wp2_with fail
                go_quiet (fail)
                go_wp2_with fail
                go_ret
                exact ⟨by rw [← HR.out]; rfl, (kept_drewN kr nq)⟩
              · have d3 : decide (x ≤ y) = false := by simp; omega
                have HR := hid ((up_go (by omega) (by omega)).symm.trans hr)
                clear hr
                go_wp2_with fail
                go_quiet (fail)
                go_wp2_with fail
                go_roundw
                case rel =>
                  refine ⟨k' + 2, by omega, by go_num, (kept_drewN kr nq), ?_⟩
                  rw [if_neg (by omega)]
                  have := HN.out
                  rw [show k' + 2 - 1 = k' + 1 + 1 - 1 by omega, this]
                  exact HR.out
                case measure => simp [intOf]; omega
      · have e0 : l.drop k = [] := List.drop_of_length_le (by have := HL.out; omega)
        rw [e0] at hr
        have HR : Hid (upB (-1) l = true) := hr.symm
        clear hr
        go_wp2
        go_ret
        exact ⟨by rw [HR.out]; rfl, kr⟩
end Go.Proofs.YtdgkdgbdkhnpcaaGreat.Po
