/-
  Whether a list rises, by the code and by the document.
-/
import Derived.Test.YtdgkdgbdkhnpcaaOlib
namespace Go.Proofs.Ytdgkdgbdkhnpcaa.Po
open Go.RowKit Go.Proofs.Lys
set_option linter.unusedVariables false

set_option maxRecDepth 100000 in
set_option maxHeartbeats 1600000 in
theorem check_any (w : World) (v : Value) (l : List Int) (hs : SrcOf w v (l.map (Value.int .i64))) (hl : l.length ≤ 1000000000000000) :
    Calls Try.prog 53 #[v] w fun e w' => e = .returned (.bool (upB (-1) l)) ∧ w' = w := by
  rcases hs.shape with ⟨hnil, a, c, rfl⟩ | ⟨hpos, b, o, c, rfl, hc⟩
  · have e0 : l = [] := List.map_eq_nil_iff.1 hnil
    subst e0
    go_enter Try.func53, Try.ntmps53
    go_wp2
    refine wp_loop_rounds 1 ?_
    rw [rounds_succ]
    go_wp2
    go_ret
    exact ⟨rfl, rfl⟩
  · rw [List.length_map] at hpos ⊢
    obtain ⟨L, hL⟩ : ∃ L, l.length = L := ⟨_, rfl⟩
    rw [hL] at hpos hl ⊢
    have HC : Hid (∀ j (hj : j < l.length), w.cell? ⟨b, o + j, none⟩ = some (.int .i64 l[j])) := fun j hj => hc j _ (by rw [List.getElem?_map, List.getElem?_eq_getElem hj]; rfl)
    have HL := hid hL
    clear hL hc hs
    go_enter Try.func53, Try.ntmps53
    go_wp2
    go_loop [3, 8] (fun t s => ∃ (k : Nat) (last : Int), k ≤ L ∧ t = .int .i64 last ∧ s = .int .i64 (k : Int) ∧ upB last (l.drop k) = upB (-1) l) (fun t s => L - (intOf s).toNat)
    case atStart => exact ⟨0, -1, by omega, rfl, rfl, rfl⟩
    case round =>
      obtain ⟨k, last, hk, rfl, rfl, hr⟩ := hrel
      by_cases hlt : k < L
      · have hkl : k < l.length := by have := HL.out; omega
        have hcell := HC.out k hkl
        rw [List.drop_eq_getElem_cons hkl] at hr
        obtain ⟨x, hx⟩ : ∃ x, l[k] = x := ⟨_, rfl⟩
        rw [hx] at hcell hr
        clear hx
        by_cases h1 : x ≤ last
        · have HR := hid ((up_low h1).symm.trans hr)
          clear hr
          go_wp2
          go_ret
          exact ⟨by rw [← HR.out]; rfl, rfl⟩
        · by_cases h2 : 1099511627776 ≤ x
          · have HR := hid ((up_high h2).symm.trans hr)
            clear hr
            go_wp2
            go_ret
            exact ⟨by rw [← HR.out]; rfl, rfl⟩
          · have HR := hid ((up_go (by omega) (by omega)).symm.trans hr)
            clear hr
            go_wp2
            go_round
            case rel => exact ⟨k + 1, x, by omega, rfl, by go_num, HR.out⟩
            case measure => simp [intOf]; omega
      · have e0 : l.drop k = [] := List.drop_of_length_le (by have := HL.out; omega)
        rw [e0] at hr
        have HR : Hid (upB (-1) l = true) := hr.symm
        clear hr
        go_wp2
        go_ret
        exact ⟨by rw [HR.out]; rfl, rfl⟩

end Go.Proofs.Ytdgkdgbdkhnpcaa.Po
