/-
  The document's own: whether times rise.
-/
import Derived.Test.YtghofnopdcklnaaSpack
namespace Go.Proofs.Ytghofnopdcklnaa
open Go.RowKit Go.Proofs.Lys
set_option linter.unusedVariables false

theorem kept_drewN {w w' : World} (h : Kept w w') (n : Nat) : Kept w (w'.drewN n) := by
  induction n with
  | zero => exact h
  | succ n ih => exact ih.drew

set_option maxRecDepth 100000 in
set_option maxHeartbeats 1600000 in
theorem rrising_any (w : World) (v : Value) (l : List Int) (hs : SrcOf w v (l.map (Value.int .i64))) (hl : l.length ≤ 1000) :
    Calls Try.prog 60 #[v] w fun e w' => Kept w w' ∧ ((e = .returned (.bool true) ∧ Rising l) ∨ (e = .returned (.bool false) ∧ ¬ Rising l)) := by
  rcases hs.shape with ⟨hnil, a, c, rfl⟩ | ⟨hpos, b, o, c, rfl, hc⟩
  · have e0 : l = [] := List.map_eq_nil_iff.1 hnil
    subst e0
    go_enter Try.func60, Try.ntmps60
    go_wp2
    refine wp_loop_rounds 1 ?_
    rw [rounds_succ]
    go_wp2
    go_ret
    exact ⟨Only.refl _ _, .inl ⟨rfl, fun i hi => absurd hi (Nat.not_lt_zero i)⟩⟩
  · rw [List.length_map] at hpos hs ⊢
    obtain ⟨L, hL⟩ : ∃ L, l.length = L := ⟨_, rfl⟩
    have HS := hid hs
    rw [hL] at hpos hl HS ⊢
    have HL := hid hL
    clear hL hc hs
    go_enter Try.func60, Try.ntmps60
    go_wp2
    go_loopw [3] (fun s wr => ∃ (k : Nat), k ≤ L ∧ s = .int .i64 (k : Int) ∧ Kept w wr ∧ (∀ i (h : i < l.length), i < k → -9007199254740992 ≤ l[i] ∧ l[i] ≤ 9007199254740992 ∧ (0 < i → l[i - 1] < l[i]))) (fun s _ => L - (intOf s).toNat)
    case atStart => exact ⟨0, by omega, rfl, Only.refl _ _, fun i _ h => absurd h (Nat.not_lt_zero i)⟩
    case round =>
      obtain ⟨k, hk, rfl, kr, hr⟩ := hrel
      have HR := hid hr
      clear hr
      by_cases hlt : k < L
      · have hkl : k < l.length := by have := HL.out; omega
        have hcell := int_cells (HS.out.stay kr) k hkl
        obtain ⟨x, hx⟩ : ∃ x, l[k] = x := ⟨_, rfl⟩
        rw [hx] at hcell
        have HX := hid hx
        clear hx
        by_cases h1 : x < -9007199254740992
        · have d1 : decide (x < -9007199254740992) = true := by simp [h1]
          clear h1
          go_wp2_with fail
          go_quiet (fail)
          go_wp2_with fail
          go_ret
          simp at d1
          exact ⟨(kept_drewN kr nq), .inr ⟨rfl, fun hR => by have := (hR k hkl).1; rw [HX.out] at this; omega⟩⟩
        · have d1 : decide (x < -9007199254740992) = false := by simp; omega
          by_cases h2 : 9007199254740992 < x
          · have d2 : decide (9007199254740992 < x) = true := by simp [h2]
            go_wp2_with fail
            go_quiet (fail)
            go_wp2_with fail
            go_ret
            exact ⟨(kept_drewN kr nq), .inr ⟨rfl, fun hR => by have := (hR k hkl).2.1; rw [HX.out] at this; omega⟩⟩
          · have d2 : decide (9007199254740992 < x) = false := by simp; omega
            by_cases h0 : k = 0
            · subst h0
              simp only [Nat.add_zero] at hcell
              go_wp2_with fail
              go_quiet (fail)
              go_wp2_with fail
              go_roundw
              case rel =>
                refine ⟨1, by omega, rfl, (kept_drewN kr nq), fun i hi h => ?_⟩
                have e : i = 0 := by omega
                subst e
                rw [HX.out]
                exact ⟨by omega, by omega, fun h => absurd h (Nat.lt_irrefl 0)⟩
              case measure => simp [intOf]; omega
            · obtain ⟨k', rfl⟩ : ∃ k', k = k' + 1 := ⟨k - 1, by omega⟩
              have hkl' : k' < l.length := by omega
              have hcell' := int_cells (HS.out.stay kr) k' hkl'
              obtain ⟨y, hy⟩ : ∃ y, l[k'] = y := ⟨_, rfl⟩
              rw [hy] at hcell'
              have HY := hid hy
              clear hy
              have d0 : decide ((0 : Int) < (k' : Int) + 1) = true := by simp; try omega
              by_cases h3 : x ≤ y
              · have d3 : decide (x ≤ y) = true := by simp [h3]
                go_wp2_with fail
                go_quiet (fail)
                go_wp2_with fail
                go_ret
                exact ⟨(kept_drewN kr nq), .inr ⟨rfl, fun hR => by
                  have := (hR (k' + 1) hkl).2.2 (by omega)
                  rw [HX.out] at this
                  simp only [Nat.add_sub_cancel, HY.out] at this
                  omega⟩⟩
              · have d3 : decide (x ≤ y) = false := by simp; omega
                go_wp2_with fail
                go_quiet (fail)
                go_wp2_with fail
                go_roundw
                case rel =>
                  refine ⟨k' + 2, by omega, by go_num, (kept_drewN kr nq), fun i hi h => ?_⟩
                  by_cases e : i = k' + 1
                  · subst e
                    rw [HX.out]
                    exact ⟨by omega, by omega, fun _ => by simp only [Nat.add_sub_cancel, HY.out]; omega⟩
                  · exact HR.out i hi (by omega)
                case measure => simp [intOf]; omega
      · have e : k = L := by omega
        subst e
        go_wp2
        go_ret
        exact ⟨kr, .inl ⟨rfl, fun i hi => HR.out i hi (by have := HL.out; omega)⟩⟩

/-- The document's own writer within Stamps. -/
structure RkIn (w : World) (B : Nat) (wr : World) (vw : Value) (lw : List Bool) : Prop where
  at_ : RwAt wr B vw lw
  kept : Kept w wr
  new : w.heap.size ≤ B
  row : ∀ j, vw.ownBlock = some j → w.heap.size ≤ j
theorem RkIn.put {w wr w' : World} {B : Nat} {vw v' : Value} {lw lw' : List Bool} (h : RkIn w B wr vw lw) (hw : RwAt w' B v' lw') (ho : Only (Foot B vw) wr w') (hn : ∀ k, v'.ownBlock = some k → vw.ownBlock = some k ∨ wr.heap.size ≤ k) : RkIn w B w' v' lw' := by
  have hs := h.kept.size
  refine ⟨hw, h.kept.trans ho (fun j hj e => ?_), h.new, fun j hj => ?_⟩
  · have := h.new
    rcases e with e | e
    · omega
    · have := h.row j e
      omega
  · rcases hn j hj with e | e
    · exact h.row j e
    · omega
theorem RkIn.drew {w wr : World} {B : Nat} {vw : Value} {lw : List Bool} (h : RkIn w B wr vw lw) : RkIn w B wr.drew vw lw :=
  ⟨h.at_.only (Only.drew (Only.refl (fun _ => False) wr)) (fun f => f) (fun _ _ f => f), h.kept.drew, h.new, h.row⟩
end Go.Proofs.Ytghofnopdcklnaa
