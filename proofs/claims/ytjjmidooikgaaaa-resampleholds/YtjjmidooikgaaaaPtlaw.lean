/-
  Package resample's laws: what the three calls have in common; numbers; lists that are the same; the example.
-/
import Derived.Test.YtjjmidooikgaaaaPtrp
import Derived.Test.YtjjmidooikgaaaaPtopen
namespace Go.Proofs.Ytjjmidooikgaaaa.Rs
open Go Go.RowKit Go.Proofs.Lys
open Ru (In64 one okT T0 int_cells kept_drewN)
set_option linter.unusedVariables false
set_option linter.unusedSimpArgs false

/-- The points, the gaps, the error. -/
def Ans (l : Smps) (f s n : Int) (r : List Int) (g : Nat) (x : Int) : Prop :=
  ErrW l f s n x ∧ ((x ≠ 0 ∧ r = [] ∧ g = 0) ∨ (x = 0 ∧ g = gapC (cell f s l) n.toNat ∧ ∃ F, Fst (cell f s l) n.toNat n.toNat F ∧ ((F = n.toNat ∧ r = []) ∨ (F < n.toNat ∧ r = rowF (outC (cell f s l) F) n.toNat))))
theorem ErrW.inj {l : Smps} {f s n x y : Int} (h : ErrW l f s n x) (g : ErrW l f s n y) : x = y := by
  rcases h with ⟨h, rfl⟩ | ⟨h1, h2, h3, h4, h5, h6, ⟨h7, rfl⟩ | ⟨h7, rfl⟩⟩ <;> rcases g with ⟨g, rfl⟩ | ⟨g1, g2, g3, g4, g5, g6, ⟨g7, rfl⟩ | ⟨g7, rfl⟩⟩
  all_goals first | rfl | omega | exact absurd h7 g7 | exact absurd g7 h7
theorem Ans.inj {l : Smps} {f s n : Int} {r r' : List Int} {g g' : Nat} {x x' : Int} (h : Ans l f s n r g x) (k : Ans l f s n r' g' x') : r' = r ∧ g' = g ∧ x' = x := by
  obtain ⟨h1, h2⟩ := h
  obtain ⟨k1, k2⟩ := k
  have e := h1.inj k1
  subst e
  refine ⟨?_, ?_, rfl⟩
  · rcases h2 with ⟨h0, rfl, _⟩ | ⟨h0, _, F, hF, h3⟩ <;> rcases k2 with ⟨k0, rfl, _⟩ | ⟨k0, _, G, hG, k3⟩
    · rfl
    · exact absurd k0 h0
    · exact absurd h0 k0
    · have e := hF.inj hG
      subst e
      rcases h3 with ⟨a, rfl⟩ | ⟨a, rfl⟩ <;> rcases k3 with ⟨b, rfl⟩ | ⟨b, rfl⟩
      · rfl
      · omega
      · omega
      · rfl
  · rcases h2 with ⟨h0, _, rfl⟩ | ⟨h0, rfl, _⟩ <;> rcases k2 with ⟨k0, _, rfl⟩ | ⟨k0, rfl, _⟩
    · rfl
    · exact absurd k0 h0
    · exact absurd h0 k0
    · rfl
theorem src_nil (w : World) : SrcOf w (.slice none 0 0) (([] : List Int).map (Value.int .i64)) := own_src (World.ownsRow_nil w w.heap.size 3 1)
theorem pts_ans {w w' : World} {l : Smps} {f s n : Int} {e : Ending} (h : PtsP w l f s n e w') : ∃ v r g x, Ans l f s n r g x ∧ e = .returned (.tuple #[v, .int .i64 x]) ∧ SrcOf w' v (r.map (Value.int .i64)) ∧ Kept w w' := by
  obtain ⟨k, x, hx, ⟨h0, rfl⟩ | ⟨rfl, F, hF, ⟨hn, rfl⟩ | ⟨hn, v, rfl, hv⟩⟩⟩ := h
  · exact ⟨_, [], 0, x, ⟨hx, .inl ⟨h0, rfl, rfl⟩⟩, rfl, src_nil _, k⟩
  · exact ⟨_, [], _, 0, ⟨hx, .inr ⟨rfl, rfl, F, hF, .inl ⟨hn, rfl⟩⟩⟩, rfl, src_nil _, k⟩
  · exact ⟨v, _, _, 0, ⟨hx, .inr ⟨rfl, rfl, F, hF, .inr ⟨hn, rfl⟩⟩⟩, rfl, hv, k⟩
theorem gap_ans {w w' : World} {l : Smps} {f s n : Int} {e : Ending} (h : GapP w l f s n e w') : ∃ r g x, Ans l f s n r g x ∧ e = .returned (.tuple #[.int .i64 (g : Int), .int .i64 x]) ∧ Kept w w' := by
  obtain ⟨k, x, hx, ⟨h0, rfl⟩ | ⟨rfl, rfl⟩⟩ := h
  · exact ⟨[], 0, x, ⟨hx, .inl ⟨h0, rfl, rfl⟩⟩, rfl, k⟩
  · obtain ⟨F, hF⟩ := Fst.ex (cell f s l) n.toNat n.toNat (Nat.le_refl _)
    by_cases hn : F < n.toNat
    · exact ⟨_, _, 0, ⟨hx, .inr ⟨rfl, rfl, F, hF, .inr ⟨hn, rfl⟩⟩⟩, rfl, k⟩
    · have hn2 : F = n.toNat := by have := hF.le (Nat.le_refl _); omega
      exact ⟨[], _, 0, ⟨hx, .inr ⟨rfl, rfl, F, hF, .inl ⟨hn2, rfl⟩⟩⟩, rfl, k⟩
theorem rpts_ans {w w' : World} {l : Smps} {f s n : Int} {e : Ending} (h : RPtsP w l f s n e w') : ∃ v r g x, Ans l f s n r g x ∧ e = .returned (.tuple #[v, .int .i64 (g : Int), .int .i64 x]) ∧ SrcOf w' v (r.map (Value.int .i64)) ∧ Kept w w' := by
  obtain ⟨k, x, hx, ⟨h0, rfl⟩ | ⟨rfl, F, hF, ⟨hn, rfl⟩ | ⟨hn, v, rfl, hv⟩⟩⟩ := h
  · exact ⟨_, [], 0, x, ⟨hx, .inl ⟨h0, rfl, rfl⟩⟩, rfl, src_nil _, k⟩
  · exact ⟨_, [], _, 0, ⟨hx, .inr ⟨rfl, rfl, F, hF, .inl ⟨hn, rfl⟩⟩⟩, rfl, src_nil _, k⟩
  · exact ⟨v, _, _, 0, ⟨hx, .inr ⟨rfl, rfl, F, hF, .inr ⟨hn, rfl⟩⟩⟩, rfl, hv, k⟩
theorem ans_len {l : Smps} {f s n : Int} {r : List Int} {g : Nat} {x : Int} (h : Ans l f s n r g x) : r.length ≤ 10000 ∧ g ≤ 10000 ∧ (x = 0 ∨ x = 1 ∨ x = 21) := by
  obtain ⟨h1, h2⟩ := h
  have hx : x = 0 ∨ x = 1 ∨ x = 21 := by
    rcases h1 with ⟨_, h⟩ | ⟨_, _, _, _, _, _, ⟨_, h⟩ | ⟨_, h⟩⟩ <;> omega
  rcases h2 with ⟨h0, rfl, rfl⟩ | ⟨h0, rfl, F, hF, h3⟩
  · exact ⟨by simp, by omega, hx⟩
  · have hn : n.toNat ≤ 10000 := by
      rcases h1 with ⟨_, h⟩ | ⟨_, h, _⟩ <;> omega
    refine ⟨?_, Nat.le_trans (gapC_le _ _) hn, hx⟩
    rcases h3 with ⟨_, rfl⟩ | ⟨_, rfl⟩
    · simp
    · rw [rowF_len]; exact hn
theorem num_any (x : Int) (w : World) (hx : In64 x) : Calls Try.prog 10 #[.int .i64 x] w fun e w' => e = .returned (.int .i64 x) ∧ w' = w := by
  unfold In64 at hx
  go_enter Try.func10, Try.ntmps10
  go_wp2
  go_ret
  exact ⟨by simp, rfl⟩

set_option maxRecDepth 100000 in
set_option maxHeartbeats 1600000 in
theorem same_any (w : World) (va vb : Value) (l : List Int) (ha : SrcOf w va (l.map (Value.int .i64))) (hb : SrcOf w vb (l.map (Value.int .i64))) (hl : l.length ≤ 1000000) :
    Calls Try.prog 11 #[va, vb] w fun e w' => e = .returned (.bool true) ∧ Kept w w' := by
  rcases ha.shape with ⟨hnil, a, c, rfl⟩ | ⟨hpos, b, o, c, rfl, hc⟩
  · have e0 : l = [] := List.map_eq_nil_iff.1 hnil
    subst e0
    obtain ⟨a2, c2, rfl⟩ := hb.len
    rw [List.length_map, List.length_nil]
    clear ha hb hnil
    go_enter Try.func11, Try.ntmps11
    go_wp2
    refine wp_loop_rounds 1 ?_
    rw [rounds_succ]
    go_wp2
    go_ret
    exact ⟨rfl, Only.refl _ _⟩
  · rcases hb.shape with ⟨hnil, _⟩ | ⟨_, b2, o2, c2, rfl, hc2⟩
    · rw [hnil] at hpos
      simp at hpos
    · rw [List.length_map] at hpos ha hb ⊢
      obtain ⟨L, hL⟩ : ∃ L, l.length = L := ⟨_, rfl⟩
      have HA := hid ha
      have HB := hid hb
      rw [hL] at hpos hl HA HB ⊢
      have HL := hid hL
      clear hL hc hc2 ha hb
      go_enter Try.func11, Try.ntmps11
      go_wp2
      go_loopw [5] (fun s wr => ∃ (k : Nat), k ≤ L ∧ s = .int .i64 (k : Int) ∧ Kept w wr) (fun s _ => L - (intOf s).toNat)
      case atStart => exact ⟨0, by omega, rfl, Only.refl _ _⟩
      case round =>
        obtain ⟨k, hk, rfl, kr⟩ := hrel
        by_cases hlt : k < L
        · have hkl : k < l.length := by have := HL.out; omega
          have c1 := int_cells (HA.out.stay kr) k hkl
          have c2 := int_cells (HB.out.stay kr) k hkl
          generalize l[k] = x at c1 c2
          clear hkl
          go_wp2_with fail
          go_quiet (fail)
          go_wp2_with fail
          go_roundw
          case rel => exact ⟨k + 1, by omega, by go_num, kept_drewN kr nq⟩
          case measure => simp [intOf]; omega
        · have e : k = L := by omega
          subst e
          go_wp2
          go_ret
          exact ⟨rfl, kr⟩

end Go.Proofs.Ytjjmidooikgaaaa.Rs
