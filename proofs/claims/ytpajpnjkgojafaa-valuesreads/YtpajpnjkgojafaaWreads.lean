/-
  The walk of the law ValuesReads.
-/
import Derived.Test.YtpajpnjkgojafaaWrread
import Derived.Test.YtpajpnjkgojafaaWlaw
namespace Go.Proofs.Ytpajpnjkgojafaa.V
open Go.RowKit Go.Proofs.Lys
set_option linter.unusedVariables false

set_option maxRecDepth 100000 in
set_option maxHeartbeats 3200000 in
theorem reads7_walk (w : World) (v0 : Value) (bs : List UInt8) (n : Int) (h0 : SrcOf w v0 (bs.map bV)) :
    Calls Try.prog 4 #[v0, .int .i64 n] w fun e w' => e = .returned (.bool true) ∧ Kept w w' := by
  have hnot : ∀ (x : Bool) (w : World), (Op.unary .not (.bool x)).run Try.prog w = .ok (.bool (!x)) w := fun _ _ => rfl
  obtain ⟨a0, c0, e0⟩ := h0.len
  rw [List.length_map] at e0
  obtain ⟨L, hL⟩ : ∃ L, bs.length = L := ⟨_, rfl⟩
  rw [hL] at e0
  subst e0
  by_cases hb0 : 2000 < L
  · go_enter Try.func4, Try.ntmps4
    go_wp2_with (go_at_call 6; refine (alive7_any _).mono ?_; rintro e w1 ⟨rfl, hk⟩)
    go_ret
    exact ⟨rfl, hk⟩
  have d0 : decide ((2000 : Int) < (L : Int)) = false := by simp; omega
  have HL := hid hL
  have H0 := hid h0
  clear hL h0
  go_enter Try.func4, Try.ntmps4
  go_wp2_with fail
  refine (alive7_any _).mono ?_
  rintro e w1 ⟨rfl, hk1⟩
  have hs0 := H0.out.stay hk1
  obtain ⟨v2, w2, hrun, hown2, hgrow, _⟩ := append_src (P := Try.prog) Try.underlying24 Try.infoB rfl (by decide) (World.ownsRow_nil w1 w1.heap.size 5 1) hs0 (bytes_one bs) (by have := HL.out; simp; omega) (Nat.le_refl _)
  rw [List.length_map, Nat.zero_add, List.nil_append] at hown2
  have hk2 : Kept w1 w2 := (Only.refl _ w1).grown hgrow (fun k hk _ => by cases hk)
  have hk : Kept w w2 := hk1.trans hk2 (fun _ _ f => f)
  have hu := unpack_any w2 v2 bs n (own_src hown2) (by have := HL.out; omega)
  have Hr := hid hrun
  have HK := hid hk
  obtain ⟨a2, c2, hv2⟩ := own_slice hown2
  subst hv2
  rw [HL.out] at hu Hr
  clear hrun hgrow hs0 hown2 hk1 hk2 hk
  go_wp2_with (at_builtin; refine wpList_append_run rfl _ _ _ rfl rfl rfl Hr ?_)
  refine hu.mono ?_
  rintro e w3 ⟨k3, l, u3, x, rfl, hR, ho3⟩
  have HR := hid hR
  have HO3 := hid ho3
  have HK3 : Hid (Kept w w3) := HK.out.trans k3 (fun _ _ f => f)
  have hv := rread_any w3 _ bs n (H0.out.stay HK3.out) (by have := HL.out; omega)
  clear hu hR ho3 k3
  go_wp2_with fail
  refine hv.mono ?_
  rintro e w4 ⟨k4, m, u4, y, rfl, hR4, ho4⟩
  obtain ⟨rfl, rfl⟩ := hR4.inj HR.out
  have HK4 : Hid (Kept w w4) := HK3.out.trans k4 (fun _ _ f => f)
  have hsame := same_any w4 _ _ m (own_src (own_only HO3.out k4 (fun _ _ f => f))) (own_src ho4) (by have := hR4.small; omega)
  clear hv hR4 ho4 k4
  go_wp2_with (go_at_call 9; refine (num7_any _ _).mono ?_; rintro e w' ⟨rfl, hw⟩; replace hw := hw.symm; subst hw)
  refine hsame.mono ?_
  rintro e w9 ⟨rfl, k9⟩
  go_wp2_with fail
  go_ret
  exact ⟨rfl, HK4.out.trans k9 (fun _ _ f => f)⟩
end Go.Proofs.Ytpajpnjkgojafaa.V
