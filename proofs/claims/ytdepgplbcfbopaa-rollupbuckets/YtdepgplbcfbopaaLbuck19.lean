/-
  The law RollupBuckets.
-/
import Derived.Test.YtdepgplbcfbopaaYrbk
import Derived.Test.YtdepgplbcfbopaaYopen
namespace Go.Proofs.Ytdepgplbcfbopaa.Ru
open Go Go.RowKit Go.Proofs.Lys Go.Shelf
set_option linter.unusedVariables false
set_option linter.unusedSimpArgs false

/-- What both tell: the same number, and buckets that are the same. -/
theorem gat_both {w w2 w3 : World} {x : Int} {bl : Bks} {e1 e2 : Ending} (h1 : GatP w x bl e1 w2) (h2 : GatP w2 x bl e2 w3) (hl : bl.length ≤ 100000) :
    ∃ n v1 v2 r, In64 n ∧ e1 = .returned (.tuple #[v1, .int .i64 n]) ∧ e2 = .returned (.tuple #[v2, .int .i64 n]) ∧ r.length ≤ 100000 ∧ BkSrc w3 v1 r ∧ BkSrc w3 v2 r ∧ Kept w w3 := by
  have k3 : Kept w w3 := h1.1.trans h2.1 (fun _ _ f => f)
  have nil : BkSrc w3 (.slice none 0 0) [] := .inl ⟨_, _, rfl, rfl⟩
  rcases h1.2 with ⟨hb, e⟩ | ⟨hx, hx2, hn, e⟩ | ⟨hx, hx2, hok, v, e, hr⟩
  · rcases h2.2 with ⟨_, f⟩ | ⟨hx, hx2, _, f⟩ | ⟨hx, hx2, _, _⟩
    · exact ⟨1, _, _, [], ⟨by decide, by decide⟩, e, f, Nat.zero_le _, nil, nil, k3⟩
    · omega
    · omega
  · rcases h2.2 with ⟨hb, f⟩ | ⟨_, _, _, f⟩ | ⟨_, _, hok, _⟩
    · omega
    · exact ⟨21, _, _, [], ⟨by decide, by decide⟩, e, f, Nat.zero_le _, nil, nil, k3⟩
    · exact absurd hok hn
  · rcases h2.2 with ⟨hb, f⟩ | ⟨_, _, hn, f⟩ | ⟨_, _, _, v2, f, hr2⟩
    · omega
    · exact absurd hok hn
    · exact ⟨0, _, _, gat x bl, ⟨by decide, by decide⟩, e, f, by have := gat_len x bl; omega, hr.src.stay h2.1, hr2.src, k3⟩
set_option maxRecDepth 100000 in
set_option maxHeartbeats 3200000 in
theorem buckets_walk (w : World) (va : Value) (l : Smps) (x : Int) (ha : SIn w va l) (hx : In64 x) :
    Calls Try.prog 3 #[va, .int .i64 x] w fun e w' => e = .returned (.bool true) ∧ Kept w w' := by
  obtain ⟨ra, rc, rfl⟩ := ha.1.len
  have HAL := hid (alive_any w)
  have HA := hid ha.1
  have HIN := hid ha.2.2
  have hle := ha.2.1
  obtain ⟨L, hL⟩ : ∃ L, l.length = L := ⟨_, rfl⟩
  have HL := hid hL
  rw [hL] at HA hle ⊢
  clear ha hL
  by_cases h1 : 1000 < L
  · have d1 : decide (1000 < (L : Int)) = true := by simp; omega
    clear h1
    go_enter Try.func3, Try.ntmps3
    go_wp2_with fail
    refine HAL.out.mono ?_
    rintro e w2 ⟨rfl, k2⟩
    have K2 := hid k2
    clear k2
    go_wp2
    go_ret
    exact ⟨rfl, K2.out⟩
  · have d1 : decide (1000 < (L : Int)) = false := by simp; omega
    have HL1 := hid (show L ≤ 1000 by omega)
    have HX := hid hx
    clear h1 hx
    go_enter Try.func3, Try.ntmps3
    go_wp2_with fail
    refine HAL.out.mono ?_
    rintro e w2 ⟨rfl, k2⟩
    have K2 := hid k2
    have HB1 := hid (buckets_any w2 ra rc l x (by rw [HL.out]; exact HA.out.stay k2) HIN.out HX.out (by have := HL.out; have := HL1.out; omega))
    rw [HL.out] at HB1
    clear k2 HAL
    go_wp2_with fail
    refine HB1.out.mono ?_
    intro e1 w3 hg1
    have HG1 := hid hg1
    have K3 := hid (K2.out.trans hg1.1 (fun _ _ f => f))
    have HB2 := hid (rbuckets_any w3 ra rc L l x (HA.out.stay K3.out) HL.out HIN.out HX.out (by have := HL1.out; omega))
    have hsh : ∃ v n, e1 = .returned (.tuple #[v, .int .i64 n]) := by
      rcases hg1.2 with ⟨_, h⟩ | ⟨_, _, _, h⟩ | ⟨_, _, _, v, h, _⟩
      · exact ⟨_, _, h⟩
      · exact ⟨_, _, h⟩
      · exact ⟨_, _, h⟩
    obtain ⟨v1, n1, rfl⟩ := hsh
    clear hg1 HB1
    go_wp2_with fail
    refine HB2.out.mono ?_
    intro e2 w4 hg2
    obtain ⟨n, u1, u2, r, hn, e1e, rfl, hrl, hs1, hs2, k4⟩ := gat_both HG1.out hg2 (by rw [List.length_map]; have := HL.out; have := HL1.out; omega)
    cases e1e
    have K4 := hid (K2.out.trans k4 (fun _ _ f => f))
    have HN := hid (num_any n1 w4 hn)
    have HSA := hid (same_any w4 v1 u2 r hs1 hs2 (by omega))
    obtain ⟨a1, c1, hv1⟩ := hs1.len
    obtain ⟨a2, c2, hv2⟩ := hs2.len
    subst hv1 hv2
    obtain ⟨R, hR⟩ : ∃ R, r.length = R := ⟨_, rfl⟩
    rw [hR] at HSA ⊢
    clear hg2 HG1 HB2 hn hs1 hs2 k4 hR hrl
    go_wp2_with fail
    refine HN.out.mono ?_
    rintro e w5 ⟨rfl, hw5⟩
    replace hw5 := hw5.symm
    subst hw5
    go_wp2_with fail
    refine HSA.out.mono ?_
    rintro e w6 ⟨rfl, k6⟩
    have K6 := hid (K4.out.trans k6 (fun _ _ f => f))
    clear k6 HSA HN
    go_wp2
    go_ret
    exact ⟨rfl, K6.out⟩
end Go.Proofs.Ytdepgplbcfbopaa.Ru
