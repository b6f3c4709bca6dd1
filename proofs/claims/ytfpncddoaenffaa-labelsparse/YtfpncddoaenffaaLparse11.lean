/-
  The law of Parse.
-/
import Derived.Test.YtfpncddoaenffaaNrparse
import Derived.Test.YtfpncddoaenffaaNalive
import Derived.Test.YtfpncddoaenffaaNopen
namespace Go.Proofs.Ytfpncddoaenffaa.N
open Go.RowKit Go.Proofs.Lys
set_option linter.unusedVariables false
set_option linter.unusedSimpArgs false

set_option maxRecDepth 100000 in
set_option maxHeartbeats 1600000 in
theorem parse11_walk (w : World) (s : ByteArray) (hM : Mx w) (hs : s.size ≤ 9223372036854775807) :
    Calls Try.prog 5 #[.string s] w fun e w' => e = .returned (.bool true) ∧ Kept w w' := by
  have HMx := hid hM
  have H0 := hid (alive_any w)
  clear hM
  by_cases hb : 3000 < s.size
  · have hb' : (3000 : Int) < (s.size : Int) := by omega
    go_enter Try.func5, Try.ntmps5
    go_wp2_with fail
    refine H0.out.mono ?_
    rintro e w1 ⟨rfl, k1⟩
    go_wp2
    all_goals try (exfalso; omega)
    all_goals (go_ret; exact ⟨rfl, k1⟩)
  · have hb' : ¬ ((3000 : Int) < (s.size : Int)) := by omega
    have HSm := hid (parse_same s.data.toList)
    go_enter Try.func5, Try.ntmps5
    go_wp2_with fail
    refine H0.out.mono ?_
    rintro e w1 ⟨rfl, k1⟩
    have HK1 := hid k1
    have H1 := hid (parse_any w1 s (HMx.out.stay k1) (by omega))
    clear k1
    go_wp2_with fail
    refine H1.out.mono ?_
    rintro e w2 ⟨⟨u, n, rfl, hA⟩, k2⟩
    have HA := hid hA
    have HK2 := hid (HK1.out.trans k2 (fun _ _ f => f))
    have H2 := hid (rparse_any w2 s (by omega))
    rw [HSm.out] at H2
    clear hA k2 H1
    go_wp2_with fail
    refine H2.out.mono ?_
    rintro e w3 ⟨⟨u2, n2, rfl, hB⟩, k3⟩
    have HK3 := hid (HK2.out.trans k3 (fun _ _ f => f))
    obtain ⟨m, hn, sa, sb, hmn⟩ : ∃ m : Labs, n = n2 ∧ LabSrc w3 u m ∧ LabSrc w3 u2 m ∧ m.length ≤ 16 := by
      have hA := HA.out
      cases hp : parseL s.data.toList with
      | none =>
        rw [hp] at hA hB
        obtain ⟨rfl, rfl⟩ := hA
        obtain ⟨rfl, rfl⟩ := hB
        exact ⟨[], rfl, .inl ⟨_, _, rfl, rfl⟩, .inl ⟨_, _, rfl, rfl⟩, by simp⟩
      | some m =>
        rw [hp] at hA hB
        obtain ⟨rfl, h1⟩ := hA
        obtain ⟨rfl, h2⟩ := hB
        exact ⟨m, rfl, (LabAt.src h1).stay k3, LabAt.src h2, (parse_iff.1 hp).1.len16⟩
    subst hn
    have H3 := hid (num_any w3 n)
    have H4 := hid (same_any w3 _ _ m sa sb (by omega))
    obtain ⟨xa, xc, exa⟩ := sa.len
    obtain ⟨ya, yc, eya⟩ := sb.len
    subst exa eya
    clear sa sb hB k3 H2 HA
    go_wp2_with fail
    refine H3.out.mono ?_
    rintro e w4 ⟨rfl, hq⟩
    replace hq := hq.symm
    subst hq
    go_wp2_with fail
    refine H4.out.mono ?_
    rintro e w4 ⟨rfl, k4⟩
    go_wp2
    go_ret
    exact ⟨rfl, HK3.out.trans k4 (fun _ _ f => f)⟩
end Go.Proofs.Ytfpncddoaenffaa.N
