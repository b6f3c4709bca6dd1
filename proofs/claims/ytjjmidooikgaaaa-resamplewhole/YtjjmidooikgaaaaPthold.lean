/-
  Package resample's laws: a point without a sample is the one ahead of it; samples at each step.
-/
import Derived.Test.YtjjmidooikgaaaaPtalive
namespace Go.Proofs.Ytjjmidooikgaaaa.Rs
open Go Go.RowKit Go.Proofs.Lys
open Ru (In64 one okT T0)
set_option linter.unusedVariables false
set_option linter.unusedSimpArgs false

theorem any_cell (f s : Int) (k : Nat) (l : Smps) : l.any (inS f s k) = (cell f s l k).isSome := by
  unfold cell
  rw [Option.isSome_map, Bool.eq_iff_iff, List.getLast?_isSome, List.any_eq_true]
  constructor
  · rintro ⟨p, hp, h⟩ e
    rw [List.filter_eq_nil_iff] at e
    exact e p hp h
  · intro h
    obtain ⟨p, hp⟩ := List.exists_mem_of_ne_nil _ h
    rw [List.mem_filter] at hp
    exact ⟨p, hp.1, hp.2⟩
/-- A point whose step has no sample is the one ahead of it. -/
theorem out_none {c : Nat → Option Int} {n F i : Nat} (hF : Fst c n n F) (hn : F < n) (hi : c (i + 1) = none) : outC c F (i + 1) = outC c F i := by
  unfold outC
  by_cases h1 : i + 1 < F
  · rw [if_pos h1, if_pos (by omega)]
  · rw [if_neg h1]
    by_cases h2 : i < F
    · have e : i + 1 = F := by omega
      rcases hF with ⟨h, _⟩ | ⟨_, h, _⟩
      · omega
      · rw [← e, hi] at h; cases h
    · rw [if_neg h2, now_none hi]
theorem ans_rows {l : Smps} {f s n : Int} {r : List Int} {g : Nat} (h : Ans l f s n r g 0) (h0 : 0 < r.length) : r.length = n.toNat ∧ 0 ≤ n ∧ n ≤ 10000 ∧ -9007199254740992 ≤ f ∧ f ≤ 9007199254740992 ∧ 1 ≤ s ∧ s ≤ 9007199254740992 ∧ okT T0 (l.map one) ∧
    ∀ i (hi : i + 1 < r.length), cell f s l (i + 1) = none → r[i + 1] = r[i] := by
  obtain ⟨h1, h2⟩ := h
  rcases h1 with ⟨_, h⟩ | ⟨g1, g2, g3, g4, g5, g6, ⟨_, h⟩ | ⟨hok, _⟩⟩
  · omega
  · omega
  rcases h2 with ⟨h, _⟩ | ⟨_, _, F, hF, ⟨_, rfl⟩ | ⟨hn, rfl⟩⟩
  · omega
  · simp at h0
  · refine ⟨rowF_len _ _, g1, g2, g3, g4, g5, g6, hok, fun i hi hc => ?_⟩
    rw [rowF_get, rowF_get]
    exact out_none hF hn hc
end Go.Proofs.Ytjjmidooikgaaaa.Rs
