/-
  Package rollup, in plain words: what is told rises.
-/
import Derived.Test.YtdepgplbcfbopaaYtwo
namespace Go.Proofs.Ytdepgplbcfbopaa.Ru
open Go
set_option linter.unusedVariables false

theorem floor_le {t w : Int} (hw : 1 ≤ w) (ht : In64 t) : floorB t w ≤ t := by
  unfold floorB In64 at *
  have h1 : 0 ≤ t % w := Int.emod_nonneg _ (by omega)
  rw [if_neg (by omega)]
  split <;> omega
theorem floor_mono {a b w : Int} (hw : 1 ≤ w) (h : a ≤ b) : floorB a w ≤ floorB b w := by
  have ea : a - a % w = w * (a / w) := by have := Int.mul_ediv_add_emod a w; omega
  have eb : b - b % w = w * (b / w) := by have := Int.mul_ediv_add_emod b w; omega
  have hd : a / w ≤ b / w := Int.ediv_le_ediv (by omega) h
  have hm : w * (a / w) ≤ w * (b / w) := Int.mul_le_mul_of_nonneg_left hd (by omega)
  unfold floorB
  have hw' : ¬ w < 1 := by omega
  rw [if_neg hw', if_neg hw', ea, eb]
  split
  · split <;> omega
  · split <;> omega
theorem okT_mem {a : Int} : ∀ {l : Bks}, okT a l → ∀ b ∈ l, a < b.t ∧ b.t ≤ 9007199254740992 := by
  intro l
  induction l generalizing a with
  | nil => intro _ b hb; cases hb
  | cons x r ih =>
    intro h b hb
    rcases List.mem_cons.1 hb with rfl | hb
    · exact ⟨h.1, h.2.1⟩
    · have h1 := ih h.2.2 b hb
      have h2 := h.1
      exact ⟨by omega, h1.2⟩
theorem ahd_mem (a : Int) : ∀ (l : Bks), l ≠ [] → ∃ b ∈ l, ahd a l = b.t := by
  intro l
  induction l generalizing a with
  | nil => intro h; exact absurd rfl h
  | cons x r ih =>
    intro _
    by_cases h : r = []
    · subst h
      exact ⟨x, by simp, rfl⟩
    · obtain ⟨b, h1, h2⟩ := ih x.t h
      exact ⟨b, List.mem_cons_of_mem _ h1, h2⟩
theorem gat_rise (w A : Int) (hw : 1 ≤ w) : ∀ (n : Nat) (l : Bks), l.length = n → okT (-9007199254740993) l → (∀ b ∈ l, A < floorB b.t w) → okT A (gat w l) ∧ (l ≠ [] → ahd A (gat w l) = floorB (ahd (-9007199254740993) l) w) := by
  intro n
  induction n with
  | zero =>
    intro l hl _ _
    have : l = [] := List.length_eq_zero_iff.1 hl
    subst this
    exact ⟨trivial, fun h => absurd rfl h⟩
  | succ n ih =>
    intro l hl hok hA
    rcases List.eq_nil_or_concat l with rfl | ⟨t, b, e⟩
    · exact ⟨trivial, fun h => absurd rfl h⟩
    · rw [List.concat_eq_append] at e
      subst e
      obtain ⟨ho1, ho2, ho3⟩ := (okT_snoc _ t b).1 hok
      obtain ⟨h1, h2⟩ := ih t (by simpa using hl) ho1 (fun x hx => hA x (List.mem_append_left _ hx))
      have hAb := hA b (by simp)
      have hbt := (okT_mem hok b (by simp))
      have hfb : floorB b.t w ≤ 9007199254740992 := Int.le_trans (floor_le hw (by unfold In64; omega)) hbt.2
      rw [gat_snoc, ahd_snoc]
      rcases List.eq_nil_or_concat (gat w t) with h0 | ⟨Z, x, ex⟩
      · rw [h0, push_nil]
        exact ⟨⟨hAb, hfb, trivial⟩, fun _ => rfl⟩
      · rw [List.concat_eq_append] at ex
        have htn : t ≠ [] := fun e => by
          subst e
          have hz : ([] : Bks) = Z ++ [x] := ex
          cases Z <;> cases hz
        have h3 := h2 htn
        rw [ex] at h1 h3 ⊢
        rw [ahd_snoc] at h3
        have hm : floorB (ahd (-9007199254740993) t) w ≤ floorB b.t w := floor_mono hw (by omega)
        obtain ⟨g1, g2, g3⟩ := (okT_snoc _ Z x).1 h1
        rw [push_snoc]
        by_cases hx : x.t = (mv w b).t
        · rw [if_pos hx, ahd_snoc]
          exact ⟨(okT_snoc _ Z _).2 ⟨g1, g2, g3⟩, fun _ => hx⟩
        · rw [if_neg hx, show Z ++ [x, mv w b] = (Z ++ [x]) ++ [mv w b] by simp, ahd_snoc]
          have hx' : ¬ x.t = floorB b.t w := hx
          exact ⟨(okT_snoc _ _ _).2 ⟨h1, by rw [ahd_snoc]; show x.t < floorB b.t w; omega, hfb⟩, fun _ => rfl⟩
theorem okT_first {A B : Int} {l : Bks} (h : okT A l) (h0 : ∀ y r, l = y :: r → B < y.t) : okT B l := by
  cases l with
  | nil => trivial
  | cons y r => exact ⟨h0 y r rfl, h.2.1, h.2.2⟩
/-- Samples' buckets, of small values. -/
theorem sml_one {l : List (Int × Int)} (h : ∀ p ∈ l, -1125899906842624 ≤ p.2 ∧ p.2 ≤ 1125899906842624) : Sml (l.map one) := by
  intro b hb
  obtain ⟨p, hp, rfl⟩ := List.mem_map.1 hb
  have := h p hp
  exact ⟨Int.le_refl _, by show -(1 * 1125899906842624) ≤ p.2; omega, by show p.2 ≤ 1 * 1125899906842624; omega⟩
theorem tot_one (l : List (Int × Int)) : tot (l.map one) = l.length := by
  induction l with
  | nil => rfl
  | cons p r ih => rw [List.map_cons, tot, ih]; simp [one]; omega
theorem floor_low {t w : Int} (hw : 1 ≤ w) (hw' : w ≤ 9007199254740992) (ht : -9007199254740993 < t) : -36028797018963968 < floorB t w := by
  have h2 : t % w < w := Int.emod_lt_of_pos _ (by omega)
  rw [floorB_eq hw (by omega) hw']
  omega
end Go.Proofs.Ytdepgplbcfbopaa.Ru
