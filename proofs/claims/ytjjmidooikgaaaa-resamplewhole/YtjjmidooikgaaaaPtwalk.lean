/-
  Package resample: wrong and walk.
-/
import Derived.Test.YtjjmidooikgaaaaPtlow
import Derived.Test.YtjjmidooikgaaaaYrref
namespace Go.Proofs.Ytjjmidooikgaaaa.Rs
open Go Go.RowKit Go.Proofs.Lys
open Ru (In64 one okT T0 Bks)
set_option linter.unusedVariables false
set_option linter.unusedSimpArgs false

/-- What is told to be wrong. -/
def ErrW (l : Smps) (f s n x : Int) : Prop :=
  ((n < 0 ∨ 10000 < n ∨ f < -9007199254740992 ∨ 9007199254740992 < f ∨ s < 1 ∨ 9007199254740992 < s) ∧ x = 1) ∨
  (0 ≤ n ∧ n ≤ 10000 ∧ -9007199254740992 ≤ f ∧ f ≤ 9007199254740992 ∧ 1 ≤ s ∧ s ≤ 9007199254740992 ∧ ((¬ okT T0 (l.map one) ∧ x = 21) ∨ (okT T0 (l.map one) ∧ x = 0)))

set_option maxRecDepth 100000 in
set_option maxHeartbeats 1600000 in
theorem wrong_any (w : World) (a : Option Addr) (L c : Nat) (l : Smps) (f s n : Int) (hs : SmpSrc w (.slice a L c) l) (hL : l.length = L) (hin : ∀ p ∈ l, In64 p.1 ∧ In64 p.2) (hi : In64 s) (hl : L ≤ 90000) :
    Calls Try.prog 12 #[.slice a L c, .int .i64 f, .int .i64 s, .int .i64 n] w fun e w' => ∃ x, ErrW l f s n x ∧ e = .returned (.int .i64 x) ∧ Kept w w' := by
  have HB := hid (Ru.buckets_any w a c l s (by rw [hL]; exact hs) hin hi (by omega))
  rw [hL] at HB
  clear hs hL hin
  by_cases h1 : n < 0
  · go_enter Try.func12, Try.ntmps12
    go_wp2
    go_ret
    exact ⟨1, .inl ⟨by omega, rfl⟩, rfl, Only.refl _ _⟩
  by_cases h2 : 10000 < n
  · go_enter Try.func12, Try.ntmps12
    go_wp2
    go_ret
    exact ⟨1, .inl ⟨by omega, rfl⟩, rfl, Only.refl _ _⟩
  by_cases h3 : f < -9007199254740992
  · go_enter Try.func12, Try.ntmps12
    go_wp2
    go_ret
    exact ⟨1, .inl ⟨by omega, rfl⟩, rfl, Only.refl _ _⟩
  by_cases h4 : 9007199254740992 < f
  · go_enter Try.func12, Try.ntmps12
    go_wp2
    go_ret
    exact ⟨1, .inl ⟨by omega, rfl⟩, rfl, Only.refl _ _⟩
  go_enter Try.func12, Try.ntmps12
  go_wp2_with fail
  refine HB.out.mono ?_
  rintro e w2 ⟨k2, ⟨hb, rfl⟩ | ⟨g1, g2, hno, rfl⟩ | ⟨g1, g2, hok, v, rfl, _⟩⟩
  · have HF : Hid (ErrW l f s n 1 ∧ Kept w w2) := hid ⟨.inl ⟨by omega, rfl⟩, k2⟩
    clear hb HB k2
    go_wp2
    go_ret
    exact ⟨1, HF.out.1, rfl, HF.out.2⟩
  · have HF : Hid (ErrW l f s n 21 ∧ Kept w w2) := hid ⟨.inr ⟨by omega, by omega, by omega, by omega, g1, g2, .inl ⟨hno, rfl⟩⟩, k2⟩
    clear hno HB k2
    go_wp2
    go_ret
    exact ⟨21, HF.out.1, rfl, HF.out.2⟩
  · have HF : Hid (ErrW l f s n 0 ∧ Kept w w2) := hid ⟨.inr ⟨by omega, by omega, by omega, by omega, g1, g2, .inr ⟨hok, rfl⟩⟩, k2⟩
    clear hok HB k2
    go_wp2
    go_ret
    exact ⟨0, HF.out.1, rfl, HF.out.2⟩

/-- A time that is cut at the greatest int. -/
def capT (x : Int) : Int := if 9223372036854775807 < x then 9223372036854775807 else x
theorem cap_add (x s : Int) (h1 : -9007199254740992 ≤ x) (h2 : 1 ≤ s) (h3 : s ≤ 9007199254740992) : Ru.addC (capT x) s = capT (x + s) := by
  unfold Ru.addC capT
  (repeat' split) <;> omega
theorem cap_in (x : Int) (h1 : -9007199254740992 ≤ x) : In64 (capT x) := by
  unfold capT In64
  split <;> omega
theorem mono_drop {l : Smps} (h : Mono l) (q : Nat) : Mono (l.drop q) := by
  intro i j hij hj
  rw [List.length_drop] at hj
  rw [List.getElem_drop, List.getElem_drop]
  exact h (q + i) (q + j) (by omega) (by omega)
theorem cut_drop {l : Smps} {x y : Int} {q m : Nat} (h : Cut l x q) (g : Cut (l.drop q) (capT y) m) (hxy : x ≤ y) (ht : ∀ p ∈ l, p.1 ≤ 9007199254740992) : Cut l y (q + m) := by
  have hm := g.1
  rw [List.length_drop] at hm
  have hq := h.1
  refine ⟨by omega, fun i hi h1 => ?_, fun i hi h1 => ?_⟩
  · have h2 := ht _ (List.getElem_mem hi)
    rcases Nat.lt_or_ge i q with h3 | h3
    · have := h.2.1 i hi h3
      omega
    · have h4 := g.2.1 (i - q) (by rw [List.length_drop]; omega) (by omega)
      rw [List.getElem_drop] at h4
      simp only [show q + (i - q) = i by omega] at h4
      unfold capT at h4
      split at h4 <;> omega
  · have h2 := ht _ (List.getElem_mem hi)
    have h4 := g.2.2 (i - q) (by rw [List.length_drop]; omega) (by omega)
    rw [List.getElem_drop] at h4
    simp only [show q + (i - q) = i by omega] at h4
    unfold capT at h4
    split at h4 <;> omega
theorem ssrc_from {w : World} {a : Option Addr} {L c : Nat} {l : Smps} (h : SSrc w (.slice a L c) l) (hL : l.length = L) {lo : Nat} (h1 : lo ≤ L) :
    ∃ a' c', (∀ W, (Instr.sliceAt 22 (.slice a L c) (some (.int .i64 (lo : Int))) none none).run Try.prog W = .ok (.slice a' (L - lo) c') W) ∧ SSrc w (.slice a' (L - lo) c') (l.drop lo) := by
  obtain ⟨hs, a2, c2, e, hc⟩ := h
  simp only [Value.slice.injEq] at e
  obtain ⟨rfl, e, rfl⟩ := e
  rw [hL] at hc
  have hlen : (l.drop lo).length = L - lo := by rw [List.length_drop]; omega
  have hz : ∀ W, (sizeOf 36).run Try.prog W = .ok 2 W := fun W => by kernel_rfl
  refine ⟨if c = lo then a else a.map (·.add (lo * 2)), c - lo, fun W => ?_, ?_, _, c - lo, by rw [hlen], by rw [hlen]; omega⟩
  · simp [Instr.sliceAt, Instr.slice, Instr.sliceBounds, Instr.sliceBound, run_underlying Try.underlying22, asIntOf, h1, hc, hz, Result.andThen]
  · by_cases h0 : L - lo = 0
    · have hn : l.drop lo = [] := List.length_eq_zero_iff.1 (by rw [hlen]; exact h0)
      rw [hn, h0]
      exact .inl ⟨_, _, rfl, rfl⟩
    · rcases hs with ⟨x, y, hv, hn⟩ | ⟨hp, b, o, c3, hv, hcell⟩
      · rw [hn] at hL
        simp at hL
        omega
      · simp only [Value.slice.injEq] at hv
        obtain ⟨rfl, _, rfl⟩ := hv
        rw [if_neg (by omega)]
        refine .inr ⟨by rw [hlen]; omega, b, o + lo * 2, c - lo, by rw [hlen, Option.map_some, add_none], fun i hi' => ?_⟩
        rw [hlen] at hi'
        have := hcell (lo + i) (by omega)
        have e5 : (l.drop lo)[i]'(by rw [hlen]; exact hi') = l[lo + i]'(by omega) := by
          rw [List.getElem_drop]
        rw [e5, show o + lo * 2 + i * 2 = o + (lo + i) * 2 by omega]
        exact this
theorem made_zeros (K : Nat) : (madeCells #[Value.int .i64 0] K).toList = (rowF (fun _ => 0) K).map (Value.int .i64) := by
  apply List.ext_getElem?
  intro i
  by_cases h : i < K
  · simp [madeCells, h, Nat.mod_one, rowF]
  · rw [List.getElem?_eq_none (by simp [size_madeCells]; omega), List.getElem?_eq_none (by simp [rowF]; omega)]
/-- What walk tells. -/
def WalkP (w : World) (c : Nat → Option Int) (n : Nat) (e : Ending) (w' : World) : Prop :=
  Kept w w' ∧ ∃ F, Fst c n n F ∧ ((F = n ∧ e = .returned (.tuple #[.slice none 0 0, .int .i64 (gapC c n : Nat)])) ∨
    (F < n ∧ ∃ v, e = .returned (.tuple #[v, .int .i64 (gapC c n : Nat)]) ∧ SrcOf w' v ((rowF (outC c F) n).map (Value.int .i64))))
end Go.Proofs.Ytjjmidooikgaaaa.Rs
