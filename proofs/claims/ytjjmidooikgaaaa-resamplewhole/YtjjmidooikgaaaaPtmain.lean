/-
  Package resample: Points and Gaps.
-/
import Derived.Test.YtjjmidooikgaaaaPtwk
namespace Go.Proofs.Ytjjmidooikgaaaa.Rs
open Go Go.RowKit Go.Proofs.Lys
open Ru (In64 one okT T0 Rising)
set_option linter.unusedVariables false
set_option linter.unusedSimpArgs false

theorem mono_ok {l : Smps} (h : okT T0 (l.map one)) : Mono l ∧ ∀ p ∈ l, -9007199254740992 ≤ p.1 ∧ p.1 ≤ 9007199254740992 := by
  have hr := (Ru.rising_okT _ l rfl).2 h
  have step : ∀ d i (hj : i + d + 1 < l.length), (l[i]'(by omega)).1 ≤ (l[i + d + 1]).1 := by
    intro d
    induction d with
    | zero =>
      intro i hj
      have := (hr (i + 1) (by simpa using hj)).2.2 (by omega)
      simp at this
      show (l[i]).1 ≤ (l[i + 1]).1
      omega
    | succ d ih =>
      intro i hj
      have h1 := ih i (by omega)
      have := (hr (i + (d + 1) + 1) (by simpa using hj)).2.2 (by omega)
      simp at this
      have e : i + (d + 1) = i + d + 1 := by omega
      simp only [e] at this ⊢
      omega
  refine ⟨fun i j hij hj => ?_, fun p hp => ?_⟩
  · have := step (j - i - 1) i (by omega)
    simp only [show i + (j - i - 1) + 1 = j by omega] at this
    exact this
  · obtain ⟨i, hi, rfl⟩ := List.getElem_of_mem hp
    have := hr i (by simpa using hi)
    simp at this
    exact ⟨this.1, this.2.1⟩

/-- What Points tells. -/
def PtsP (w : World) (l : Smps) (f s n : Int) (e : Ending) (w' : World) : Prop :=
  Kept w w' ∧ ∃ x, ErrW l f s n x ∧ ((x ≠ 0 ∧ e = .returned (.tuple #[.slice none 0 0, .int .i64 x])) ∨ (x = 0 ∧ ∃ F, Fst (cell f s l) n.toNat n.toNat F ∧
    ((F = n.toNat ∧ e = .returned (.tuple #[.slice none 0 0, .int .i64 0])) ∨ (F < n.toNat ∧ ∃ v, e = .returned (.tuple #[v, .int .i64 0]) ∧ SrcOf w' v ((rowF (outC (cell f s l) F) n.toNat).map (Value.int .i64))))))
/-- What Gaps tells. -/
def GapP (w : World) (l : Smps) (f s n : Int) (e : Ending) (w' : World) : Prop :=
  Kept w w' ∧ ∃ x, ErrW l f s n x ∧ ((x ≠ 0 ∧ e = .returned (.tuple #[.int .i64 0, .int .i64 x])) ∨ (x = 0 ∧ e = .returned (.tuple #[.int .i64 (gapC (cell f s l) n.toNat : Nat), .int .i64 0])))

set_option maxRecDepth 100000 in
set_option maxHeartbeats 1600000 in
theorem points_any (w : World) (a : Option Addr) (L c : Nat) (l : Smps) (f s n : Int) (hs : SSrc w (.slice a L c) l) (hL : l.length = L) (hl : L ≤ 90000) (hin : ∀ p ∈ l, In64 p.1 ∧ In64 p.2) (hi : In64 s) :
    Calls Try.prog 7 #[.slice a L c, .int .i64 f, .int .i64 s, .int .i64 n] w (PtsP w l f s n) := by
  obtain ⟨R, hR⟩ : ∃ R, PtsP w l f s n = R := ⟨_, rfl⟩
  rw [hR]
  have HRR := hid hR
  have HB := hid (wrong_any w a L c l f s n hs.1 hL hin hi hl)
  have HS := hid hs
  have HL := hid hL
  clear hR hs hin hL
  go_enter Try.func7, Try.ntmps7
  go_wp2_with fail
  refine HB.out.mono ?_
  rintro e w2 ⟨x, hx, rfl, k2⟩
  by_cases h0 : x = 0
  · subst h0
    rcases hx with ⟨_, h⟩ | ⟨g1, g2, g3, g4, g5, g6, ⟨_, h⟩ | ⟨hok, _⟩⟩
    · omega
    · omega
    obtain ⟨N, hN⟩ : ∃ N : Nat, n = (N : Int) := ⟨n.toNat, by omega⟩
    subst hN
    have HM := mono_ok hok
    have HW := hid (walk_any w2 a L c N l f s (HS.out.stay k2) HL.out hl HM.1 (fun p hp => (HM.2 p hp).2) (by omega) g3 g4 g5 g6)
    have HOK := hid hok
    have K2 := hid k2
    clear hok HM k2 HB
    go_wp2_with fail
    refine HW.out.mono ?_
    rintro e w3 ⟨k3, F, hF, ⟨hFn, rfl⟩ | ⟨hFn, v, rfl, hv⟩⟩
    · have HF : Hid (R (.returned (.tuple #[.slice none 0 0, .int .i64 0])) w3) := hid (by
        rw [← HRR.out]
        exact ⟨K2.out.trans k3 (fun _ _ f => f), 0, .inr ⟨g1, g2, g3, g4, g5, g6, .inr ⟨HOK.out, rfl⟩⟩, .inr ⟨rfl, F, hF, .inl ⟨hFn, rfl⟩⟩⟩)
      clear hF hFn k3 HW
      go_wp2_with fail
      exact HF.out
    · have HF : Hid (R (.returned (.tuple #[v, .int .i64 0])) w3) := hid (by
        rw [← HRR.out]
        exact ⟨K2.out.trans k3 (fun _ _ f => f), 0, .inr ⟨g1, g2, g3, g4, g5, g6, .inr ⟨HOK.out, rfl⟩⟩, .inr ⟨rfl, F, hF, .inr ⟨hFn, v, rfl, hv⟩⟩⟩)
      clear hF hFn k3 HW hv
      go_wp2_with fail
      exact HF.out
  · have HF : Hid (R (.returned (.tuple #[.slice none 0 0, .int .i64 x])) w2) := hid (by
      rw [← HRR.out]
      exact ⟨k2, x, hx, .inl ⟨h0, rfl⟩⟩)
    have hxb : (x == 0) = false := by simpa using h0
    clear hx k2 HB
    go_wp2_with fail
    exact HF.out

set_option maxRecDepth 100000 in
set_option maxHeartbeats 1600000 in
theorem gaps_any (w : World) (a : Option Addr) (L c : Nat) (l : Smps) (f s n : Int) (hs : SSrc w (.slice a L c) l) (hL : l.length = L) (hl : L ≤ 90000) (hin : ∀ p ∈ l, In64 p.1 ∧ In64 p.2) (hi : In64 s) :
    Calls Try.prog 8 #[.slice a L c, .int .i64 f, .int .i64 s, .int .i64 n] w (GapP w l f s n) := by
  obtain ⟨R, hR⟩ : ∃ R, GapP w l f s n = R := ⟨_, rfl⟩
  rw [hR]
  have HRR := hid hR
  have HB := hid (wrong_any w a L c l f s n hs.1 hL hin hi hl)
  have HS := hid hs
  have HL := hid hL
  clear hR hs hin hL
  go_enter Try.func8, Try.ntmps8
  go_wp2_with fail
  refine HB.out.mono ?_
  rintro e w2 ⟨x, hx, rfl, k2⟩
  by_cases h0 : x = 0
  · subst h0
    rcases hx with ⟨_, h⟩ | ⟨g1, g2, g3, g4, g5, g6, ⟨_, h⟩ | ⟨hok, _⟩⟩
    · omega
    · omega
    obtain ⟨N, hN⟩ : ∃ N : Nat, n = (N : Int) := ⟨n.toNat, by omega⟩
    subst hN
    have HM := mono_ok hok
    have HW := hid (walk_any w2 a L c N l f s (HS.out.stay k2) HL.out hl HM.1 (fun p hp => (HM.2 p hp).2) (by omega) g3 g4 g5 g6)
    have HF : Hid (∀ w3, Kept w2 w3 → R (.returned (.tuple #[.int .i64 (gapC (cell f s l) N : Nat), .int .i64 0])) w3) := hid (fun w3 k3 => by
      rw [← HRR.out]
      exact ⟨k2.trans k3 (fun _ _ f => f), 0, .inr ⟨g1, g2, g3, g4, g5, g6, .inr ⟨hok, rfl⟩⟩, .inr ⟨rfl, rfl⟩⟩)
    clear hok HM k2 HB
    have HW2 : Hid (Calls Try.prog 13 #[.slice a L c, .int .i64 f, .int .i64 s, .int .i64 (N : Int)] w2 (fun e w3 => ∃ v, e = .returned (.tuple #[v, .int .i64 (gapC (cell f s l) N : Nat)]) ∧ Kept w2 w3)) := hid (by
      refine HW.out.mono ?_
      rintro e w3 ⟨k3, F, hF, ⟨hFn, rfl⟩ | ⟨hFn, v, rfl, hv⟩⟩
      · exact ⟨_, rfl, k3⟩
      · exact ⟨_, rfl, k3⟩)
    clear HW
    generalize gapC (cell f s l) N = G at HF HW2
    go_wp2_with fail
    refine HW2.out.mono ?_
    rintro e w3 ⟨v, rfl, k3⟩
    have HF2 := hid (HF.out w3 k3)
    clear k3 HW2
    go_wp2_with fail
    exact HF2.out
  · have HF : Hid (R (.returned (.tuple #[.int .i64 0, .int .i64 x])) w2) := hid (by
      rw [← HRR.out]
      exact ⟨k2, x, hx, .inl ⟨h0, rfl⟩⟩)
    have hxb : (x == 0) = false := by simpa using h0
    clear hx k2 HB
    go_wp2_with fail
    exact HF.out
end Go.Proofs.Ytjjmidooikgaaaa.Rs
