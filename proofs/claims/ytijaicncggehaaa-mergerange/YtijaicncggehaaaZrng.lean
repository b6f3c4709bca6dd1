/-
  Range, the program's and the document's own.
-/
import Derived.Test.YtijaicncggehaaaZrput
namespace Go.Proofs.Ytijaicncggehaaa.Mg
open Go Go.RowKit Go.Proofs.Lys
set_option linter.unusedVariables false
set_option linter.unusedSimpArgs false

def inR (lo hi : Int) (y : Smp) : Bool := decide (lo ≤ y.1) && decide (y.1 < hi)
def rngL (lo hi : Int) (l : Smps) : Smps := l.filter (inR lo hi)
theorem rng_more {lo hi : Int} {l : Smps} {k : Nat} (hk : k < l.length) : rngL lo hi (l.take (k + 1)) = rngL lo hi (l.take k) ++ (if inR lo hi l[k] then [l[k]] else []) := by
  unfold rngL
  rw [List.take_succ_eq_append_getElem hk, List.filter_append]
  by_cases h : inR lo hi l[k] = true
  · rw [if_pos h, List.filter_cons_of_pos h]; rfl
  · rw [if_neg h, List.filter_cons_of_neg h]; rfl
theorem rng_len (lo hi : Int) (l : Smps) : (rngL lo hi l).length ≤ l.length := List.length_filter_le _ _
def RngP (w : World) (r : Smps) (e : Ending) (w' : World) : Prop := ∃ u, e = .returned u ∧ SmpAt w' w.heap.size u r ∧ Kept w w'
set_option maxRecDepth 100000 in
set_option maxHeartbeats 4000000 in
theorem rrange_any (w : World) (v : Value) (l : Smps) (lo hi : Int) (hs : SSrc w v l) (hl : l.length ≤ 100000) :
    Calls Try.prog 20 #[v, .int .i64 lo, .int .i64 hi] w (RngP w (rngL lo hi l)) := by
  obtain ⟨R, hR⟩ : ∃ R, RngP w (rngL lo hi l) = R := ⟨_, rfl⟩
  rw [hR]
  have HRR := hid hR
  have HS := hid hs
  obtain ⟨ra, rc, rfl⟩ := hs.1.len
  obtain ⟨L, hL⟩ : ∃ L, l.length = L := ⟨_, rfl⟩
  have HL := hid hL
  rw [hL] at hl HS ⊢
  clear hs hR hL
  go_enter Try.func20, Try.ntmps20
  go_wp2
  go_loopw [7, 8] (fun u s wr => ∃ (k : Nat), k ≤ L ∧ s = .int .i64 (k : Int) ∧ Hid (SmpAt wr w.heap.size u (rngL lo hi (l.take k))) ∧ Hid (Kept w wr)) (fun _ s _ => L - (intOf s).toNat)
  case atStart => exact ⟨0, by omega, rfl, hid ⟨rfl, .inl ⟨rfl, rfl⟩⟩, hid (Only.refl _ _)⟩
  case round =>
    obtain ⟨k, hk, rfl, HO, HK⟩ := hrel
    obtain ⟨ao, co, e0⟩ := ownN_slice HO.out
    subst e0
    obtain ⟨N, hN⟩ : ∃ N, (rngL lo hi (l.take k)).length = N := ⟨_, rfl⟩
    have HN := hid hN
    have hN5 : N ≤ 100000 := by have := rng_len lo hi (l.take k); rw [List.length_take] at this; omega
    rw [hN] at HO ⊢
    clear hN
    by_cases hlt : k < L
    · have hkl : k < l.length := by have := HL.out; omega
      obtain ⟨b1, o1, rfl, x1, y1⟩ := ((HS.out.stay HK.out).1).cell HL.out k hlt
      have HM := hid (rng_more (lo := lo) (hi := hi) hkl)
      obtain ⟨⟨X, Y⟩, hx⟩ : ∃ x, l[k] = x := ⟨_, rfl⟩
      rw [hx] at x1 y1 HM
      simp only at x1 y1
      clear hx
      have dk : decide ((k : Int) < (L : Int)) = true := decide_eq_true (by omega)
      by_cases h1 : lo ≤ X
      · have d1 : decide (lo ≤ X) = true := decide_eq_true h1
        by_cases h2 : X < hi
        · have d2 : decide (X < hi) = true := decide_eq_true h2
          have HM2 : Hid (rngL lo hi (l.take (k + 1)) = rngL lo hi (l.take k) ++ [(X, Y)]) := hid (by rw [HM.out, if_pos (by unfold inR; rw [d1, d2]; rfl)])
          obtain ⟨g, cap, w', R7, hv7, o7⟩ := smp_one HO.out (by have := HK.out.size; omega) (X, Y) (by have := HN.out; omega)
          have HV7 := hid hv7
          have HK7 : Hid (Kept w w') := hid (HK.out.trans o7 (fun j hlt hj => by have := (ownN_lt HO.out hj).1; omega))
          rw [HN.out] at R7 HV7
          clear hv7 o7 HM h1 h2
          go_wp2_with (at_builtin; refine Lys.wpList_append_run rfl _ _ _ rfl rfl rfl R7 ?_)
          go_roundw
          case rel => exact ⟨k + 1, by omega, by go_num, hid (by rw [HM2.out]; exact HV7.out), HK7⟩
          case measure => simp [intOf]; omega
        · have d2 : decide (X < hi) = false := decide_eq_false h2
          have HM2 : Hid (rngL lo hi (l.take (k + 1)) = rngL lo hi (l.take k)) := hid (by rw [HM.out, if_neg (by unfold inR; rw [d1, d2]; decide), List.append_nil])
          clear HM h1 h2
          go_wp2_with fail
          go_roundw
          case rel => exact ⟨k + 1, by omega, by go_num, hid (by rw [HM2.out]; exact HO.out), HK⟩
          case measure => simp [intOf]; omega
      · have d1 : decide (lo ≤ X) = false := decide_eq_false h1
        have HM2 : Hid (rngL lo hi (l.take (k + 1)) = rngL lo hi (l.take k)) := hid (by rw [HM.out, if_neg (by unfold inR; rw [d1]; simp), List.append_nil])
        clear HM h1
        go_wp2_with fail
        go_roundw
        case rel => exact ⟨k + 1, by omega, by go_num, hid (by rw [HM2.out]; exact HO.out), HK⟩
        case measure => simp [intOf]; omega
    · have dk : decide ((k : Int) < (L : Int)) = false := decide_eq_false (by omega)
      have hke : l.take k = l := List.take_of_length_le (by have := HL.out; omega)
      have HF : Hid (R (.returned (.slice ao N co)) wr) := hid (by
        rw [← HRR.out]
        have h := HO.out
        rw [hke] at h
        exact ⟨_, rfl, h, HK.out⟩)
      clear hke
      go_wp2
      exact HF.out
end Go.Proofs.Ytijaicncggehaaa.Mg
