/-
  Package season's laws: SeasonRepeats, walked.
-/
import Derived.Test.YtkhbkjnjhojnbaaSerep
namespace Go.Proofs.Ytkhbkjnjhojnbaa.Se
open Go Go.RowKit Go.Proofs.Lys
set_option linter.unusedVariables false
set_option linter.unusedSimpArgs false

set_option maxRecDepth 100000 in
set_option maxHeartbeats 3200000 in
theorem repeats_walk (W : World) (v : Value) (p : List Int) (t d : Int) (h : IIn W v p) : Calls Try.prog 4 #[v, .int .i64 t, .int .i64 d] W fun e w' => e = .returned (.bool true) ∧ Kept W w' := by
  obtain ⟨hs, ⟨a, c, rfl, hc⟩, hl, hin⟩ := h
  obtain ⟨P, hP⟩ : ∃ P, p.length = P := ⟨_, rfl⟩
  rw [hP] at hs hc hl ⊢
  have HA := hid (fun w => alive_any w)
  by_cases h1 : P < 1
  · clear hs hP hin
    go_enter Try.func4, Try.ntmps4
    go_wp2_with fail
    refine (HA.out _).mono ?_
    rintro e w1 ⟨rfl, k1⟩
    have K1 := hid k1
    clear k1
    go_wp2
    go_ret
    exact ⟨rfl, K1.out⟩
  by_cases h2 : 100 < P
  · clear hs hP hin
    go_enter Try.func4, Try.ntmps4
    go_wp2_with fail
    refine (HA.out _).mono ?_
    rintro e w1 ⟨rfl, k1⟩
    have K1 := hid k1
    clear k1
    go_wp2
    go_ret
    exact ⟨rfl, K1.out⟩
  by_cases h3 : t < 2
  · clear hs hP hin
    go_enter Try.func4, Try.ntmps4
    go_wp2_with fail
    refine (HA.out _).mono ?_
    rintro e w1 ⟨rfl, k1⟩
    have K1 := hid k1
    clear k1
    go_wp2
    go_ret
    exact ⟨rfl, K1.out⟩
  by_cases h4 : 10 < t
  · clear hs hP hin
    go_enter Try.func4, Try.ntmps4
    go_wp2_with fail
    refine (HA.out _).mono ?_
    rintro e w1 ⟨rfl, k1⟩
    have K1 := hid k1
    clear k1
    go_wp2
    go_ret
    exact ⟨rfl, K1.out⟩
  by_cases h5 : d < 1
  · clear hs hP hin
    go_enter Try.func4, Try.ntmps4
    go_wp2_with fail
    refine (HA.out _).mono ?_
    rintro e w1 ⟨rfl, k1⟩
    have K1 := hid k1
    clear k1
    go_wp2
    go_ret
    exact ⟨rfl, K1.out⟩
  by_cases h6 : 1000 < d
  · clear hs hP hin
    go_enter Try.func4, Try.ntmps4
    go_wp2_with fail
    refine (HA.out _).mono ?_
    rintro e w1 ⟨rfl, k1⟩
    have K1 := hid k1
    clear k1
    go_wp2
    go_ret
    exact ⟨rfl, K1.out⟩
  obtain ⟨T, rfl⟩ : ∃ T : Nat, t = (T : Int) := ⟨t.toNat, by omega⟩
  have HF := hid (mul_facts (P := P) (T := T) (by omega) (by omega) (by omega) (by omega))
  have HCE := hid (rep_castE (P := P) (T := T) (d := d) (by omega) (by omega) (by omega) (by omega) (by omega) (by omega))
  have HME := hid (rep_missE (P := P) (T := T) (by omega) (by omega) (by omega) (by omega))
  have HCV := hid (rep_castV (p := p) (T := T) (d := d) (by omega) (by omega) (by omega) (by omega) (by omega) (by omega))
  have HMV := hid (rep_missV (p := p) (T := T) (by omega) (by omega) (by omega) (by omega))
  have HRL := hid (rep_len p T)
  rw [hP] at HCV HMV HRL
  have e3 := Int.emod_lt_of_pos (d - 1) (show 0 < (P : Int) by omega)
  have e4 := Int.emod_nonneg (d - 1) (show (P : Int) ≠ 0 by omega)
  have e2 : (d - 1).tmod (P : Int) = (d - 1) % (P : Int) := Int.tmod_eq_emod_of_nonneg (by omega)
  obtain ⟨R, hR⟩ : ∃ R : Nat, (d - 1) % (P : Int) = (R : Int) := ⟨((d - 1) % (P : Int)).toNat, by omega⟩
  rw [hR] at e2 e3 e4 HCV
  rw [Int.toNat_natCast] at HCV
  have hRP : R < P := by omega
  have hs0 : (P : Int) ≠ 0 := by omega
  obtain ⟨b, o, rfl, _⟩ := pt_cell hs hP 0 (by omega)
  have HPC : Hid (∀ w, Kept W w → w.cell? ⟨b, o + R, none⟩ = some (.int .i64 (p.getD R 0))) := hid (fun w k => by
    obtain ⟨b', o', e, c0⟩ := pt_cell (SrcOf.stay hs k) hP R hRP
    cases e
    exact c0)
  have HS := hid hs
  have HPL := hid hP
  have HCA := hid (fun (w : World) (a : Option Addr) (c : Nat) (hs : PtSrc w (.slice a (T * P) c) (rep p T)) => cast_any w a (T * P) c (rep p T) (P : Int) d hs HRL.out (by have := HF.out; omega))
  have HMI := hid (fun (w : World) (a : Option Addr) (c : Nat) (hs : PtSrc w (.slice a (T * P) c) (rep p T)) (hc : T * P ≤ c) => miss_any w a (T * P) c (rep p T) (P : Int) (P : Int) hs HRL.out hc (by have := HF.out; omega) (rep_in hin T))
  have HCR : Hid (∀ w e w', CastR w (rep p T) (T * P) (P : Int) d e w' → e = .returned (.tuple #[.int .i64 (p.getD R 0), .int .i64 0]) ∧ w' = w) := hid (fun w e w' h => by
    unfold CastR at h
    rw [HCV.out, HCE.out] at h
    exact h)
  have HMR : Hid (∀ w e w', MissR w (rep p T) (T * P) (P : Int) (P : Int) e w' → e = .returned (.tuple #[.int .i64 0, .int .i64 0]) ∧ Kept w w') := hid (fun w e w' h => by
    unfold MissR at h
    rw [HMV.out, HME.out] at h
    exact h)
  have HN := hid (fun W => num_any 0 W ⟨by decide, by decide⟩)
  have hw2 : wrap64 (d - 1) = d - 1 := by unfold wrap64; omega
  have hb : b < W.heap.size := World.block_lt_of_cell? W _ (HPC.out W (Only.refl _ W))
  clear hs hP hin hR HCV HCE HMV HME
  go_enter Try.func4, Try.ntmps4
  go_wp2_with fail
  refine (HA.out _).mono ?_
  rintro e w1 ⟨rfl, k1⟩
  have K1 := hid k1
  clear k1
  go_wp2_with fail
  go_loopw [9, 8] (fun s9 s8 wr => ∃ (k : Nat) (sa : Option Addr) (sn sc : Nat), k ≤ T ∧ s9 = .int .i64 (k : Int) ∧ s8 = .slice sa sn sc ∧ Hid (RowI wr w1.heap.size (.slice sa sn sc) (rep p k)) ∧ Hid (Kept w1 wr)) (fun s9 _ _ => T - (intOf s9).toNat)
  case atStart => exact ⟨0, none, 0, 0, by omega, rfl, rfl, hid (World.ownsRow_nil w1 w1.heap.size 3 1), hid (Only.refl _ _)⟩
  case round =>
    obtain ⟨k, sa, sn, sc, hk, rfl, rfl, HR, HK⟩ := hrel
    by_cases hlt : k < T
    · have HLK := hid (rep_len p k)
      obtain ⟨v', w2, Hr, hr2, o2⟩ := row_more HR.out (HS.out.stay (K1.out.trans HK.out (fun _ _ f => f))) (by
        rw [HLK.out, HPL.out]
        have h7 : (k + 1) * P ≤ T * P := Nat.mul_le_mul_right _ hlt
        have h8 := HF.out
        rw [Nat.succ_mul] at h7
        omega) (HK.out.size)
      have K2 : Hid (Kept w1 w2) := hid (HK.out.trans o2 (fun j hj e => by have := (HR.out.lt j e).1; omega))
      obtain ⟨a2, c2, rfl, _⟩ := hr2.slice
      have HR2 : Hid (RowI w2 w1.heap.size (.slice a2 (rep p k ++ p).length c2) (rep p (k + 1))) := hid hr2
      clear hr2 o2
      generalize (rep p k ++ p).length = n2 at *
      have hkt : (k : Int) < (T : Int) := by omega
      go_wp2_with (at_builtin; refine wpList_append_run rfl _ _ _ rfl rfl rfl Hr ?_)
      go_roundw
      case rel => exact ⟨k + 1, a2, n2, c2, by omega, by go_num, rfl, HR2, K2⟩
      case measure => simp [intOf]; omega
    · have e : k = T := by omega
      subst e
      obtain ⟨a2, c2, he, hc2⟩ := HR.out.slice
      simp only [Value.slice.injEq] at he
      obtain ⟨rfl, e5, rfl⟩ := he
      rw [HRL.out] at e5 hc2
      have HSR : Hid (PtSrc wr (.slice sa (k * P) sc) (rep p k)) := hid (by rw [← e5]; exact own_src HR.out)
      have HC1 := hid (HCA.out wr sa sc HSR.out)
      have HM1 := hid (HMI.out wr sa sc HSR.out hc2)
      have c0 := HPC.out wr (K1.out.trans HK.out (fun _ _ f => f))
      have HKW := hid (K1.out.trans HK.out (fun _ _ f => f))
      rw [e5]
      clear HCA HMI HR HF HRL e5 hc2
      generalize k * P = N at *
      generalize p.getD R 0 = V at *
      have hkt : ¬ (k : Int) < (k : Int) := by omega
      go_wp2_with fail
      refine HC1.out.mono ?_
      intro e w3 h9
      obtain ⟨rfl, rfl⟩ := HCR.out _ _ _ h9
      clear h9
      go_wp2_with fail
      refine HM1.out.mono ?_
      intro e w4 h9
      obtain ⟨rfl, k4⟩ := HMR.out _ _ _ h9
      have K4 := hid (HKW.out.trans k4 (fun _ _ f => f))
      have c4 := HPC.out w4 K4.out
      clear h9 k4 c0
      go_wp2_with fail
      refine (HN.out _).mono ?_
      rintro e w5 ⟨rfl, rfl⟩
      go_wp2_with fail
      refine (HN.out _).mono ?_
      rintro e w5 ⟨rfl, rfl⟩
      have hb5 : b < w5.heap.size := World.block_lt_of_cell? w5 _ c4
      go_wp2
      go_ret
      exact ⟨rfl, K4.out⟩
end Go.Proofs.Ytkhbkjnjhojnbaa.Se
