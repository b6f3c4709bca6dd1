/-
  The document's own Merge.
-/
import Derived.Test.YtcacoanhiphbiaaZrng
namespace Go.Proofs.Ytcacoanhiphbiaa.Mg
open Go Go.RowKit Go.Proofs.Lys
set_option linter.unusedVariables false
set_option linter.unusedSimpArgs false

theorem mrg_put (a : Smps) (x : Smp) : mrg (a ++ [x]) = putS x (mrg a) := by
  unfold mrg
  rw [List.foldl_append]
  rfl
set_option maxRecDepth 100000 in
set_option maxHeartbeats 4000000 in
theorem rmerge_any (w : World) (v : Value) (vs : List Value) (ls : List Smps) (hs : LLSrc w v vs ls) (hl : ls.flatten.length ≤ 100000) (hm : ls.length ≤ 100000) :
    Calls Try.prog 21 #[v] w (RngP w (mrg ls.flatten)) := by
  obtain ⟨R, hR⟩ : ∃ R, RngP w (mrg ls.flatten) = R := ⟨_, rfl⟩
  rw [hR]
  have HRR := hid hR
  have HS := hid hs
  obtain ⟨a0, c0, rfl⟩ := hs.src.len
  obtain ⟨M, hM⟩ : ∃ M, vs.length = M := ⟨_, rfl⟩
  have HM := hid hM
  have HML := hid hs.len
  have HFL := hid hl
  rw [← hs.len, hM] at hm
  rw [hM] at HS ⊢
  clear hs hR hM hl
  go_enter Try.func21, Try.ntmps21
  go_wp2
  go_loopw [3, 4] (fun u s wr => ∃ (k : Nat), k ≤ M ∧ s = .int .i64 (k : Int) ∧ Hid (SmpAt wr w.heap.size u (mrg (ls.take k).flatten)) ∧ Hid (Kept w wr)) (fun _ s _ => M - (intOf s).toNat)
  case atStart => exact ⟨0, by omega, rfl, hid ⟨rfl, .inl ⟨rfl, rfl⟩⟩, hid (Only.refl _ _)⟩
  case round =>
    obtain ⟨k, hk, rfl, HO, HK⟩ := hrel
    by_cases hlt : k < M
    · have hkl : k < ls.length := by have := HM.out; have := HML.out; omega
      have hkv : k < vs.length := by have := HM.out; omega
      obtain ⟨b, o, rfl⟩ : ∃ b o, a0 = some ⟨b, o, none⟩ := by
        rcases HS.out.src.shape with ⟨hnil, _⟩ | ⟨_, b, o, c', e, _⟩
        · rw [hnil] at hkv; simp at hkv
        · simp only [Value.slice.injEq] at e
          exact ⟨b, o, e.1⟩
      have hsk := HS.out.each k hkl hkv
      obtain ⟨a1, c1, e1, hc1⟩ := hsk.2
      have HCL : Hid (∀ W, Kept w W → W.cell? ⟨b, o + k, none⟩ = some (.slice a1 ls[k].length c1)) := hid fun W kW => by
        rcases (HS.out.stay kW).src.shape with ⟨hnil, _⟩ | ⟨_, b', o', c', e, hcc⟩
        · rw [hnil] at hkv; simp at hkv
        · simp only [Value.slice.injEq, Option.some.injEq, Addr.mk.injEq, and_true] at e
          obtain ⟨⟨rfl, rfl⟩, _⟩ := e
          rw [← e1]
          exact hcc k _ (List.getElem?_eq_getElem hkv)
      rw [e1] at hsk
      have hft := flat_take hkl
      have hfp := flat_part ls (k + 1)
      rw [hft, List.length_append] at hfp
      obtain ⟨l, hle⟩ : ∃ l, ls[k] = l := ⟨_, rfl⟩
      rw [hle] at HCL hsk hft hfp
      obtain ⟨LL, hLL⟩ : ∃ LL, l.length = LL := ⟨_, rfl⟩
      rw [hLL] at HCL hsk hfp
      have HSK := hid hsk
      have HFP := hid hfp
      have HFT := hid hft
      have HLL := hid hLL
      have hLL5 : LL ≤ 100000 := by have := HFL.out; omega
      clear hsk e1 hc1 hft hfp hle hLL
      go_wp2
      go_loopw [3, 5] (fun u s wq => ∃ (m : Nat), m ≤ LL ∧ s = .int .i64 (m : Int) ∧ Hid (SmpAt wq w.heap.size u (mrg ((ls.take k).flatten ++ l.take m))) ∧ Hid (Kept w wq)) (fun _ s _ => LL - (intOf s).toNat)
      case atStart => exact ⟨0, by omega, rfl, hid (by rw [List.take_zero, List.append_nil]; exact HO.out), HK⟩
      case round =>
        clear HO HK
        obtain ⟨m, hm2, rfl, HO, HK⟩ := hrel
        have cc := HCL.out wr HK.out
        have hbl := World.block_lt_of_cell? wr _ cc
        by_cases hlt2 : m < LL
        · have hml : m < l.length := by have := HLL.out; omega
          obtain ⟨b1, o1, rfl, x1, y1⟩ := ((HSK.out.stay HK.out).1).cell HLL.out m hlt2
          obtain ⟨⟨X, Y⟩, hx⟩ : ∃ x, l[m] = x := ⟨_, rfl⟩
          have HMM : Hid (mrg ((ls.take k).flatten ++ l.take (m + 1)) = putS (X, Y) (mrg ((ls.take k).flatten ++ l.take m))) := hid (by
            rw [List.take_succ_eq_append_getElem hml, hx, ← List.append_assoc, mrg_put])
          rw [hx] at x1 y1
          simp only at x1 y1
          have hln := mrg_len ((ls.take k).flatten ++ l.take m)
          have HN5 : Hid ((mrg ((ls.take k).flatten ++ l.take m)).length ≤ 100000) := hid (by
            rw [List.length_append, List.length_take] at hln
            have := HFP.out
            have := HFL.out
            omega)
          have hss := smpAt_ssrc HO.out
          have HPT := hid (rput_any wr _ _ X Y hss.1 hss.2 HN5.out)
          clear hx hln hss
          go_wp2_with fail
          refine HPT.out.mono ?_
          rintro e w2 ⟨v2, rfl, h2, k2⟩
          have HO2 : Hid (SmpAt w2 w.heap.size v2 (mrg ((ls.take k).flatten ++ l.take (m + 1)))) := hid (by rw [HMM.out]; exact ownN_base h2 HK.out.size)
          have HK2 := hid (HK.out.trans k2 (fun _ _ f => f))
          clear HPT h2 k2 cc hbl x1 y1
          go_wp2
          go_roundw
          case rel => exact ⟨m + 1, by omega, by go_num, HO2, HK2⟩
          case measure => simp [intOf]; omega
        · have hall : l.take m = l := List.take_of_length_le (by have := HLL.out; omega)
          have HALL := hid hall
          clear hall
          go_wp2_with fail
          go_roundw
          case rel => exact ⟨k + 1, by omega, by go_num, hid (by rw [HFT.out]; have h := HO.out; rw [HALL.out] at h; exact h), HK⟩
          case measure => simp [intOf]; omega
    · have hall : ls.take k = ls := List.take_of_length_le (by have := HM.out; have := HML.out; omega)
      have HF : Hid (R (.returned u3) wr) := hid (by
        rw [← HRR.out]
        have h := HO.out
        rw [hall] at h
        exact ⟨_, rfl, h, HK.out⟩)
      clear hall
      go_wp2
      exact HF.out
end Go.Proofs.Ytcacoanhiphbiaa.Mg
