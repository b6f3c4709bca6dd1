/-
  The document's own Fits.
-/
import Derived.Test.YtbdcaikcdhfdoaaMrcheck
import Derived.Test.YtbdcaikcdhfdoaaMfits
import Derived.Test.YtbdcaikcdhfdoaaNwrite
namespace Go.Proofs.Ytbdcaikcdhfdoaa.N
open Go.RowKit Go.Proofs.Lys
set_option linter.unusedVariables false
set_option linter.unusedSimpArgs false

/-- How far the label of a name is looked for. -/
def Fd (l : Labs) (n : ByteArray) (k : Nat) (V : ByteArray) (h : Bool) : Prop :=
  (h = false ∧ V = ⟨#[]⟩ ∧ ∀ i (hi : i < l.length), i < k → l[i].1 ≠ n) ∨ (h = true ∧ foundV l n = (V, true))
theorem Fd.end_ {l : Labs} {n : ByteArray} {k : Nat} {V : ByteArray} {h : Bool} (f : Fd l n k V h) (hk : l.length ≤ k) : foundV l n = (V, h) := by
  rcases f with ⟨rfl, rfl, hno⟩ | ⟨rfl, hf⟩
  · exact found_none (fun i hi => hno i hi (by omega))
  · exact hf
theorem Fd.same {l : Labs} {n : ByteArray} {k : Nat} {V : ByteArray} (f : Fd l n k V true) : Fd l n (k + 1) V true := by
  rcases f with ⟨h, _⟩ | ⟨_, hf⟩
  · cases h
  · exact .inr ⟨rfl, hf⟩
theorem Fd.no {l : Labs} {n : ByteArray} {k : Nat} {V : ByteArray} {h : Bool} (f : Fd l n k V h) (hk : k < l.length) (hx : l[k].1 ≠ n) : Fd l n (k + 1) V h := by
  rcases f with ⟨rfl, rfl, hno⟩ | ⟨rfl, hf⟩
  · refine .inl ⟨rfl, rfl, fun i hi hik => ?_⟩
    by_cases e : i < k
    · exact hno i hi e
    · have : i = k := by omega
      subst this
      exact hx
  · exact .inr ⟨rfl, hf⟩
theorem Fd.hit {l : Labs} {n : ByteArray} {k : Nat} {V : ByteArray} (f : Fd l n k V false) (hk : k < l.length) (hx : l[k].1 = n) : Fd l n (k + 1) l[k].2 true := by
  rcases f with ⟨_, _, hno⟩ | ⟨h, _⟩
  · exact .inr ⟨rfl, found_hit hk hx hno⟩
  · cases h
theorem prefix_eq (V Y : ByteArray) : Lib.hasPrefix V.data.toList Y.data.toList = (decide (Y.size ≤ V.size) && decide (V.extract 0 Y.size = Y)) := by
  by_cases h : Lib.hasPrefix V.data.toList Y.data.toList = true
  · rw [h]
    obtain ⟨u, hu⟩ := List.isPrefixOf_iff_prefix.1 h
    have h1 : Y.size ≤ V.size := by
      rw [Lib.size_eq, Lib.size_eq, ← hu, List.length_append]
      omega
    have h2 : V.extract 0 Y.size = Y := bytes_inj (by
      rw [sub_bytes, List.drop_zero, Lib.size_eq, ← hu]
      simp)
    rw [decide_eq_true h1, decide_eq_true h2]
    rfl
  · have hf : Lib.hasPrefix V.data.toList Y.data.toList = false := by simpa using h
    rw [hf]
    symm
    by_cases h2 : V.extract 0 Y.size = Y
    · exfalso
      apply h
      have e : (V.extract 0 Y.size).data.toList = Y.data.toList := by rw [h2]
      rw [sub_bytes, List.drop_zero] at e
      refine List.isPrefixOf_iff_prefix.2 ?_
      rw [← e]
      exact List.take_prefix _ _
    · rw [decide_eq_false h2]
      simp

set_option maxRecDepth 100000 in
set_option maxHeartbeats 8000000 in
theorem rfits_any (w : World) (v u : Value) (l : Mats) (of_ : Labs) (hs : MatSrc w v l) (hl : l.length ≤ 100000) (hB : SmallM l) (ho : LabSrc w u of_) (hol : of_.length ≤ 100000) :
    Calls Try.prog 14 #[v, u] w fun e w' => e = .returned (.bool (fitsB l of_)) ∧ Kept w w' := by
  have HC := hid (rcheck_any w v l hs hl hB)
  obtain ⟨a1, c1, rfl⟩ := hs.len
  obtain ⟨a2, c2, rfl⟩ := ho.len
  by_cases hck : checkM l = 0
  · have hck8 := (checkM_zero.1 hck).1
    have HOK := hid (checkM_zero.1 hck).2
    have HF1 : Hid (∀ k (hk : k < l.length), fitB of_ l[k] = false → fitsB l of_ = false) := fun k hk h => fits_bad hk h
    have HF2 : Hid ((∀ k (hk : k < l.length), fitB of_ l[k] = true) → fitsB l of_ = true) := fun h => fits_good hck h
    rw [hck] at HC
    generalize fitsB l of_ = R at HF1 HF2 ⊢
    obtain ⟨L, hL⟩ : ∃ L, l.length = L := ⟨_, rfl⟩
    obtain ⟨O, hO⟩ : ∃ O, of_.length = O := ⟨_, rfl⟩
    have HS := hid hs
    have HL := hid hL
    have HO := hid hO
    have HOf := hid ho
    rw [hL] at HS HC hl hck8 ⊢
    rw [hO] at HOf hol ⊢
    clear hs ho hL hO hck hB
    go_enter Try.func14, Try.ntmps14
    go_wp2_with fail
    refine HC.out.mono ?_
    rintro e w1 ⟨rfl, hq⟩
    replace hq := hq.symm
    subst hq
    clear HC
    go_wp2_with fail
    go_loopw [5] (fun s wr => ∃ (k : Nat), k ≤ L ∧ s = .int .i64 (k : Int) ∧ (∀ i (hi : i < l.length), i < k → fitB of_ l[i] = true) ∧ Kept w wr) (fun s _ => L - (intOf s).toNat)
    case atStart => exact ⟨0, by omega, rfl, fun i _ h => absurd h (by omega), Only.refl _ _⟩
    case round =>
      obtain ⟨k, hk, rfl, hok, kr⟩ := hrel
      have HA := hid hok
      have HK := hid kr
      by_cases hlt : k < L
      · have hkl : k < l.length := by have := HL.out; omega
        have HC1 := hid (fun W (kW : Kept w W) => (HS.out.stay kW).cell HL.out k hlt)
        have hmo := matOk_parts (HOK.out _ (List.getElem_mem hkl))
        have HF := hid (fun h => HF1.out k hkl h)
        have HT : Hid (fitB of_ (l[k]'hkl) = true → ∀ i (hi : i < l.length), i < k + 1 → fitB of_ l[i] = true) := fun h i hi hik => by
          by_cases e : i < k
          · exact HA.out i hi e
          · have : i = k := by omega
            subst this
            exact h
        clear hok
        generalize l[k]'hkl = x at HC1 HF HT hmo
        obtain ⟨N, X, Y⟩ := x
        obtain ⟨b1, o1, ea, _⟩ := HC1.out wr kr
        subst ea
        have HC2 : Hid (∀ W, Kept w W → W.cell? ⟨b1, o1 + k * 3, none⟩ = some (.int .i64 N) ∧ W.cell? ⟨b1, o1 + k * 3 + 1, none⟩ = some (.string X) ∧ W.cell? ⟨b1, o1 + k * 3 + 2, none⟩ = some (.string Y)) := fun W kW => by
          obtain ⟨b, o, e, h⟩ := HC1.out W kW
          simp only [Option.some.injEq, Addr.mk.injEq] at e
          obtain ⟨rfl, rfl, _⟩ := e
          exact h
        have hN : N = 1 ∨ N = 2 ∨ N = 3 ∨ N = 4 := by simp only at hmo; omega
        have hY64 : Y.size ≤ 100 := by
          have : roomN N ≤ 64 := by unfold roomN; split <;> omega
          have := hmo.2.2.2
          simp only at this
          omega
        have e : fitB of_ (N, X, Y) = fitV N (foundV of_ X) Y := rfl
        rw [e] at HF HT
        clear e hmo HC1 kr
        go_wp2_with fail
        go_loopw [6, 7, 8] (fun vv hh s wi => ∃ (j : Nat) (V : ByteArray) (h : Bool), j ≤ O ∧ vv = .string V ∧ hh = .bool h ∧ s = .int .i64 (j : Int) ∧ Fd of_ X j V h ∧ Kept w wi) (fun _ _ s _ => O - (intOf s).toNat)
        case atStart => exact ⟨0, _, _, by omega, rfl, rfl, rfl, .inl ⟨rfl, rfl, fun i _ h => absurd h (by omega)⟩, HK.out⟩
        case round =>
          obtain ⟨j, V, h, hj, rfl, rfl, rfl, hfd, ki⟩ := hrel
          have HFd := hid hfd
          have HKi := hid ki
          obtain ⟨x1, y1, z1⟩ := HC2.out wr ki
          clear hfd
          by_cases hjt : j < O
          · have hjl : j < of_.length := by have := HO.out; omega
            obtain ⟨b2, o2, rfl, p1, q1⟩ := (HOf.out.stay ki).cell HO.out j hjt
            have HFn := hid (fun hx => HFd.out.no hjl hx)
            have HFh := hid (fun (e : h = false) hx => Fd.hit (by rw [e] at HFd; exact HFd.out) hjl hx)
            have HFs := hid (fun (e : h = true) => Fd.same (by rw [e] at HFd; exact HFd.out))
            clear ki
            generalize of_[j]'hjl = y at p1 q1 HFn HFh
            obtain ⟨P, Q⟩ := y
            simp only at p1 q1 HFn HFh
            have hE := str_dec P X
            by_cases hx : P = X
            · rw [decide_eq_true hx] at hE
              cases h with
              | false =>
                have HF3 := hid (HFh.out rfl hx)
                clear hx HFn HFh HFs
                go_wp2_with fail
                go_quiet (fail)
                go_wp2_with fail
                go_roundw
                case rel => exact ⟨j + 1, _, _, by omega, rfl, rfl, by go_num, HF3.out, kept_drewN HKi.out nq⟩
                case measure => simp [intOf]; omega
              | true =>
                have HF3 := hid (HFs.out rfl)
                clear hx HFn HFh HFs
                go_wp2_with fail
                go_quiet (fail)
                go_wp2_with fail
                go_roundw
                case rel => exact ⟨j + 1, _, _, by omega, rfl, rfl, by go_num, HF3.out, kept_drewN HKi.out nq⟩
                case measure => simp [intOf]; omega
            · rw [decide_eq_false hx] at hE
              have HF3 := hid (HFn.out hx)
              clear hx HFn HFh HFs
              go_wp2_with fail
              go_quiet (fail)
              go_wp2_with fail
              go_roundw
              case rel => exact ⟨j + 1, _, _, by omega, rfl, rfl, by go_num, HF3.out, kept_drewN HKi.out nq⟩
              case measure => simp [intOf]; omega
          · have hff := HFd.out.end_ (by have := HO.out; omega)
            rw [hff] at HF HT
            have hjt' : ¬ ((j : Int) < (O : Int)) := by omega
            clear hff ki
            have hE := str_dec V Y
            rcases hN with rfl | rfl | rfl | rfl
            · by_cases hx : V = Y
              · rw [decide_eq_true hx] at hE
                have HT2 := hid (HT.out (by show decide (V = Y) = true; rw [decide_eq_true hx]))
                clear hx HF HT
                go_wp2_with fail
                go_roundw
                case rel => exact ⟨k + 1, by omega, by go_num, HT2.out, HKi.out⟩
                case measure => simp [intOf]; omega
              · rw [decide_eq_false hx] at hE
                have hmk := hid (HF.out (by show decide (V = Y) = false; rw [decide_eq_false hx]))
                clear hx HF HT
                go_wp2_with fail
                go_ret
                exact ⟨by rw [hmk.out]; rfl, HKi.out⟩
            · by_cases hx : V = Y
              · rw [decide_eq_true hx] at hE
                have hmk := hid (HF.out (by show (!decide (V = Y)) = false; rw [decide_eq_true hx]; rfl))
                clear hx HF HT
                go_wp2_with fail
                go_ret
                exact ⟨by rw [hmk.out]; rfl, HKi.out⟩
              · rw [decide_eq_false hx] at hE
                have HT2 := hid (HT.out (by show (!decide (V = Y)) = true; rw [decide_eq_false hx]; rfl))
                clear hx HF HT
                go_wp2_with fail
                go_roundw
                case rel => exact ⟨k + 1, by omega, by go_num, HT2.out, HKi.out⟩
                case measure => simp [intOf]; omega
            · have hP : fitV 3 (V, h) Y = (decide (Y.size ≤ V.size) && decide (V.extract 0 Y.size = Y)) := prefix_eq V Y
              rw [hP] at HF HT
              clear hP hE
              have hE := str_dec (V.extract 0 Y.size) Y
              by_cases hz : Y.size ≤ V.size
              · have hz' : decide ((Y.size : Int) ≤ (V.size : Int)) = true := by simp; omega
                rw [decide_eq_true hz] at HF HT
                by_cases hx : V.extract 0 Y.size = Y
                · rw [decide_eq_true hx] at hE HT
                  have HT2 := hid (HT.out rfl)
                  clear hx HF HT
                  go_wp2_with fail
                  go_quiet (fail)
                  go_wp2_with fail
                  go_roundw
                  case rel => exact ⟨k + 1, by omega, by go_num, HT2.out, kept_drewN HKi.out nq⟩
                  case measure => simp [intOf]; omega
                · rw [decide_eq_false hx] at hE HF
                  have hmk := hid (HF.out rfl)
                  clear hx HF HT
                  go_wp2_with fail
                  go_quiet (fail)
                  go_wp2_with fail
                  go_ret
                  exact ⟨by rw [hmk.out]; rfl, kept_drewN HKi.out nq⟩
              · have hz' : decide ((Y.size : Int) ≤ (V.size : Int)) = false := by simp; omega
                rw [decide_eq_false hz] at HF
                have hmk := hid (HF.out rfl)
                have HZ := hid hz
                clear HF HT hE hz hz'
                go_wp2_with fail
                refine wp_region_quiet_lit (by kernel_rfl) (by kernel_rfl) ?_
                iterate 10 (quiet_step (fail))
                iterate 14 (refine wpQuiet_step (fun K hK => ?_); go_simp; rw [if_neg HZ.out]; refine hK _ ?_; clear hK K)
                have hz2 : decide (Y.size ≤ V.size) = false := decide_eq_false HZ.out
                (try rw [hz2])
                quiet_step (fail)
                quiet_step (fail)
                refine wpQuiet_nil ?_
                intro _ hw'
                obtain ⟨nq, hw''⟩ := hw'
                subst hw''
                go_wp2_with fail
                go_ret
                exact ⟨by rw [hmk.out]; rfl, kept_drewN HKi.out nq⟩
            · cases h with
              | false =>
                have hmk := hid (HF.out rfl)
                clear HF HT
                go_wp2_with fail
                go_ret
                exact ⟨by rw [hmk.out]; rfl, HKi.out⟩
              | true =>
                have HT2 := hid (HT.out rfl)
                clear HF HT
                go_wp2_with fail
                go_roundw
                case rel => exact ⟨k + 1, by omega, by go_num, HT2.out, HKi.out⟩
                case measure => simp [intOf]; omega
      · have e : k = L := by omega
        subst e
        have hmk := hid (HF2.out (fun i hi => HA.out i hi (by have := HL.out; omega)))
        go_wp2
        go_ret
        exact ⟨by rw [hmk.out]; rfl, kr⟩
  · have hmk := hid (fits_no (l := l) (of_ := of_) hck)
    generalize checkM l = C at HC hck
    have hC : (C != 0) = true := by simpa using hck
    go_enter Try.func14, Try.ntmps14
    go_wp2_with fail
    refine HC.out.mono ?_
    rintro e w1 ⟨rfl, hq⟩
    replace hq := hq.symm
    subst hq
    go_wp2
    go_ret
    exact ⟨by rw [hmk.out]; rfl, Only.refl _ _⟩
end Go.Proofs.Ytbdcaikcdhfdoaa.N
