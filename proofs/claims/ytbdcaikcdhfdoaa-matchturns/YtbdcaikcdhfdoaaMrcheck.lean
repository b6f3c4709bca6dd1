/-
  The document's own Check.
-/
import Derived.Test.YtbdcaikcdhfdoaaMcheck
import Derived.Test.YtbdcaikcdhfdoaaNref
namespace Go.Proofs.Ytbdcaikcdhfdoaa.N
open Go.RowKit Go.Proofs.Lys
set_option linter.unusedVariables false
set_option linter.unusedSimpArgs false

theorem matOk_eq (N : Int) (X Y : ByteArray) : matOk (N, X, Y) = (kindOk N && nameOk X && decide (Y.size ≤ roomN N)) := rfl
theorem matOk_no {N : Int} {X Y : ByteArray} (h : N < 1 ∨ 4 < N ∨ nameOk X = false ∨ 64 < Y.size ∨ (N = 4 ∧ Y.size ≠ 0)) : matOk (N, X, Y) = false := by
  cases e : matOk (N, X, Y) with
  | false => rfl
  | true =>
    obtain ⟨h1, h4, hn, hv⟩ := matOk_parts e
    simp only at h1 h4 hn hv
    have hr : roomN N ≤ 64 := by unfold roomN; split <;> omega
    rcases h with h | h | h | h | ⟨h, h'⟩
    · omega
    · omega
    · rw [h] at hn; cases hn
    · omega
    · unfold roomN at hv
      rw [if_pos h] at hv
      omega
theorem matOk_yes {N : Int} {X Y : ByteArray} (h1 : ¬ N < 1) (h4 : ¬ 4 < N) (hn : nameOk X = true) (h64 : ¬ 64 < Y.size) (hz : N = 4 → Y.size = 0) : matOk (N, X, Y) = true := by
  rw [matOk_eq, hn]
  have hk : kindOk N = true := by
    simp only [kindOk, Bool.and_eq_true, decide_eq_true_eq]
    omega
  have hv : Y.size ≤ roomN N := by
    unfold roomN
    split
    · rename_i e
      have := hz e
      omega
    · omega
  rw [hk, decide_eq_true hv]
  rfl

set_option maxRecDepth 100000 in
set_option maxHeartbeats 4000000 in
theorem rcheck_any (w : World) (v : Value) (l : Mats) (hs : MatSrc w v l) (hl : l.length ≤ 100000) (hB : SmallM l) :
    Calls Try.prog 12 #[v] w fun e w' => e = .returned (.int .i64 (checkM l)) ∧ w' = w := by
  obtain ⟨a1, c1, rfl⟩ := hs.len
  obtain ⟨L, hL⟩ : ∃ L, l.length = L := ⟨_, rfl⟩
  rw [hL] at hs hl ⊢
  have HS := hid hs
  have HL := hid hL
  have HB := hid hB
  clear hs hL hB
  by_cases h8 : L ≤ 8
  · have H1 : Hid (∀ k (hk : k < l.length), matOk l[k] = false → checkM l = 20) := fun k hk h => check_bad hk (by have := HL.out; omega) h
    have H2 : Hid ((∀ k (hk : k < l.length), matOk l[k] = true) → checkM l = 0) := fun h => check_good (by have := HL.out; omega) h
    generalize checkM l = C at H1 H2 ⊢
    have h8' : ¬ ((8 : Int) < (L : Int)) := by omega
    go_enter Try.func12, Try.ntmps12
    go_wp2
    go_loop [3] (fun s => ∃ (k : Nat), k ≤ L ∧ s = .int .i64 (k : Int) ∧ (∀ i (hi : i < l.length), i < k → matOk l[i] = true)) (fun s => L - (intOf s).toNat)
    case atStart => exact ⟨0, by omega, rfl, fun i _ h => absurd h (by omega)⟩
    case round =>
      obtain ⟨k, hk, rfl, hok⟩ := hrel
      have HO := hid hok
      clear hok
      by_cases hlt : k < L
      · have hkl : k < l.length := by have := HL.out; omega
        obtain ⟨b1, o1, rfl, x1, y1, z1⟩ := HS.out.cell HL.out k hlt
        have hbd := HB.out _ (List.getElem_mem hkl)
        have HF := hid (fun h => H1.out k hkl h)
        have HT : Hid (matOk (l[k]'hkl) = true → ∀ i (hi : i < l.length), i < k + 1 → matOk l[i] = true) := fun h i hi hik => by
          by_cases e : i < k
          · exact HO.out i hi e
          · have : i = k := by omega
            subst this
            exact h
        generalize l[k]'hkl = x at x1 y1 z1 HF HT hbd
        obtain ⟨N, X, Y⟩ := x
        simp only at x1 y1 z1 hbd
        have Hn := hid (fun W => rname_any W X (by omega))
        have HF2 : Hid ((N < 1 ∨ 4 < N ∨ nameOk X = false ∨ 64 < Y.size ∨ (N = 4 ∧ Y.size ≠ 0)) → C = 20) := fun h => HF.out (matOk_no h)
        have HT2 : Hid (¬ N < 1 → ¬ 4 < N → nameOk X = true → ¬ 64 < Y.size → (N = 4 → Y.size = 0) → ∀ i (hi : i < l.length), i < k + 1 → matOk l[i] = true) := fun a b c d e => HT.out (matOk_yes a b c d e)
        clear HF HT
        generalize nameOk X = B at Hn HF2 HT2
        go_wp2_with fail
        refine (Hn.out _).mono ?_
        rintro e1 w1 ⟨rfl, hq⟩
        replace hq := hq.symm
        subst hq
        clear Hn
        by_cases a1 : N < 1
        · have hmk := hid (HF2.out (.inl a1))
          go_wp2
          go_ret
          exact ⟨by rw [hmk.out]; rfl, rfl⟩
        by_cases a2 : 4 < N
        · have hmk := hid (HF2.out (.inr (.inl a2)))
          go_wp2
          go_ret
          exact ⟨by rw [hmk.out]; rfl, rfl⟩
        cases B with
        | false =>
          have hmk := hid (HF2.out (.inr (.inr (.inl rfl))))
          go_wp2
          go_ret
          exact ⟨by rw [hmk.out]; rfl, rfl⟩
        | true =>
          by_cases a3 : 64 < Y.size
          · have hmk := hid (HF2.out (.inr (.inr (.inr (.inl a3)))))
            have a3' : (64 : Int) < (Y.size : Int) := by omega
            go_wp2
            go_ret
            exact ⟨by rw [hmk.out]; rfl, rfl⟩
          have a3' : ¬ ((64 : Int) < (Y.size : Int)) := by omega
          by_cases a4 : N = 4
          · by_cases a5 : Y.size = 0
            · have HT3 := hid (HT2.out (by omega) (by omega) rfl (by omega) (fun _ => a5))
              have eY : Y = ⟨#[]⟩ := bytes_inj (List.length_eq_zero_iff.1 (by rw [← Lib.size_eq]; exact a5))
              subst eY a4
              clear a5 HF2 HT2
              go_wp2
              exact ⟨⟨k + 1, by omega, by go_num, HT3.out⟩, by simp [intOf]; omega⟩
            · have hmk := hid (HF2.out (.inr (.inr (.inr (.inr ⟨a4, a5⟩)))))
              have hne := not_empty a5
              subst a4
              clear a5 HF2 HT2
              go_wp2
              go_ret
              exact ⟨by rw [hmk.out]; rfl, rfl⟩
          · have HT3 := hid (HT2.out (by omega) (by omega) rfl (by omega) (fun e => absurd e a4))
            have a4' : (N == 4) = false := by simpa using a4
            clear a4 HF2 HT2
            go_wp2
            exact ⟨⟨k + 1, by omega, by go_num, HT3.out⟩, by simp [intOf]; omega⟩
      · have e : k = L := by omega
        subst e
        have hmk := hid (H2.out (fun i hi => HO.out i hi (by have := HL.out; omega)))
        go_wp2
        go_ret
        exact ⟨by rw [hmk.out]; rfl, rfl⟩
  · have hmk : Hid (checkM l = 2) := by refine hid ?_; unfold checkM; rw [if_pos (by have := HL.out; omega)]
    have h8' : (8 : Int) < (L : Int) := by omega
    go_enter Try.func12, Try.ntmps12
    go_wp2
    go_ret
    exact ⟨by rw [hmk.out]; rfl, rfl⟩
end Go.Proofs.Ytbdcaikcdhfdoaa.N
