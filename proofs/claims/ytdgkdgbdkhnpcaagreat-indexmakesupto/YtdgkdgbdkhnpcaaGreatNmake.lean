/-
  Make: the labels by rising name, if they can be a series' name.
-/
import Derived.Test.YtdgkdgbdkhnpcaaGreatNsort
namespace Go.Proofs.YtdgkdgbdkhnpcaaGreat.N
open Go.RowKit Go.Proofs.Lys
set_option linter.unusedVariables false
set_option linter.unusedSimpArgs false

/-- Labels of texts that are not too long. -/
def Small (l : Labs) : Prop := ∀ x ∈ l, x.1.size ≤ 100000 ∧ x.2.size ≤ 100000
/-- What Make answers. -/
def MakeA (w : World) (B : Nat) (u : Value) (n : Int) : Option Labs → Prop
  | some m => n = 0 ∧ LabAt w B u m
  | none => n = 20 ∧ u = .slice none 0 0
theorem makeL_bad {l : Labs} {k : Nat} (hk : k < l.length) (h : labOk l[k] = false) : makeL l = none := by
  unfold makeL
  split
  · rfl
  · rw [if_neg]
    intro hall
    have := List.all_eq_true.1 hall _ (List.getElem_mem hk)
    rw [h] at this
    cases this
theorem makeL_good {l : Labs} (h0 : 0 < l.length) (h16 : l.length ≤ 16) (h : ∀ k (hk : k < l.length), labOk l[k] = true) : makeL l = insAll [] l := by
  unfold makeL
  rw [if_neg (by omega), if_pos]
  refine List.all_eq_true.2 (fun x hx => ?_)
  obtain ⟨k, hk, rfl⟩ := List.getElem_of_mem hx
  exact h k hk

set_option maxRecDepth 100000 in
set_option maxHeartbeats 1600000 in
theorem make_any (w : World) (v : Value) (l : Labs) (hs : LabSrc w v l) (hl : l.length ≤ 100000) (hB : Small l) :
    Calls Tryz.prog 49 #[v] w fun e w' => (∃ u n, e = .returned (.tuple #[u, .int .i64 n]) ∧ MakeA w' w.heap.size u n (makeL l)) ∧ Kept w w' := by
  obtain ⟨a1, c1, rfl⟩ := hs.len
  obtain ⟨L, hL⟩ : ∃ L, l.length = L := ⟨_, rfl⟩
  rw [hL] at hs hl ⊢
  have HS := hid hs
  have HL := hid hL
  have HB := hid hB
  have H0 : Hid (¬ (0 < L ∧ L ≤ 16) → makeL l = none) := fun h => by
    unfold makeL
    rw [if_pos (by omega)]
  have H1 : Hid (∀ k (hk : k < l.length), labOk l[k] = false → makeL l = none) := fun k hk h => makeL_bad hk h
  have H2 : Hid (0 < L → L ≤ 16 → (∀ k (hk : k < l.length), labOk l[k] = true) → makeL l = insAll [] l) := fun h1 h2 h3 => makeL_good (by omega) (by omega) h3
  clear hs hL hB
  by_cases hr : 0 < L ∧ L ≤ 16
  · obtain ⟨h0, h16⟩ := hr
    go_enter Tryz.func49, Tryz.ntmps49
    go_wp2
    all_goals try (exfalso; simp_all; omega)
    rename_i hq1 hq2 _ _
    clear hq1 hq2
    go_loopw [18] (fun s wr => ∃ (k : Nat), k ≤ L ∧ s = .int .i64 (k : Int) ∧ (∀ i (hi : i < l.length), i < k → labOk l[i] = true) ∧ Kept w wr) (fun s _ => L - (intOf s).toNat)
    case atStart => exact ⟨0, by omega, rfl, fun i _ h => absurd h (by omega), Only.refl _ _⟩
    case round =>
      obtain ⟨k, hk, rfl, hok, kr⟩ := hrel
      have HO := hid hok
      have HK := hid kr
      by_cases hlt : k < L
      · have hkl : k < l.length := by have := HL.out; omega
        obtain ⟨b1, o1, rfl, x1, y1⟩ := (HS.out.stay kr).cell HL.out k hlt
        have hbd := HB.out _ (List.getElem_mem hkl)
        have HF := hid (fun h => H1.out k hkl h)
        have HT : Hid (labOk (l[k]'hkl) = true → ∀ i (hi : i < l.length), i < k + 1 → labOk l[i] = true) := fun h i hi hik => by
          by_cases e : i < k
          · exact HO.out i hi e
          · have : i = k := by omega
            subst this
            exact h
        clear hok kr
        generalize l[k]'hkl = x at x1 y1 HF HT hbd
        obtain ⟨X, Y⟩ := x
        simp only at x1 y1 hbd
        have Hn := hid (fun W => isName_any W X (by omega))
        have Hv := hid (fun W => isValue_any W Y (by omega))
        have e : labOk (X, Y) = (nameOk X && valOk Y) := rfl
        rw [e] at HF HT
        go_wp2_with (go_at_call 76; refine (Hn.out _).mono ?_)
        rintro e1 w1 ⟨rfl, k1⟩
        have HB1 := Only.blk k1 (Blk.new wr [.string X, .string Y] 27) (fun f => f)
        have b0 := HB1.cell 0 rfl
        have b1' := HB1.cell 1 rfl
        have HK1 := hid ((HK.out.alloc _).trans k1 (fun _ _ f => f))
        clear k1
        cases hn : nameOk X with
        | false =>
          rw [hn] at HF
          have hmk := hid (HF.out rfl)
          go_wp2
          go_ret2
          refine ⟨⟨_, _, rfl, ?_⟩, HK1.out⟩
          rw [hmk.out]
          exact ⟨rfl, rfl⟩
        | true =>
          rw [hn] at HF HT
          go_wp2_with (go_at_call 77; refine (Hv.out _).mono ?_)
          rintro e2 w2 ⟨rfl, hw⟩
          replace hw := hw.symm
          subst hw
          cases hv : valOk Y with
          | false =>
            rw [hv] at HF
            have hmk := hid (HF.out rfl)
            go_wp2
            go_ret2
            refine ⟨⟨_, _, rfl, ?_⟩, HK1.out⟩
            rw [hmk.out]
            exact ⟨rfl, rfl⟩
          | true =>
            rw [hv] at HT
            have HT2 := hid (HT.out rfl)
            go_wp2
            refine ⟨⟨k + 1, by omega, by go_num, HT2.out, HK1.out⟩, ?_⟩
            simp [intOf]
            omega
      · have e : k = L := by omega
        subst e
        have hmk := hid (H2.out h0 h16 (fun i hi => HO.out i hi (by have := HL.out; omega)))
        have HC := hid (sorted_any wr (.slice a1 k c1) l (HS.out.stay kr) (by have := HL.out; omega) (by have := HL.out; omega))
        go_wp2_with (go_at_call 78; refine HC.out.mono ?_)
        rintro e1 w1 ⟨⟨u, b, rfl, hA⟩, k1⟩
        have HA := hid hA
        clear hA
        cases hi : insAll [] l with
        | none =>
          have hA := HA.out
          rw [hi] at hA
          obtain ⟨rfl, rfl⟩ := hA
          go_wp2
          go_ret2
          refine ⟨⟨_, _, rfl, ?_⟩, HK.out.trans k1 (fun _ _ f => f)⟩
          rw [hmk.out, hi]
          exact ⟨rfl, rfl⟩
        | some m =>
          have hA := HA.out
          rw [hi] at hA
          obtain ⟨rfl, hat⟩ := hA
          have HM := hid hat
          clear hat
          go_wp2
          go_ret2
          refine ⟨⟨_, _, rfl, ?_⟩, HK.out.trans k1 (fun _ _ f => f)⟩
          rw [hmk.out, hi]
          exact ⟨rfl, ownN_base HM.out HK.out.size⟩
  · have hmk := hid (H0.out hr)
    go_enter Tryz.func49, Tryz.ntmps49
    go_wp2
    all_goals try (exfalso; simp_all; omega)
    all_goals go_ret2
    all_goals refine ⟨⟨_, _, rfl, ?_⟩, Only.refl _ _⟩
    all_goals rw [hmk.out]
    all_goals exact ⟨rfl, rfl⟩
end Go.Proofs.YtdgkdgbdkhnpcaaGreat.N
