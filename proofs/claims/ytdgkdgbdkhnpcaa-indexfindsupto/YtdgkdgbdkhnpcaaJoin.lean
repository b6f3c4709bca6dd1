/-
  Mfind, Mfits, Mrcheck, Mrfits, Mbig, Xfind, Xfind2, Xopen, Xlaw, Xalive, Lfinds15.
-/
import Derived.Test.YtdgkdgbdkhnpcaaMcheck
import Derived.Test.YtdgkdgbdkhnpcaaNsort
import Derived.Test.YtdgkdgbdkhnpcaaShelf
import Derived.Test.YtdgkdgbdkhnpcaaWlast
import Derived.Test.YtdgkdgbdkhnpcaaNref
import Derived.Test.YtdgkdgbdkhnpcaaNwrite
import Derived.Test.YtdgkdgbdkhnpcaaNopen
import Derived.BigQuiet
import Derived.Deep.QuietTactic
import Derived.Test.YtdgkdgbdkhnpcaaXfit
import Derived.Test.YtdgkdgbdkhnpcaaXhav
import Derived.Test.YtdgkdgbdkhnpcaaOpick
import Derived.Deep.WholeRow
import Derived.Test.YtdgkdgbdkhnpcaaXlook
import Derived.Test.YtdgkdgbdkhnpcaaXmake
import Derived.Test.YtdgkdgbdkhnpcaaXrchk

/-
  The label of a name; what fits, kind by kind.
-/
namespace Go.Proofs.Ytdgkdgbdkhnpcaa.N
open Go.RowKit Go.Proofs.Lys
set_option linter.unusedVariables false
set_option linter.unusedSimpArgs false

theorem str_dec (X Y : ByteArray) : (X.toList == Y.toList) = decide (X = Y) := by
  rw [ByteArray.toList_eq, ByteArray.toList_eq]
  by_cases h : X = Y
  · subst h; simp
  · rw [decide_eq_false h]
    simpa using fun e => h (bytes_inj e)
theorem found_hit {l : Labs} {n : ByteArray} {k : Nat} (hk : k < l.length) (h : l[k].1 = n) (hno : ∀ i (hi : i < l.length), i < k → l[i].1 ≠ n) : foundV l n = (l[k].2, true) := by
  induction l generalizing k with
  | nil => simp at hk
  | cons x r ih =>
    cases k with
    | zero =>
      have h0 : x.1 = n := h
      unfold foundV
      rw [List.find?_cons_of_pos (by simp [h0])]
      rfl
    | succ k =>
      have h0 : x.1 ≠ n := hno 0 (by simp) (by omega)
      have := ih (k := k) (by simpa using hk) (by simpa using h) (fun i hi hik => hno (i + 1) (by simp; omega) (by omega))
      unfold foundV at this ⊢
      rw [List.find?_cons_of_neg (by simp [h0])]
      simpa using this
theorem found_none {l : Labs} {n : ByteArray} (hno : ∀ i (hi : i < l.length), l[i].1 ≠ n) : foundV l n = (⟨#[]⟩, false) := by
  unfold foundV
  rw [List.find?_eq_none.2 (fun x hx => by
    obtain ⟨i, hi, rfl⟩ := List.getElem_of_mem hx
    simpa using hno i hi)]

theorem Try.sizeFound : (Try.prog.info? 97).map (·.size) = some 2 := by kernel_rfl
/-- What find answers. -/
abbrev fndV (f : ByteArray × Bool) : Value := .agg #[.string f.1, .bool f.2]
/-- The function of a kind. -/
def fnK (n : Int) : Nat := if n = 1 then 58 else if n = 2 then 59 else if n = 3 then 60 else 61
set_option maxRecDepth 100000 in
theorem fit_any (w : World) (n : Int) (hn : 1 ≤ n ∧ n ≤ 4) (f : ByteArray × Bool) (Y : ByteArray) : Calls Try.prog (fnK n) #[fndV f, .string Y] w fun e w' => e = .returned (.bool (fitV n f Y)) ∧ Kept w w' := by
  obtain ⟨X, b⟩ := f
  have hE := str_dec X Y
  have HP := hid (fun W => Try.strings_HasPrefix X Y W)
  have : n = 1 ∨ n = 2 ∨ n = 3 ∨ n = 4 := by omega
  rcases this with rfl | rfl | rfl | rfl
  · show Calls Try.prog 58 _ _ _
    go_enter Try.func58, Try.ntmps58
    go_wp2
    go_ret
    exact ⟨rfl, (Only.refl _ _).alloc _⟩
  · show Calls Try.prog 59 _ _ _
    go_enter Try.func59, Try.ntmps59
    go_wp2
    go_ret
    exact ⟨rfl, (Only.refl _ _).alloc _⟩
  · show Calls Try.prog 60 _ _ _
    clear hE
    go_enter Try.func60, Try.ntmps60
    go_wp2_with fail
    refine (HP.out _).mono ?_
    rintro e w1 ⟨rfl, hq⟩
    replace hq := hq.symm
    subst hq
    go_wp2
    go_ret
    exact ⟨rfl, (Only.refl _ _).alloc _⟩
  · show Calls Try.prog 61 _ _ _
    clear hE
    go_enter Try.func61, Try.ntmps61
    go_wp2
    go_ret
    exact ⟨rfl, (Only.refl _ _).alloc _⟩
end Go.Proofs.Ytdgkdgbdkhnpcaa.N

/-
  Fits: does every matcher fit?
-/
namespace Go.Proofs.Ytdgkdgbdkhnpcaa.N
open Go.RowKit Go.Proofs.Lys
set_option linter.unusedVariables false
set_option linter.unusedSimpArgs false

theorem fits_bad {l : Mats} {of_ : Labs} {k : Nat} (hk : k < l.length) (h : fitB of_ l[k] = false) : fitsB l of_ = false := by
  unfold fitsB
  have : l.all (fitB of_) = false := by
    cases e : l.all (fitB of_) with
    | false => rfl
    | true =>
      have := List.all_eq_true.1 e _ (List.getElem_mem hk)
      rw [h] at this
      cases this
  rw [this]
  simp
theorem fits_good {l : Mats} {of_ : Labs} (hc : checkM l = 0) (h : ∀ k (hk : k < l.length), fitB of_ l[k] = true) : fitsB l of_ = true := by
  unfold fitsB
  rw [decide_eq_true hc, List.all_eq_true.2 (fun m hm => ?_)]
  · rfl
  · obtain ⟨k, hk, rfl⟩ := List.getElem_of_mem hm
    exact h k hk
theorem fits_no {l : Mats} {of_ : Labs} (hc : checkM l ≠ 0) : fitsB l of_ = false := by
  unfold fitsB
  rw [decide_eq_false hc]
  rfl

end Go.Proofs.Ytdgkdgbdkhnpcaa.N

/-
  The document's own Check.
-/
namespace Go.Proofs.Ytdgkdgbdkhnpcaa.N
open Go.RowKit Go.Proofs.Lys
set_option linter.unusedVariables false
set_option linter.unusedSimpArgs false

theorem matOk_eq (N : Int) (X Y : ByteArray) : matOk (N, X, Y) = (kindOk N && nameOk X && decide (Y.size ≤ roomN N)) := rfl
theorem matOk_no {N : Int} {X Y : ByteArray} (h : N < 1 ∨ 4 < N ∨ nameOk X = false ∨ 64 < Y.size ∨ (N = 4 ∧ Y.size ≠ 0)) : matOk (N, X, Y) = false := by
  cases e : matOk (N, X, Y) with
  | false => rfl
  | true =>
    obtain ⟨h1, h4, hn, hv⟩ := matOk_parts e
    simp only at h1 h4 hn hv
    have hr : roomN N ≤ 64 := by unfold roomN; split <;> omega
    rcases h with h | h | h | h | ⟨h, h'⟩
    · omega
    · omega
    · rw [h] at hn; cases hn
    · omega
    · unfold roomN at hv
      rw [if_pos h] at hv
      omega
theorem matOk_yes {N : Int} {X Y : ByteArray} (h1 : ¬ N < 1) (h4 : ¬ 4 < N) (hn : nameOk X = true) (h64 : ¬ 64 < Y.size) (hz : N = 4 → Y.size = 0) : matOk (N, X, Y) = true := by
  rw [matOk_eq, hn]
  have hk : kindOk N = true := by
    simp only [kindOk, Bool.and_eq_true, decide_eq_true_eq]
    omega
  have hv : Y.size ≤ roomN N := by
    unfold roomN
    split
    · rename_i e
      have := hz e
      omega
    · omega
  rw [hk, decide_eq_true hv]
  rfl

set_option maxRecDepth 100000 in
set_option maxHeartbeats 4000000 in
theorem rcheck_any (w : World) (v : Value) (l : Mats) (hs : MatSrc w v l) (hl : l.length ≤ 100000) (hB : SmallM l) :
    Calls Try.prog 11 #[v] w fun e w' => e = .returned (.int .i64 (checkM l)) ∧ w' = w := by
  obtain ⟨a1, c1, rfl⟩ := hs.len
  obtain ⟨L, hL⟩ : ∃ L, l.length = L := ⟨_, rfl⟩
  rw [hL] at hs hl ⊢
  have HS := hid hs
  have HL := hid hL
  have HB := hid hB
  clear hs hL hB
  by_cases h8 : L ≤ 8
  · have H1 : Hid (∀ k (hk : k < l.length), matOk l[k] = false → checkM l = 20) := fun k hk h => check_bad hk (by have := HL.out; omega) h
    have H2 : Hid ((∀ k (hk : k < l.length), matOk l[k] = true) → checkM l = 0) := fun h => check_good (by have := HL.out; omega) h
    generalize checkM l = C at H1 H2 ⊢
    have h8' : ¬ ((8 : Int) < (L : Int)) := by omega
    go_enter Try.func11, Try.ntmps11
    go_wp2
    go_loop [3] (fun s => ∃ (k : Nat), k ≤ L ∧ s = .int .i64 (k : Int) ∧ (∀ i (hi : i < l.length), i < k → matOk l[i] = true)) (fun s => L - (intOf s).toNat)
    case atStart => exact ⟨0, by omega, rfl, fun i _ h => absurd h (by omega)⟩
    case round =>
      obtain ⟨k, hk, rfl, hok⟩ := hrel
      have HO := hid hok
      clear hok
      by_cases hlt : k < L
      · have hkl : k < l.length := by have := HL.out; omega
        obtain ⟨b1, o1, rfl, x1, y1, z1⟩ := HS.out.cell HL.out k hlt
        have hbd := HB.out _ (List.getElem_mem hkl)
        have HF := hid (fun h => H1.out k hkl h)
        have HT : Hid (matOk (l[k]'hkl) = true → ∀ i (hi : i < l.length), i < k + 1 → matOk l[i] = true) := fun h i hi hik => by
          by_cases e : i < k
          · exact HO.out i hi e
          · have : i = k := by omega
            subst this
            exact h
        generalize l[k]'hkl = x at x1 y1 z1 HF HT hbd
        obtain ⟨N, X, Y⟩ := x
        simp only at x1 y1 z1 hbd
        have Hn := hid (fun W => rname_any W X (by omega))
        have HF2 : Hid ((N < 1 ∨ 4 < N ∨ nameOk X = false ∨ 64 < Y.size ∨ (N = 4 ∧ Y.size ≠ 0)) → C = 20) := fun h => HF.out (matOk_no h)
        have HT2 : Hid (¬ N < 1 → ¬ 4 < N → nameOk X = true → ¬ 64 < Y.size → (N = 4 → Y.size = 0) → ∀ i (hi : i < l.length), i < k + 1 → matOk l[i] = true) := fun a b c d e => HT.out (matOk_yes a b c d e)
        clear HF HT
        generalize nameOk X = B at Hn HF2 HT2
        go_wp2_with fail
        refine (Hn.out _).mono ?_
        rintro e1 w1 ⟨rfl, hq⟩
        replace hq := hq.symm
        subst hq
        clear Hn
        by_cases a1 : N < 1
        · have hmk := hid (HF2.out (.inl a1))
          go_wp2
          go_ret
          exact ⟨by rw [hmk.out]; rfl, rfl⟩
        by_cases a2 : 4 < N
        · have hmk := hid (HF2.out (.inr (.inl a2)))
          go_wp2
          go_ret
          exact ⟨by rw [hmk.out]; rfl, rfl⟩
        cases B with
        | false =>
          have hmk := hid (HF2.out (.inr (.inr (.inl rfl))))
          go_wp2
          go_ret
          exact ⟨by rw [hmk.out]; rfl, rfl⟩
        | true =>
          by_cases a3 : 64 < Y.size
          · have hmk := hid (HF2.out (.inr (.inr (.inr (.inl a3)))))
            have a3' : (64 : Int) < (Y.size : Int) := by omega
            go_wp2
            go_ret
            exact ⟨by rw [hmk.out]; rfl, rfl⟩
          have a3' : ¬ ((64 : Int) < (Y.size : Int)) := by omega
          by_cases a4 : N = 4
          · by_cases a5 : Y.size = 0
            · have HT3 := hid (HT2.out (by omega) (by omega) rfl (by omega) (fun _ => a5))
              have eY : Y = ⟨#[]⟩ := bytes_inj (List.length_eq_zero_iff.1 (by rw [← Lib.size_eq]; exact a5))
              subst eY a4
              clear a5 HF2 HT2
              go_wp2
              exact ⟨⟨k + 1, by omega, by go_num, HT3.out⟩, by simp [intOf]; omega⟩
            · have hmk := hid (HF2.out (.inr (.inr (.inr (.inr ⟨a4, a5⟩)))))
              have hne := not_empty a5
              subst a4
              clear a5 HF2 HT2
              go_wp2
              go_ret
              exact ⟨by rw [hmk.out]; rfl, rfl⟩
          · have HT3 := hid (HT2.out (by omega) (by omega) rfl (by omega) (fun e => absurd e a4))
            have a4' : (N == 4) = false := by simpa using a4
            clear a4 HF2 HT2
            go_wp2
            exact ⟨⟨k + 1, by omega, by go_num, HT3.out⟩, by simp [intOf]; omega⟩
      · have e : k = L := by omega
        subst e
        have hmk := hid (H2.out (fun i hi => HO.out i hi (by have := HL.out; omega)))
        go_wp2
        go_ret
        exact ⟨by rw [hmk.out]; rfl, rfl⟩
  · have hmk : Hid (checkM l = 2) := by refine hid ?_; unfold checkM; rw [if_pos (by have := HL.out; omega)]
    have h8' : (8 : Int) < (L : Int) := by omega
    go_enter Try.func11, Try.ntmps11
    go_wp2
    go_ret
    exact ⟨by rw [hmk.out]; rfl, rfl⟩
end Go.Proofs.Ytdgkdgbdkhnpcaa.N

/-
  The document's own Fits.
-/
namespace Go.Proofs.Ytdgkdgbdkhnpcaa.N
open Go.RowKit Go.Proofs.Lys
set_option linter.unusedVariables false
set_option linter.unusedSimpArgs false

/-- How far the label of a name is looked for. -/
def Fd (l : Labs) (n : ByteArray) (k : Nat) (V : ByteArray) (h : Bool) : Prop :=
  (h = false ∧ V = ⟨#[]⟩ ∧ ∀ i (hi : i < l.length), i < k → l[i].1 ≠ n) ∨ (h = true ∧ foundV l n = (V, true))
theorem Fd.end_ {l : Labs} {n : ByteArray} {k : Nat} {V : ByteArray} {h : Bool} (f : Fd l n k V h) (hk : l.length ≤ k) : foundV l n = (V, h) := by
  rcases f with ⟨rfl, rfl, hno⟩ | ⟨rfl, hf⟩
  · exact found_none (fun i hi => hno i hi (by omega))
  · exact hf
theorem Fd.same {l : Labs} {n : ByteArray} {k : Nat} {V : ByteArray} (f : Fd l n k V true) : Fd l n (k + 1) V true := by
  rcases f with ⟨h, _⟩ | ⟨_, hf⟩
  · cases h
  · exact .inr ⟨rfl, hf⟩
theorem Fd.no {l : Labs} {n : ByteArray} {k : Nat} {V : ByteArray} {h : Bool} (f : Fd l n k V h) (hk : k < l.length) (hx : l[k].1 ≠ n) : Fd l n (k + 1) V h := by
  rcases f with ⟨rfl, rfl, hno⟩ | ⟨rfl, hf⟩
  · refine .inl ⟨rfl, rfl, fun i hi hik => ?_⟩
    by_cases e : i < k
    · exact hno i hi e
    · have : i = k := by omega
      subst this
      exact hx
  · exact .inr ⟨rfl, hf⟩
theorem Fd.hit {l : Labs} {n : ByteArray} {k : Nat} {V : ByteArray} (f : Fd l n k V false) (hk : k < l.length) (hx : l[k].1 = n) : Fd l n (k + 1) l[k].2 true := by
  rcases f with ⟨_, _, hno⟩ | ⟨h, _⟩
  · exact .inr ⟨rfl, found_hit hk hx hno⟩
  · cases h
theorem prefix_eq (V Y : ByteArray) : Lib.hasPrefix V.data.toList Y.data.toList = (decide (Y.size ≤ V.size) && decide (V.extract 0 Y.size = Y)) := by
  by_cases h : Lib.hasPrefix V.data.toList Y.data.toList = true
  · rw [h]
    obtain ⟨u, hu⟩ := List.isPrefixOf_iff_prefix.1 h
    have h1 : Y.size ≤ V.size := by
      rw [Lib.size_eq, Lib.size_eq, ← hu, List.length_append]
      omega
    have h2 : V.extract 0 Y.size = Y := bytes_inj (by
      rw [sub_bytes, List.drop_zero, Lib.size_eq, ← hu]
      simp)
    rw [decide_eq_true h1, decide_eq_true h2]
    rfl
  · have hf : Lib.hasPrefix V.data.toList Y.data.toList = false := by simpa using h
    rw [hf]
    symm
    by_cases h2 : V.extract 0 Y.size = Y
    · exfalso
      apply h
      have e : (V.extract 0 Y.size).data.toList = Y.data.toList := by rw [h2]
      rw [sub_bytes, List.drop_zero] at e
      refine List.isPrefixOf_iff_prefix.2 ?_
      rw [← e]
      exact List.take_prefix _ _
    · rw [decide_eq_false h2]
      simp

set_option maxRecDepth 100000 in
set_option maxHeartbeats 8000000 in
theorem rfits_any (w : World) (v u : Value) (l : Mats) (of_ : Labs) (hs : MatSrc w v l) (hl : l.length ≤ 100000) (hB : SmallM l) (ho : LabSrc w u of_) (hol : of_.length ≤ 100000) :
    Calls Try.prog 12 #[v, u] w fun e w' => e = .returned (.bool (fitsB l of_)) ∧ Kept w w' := by
  have HC := hid (rcheck_any w v l hs hl hB)
  obtain ⟨a1, c1, rfl⟩ := hs.len
  obtain ⟨a2, c2, rfl⟩ := ho.len
  by_cases hck : checkM l = 0
  · have hck8 := (checkM_zero.1 hck).1
    have HOK := hid (checkM_zero.1 hck).2
    have HF1 : Hid (∀ k (hk : k < l.length), fitB of_ l[k] = false → fitsB l of_ = false) := fun k hk h => fits_bad hk h
    have HF2 : Hid ((∀ k (hk : k < l.length), fitB of_ l[k] = true) → fitsB l of_ = true) := fun h => fits_good hck h
    rw [hck] at HC
    generalize fitsB l of_ = R at HF1 HF2 ⊢
    obtain ⟨L, hL⟩ : ∃ L, l.length = L := ⟨_, rfl⟩
    obtain ⟨O, hO⟩ : ∃ O, of_.length = O := ⟨_, rfl⟩
    have HS := hid hs
    have HL := hid hL
    have HO := hid hO
    have HOf := hid ho
    rw [hL] at HS HC hl hck8 ⊢
    rw [hO] at HOf hol ⊢
    clear hs ho hL hO hck hB
    go_enter Try.func12, Try.ntmps12
    go_wp2_with fail
    refine HC.out.mono ?_
    rintro e w1 ⟨rfl, hq⟩
    replace hq := hq.symm
    subst hq
    clear HC
    go_wp2_with fail
    go_loopw [5] (fun s wr => ∃ (k : Nat), k ≤ L ∧ s = .int .i64 (k : Int) ∧ (∀ i (hi : i < l.length), i < k → fitB of_ l[i] = true) ∧ Kept w wr) (fun s _ => L - (intOf s).toNat)
    case atStart => exact ⟨0, by omega, rfl, fun i _ h => absurd h (by omega), Only.refl _ _⟩
    case round =>
      obtain ⟨k, hk, rfl, hok, kr⟩ := hrel
      have HA := hid hok
      have HK := hid kr
      by_cases hlt : k < L
      · have hkl : k < l.length := by have := HL.out; omega
        have HC1 := hid (fun W (kW : Kept w W) => (HS.out.stay kW).cell HL.out k hlt)
        have hmo := matOk_parts (HOK.out _ (List.getElem_mem hkl))
        have HF := hid (fun h => HF1.out k hkl h)
        have HT : Hid (fitB of_ (l[k]'hkl) = true → ∀ i (hi : i < l.length), i < k + 1 → fitB of_ l[i] = true) := fun h i hi hik => by
          by_cases e : i < k
          · exact HA.out i hi e
          · have : i = k := by omega
            subst this
            exact h
        clear hok
        generalize l[k]'hkl = x at HC1 HF HT hmo
        obtain ⟨N, X, Y⟩ := x
        obtain ⟨b1, o1, ea, _⟩ := HC1.out wr kr
        subst ea
        have HC2 : Hid (∀ W, Kept w W → W.cell? ⟨b1, o1 + k * 3, none⟩ = some (.int .i64 N) ∧ W.cell? ⟨b1, o1 + k * 3 + 1, none⟩ = some (.string X) ∧ W.cell? ⟨b1, o1 + k * 3 + 2, none⟩ = some (.string Y)) := fun W kW => by
          obtain ⟨b, o, e, h⟩ := HC1.out W kW
          simp only [Option.some.injEq, Addr.mk.injEq] at e
          obtain ⟨rfl, rfl, _⟩ := e
          exact h
        have hN : N = 1 ∨ N = 2 ∨ N = 3 ∨ N = 4 := by simp only at hmo; omega
        have hY64 : Y.size ≤ 100 := by
          have : roomN N ≤ 64 := by unfold roomN; split <;> omega
          have := hmo.2.2.2
          simp only at this
          omega
        have e : fitB of_ (N, X, Y) = fitV N (foundV of_ X) Y := rfl
        rw [e] at HF HT
        clear e hmo HC1 kr
        go_wp2_with fail
        go_loopw [6, 7, 8] (fun vv hh s wi => ∃ (j : Nat) (V : ByteArray) (h : Bool), j ≤ O ∧ vv = .string V ∧ hh = .bool h ∧ s = .int .i64 (j : Int) ∧ Fd of_ X j V h ∧ Kept w wi) (fun _ _ s _ => O - (intOf s).toNat)
        case atStart => exact ⟨0, _, _, by omega, rfl, rfl, rfl, .inl ⟨rfl, rfl, fun i _ h => absurd h (by omega)⟩, HK.out⟩
        case round =>
          obtain ⟨j, V, h, hj, rfl, rfl, rfl, hfd, ki⟩ := hrel
          have HFd := hid hfd
          have HKi := hid ki
          obtain ⟨x1, y1, z1⟩ := HC2.out wr ki
          clear hfd
          by_cases hjt : j < O
          · have hjl : j < of_.length := by have := HO.out; omega
            obtain ⟨b2, o2, rfl, p1, q1⟩ := (HOf.out.stay ki).cell HO.out j hjt
            have HFn := hid (fun hx => HFd.out.no hjl hx)
            have HFh := hid (fun (e : h = false) hx => Fd.hit (by rw [e] at HFd; exact HFd.out) hjl hx)
            have HFs := hid (fun (e : h = true) => Fd.same (by rw [e] at HFd; exact HFd.out))
            clear ki
            generalize of_[j]'hjl = y at p1 q1 HFn HFh
            obtain ⟨P, Q⟩ := y
            simp only at p1 q1 HFn HFh
            have hE := str_dec P X
            by_cases hx : P = X
            · rw [decide_eq_true hx] at hE
              cases h with
              | false =>
                have HF3 := hid (HFh.out rfl hx)
                clear hx HFn HFh HFs
                go_wp2_with fail
                go_quiet (fail)
                go_wp2_with fail
                go_roundw
                case rel => exact ⟨j + 1, _, _, by omega, rfl, rfl, by go_num, HF3.out, kept_drewN HKi.out nq⟩
                case measure => simp [intOf]; omega
              | true =>
                have HF3 := hid (HFs.out rfl)
                clear hx HFn HFh HFs
                go_wp2_with fail
                go_quiet (fail)
                go_wp2_with fail
                go_roundw
                case rel => exact ⟨j + 1, _, _, by omega, rfl, rfl, by go_num, HF3.out, kept_drewN HKi.out nq⟩
                case measure => simp [intOf]; omega
            · rw [decide_eq_false hx] at hE
              have HF3 := hid (HFn.out hx)
              clear hx HFn HFh HFs
              go_wp2_with fail
              go_quiet (fail)
              go_wp2_with fail
              go_roundw
              case rel => exact ⟨j + 1, _, _, by omega, rfl, rfl, by go_num, HF3.out, kept_drewN HKi.out nq⟩
              case measure => simp [intOf]; omega
          · have hff := HFd.out.end_ (by have := HO.out; omega)
            rw [hff] at HF HT
            have hjt' : ¬ ((j : Int) < (O : Int)) := by omega
            clear hff ki
            have hE := str_dec V Y
            rcases hN with rfl | rfl | rfl | rfl
            · by_cases hx : V = Y
              · rw [decide_eq_true hx] at hE
                have HT2 := hid (HT.out (by show decide (V = Y) = true; rw [decide_eq_true hx]))
                clear hx HF HT
                go_wp2_with fail
                go_roundw
                case rel => exact ⟨k + 1, by omega, by go_num, HT2.out, HKi.out⟩
                case measure => simp [intOf]; omega
              · rw [decide_eq_false hx] at hE
                have hmk := hid (HF.out (by show decide (V = Y) = false; rw [decide_eq_false hx]))
                clear hx HF HT
                go_wp2_with fail
                go_ret
                exact ⟨by rw [hmk.out]; rfl, HKi.out⟩
            · by_cases hx : V = Y
              · rw [decide_eq_true hx] at hE
                have hmk := hid (HF.out (by show (!decide (V = Y)) = false; rw [decide_eq_true hx]; rfl))
                clear hx HF HT
                go_wp2_with fail
                go_ret
                exact ⟨by rw [hmk.out]; rfl, HKi.out⟩
              · rw [decide_eq_false hx] at hE
                have HT2 := hid (HT.out (by show (!decide (V = Y)) = true; rw [decide_eq_false hx]; rfl))
                clear hx HF HT
                go_wp2_with fail
                go_roundw
                case rel => exact ⟨k + 1, by omega, by go_num, HT2.out, HKi.out⟩
                case measure => simp [intOf]; omega
            · have hP : fitV 3 (V, h) Y = (decide (Y.size ≤ V.size) && decide (V.extract 0 Y.size = Y)) := prefix_eq V Y
              rw [hP] at HF HT
              clear hP hE
              have hE := str_dec (V.extract 0 Y.size) Y
              by_cases hz : Y.size ≤ V.size
              · have hz' : decide ((Y.size : Int) ≤ (V.size : Int)) = true := by simp; omega
                rw [decide_eq_true hz] at HF HT
                by_cases hx : V.extract 0 Y.size = Y
                · rw [decide_eq_true hx] at hE HT
                  have HT2 := hid (HT.out rfl)
                  clear hx HF HT
                  go_wp2_with fail
                  go_quiet (fail)
                  go_wp2_with fail
                  go_roundw
                  case rel => exact ⟨k + 1, by omega, by go_num, HT2.out, kept_drewN HKi.out nq⟩
                  case measure => simp [intOf]; omega
                · rw [decide_eq_false hx] at hE HF
                  have hmk := hid (HF.out rfl)
                  clear hx HF HT
                  go_wp2_with fail
                  go_quiet (fail)
                  go_wp2_with fail
                  go_ret
                  exact ⟨by rw [hmk.out]; rfl, kept_drewN HKi.out nq⟩
              · have hz' : decide ((Y.size : Int) ≤ (V.size : Int)) = false := by simp; omega
                rw [decide_eq_false hz] at HF
                have hmk := hid (HF.out rfl)
                have HZ := hid hz
                clear HF HT hE hz hz'
                go_wp2_with fail
                refine wp_region_quiet_lit (by kernel_rfl) (by kernel_rfl) ?_
                iterate 10 (quiet_step (fail))
                iterate 14 (refine wpQuiet_step (fun K hK => ?_); go_simp; rw [if_neg HZ.out]; refine hK _ ?_; clear hK K)
                have hz2 : decide (Y.size ≤ V.size) = false := decide_eq_false HZ.out
                (try rw [hz2])
                quiet_step (fail)
                quiet_step (fail)
                refine wpQuiet_nil ?_
                intro _ hw'
                obtain ⟨nq, hw''⟩ := hw'
                subst hw''
                go_wp2_with fail
                go_ret
                exact ⟨by rw [hmk.out]; rfl, kept_drewN HKi.out nq⟩
            · cases h with
              | false =>
                have hmk := hid (HF.out rfl)
                clear HF HT
                go_wp2_with fail
                go_ret
                exact ⟨by rw [hmk.out]; rfl, HKi.out⟩
              | true =>
                have HT2 := hid (HT.out rfl)
                clear HF HT
                go_wp2_with fail
                go_roundw
                case rel => exact ⟨k + 1, by omega, by go_num, HT2.out, HKi.out⟩
                case measure => simp [intOf]; omega
      · have e : k = L := by omega
        subst e
        have hmk := hid (HF2.out (fun i hi => HA.out i hi (by have := HL.out; omega)))
        go_wp2
        go_ret
        exact ⟨by rw [hmk.out]; rfl, kr⟩
  · have hmk := hid (fits_no (l := l) (of_ := of_) hck)
    generalize checkM l = C at HC hck
    have hC : (C != 0) = true := by simpa using hck
    go_enter Try.func12, Try.ntmps12
    go_wp2_with fail
    refine HC.out.mono ?_
    rintro e w1 ⟨rfl, hq⟩
    replace hq := hq.symm
    subst hq
    go_wp2
    go_ret
    exact ⟨by rw [hmk.out]; rfl, Only.refl _ _⟩
end Go.Proofs.Ytdgkdgbdkhnpcaa.N

/-
  How much matchers are; matchers that came in.
-/
namespace Go.Proofs.Ytdgkdgbdkhnpcaa.N
open Go.RowKit Go.Proofs.Lys
set_option linter.unusedVariables false
set_option linter.unusedSimpArgs false

/-- How much matchers are. -/
def bigM : Mats → Nat
  | [] => 0
  | x :: r => 1 + x.2.1.size + x.2.2.size + bigM r
theorem bigM_app (l : Mats) (x : Mat) : bigM (l ++ [x]) = bigM l + (1 + x.2.1.size + x.2.2.size) := by
  induction l with
  | nil => simp [bigM]
  | cons y r ih => simp only [List.cons_append, bigM, ih]; omega
theorem bigM_le (l : Mats) (k : Nat) : bigM (l.take k) ≤ bigM l := by
  induction l generalizing k with
  | nil => simp
  | cons x r ih =>
    cases k with
    | zero => simp [bigM]
    | succ k => simp only [List.take_succ_cons, bigM]; have := ih k; omega
theorem bigM_len (l : Mats) : l.length ≤ bigM l := by
  induction l with
  | nil => simp
  | cons x r ih => simp only [List.length_cons, bigM]; omega
theorem bigM_small {l : Mats} (h : bigM l ≤ 4000) : SmallM l ∧ l.length ≤ 4000 := by
  refine ⟨fun x hx => ?_, Nat.le_trans (bigM_len l) h⟩
  induction l with
  | nil => cases hx
  | cons y r ih =>
    simp only [bigM] at h
    rcases List.mem_cons.1 hx with rfl | hx
    · omega
    · exact ih (by omega) hx
/-- Matchers that came in: their texts are not longer than a text can be. -/
def CameM (l : Mats) : Prop := ∀ x ∈ l, x.2.1.size ≤ 1000000000000000 ∧ x.2.2.size ≤ 1000000000000000
set_option maxRecDepth 100000 in
set_option maxHeartbeats 1600000 in
theorem mbig_any (w : World) (v : Value) (l : Mats) (hs : MatSrc w v l) (hl : l.length ≤ 9223372036854775807) (hC : CameM l) :
    Calls Try.prog 6 #[v] w fun e w' => e = .returned (.bool (decide (4000 < bigM l))) ∧ Kept w w' := by
  obtain ⟨a1, c1, rfl⟩ := hs.len
  obtain ⟨L, hL⟩ : ∃ L, l.length = L := ⟨_, rfl⟩
  rw [hL] at hs hl ⊢
  have HS := hid hs
  have HL := hid hL
  have HC := hid hC
  clear hs hL hC
  go_enter Try.func6, Try.ntmps6
  go_wp2
  go_loopw [3, 4] (fun n s wr => ∃ (k : Nat) (N : Nat), k ≤ L ∧ s = .int .i64 (k : Int) ∧ n = .int .i64 (N : Int) ∧ N = bigM (l.take k) ∧ N ≤ 2000000000005000 ∧ Kept w wr) (fun _ s _ => L - (intOf s).toNat)
  case atStart => exact ⟨0, 0, by omega, rfl, rfl, by simp [bigM], by omega, Only.refl _ _⟩
  case round =>
    obtain ⟨k, N, hk, rfl, rfl, hN, hN2, kr⟩ := hrel
    have HN := hid hN
    have HK := hid kr
    clear hN
    by_cases hlt : k < L
    · by_cases hn : N ≤ 4000
      · have hkl : k < l.length := by have := HL.out; omega
        obtain ⟨b1, o1, rfl, x1, y1, z1⟩ := (HS.out.stay kr).cell HL.out k hlt
        have HT : Hid (bigM (l.take (k + 1)) = N + (1 + (l[k]'hkl).2.1.size + (l[k]'hkl).2.2.size)) := by
          refine hid ?_
          rw [← List.take_append_getElem hkl, bigM_app, HN.out]
        have hc := HC.out _ (List.getElem_mem hkl)
        clear kr
        generalize l[k]'hkl = x at x1 y1 z1 HT hc
        obtain ⟨M, X, Y⟩ := x
        simp only at x1 y1 z1 HT hc
        have hn' : (N : Int) ≤ 4000 := by omega
        go_wp2_with fail
        go_quiet (fail)
        go_wp2_with fail
        go_roundw
        case rel =>
          have e1 : IntKind.i64.wrap ((N : Int) + 1) = (N : Int) + 1 := by rw [IntKind.wrap_i64]; omega
          have e2 : IntKind.i64.wrap ((N : Int) + 1 + (X.size : Int)) = (N : Int) + 1 + (X.size : Int) := by rw [IntKind.wrap_i64]; omega
          have e3 : IntKind.i64.wrap ((N : Int) + 1 + (X.size : Int) + (Y.size : Int)) = (N : Int) + 1 + (X.size : Int) + (Y.size : Int) := by rw [IntKind.wrap_i64]; omega
          exact ⟨k + 1, N + (1 + X.size + Y.size), by omega, by go_num, by (try rw [e1, e2, e3]); go_num, HT.out.symm, by omega, kept_drewN HK.out nq⟩
        case measure => simp [intOf]; omega
      · have HE : Hid (decide (4000 < bigM l) = true) := by
          refine hid ?_
          have := bigM_le l k
          rw [← HN.out] at this
          exact decide_eq_true (by omega)
        have hn' : decide ((N : Int) ≤ 4000) = false := by simp; omega
        go_wp2
        go_ret
        exact ⟨by rw [HE.out]; simp; omega, kr⟩
    · have e : k = L := by omega
      subst e
      have HE : Hid (bigM l = N) := by
        refine hid ?_
        rw [HN.out, List.take_of_length_le (by have := HL.out; omega)]
      go_wp2
      go_ret
      refine ⟨?_, kr⟩
      rw [HE.out]
      simp
      omega

/-! ### Matchers that came in -/
section
variable {H : Type} {enc : TypeId × Value → H} {w : World} {spare : Nat → Bool} {held : Bool} {base fuel : Nat}
theorem Try.byteMat : 1 ≤ Try.prog.bytesOf 43 := by decide +kernel
theorem Try.cellsMat : Try.prog.cellsOf 43 = 3 := by kernel_rfl
theorem Try.cellsIntN : Try.prog.cellsOf 3 = 1 := by kernel_rfl
set_option maxRecDepth 100000 in
theorem open_mat {cs : List Value} {x : DataW H × List MemPlace}
    (h : DataW.trod enc Try.prog w base spare held fuel 43 cs = some x) (hz : ∀ n ∈ x.1.weights Try.prog 43, n ≤ reachBytes) : ∃ q : Mat, cs = [.int .i64 q.1, .string q.2.1, .string q.2.2] ∧ q.2.1.size ≤ 1000000000000000 ∧ q.2.2.size ≤ 1000000000000000 := by
  obtain ⟨xs, m, _, rfl, hlen, hxl, hf⟩ := DataW.trod_struct Try.underlying43 h
  rw [Try.cellsMat] at hlen
  have hxl2 : xs.length = 3 := hxl
  have hr := reachBytes_lt
  match cs, hlen with
  | [v0, v1, v2], _ =>
    have g0 : DataW.trod enc Try.prog w base spare held m 3 ((([v0, v1, v2] : List Value).drop 0).take (Try.prog.cellsOf 3)) = xs[0]? := hf 0 _ rfl
    have g1 : DataW.trod enc Try.prog w base spare held m 9 ((([v0, v1, v2] : List Value).drop 1).take (Try.prog.cellsOf 9)) = xs[1]? := hf 1 _ rfl
    have g2 : DataW.trod enc Try.prog w base spare held m 9 ((([v0, v1, v2] : List Value).drop 2).take (Try.prog.cellsOf 9)) = xs[2]? := hf 2 _ rfl
    rw [Try.cellsStrN, List.getElem?_eq_getElem (by omega)] at g1 g2
    rw [Try.cellsIntN, List.getElem?_eq_getElem (by omega)] at g0
    obtain ⟨i0, e0, _⟩ := DataW.trod_int Try.underlying3 g0
    obtain ⟨s1, e1, _, _⟩ := DataW.trod_string Try.underlying9 g1
    obtain ⟨s2, e2, _, _⟩ := DataW.trod_string Try.underlying9 g2
    have z1 := string_sized (v := v1) Try.underlying9 g1 (struct_sized Try.underlying43 hz (j := 1) rfl (List.getElem?_eq_getElem (by omega)))
    have z2 := string_sized (v := v2) Try.underlying9 g2 (struct_sized Try.underlying43 hz (j := 2) rfl (List.getElem?_eq_getElem (by omega)))
    have f0 := List.head_eq_of_cons_eq e0
    have f1 := List.head_eq_of_cons_eq e1
    have f2 := List.head_eq_of_cons_eq e2
    subst f0 f1 f2
    have t1 := z1 _ rfl
    have t2 := z2 _ rfl
    exact ⟨(i0, s1, s2), rfl, by show s1.size ≤ _; omega, by show s2.size ≤ _; omega⟩
/-- Matchers that came in. -/
structure InM (w : World) (v : Value) (l : Mats) : Prop where
  src : MatSrc w v l
  came : CameM l
  len : l.length ≤ 1000000000000000
set_option maxRecDepth 100000 in
theorem open_mats {a0 : Option Addr} {len0 cap0 : Nat} {x : DataW H × List MemPlace}
    (h : ∃ m, DataW.trod enc Try.prog w base spare held m 23 (Value.slice a0 len0 cap0).cells.toList = some x) (hz : ∀ n ∈ x.1.weights Try.prog 23, n ≤ reachBytes) : ∃ l : Mats, InM w (.slice a0 len0 cap0) l := by
  obtain ⟨fuel, hf⟩ := h
  rcases Deep.open_slice Try.underlying23 hf with ⟨hcs, _⟩ | ⟨a, len, cap, m, n, D, Pl, hcs, _, hl, hm, hmm, rfl, hx⟩
  · simp [Value.cells] at hcs
    obtain ⟨rfl, rfl, rfl⟩ := hcs
    exact ⟨[], .inl ⟨_, _, rfl, rfl⟩, fun x hx => (by cases hx), by simp⟩
  · simp [Value.cells] at hcs
    obtain ⟨rfl, rfl, rfl⟩ := hcs
    have hlm : len0 ≤ m := by rw [hmm]; split <;> omega
    have hr := reachBytes_lt
    have hlen : len0 ≤ reachBytes := by
      have h1 := hz ((len0 + (m - len0)) * Try.prog.bytesOf 43) (by simp [DataW.weights, Try.underlying23])
      have h2 : (len0 + (m - len0)) * 1 ≤ (len0 + (m - len0)) * Try.prog.bytesOf 43 := Nat.mul_le_mul_left _ Try.byteMat
      omega
    have hzi : ∀ i, i < len0 → ∀ n ∈ (D i).weights Try.prog 43, n ≤ reachBytes := fun i hi n hn => by
      refine hz n ?_
      simp only [DataW.weights, Try.underlying23]
      refine List.mem_cons_of_mem _ (List.mem_append_left _ (weights_all (List.mem_map.2 ⟨i, List.mem_range.2 hi, rfl⟩) n hn))
    have each : ∀ i, i < len0 → ∃ q : Mat, w.cell? (a.add (i * 3)) = some (.int .i64 q.1) ∧ w.cell? (a.add (i * 3 + 1)) = some (.string q.2.1) ∧ w.cell? (a.add (i * 3 + 2)) = some (.string q.2.2) ∧ q.2.1.size ≤ 1000000000000000 ∧ q.2.2.size ≤ 1000000000000000 := by
      intro i hi
      obtain ⟨cs', h1, h2⟩ := hx i (by omega)
      rw [Try.cellsMat] at h1
      obtain ⟨_, hlen, hcell⟩ := World.cells?_some h1
      obtain ⟨q, rfl, hq⟩ := open_mat h2 (hzi i hi)
      have c0 := hcell 0 (by omega)
      have c1 := hcell 1 (by omega)
      have c2 := hcell 2 (by omega)
      rw [Deep.add_add] at c0 c1 c2
      exact ⟨q, by simpa using c0, by simpa using c1, by simpa using c2, hq⟩
    obtain ⟨q, hq⟩ := Deep.choose_lt each
    have hll : ((List.range len0).map q).length = len0 := by simp
    refine ⟨(List.range len0).map q, ?_, ?_, by rw [hll]; omega⟩
    · by_cases h0 : len0 = 0
      · subst h0
        exact .inl ⟨_, _, rfl, rfl⟩
      · refine .inr ⟨by rw [hll]; omega, ?_⟩
        obtain ⟨b, o, spot⟩ := a
        have hs : spot = none := by simpa [Addr.add] using World.cell?_spot (hq 0 (by omega)).1
        subst hs
        refine ⟨b, o, cap0, by rw [hll], fun i hi => ?_⟩
        have hi' : i < len0 := by rw [hll] at hi; exact hi
        have := hq i hi'
        rw [add_none, add_none, add_none, ← Nat.add_assoc, ← Nat.add_assoc] at this
        simp only [List.getElem_map, List.getElem_range]
        exact ⟨this.1, this.2.1, this.2.2.1⟩
    · intro y hy
      obtain ⟨i, hi, rfl⟩ := List.mem_map.1 hy
      exact (hq i (List.mem_range.1 hi)).2.2.2
end
end Go.Proofs.Ytdgkdgbdkhnpcaa.N

/-
  Find.
-/
namespace Go.Proofs.Ytdgkdgbdkhnpcaa.X
open Go.RowKit Go.Proofs.Lys Go.Maps Go.Proofs.Ytdgkdgbdkhnpcaa.N
set_option linter.unusedVariables false
set_option linter.unusedSimpArgs false

theorem is_empty {s : ByteArray} (h0 : s.size = 0) : s.toList.isEmpty = true := by
  rw [ByteArray.toList_eq]
  have : s.data.toList.length = 0 := by rw [← h0]; rfl
  rw [List.length_eq_zero_iff.1 this]
  rfl
/-- Numbers that are told. -/
def SelP (w : World) (N : Nat) (T : Nat → Prop) (e : Ending) (w' : World) : Prop := ∃ u l, e = .returned u ∧ Po.ISrc w' u l ∧ Sel l T ∧ l.length ≤ N ∧ Kept w w'
theorem selP_num {w w' : World} {N : Nat} {T : Nat → Prop} {v : Value} {l : List Int} (h : NumAt w' w.heap.size v l) (hs : Sel l T) (hl : l.length ≤ N) (k : Kept w w') : SelP w N T (.returned v) w' := ⟨v, l, rfl, Po.own_isrc h, hs, hl, k⟩
theorem takes_has (w : World) : Takes w 52 #[] (fun _ => true) := by
  refine ⟨enters_of Try.func52 (by kernel_rfl) rfl, fun W _ v _ => ?_⟩
  show Calls Try.prog 52 #[.string v] W _
  go_enter Try.func52, Try.ntmps52
  go_wp2
  go_ret
  exact ⟨rfl, rfl⟩
abbrev matV (k : Int) (n v : ByteArray) : Value := .agg #[.int .i64 k, .string n, .string v]
theorem takes_prefix (w : World) (b : Nat) (k : Int) (n v : ByteArray) (hb : Blk w b [.int .i64 k, .string n, .string v] 43) : Takes w 50 #[.pointer (some ⟨b, 0, none⟩)] (fun u => Lib.hasPrefix u.data.toList v.data.toList) := by
  refine ⟨enters_of Try.func50 (by kernel_rfl) rfl, fun W kW u _ => ?_⟩
  have c2 := (kW.blk hb (fun f => f)).cell 2 rfl
  have HP := hid (Try.strings_HasPrefix u v W)
  clear hb kW
  show Calls Try.prog 50 #[.string u, .pointer (some ⟨b, 0, none⟩)] W (fun e w' => e = .returned (.bool (Lib.hasPrefix u.data.toList v.data.toList)) ∧ w' = W)
  generalize Lib.hasPrefix u.data.toList v.data.toList = B at *
  show Calls Try.prog 50 #[.string u, .pointer (some ⟨b, 0, none⟩)] W _
  go_enter Try.func50, Try.ntmps50
  go_wp2_with fail
  refine HP.out.mono ?_
  rintro e w1 ⟨rfl, hw⟩
  replace hw := hw.symm
  subst hw
  go_wp2
  go_ret
  exact ⟨rfl, rfl⟩
section
variable {w : World} {x : IxC} {O : Nat → Prop} {L : List Labs}
theorem has_any (h : IxL w x O L) (k : Int) (n v : ByteArray) :
    Calls Try.prog 35 #[.pointer (some ⟨x.xb, 0, none⟩), matV k n v] w (SelP w L.length (HasQ L n (fun _ => true))) := by
  have k0 : Kept w (w.alloc (.cells #[.int .i64 k, .string n, .string v] 43)) := (Only.refl _ w).alloc _
  have h0 := h.stay k0
  have HH := hid (having_any h0.at_ h0.is h0.sum n 52 #[] (fun _ => true) (takes_has _))
  have HK := hid k0
  have HT := hid (fun acc hp => hav_sel (acc := acc) h.tells (fun l hl => (h.made l hl).rise) n (fun _ => true) hp)
  have HN := hid h.len
  clear h h0 k0
  generalize x.xb = XB at *
  go_enter Try.func35, Try.ntmps35
  go_wp2_with fail
  refine HH.out.mono ?_
  rintro e w1 ⟨u, acc, rfl, hat, hp, k1⟩
  have hs : Sel (sortN acc) _ := HT.out acc hp
  generalize sortN acc = SL at hat hs
  obtain ⟨a, c, e⟩ := ownN_slice hat
  have HS := hid hs
  have HA := hid (show NumAt w1 w.heap.size u SL from ownN_base hat (by simp))
  have K1 := hid (HK.out.trans k1 (fun _ _ f => f))
  clear hat hp k1 HH hs
  generalize hSL : SL.length = NS at e
  subst e
  go_wp2
  go_ret
  exact selP_num HA.out HS.out (HS.out.len (fun i hi => by obtain ⟨l, v, e, _⟩ := hi; exact (List.getElem?_eq_some_iff.1 e).1) (by have := HN.out; omega)) K1.out

set_option maxRecDepth 100000 in
set_option maxHeartbeats 3200000 in
theorem equal_ix (h : IxL w x O L) (k : Int) (n v : ByteArray) (hn : n.size ≤ 100000) (hv : v.size ≤ 100000) :
    Calls Try.prog 32 #[.pointer (some ⟨x.xb, 0, none⟩), matV k n v] w (SelP w L.length (FitI L (1, n, v))) := by
  have k0 : Kept w (w.alloc (.cells #[.int .i64 k, .string n, .string v] 43)) := (Only.refl _ w).alloc _
  have hb0 := Blk.new w [.int .i64 k, .string n, .string v] 43
  by_cases hv0 : v.size = 0
  · have hvs : v.toList.isEmpty = true := is_empty hv0
    have HALL := hid (fun W (kW : Kept (w.alloc (.cells #[.int .i64 k, .string n, .string v] 43)) W) => all_ix ((h.stay k0).stay kW).at_ (by rw [h.n]; have := h.len; omega))
    have HHAS := hid (fun W (kW : Kept (w.alloc (.cells #[.int .i64 k, .string n, .string v] 43)) W) => has_any ((h.stay k0).stay kW) k n v)
    have S0 := hid (fun W (kW : Kept (w.alloc (.cells #[.int .i64 k, .string n, .string v] 43)) W) => (show W.cell? ⟨w.heap.size, 0, none⟩ = some (.int .i64 k) ∧ W.cell? ⟨w.heap.size, 1, none⟩ = some (.string n) ∧ W.cell? ⟨w.heap.size, 2, none⟩ = some (.string v) from ⟨(kW.blk hb0 (fun f => f)).cell 0 rfl, (kW.blk hb0 (fun f => f)).cell 1 rfl, (kW.blk hb0 (fun f => f)).cell 2 rfl⟩))
    have HFIN := hid (fun l2 (hs : Sel l2 (HasQ L n (fun _ => true))) => ((Sel.all L.length (by have := h.len; omega)).sub hs).mono (fit_empty h.made n v hv0))
    have HLT := hid (fun i (hi : FitI L (1, n, v) i) => hi.lt)
    have HK := hid k0
    have c2 := hb0.cell 2 rfl
    have hlen := h.len
    rw [h.n] at HALL
    clear h hb0 k0 hv0
    generalize x.xb = XB at *
    generalize hLN : L.length = LN at *
    go_enter Try.func32, Try.ntmps32
    go_wp2_with fail
    generalize w.alloc (.cells #[.int .i64 k, .string n, .string v] 43) = w0 at HALL HHAS S0 HK c2 ⊢
    refine wp_region_noPanic ?_
    refine wp_region_last (L := 1000) (S := fun w' => Kept w0 w') (by kernel_rfl) ?_
    have K0 := hid (show Kept w0 w0.drew from (Only.refl _ _).drew)
    refine wpAnyN_take (i := 0) (v := .pointer (some ⟨XB, 0, none⟩)) rfl (by kernel_rfl) (by kernel_rfl) (by kernel_rfl) (by decide) (by kernel_rfl) (fun _ _ _ h => h) (Or.inl ⟨by rfl, ?_⟩) K0.out ?_
    · (intro w' hSw; obtain ⟨s0, s1, s2⟩ := S0.out w' hSw; clear hSw; go_simp)
    (try simp only [List.getElem_toArray, List.getElem_cons_succ, List.getElem_cons_zero])
    go_frame
    refine wpAnyN_take (i := 2) (v := .pointer (some ⟨XB, 0, none⟩)) rfl (by kernel_rfl) (by kernel_rfl) (by kernel_rfl) (by decide) (by kernel_rfl) (fun _ _ _ h => h) (Or.inl ⟨by rfl, ?_⟩) K0.out ?_
    · (intro w' hSw; obtain ⟨s0, s1, s2⟩ := S0.out w' hSw; clear hSw; go_simp)
    (try simp only [List.getElem_toArray, List.getElem_cons_succ, List.getElem_cons_zero])
    go_frame
    refine wpAnyN_take (i := 3) (v := .agg #[.int .i64 k, .string n, .string v]) rfl (by kernel_rfl) (by kernel_rfl) (by kernel_rfl) (by decide) (by kernel_rfl) (fun _ _ _ h => h) (Or.inl ⟨by rfl, ?_⟩) K0.out ?_
    · (intro w' hSw; obtain ⟨s0, s1, s2⟩ := S0.out w' hSw; clear hSw; go_simp)
    (try simp only [List.getElem_toArray, List.getElem_cons_succ, List.getElem_cons_zero])
    go_frame
    refine wpAnyL_one (i := 1) (by kernel_rfl) rfl rfl ?_
    go_simp
    refine (HALL.out _ K0.out).mono ?_
    rintro e w1 ⟨u1, rfl, hat1, k1⟩
    have K1 := hid (show Kept w0 w1 from K0.out.trans k1 (fun _ _ f => f))
    have HAT1 := hid (Po.own_isrc hat1)
    clear hat1 k1
    refine ⟨K1.out, ?_⟩
    (try go_frame)
    refine wpAnyL_one (i := 4) (by kernel_rfl) rfl rfl ?_
    go_simp
    refine (HHAS.out _ K1.out).mono ?_
    rintro e w2 ⟨u2, l2, rfl, hs2, hsel2, hl2, k2⟩
    have K2 := hid (show Kept w0 w2 from K1.out.trans k2 (fun _ _ f => f))
    have HSEL2 := hid hsel2
    have HSUB := hid (Po.sub_any w2 u1 u2 (allN LN) l2 (HAT1.out.stay k2) hs2 (by rw [allN_len]; omega) (by omega))
    clear hs2 hsel2 k2
    refine ⟨K2.out, ?_⟩
    (try go_frame)
    refine wpAnyL_one (i := 5) (by kernel_rfl) rfl rfl ?_
    go_simp
    refine HSUB.out.mono ?_
    rintro e w3 ⟨u3, rfl, hat3, k3⟩
    obtain ⟨a3, c3, e3⟩ := ownN_slice hat3
    have K3 := hid (show Kept w0 w3 from K2.out.trans k3 (fun _ _ f => f))
    have HIS := hid (Po.own_isrc hat3)
    clear hat3 k3
    refine ⟨K3.out, ?_⟩
    (try go_frame)
    generalize hL3 : Po.setL 2 (allN LN) l2 = L3 at HIS e3
    have HL3 := hid hL3
    clear hL3
    generalize hN3 : L3.length = N3 at e3
    subst e3
    refine wpAnyL_one (i := 6) (by kernel_rfl) rfl rfl ?_
    go_simp
    refine ⟨K3.out, ?_⟩
    (try go_frame)
    refine wpAnyN_done (by kernel_rfl) ?_
    refine NoPanic.normal ?_
    go_wp2_with fail
    go_ret
    have hsel := HFIN.out _ HSEL2.out
    rw [HL3.out] at hsel
    exact ⟨_, L3, rfl, HIS.out, hsel, hsel.len HLT.out (by omega), HK.out.trans K3.out (fun _ _ f => f)⟩
  · have hvs : v.toList.isEmpty = false := not_empty hv0
    have h0 := h.stay k0
    obtain ⟨hs1, _⟩ := h0.at_.slice h0.is (n, v) ⟨hn, hv⟩
    have hlk := look_sl (x := (n, v)) h0.at_.map (small_max (x := (n, v)) ⟨hn, hv⟩).1 (small_max (x := (n, v)) ⟨hn, hv⟩).2
    have hsel := (h.look (n, v)).mono (fit_equal h.made n v hv0)
    have HP := hid (show SelP w L.length (FitI L (1, n, v)) (.returned (slV (slOf x (n, v)))) (w.alloc (.cells #[.int .i64 k, .string n, .string v] 43)) from
      ⟨_, _, rfl, Po.own_isrc hs1, hsel, hsel.len (fun i hi => hi.lt) (by have := h.len; omega), k0⟩)
    have HQ := hid (fun (W : World) (kd : Kept (w.alloc (.cells #[.int .i64 k, .string n, .string v] 43)) W) => (show SelP w L.length (FitI L (1, n, v)) (.returned (slV (slOf x (n, v)))) W from
      ⟨_, _, rfl, (Po.own_isrc hs1).stay kd, hsel, hsel.len (fun i hi => hi.lt) (by have := h.len; omega), k0.trans kd (fun _ _ f => f)⟩))
    have c0 := hb0.cell 0 rfl
    have c1 := hb0.cell 1 rfl
    have c2 := hb0.cell 2 rfl
    have m1 := h0.at_.blk.cell 1 rfl
    have hsv : ∃ a n0 c, slV (slOf x (n, v)) = .slice a n0 c := by
      cases slOf x (n, v) with
      | none => exact ⟨_, _, _, rfl⟩
      | some q => exact ⟨_, _, _, rfl⟩
    have hlk2 : ∀ m, (Instr.lookup 50 (.map (some x.mb)) (labV (n, v)) false).run Try.prog ((w.alloc (.cells #[.int .i64 k, .string n, .string v] 43)).drewN m) = .ok (slV (slOf x (n, v))) ((w.alloc (.cells #[.int .i64 k, .string n, .string v] 43)).drewN m) := fun m => by
      have := h0.stay (show Kept (w.alloc (.cells #[.int .i64 k, .string n, .string v] 43)) ((w.alloc (.cells #[.int .i64 k, .string n, .string v] 43)).drewN m) from ⟨rfl, rfl, rfl, Nat.le_refl _, fun _ _ _ => rfl⟩)
      exact look_sl (x := (n, v)) this.at_.map (small_max (x := (n, v)) ⟨hn, hv⟩).1 (small_max (x := (n, v)) ⟨hn, hv⟩).2
    clear h h0 hs1 hsel hb0 k0 HP hlk hv0
    generalize slV (slOf x (n, v)) = SV at *
    obtain ⟨sa, sn, sc, rfl⟩ := hsv
    generalize x.xb = XB at *
    generalize x.mb = MB at *
    go_enter Try.func32, Try.ntmps32
    go_wp2_with fail
    generalize w.alloc (.cells #[.int .i64 k, .string n, .string v] 43) = w0 at *
    go_quiet (fail)
    go_wp2
    go_ret
    exact HQ.out _ ⟨rfl, rfl, rfl, Nat.le_refl _, fun _ _ _ => rfl⟩

set_option maxRecDepth 100000 in
set_option maxHeartbeats 3200000 in
theorem not_ix (h : IxL w x O L) (k : Int) (n v : ByteArray) (hn : n.size ≤ 100000) (hv : v.size ≤ 100000) :
    Calls Try.prog 33 #[.pointer (some ⟨x.xb, 0, none⟩), matV k n v] w (SelP w L.length (FitI L (2, n, v))) := by
  have k0 : Kept w (w.alloc (.cells #[.int .i64 k, .string n, .string v] 43)) := (Only.refl _ w).alloc _
  have hb0 := Blk.new w [.int .i64 k, .string n, .string v] 43
  have HALL := hid (fun W (kW : Kept (w.alloc (.cells #[.int .i64 k, .string n, .string v] 43)) W) => all_ix ((h.stay k0).stay kW).at_ (by rw [h.n]; have := h.len; omega))
  have HEQ := hid (fun W (kW : Kept (w.alloc (.cells #[.int .i64 k, .string n, .string v] 43)) W) => equal_ix ((h.stay k0).stay kW) k n v hn hv)
  have S0 := hid (fun W (kW : Kept (w.alloc (.cells #[.int .i64 k, .string n, .string v] 43)) W) => (show W.cell? ⟨w.heap.size, 0, none⟩ = some (.int .i64 k) ∧ W.cell? ⟨w.heap.size, 1, none⟩ = some (.string n) ∧ W.cell? ⟨w.heap.size, 2, none⟩ = some (.string v) from ⟨(kW.blk hb0 (fun f => f)).cell 0 rfl, (kW.blk hb0 (fun f => f)).cell 1 rfl, (kW.blk hb0 (fun f => f)).cell 2 rfl⟩))
  have HFIN := hid (fun l2 (hs : Sel l2 (FitI L (1, n, v))) => ((Sel.all L.length (by have := h.len; omega)).sub hs).mono (fit_not n v))
  have HLT := hid (fun i (hi : FitI L (2, n, v) i) => hi.lt)
  have HK := hid k0
  have hlen := h.len
  rw [h.n] at HALL
  clear h hb0 k0
  generalize x.xb = XB at *
  generalize hLN : L.length = LN at *
  go_enter Try.func33, Try.ntmps33
  go_wp2_with fail
  generalize w.alloc (.cells #[.int .i64 k, .string n, .string v] 43) = w0 at HALL HEQ S0 HK ⊢
  refine wp_region_noPanic ?_
  refine wp_region_last (L := 1000) (S := fun w' => Kept w0 w') (by kernel_rfl) ?_
  have K0 := hid (show Kept w0 w0.drew from (Only.refl _ _).drew)
  refine wpAnyN_take (i := 0) (v := .pointer (some ⟨XB, 0, none⟩)) rfl (by kernel_rfl) (by kernel_rfl) (by kernel_rfl) (by decide) (by kernel_rfl) (fun _ _ _ h => h) (Or.inl ⟨by rfl, ?_⟩) K0.out ?_
  · (intro w' hSw; obtain ⟨s0, s1, s2⟩ := S0.out w' hSw; clear hSw; go_simp)
  (try simp only [List.getElem_toArray, List.getElem_cons_succ, List.getElem_cons_zero])
  go_frame
  refine wpAnyN_take (i := 2) (v := .pointer (some ⟨XB, 0, none⟩)) rfl (by kernel_rfl) (by kernel_rfl) (by kernel_rfl) (by decide) (by kernel_rfl) (fun _ _ _ h => h) (Or.inl ⟨by rfl, ?_⟩) K0.out ?_
  · (intro w' hSw; obtain ⟨s0, s1, s2⟩ := S0.out w' hSw; clear hSw; go_simp)
  (try simp only [List.getElem_toArray, List.getElem_cons_succ, List.getElem_cons_zero])
  go_frame
  refine wpAnyN_take (i := 3) (v := .agg #[.int .i64 k, .string n, .string v]) rfl (by kernel_rfl) (by kernel_rfl) (by kernel_rfl) (by decide) (by kernel_rfl) (fun _ _ _ h => h) (Or.inl ⟨by rfl, ?_⟩) K0.out ?_
  · (intro w' hSw; obtain ⟨s0, s1, s2⟩ := S0.out w' hSw; clear hSw; go_simp)
  (try simp only [List.getElem_toArray, List.getElem_cons_succ, List.getElem_cons_zero])
  go_frame
  refine wpAnyL_one (i := 1) (by kernel_rfl) rfl rfl ?_
  go_simp
  refine (HALL.out _ K0.out).mono ?_
  rintro e w1 ⟨u1, rfl, hat1, k1⟩
  have K1 := hid (show Kept w0 w1 from K0.out.trans k1 (fun _ _ f => f))
  have HAT1 := hid (Po.own_isrc hat1)
  clear hat1 k1
  refine ⟨K1.out, ?_⟩
  (try go_frame)
  refine wpAnyL_one (i := 4) (by kernel_rfl) rfl rfl ?_
  go_simp
  refine (HEQ.out _ K1.out).mono ?_
  rintro e w2 ⟨u2, l2, rfl, hs2, hsel2, hl2, k2⟩
  have K2 := hid (show Kept w0 w2 from K1.out.trans k2 (fun _ _ f => f))
  have HSEL2 := hid hsel2
  have HSUB := hid (Po.sub_any w2 u1 u2 (allN LN) l2 (HAT1.out.stay k2) hs2 (by rw [allN_len]; omega) (by omega))
  clear hs2 hsel2 k2
  refine ⟨K2.out, ?_⟩
  (try go_frame)
  refine wpAnyL_one (i := 5) (by kernel_rfl) rfl rfl ?_
  go_simp
  refine HSUB.out.mono ?_
  rintro e w3 ⟨u3, rfl, hat3, k3⟩
  obtain ⟨a3, c3, e3⟩ := ownN_slice hat3
  have K3 := hid (show Kept w0 w3 from K2.out.trans k3 (fun _ _ f => f))
  have HIS := hid (Po.own_isrc hat3)
  clear hat3 k3
  refine ⟨K3.out, ?_⟩
  (try go_frame)
  generalize hL3 : Po.setL 2 (allN LN) l2 = L3 at HIS e3
  have HL3 := hid hL3
  clear hL3
  generalize hN3 : L3.length = N3 at e3
  subst e3
  refine wpAnyL_one (i := 6) (by kernel_rfl) rfl rfl ?_
  go_simp
  refine ⟨K3.out, ?_⟩
  (try go_frame)
  refine wpAnyN_done (by kernel_rfl) ?_
  refine NoPanic.normal ?_
  go_wp2_with fail
  go_ret
  have hsel := HFIN.out _ HSEL2.out
  rw [HL3.out] at hsel
  exact ⟨_, L3, rfl, HIS.out, hsel, hsel.len HLT.out (by omega), HK.out.trans K3.out (fun _ _ f => f)⟩

set_option maxHeartbeats 800000 in
theorem prefix_ix (h : IxL w x O L) (k : Int) (n v : ByteArray) :
    Calls Try.prog 34 #[.pointer (some ⟨x.xb, 0, none⟩), matV k n v] w (SelP w L.length (FitI L (3, n, v))) := by
  have k0 : Kept w (w.alloc (.cells #[.int .i64 k, .string n, .string v] 43)) := (Only.refl _ w).alloc _
  have hb0 := Blk.new w [.int .i64 k, .string n, .string v] 43
  have h0 := h.stay k0
  have HK := hid k0
  have HN := hid h.len
  have hmf : ∀ (fn : Fn) (first cap : Array Value) (w : World), (Instr.makeFunc fn first cap).run Try.prog w = .ok (.func fn first cap) w := fun _ _ _ _ => rfl
  by_cases hv0 : v.size = 0
  · have hvs : v.toList.isEmpty = true := is_empty hv0
    have HALL := hid (all_ix h0.at_ (by rw [h.n]; have := h.len; omega))
    have HSEL := hid ((Sel.all L.length (by have := h.len; omega)).mono (fit_any (L := L) n v hv0))
    rw [h.n] at HALL
    have c2 := hb0.cell 2 rfl
    clear h h0 hb0 k0 hv0
    generalize x.xb = XB at *
    go_enter Try.func34, Try.ntmps34
    go_wp2_with fail
    generalize w.alloc (.cells #[.int .i64 k, .string n, .string v] 43) = w0 at HALL HK c2 ⊢
    refine HALL.out.mono ?_
    rintro e w1 ⟨u, rfl, hat, k1⟩
    obtain ⟨a, c, e⟩ := ownN_slice hat
    rw [allN_len] at e
    have HIS := hid (Po.own_isrc hat)
    have K1 := hid (HK.out.trans k1 (fun _ _ f => f))
    clear hat k1 HALL
    subst e
    go_wp2
    go_ret
    exact ⟨_, _, rfl, HIS.out, HSEL.out, by rw [allN_len]; omega, K1.out⟩
  · have hvs : v.toList.isEmpty = false := not_empty hv0
    have HH := hid (having_any h0.at_ h0.is h0.sum n 50 #[.pointer (some ⟨w.heap.size, 0, none⟩)] _ (takes_prefix _ w.heap.size k n v hb0))
    have HT := hid (fun acc hp => (hav_sel (acc := acc) h.tells (fun l hl => (h.made l hl).rise) n (fun u => Lib.hasPrefix u.data.toList v.data.toList) hp).mono (fit_prefix h.made n v hv0))
    have c1 := hb0.cell 1 rfl
    have c2 := hb0.cell 2 rfl
    clear h h0 hb0 k0 hv0
    generalize x.xb = XB at *
    go_enter Try.func34, Try.ntmps34
    go_wp2_with fail
    refine HH.out.mono ?_
    rintro e w1 ⟨u, acc, rfl, hat, hp, k1⟩
    have hs : Sel (sortN acc) _ := HT.out acc hp
    generalize sortN acc = SL at hat hs
    obtain ⟨a, c, e⟩ := ownN_slice hat
    have HS := hid hs
    have HA := hid (show NumAt w1 w.heap.size u SL from ownN_base hat (by simp))
    have K1 := hid (HK.out.trans k1 (fun _ _ f => f))
    clear hat hp k1 HH hs
    generalize hSL : SL.length = NS at e
    subst e
    go_wp2
    go_ret
    exact selP_num HA.out HS.out (HS.out.len (fun i hi => hi.lt) (by have := HN.out; omega)) K1.out
end
end Go.Proofs.Ytdgkdgbdkhnpcaa.X

/-
  Find: the table of kinds, and the matchers one behind the other.
-/
namespace Go.Proofs.Ytdgkdgbdkhnpcaa.X
open Go.RowKit Go.Proofs.Lys Go.Maps Go.Proofs.Ytdgkdgbdkhnpcaa.N
set_option linter.unusedVariables false
set_option linter.unusedSimpArgs false

abbrev xEq : Value := .func (.func 32) #[] #[]
abbrev xNot : Value := .func (.func 33) #[] #[]
abbrev xPre : Value := .func (.func 34) #[] #[]
abbrev xHas : Value := .func (.func 35) #[] #[]
/-- The table, as a value. -/
def tabX : Array Value := #[.nilFunc, xEq, xNot, xPre, xHas]
theorem tabX_size : (Try.prog.info? 56).map (fun i => i.size) = some tabX.size := by kernel_rfl
theorem tabX_one : tabX.all (fun x => x.oneCell') = true := by decide +kernel

set_option maxRecDepth 100000 in
theorem kinds_ix (w : World) : Calls Try.prog 21 #[] w fun e w' => e = .returned (.agg tabX) ∧ Kept w w' := by
  go_enter Try.func21, Try.ntmps21
  go_wp2_with (refine wpList_store_row rfl 56 _ _ rfl w.heap.size tabX rfl rfl 56 _ (heap_alloc_last w _) tabX_size rfl tabX_one ?_)
  rw [World.setRow_alloc_new]
  exact bodyPost_ret (v := .agg tabX) (results_cell_row rfl _ _ w.heap.size 56 tabX (0, 0) _ rfl (heap_alloc_last w _) Try.underlying56 rfl tabX_size) rfl ⟨rfl, (Only.refl _ w).alloc _⟩

theorem has_ix {w : World} {x : IxC} {O : Nat → Prop} {L : List Labs} (h : IxL w x O L) (k : Int) (n v : ByteArray) (h1 : k ≠ 1) (h2 : k ≠ 2) (h3 : k ≠ 3) :
    Calls Try.prog 35 #[.pointer (some ⟨x.xb, 0, none⟩), matV k n v] w (SelP w L.length (FitI L (k, n, v))) := by
  refine (has_any h k n v).mono ?_
  rintro e w' ⟨u, l, he, hs, hsel, hl, kk⟩
  exact ⟨u, l, he, hs, hsel.mono (fit_has h.made n v k h1 h2 h3), hl, kk⟩

/-- What Find answers. -/
def FindP (w : World) (L : List Labs) (m : Mats) (e : Ending) (w' : World) : Prop :=
  ∃ u l, e = .returned (.tuple #[u, .int .i64 (checkM m)]) ∧ Po.ISrc w' u l ∧ (checkM m ≠ 0 → l = []) ∧ (checkM m = 0 → Sel l (fun i => i < L.length ∧ ∀ q ∈ m, FitI L q i)) ∧ l.length ≤ L.length ∧ Kept w w'
/-- The series that the first matchers fit. -/
def FitU (L : List Labs) (m : Mats) (k i : Nat) : Prop := i < L.length ∧ ∀ j (hj : j < m.length), j < k → FitI L m[j] i
theorem fitU_step {L : List Labs} {m : Mats} {k : Nat} (hk : k < m.length) (i : Nat) : (FitU L m k i ∧ FitI L m[k] i) ↔ FitU L m (k + 1) i := by
  constructor
  · rintro ⟨⟨h1, h2⟩, h3⟩
    refine ⟨h1, fun j hj hlt => ?_⟩
    by_cases e : j = k
    · subst e
      exact h3
    · exact h2 j hj (by omega)
  · rintro ⟨h1, h2⟩
    exact ⟨⟨h1, fun j hj hlt => h2 j hj (by omega)⟩, h2 k hk (by omega)⟩
theorem fitU_end {L : List Labs} {m : Mats} (i : Nat) : FitU L m m.length i ↔ (i < L.length ∧ ∀ q ∈ m, FitI L q i) := by
  constructor
  · rintro ⟨h1, h2⟩
    refine ⟨h1, fun q hq => ?_⟩
    obtain ⟨j, hj, rfl⟩ := List.getElem_of_mem hq
    exact h2 j hj hj
  · rintro ⟨h1, h2⟩
    exact ⟨h1, fun j hj _ => h2 _ (List.getElem_mem hj)⟩

set_option maxRecDepth 100000 in
set_option maxHeartbeats 6400000 in
theorem find_ix {w : World} {x : IxC} {O : Nat → Prop} {L : List Labs} (h : IxL w x O L) (v : Value) (m : Mats) (hs : MatSrc w v m) (hl : m.length ≤ 100000) (hB : SmallM m) :
    Calls Try.prog 9 #[.pointer (some ⟨x.xb, 0, none⟩), v] w (FindP w L m) := by
  have HC := hid (mcheck_any w v m hs hl hB)
  obtain ⟨a1, c1, rfl⟩ := hs.len
  by_cases hck : checkM m = 0
  · have hck8 := (checkM_zero.1 hck).1
    have HOK := hid (checkM_zero.1 hck).2
    have HFIN : Hid (∀ u l w', Po.ISrc w' u l → Sel l (FitU L m m.length) → l.length ≤ L.length → Kept w w' → FindP w L m (.returned (.tuple #[u, .int .i64 0])) w') := fun u l w' h1 h2 h3 h4 =>
      ⟨u, l, by rw [hck], h1, fun e => absurd hck e, fun _ => h2.mono fitU_end, h3, h4⟩
    rw [hck] at HC
    obtain ⟨M, hM⟩ : ∃ M, m.length = M := ⟨_, rfl⟩
    have HS := hid hs
    have HM := hid hM
    rw [hM] at HS HC hl hck8 HFIN ⊢
    have HSM := hid hB
    have hxn := h.n
    have hLl := h.len
    have HST : Hid (∀ W, Kept w W → IxL W x O L) := fun W k => h.stay k
    clear hs hM hck hB h
    go_enter Try.func9, Try.ntmps9
    go_wp2_with fail
    refine HC.out.mono ?_
    rintro e w1 ⟨rfl, k1⟩
    have HK1 := hid k1
    clear k1 HC
    go_wp2_with fail
    refine (kinds_ix w1).mono ?_
    rintro e w2 ⟨rfl, k2⟩
    have HK2 := hid (HK1.out.trans k2 (fun _ _ f => f))
    clear k2
    have hbT : Blk (w2.alloc (.cells tabX 56)) w2.heap.size tabX.toList 56 := Blk.new w2 tabX.toList 56
    have HBT := hid hbT
    have HK3 := hid (HK2.out.alloc (.cells tabX 56))
    clear hbT HK1 HK2
    go_wp2_with (refine wpList_store_row rfl 56 _ _ rfl w2.heap.size tabX rfl rfl 56 _ (heap_alloc_last w2 _) tabX_size rfl tabX_one ?_; rw [World.setRow_alloc_new]; generalize w2.alloc (.cells tabX 56) = w3 at HBT HK3 ⊢)
    generalize w2.heap.size = T at HBT ⊢
    have HALL := hid (all_ix (HST.out w3 HK3.out).at_ (by omega))
    rw [hxn] at HALL
    generalize hXB : x.xb = XB at *
    have HXB := hid hXB
    clear hXB
    refine HALL.out.mono ?_
    rintro e w4 ⟨u4, rfl, hat4, k4⟩
    have HK4 := hid (HK3.out.trans k4 (fun _ _ f => f))
    have HB4 := hid (Only.blk k4 HBT.out (fun f => f))
    have HAT4 := hid (Po.own_isrc hat4)
    have HSEL4 := hid (show Sel (allN L.length) (FitU L m 0) from (Sel.all L.length (by omega)).mono (fun i => ⟨fun h => ⟨h, fun _ _ h => by omega⟩, fun h => h.1⟩))
    obtain ⟨a4, c4, e4⟩ := ownN_slice hat4
    rw [allN_len] at e4
    subst e4
    clear hat4 k4 HALL HBT HK3
    generalize hLN : L.length = LN at *
    have HLN := hid hLN
    go_wp2_with fail
    go_loopw [8, 21] (fun s8 s21 wr => ∃ (k : Nat) (acc : List Int) (a : Option Addr) (na c : Nat), k ≤ M ∧ s21 = .int .i64 (k : Int) ∧ s8 = .slice a na c ∧ Po.ISrc wr (.slice a na c) acc ∧ Hid (Sel acc (FitU L m k)) ∧ acc.length ≤ LN ∧ Kept w4 wr) (fun _ s21 _ => M - (intOf s21).toNat)
    case atStart => exact ⟨0, allN LN, a4, LN, c4, by omega, rfl, rfl, HAT4.out, hid HSEL4.out, by rw [allN_len]; omega, Only.refl _ _⟩
    case round =>
      obtain ⟨k, acc, a8, n8, c8, hk, rfl, rfl, his, hsel, hal, kr⟩ := hrel
      have HIS := hid his
      have HK := hid kr
      have HKW := hid (HK4.out.trans kr (fun _ _ f => f))
      by_cases hlt : k < M
      · have hkm : k < m.length := by have := HM.out; omega
        obtain ⟨b1, o1, rfl, x1, y1, z1⟩ := (HS.out.stay HKW.out).cell HM.out k hlt
        have hmo := matOk_parts (HOK.out _ (List.getElem_mem hkm))
        have HSTEP := hid (fun i => fitU_step (L := L) hkm i)
        have HBr := hid (Only.blk kr HB4.out (fun f => f))
        have hsz : (m[k]'hkm).2.1.size ≤ 100000 ∧ (m[k]'hkm).2.2.size ≤ 100000 := HSM.out _ (List.getElem_mem hkm)
        clear his kr
        generalize m[k]'hkm = q at x1 y1 z1 HSTEP hmo hsz
        obtain ⟨N, X, Y⟩ := q
        simp only at x1 y1 z1 hmo hsz
        have hN : N = 1 ∨ N = 2 ∨ N = 3 ∨ N = 4 := by omega
        have hsX := hsz.1
        have hsY := hsz.2
        have hbm := Blk.new wr [.int .i64 N, .string X, .string Y] 43
        have ka : Kept wr (wr.alloc (.cells #[.int .i64 N, .string X, .string Y] 43)) := (Only.refl _ wr).alloc _
        have hbt := Only.blk ka HBr.out (fun f => f)
        have HISw := hid (HIS.out.stay ka)
        have HKw := hid (HK.out.trans ka (fun _ _ f => f))
        have HXw := hid (HST.out _ (HKW.out.trans ka (fun _ _ f => f)))
        clear hmo hsz ka
        rcases hN with rfl | rfl | rfl | rfl
        · have HQ := hid (fun W (kW : Kept (wr.alloc (.cells #[.int .i64 1, .string X, .string Y] 43)) W) => equal_ix (HXw.out.stay kW) 1 X Y hsX hsY)
          rw [HXB.out, HLN.out] at HQ
          have S0 := hid (fun W (kW : Kept (wr.alloc (.cells #[.int .i64 1, .string X, .string Y] 43)) W) => (show W.cell? ⟨wr.heap.size, 0, none⟩ = some (.int .i64 1) ∧ W.cell? ⟨wr.heap.size, 1, none⟩ = some (.string X) ∧ W.cell? ⟨wr.heap.size, 2, none⟩ = some (.string Y) ∧ W.cell? ⟨T, 1, none⟩ = some (.func (.func 32) #[] #[]) from ⟨(kW.blk hbm (fun f => f)).cell 0 rfl, (kW.blk hbm (fun f => f)).cell 1 rfl, (kW.blk hbm (fun f => f)).cell 2 rfl, (kW.blk hbt (fun f => f)).cell 1 rfl⟩))
          have eg : ∀ args w, (callFunc 32 args).run Try.prog w = .ok (.enter 32 args) w := enters_of Try.func32 (by kernel_rfl) rfl
          clear hbm hbt
          go_wp2_with fail
          generalize wr.alloc (.cells #[.int .i64 1, .string X, .string Y] 43) = w5 at HQ S0 HISw HKw ⊢
          generalize wr.heap.size = B5 at S0 ⊢
          refine wp_region_noPanic ?_
          refine wp_region_last (L := 1000) (S := fun w' => Kept w5 w') (by kernel_rfl) ?_
          have K0 := hid (show Kept w5 w5.drew from (Only.refl _ _).drew)
          refine wpAnyN_take (i := 0) (v := .slice a8 n8 c8) rfl (by kernel_rfl) (by kernel_rfl) (by kernel_rfl) (by decide) (by kernel_rfl) (fun _ _ _ h => h) (Or.inl ⟨by rfl, ?_⟩) K0.out ?_
          · (intro w' hSw; obtain ⟨s0, s1, s2, s3⟩ := S0.out w' hSw; clear hSw; go_simp)
          (try simp only [List.getElem_toArray, List.getElem_cons_succ, List.getElem_cons_zero])
          go_frame
          refine wpAnyN_take (i := 1) (v := .pointer (some ⟨B5, 0, none⟩)) rfl (by kernel_rfl) (by kernel_rfl) (by kernel_rfl) (by decide) (by kernel_rfl) (fun _ _ _ h => h) (Or.inl ⟨by rfl, ?_⟩) K0.out ?_
          · (intro w' hSw; obtain ⟨s0, s1, s2, s3⟩ := S0.out w' hSw; clear hSw; go_simp)
          (try simp only [List.getElem_toArray, List.getElem_cons_succ, List.getElem_cons_zero])
          go_frame
          refine wpAnyN_take (i := 2) (v := .int .i64 1) rfl (by kernel_rfl) (by kernel_rfl) (by kernel_rfl) (by decide) (by kernel_rfl) (fun _ _ _ h => h) (Or.inl ⟨by rfl, ?_⟩) K0.out ?_
          · (intro w' hSw; obtain ⟨s0, s1, s2, s3⟩ := S0.out w' hSw; clear hSw; go_simp)
          (try simp only [List.getElem_toArray, List.getElem_cons_succ, List.getElem_cons_zero])
          go_frame
          refine wpAnyN_take (i := 3) (v := .pointer (some ⟨T, 1, none⟩)) rfl (by kernel_rfl) (by kernel_rfl) (by kernel_rfl) (by decide) (by kernel_rfl) (fun _ _ _ h => h) (Or.inl ⟨by rfl, ?_⟩) K0.out ?_
          · (intro w' hSw; obtain ⟨s0, s1, s2, s3⟩ := S0.out w' hSw; clear hSw; go_simp)
          (try simp only [List.getElem_toArray, List.getElem_cons_succ, List.getElem_cons_zero])
          go_frame
          refine wpAnyN_take (i := 4) (v := .func (.func 32) #[] #[]) rfl (by kernel_rfl) (by kernel_rfl) (by kernel_rfl) (by decide) (by kernel_rfl) (fun _ _ _ h => h) (Or.inl ⟨by rfl, ?_⟩) K0.out ?_
          · (intro w' hSw; obtain ⟨s0, s1, s2, s3⟩ := S0.out w' hSw; clear hSw; go_simp)
          (try simp only [List.getElem_toArray, List.getElem_cons_succ, List.getElem_cons_zero])
          go_frame
          refine wpAnyN_take (i := 5) (v := .pointer (some ⟨XB, 0, none⟩)) rfl (by kernel_rfl) (by kernel_rfl) (by kernel_rfl) (by decide) (by kernel_rfl) (fun _ _ _ h => h) (Or.inl ⟨by rfl, ?_⟩) K0.out ?_
          · (intro w' hSw; obtain ⟨s0, s1, s2, s3⟩ := S0.out w' hSw; clear hSw; go_simp)
          (try simp only [List.getElem_toArray, List.getElem_cons_succ, List.getElem_cons_zero])
          go_frame
          refine wpAnyN_take (i := 6) (v := .agg #[.int .i64 1, .string X, .string Y]) rfl (by kernel_rfl) (by kernel_rfl) (by kernel_rfl) (by decide) (by kernel_rfl) (fun _ _ _ h => h) (Or.inl ⟨by rfl, ?_⟩) K0.out ?_
          · (intro w' hSw; obtain ⟨s0, s1, s2, s3⟩ := S0.out w' hSw; clear hSw; go_simp)
          (try simp only [List.getElem_toArray, List.getElem_cons_succ, List.getElem_cons_zero])
          go_frame
          refine wpAnyL_one (i := 7) (by kernel_rfl) rfl rfl ?_
          go_simp
          refine (HQ.out _ K0.out).mono ?_
          rintro e w6 ⟨u6, l6, rfl, hs6, hsel6, hl6, k6⟩
          have K6 := hid (show Kept w5 w6 from K0.out.trans k6 (fun _ _ f => f))
          have HSEL6 := hid hsel6
          have HAND := hid (Po.and_any w6 (.slice a8 n8 c8) u6 acc l6 ((HISw.out.stay K0.out).stay k6) hs6 (by omega) (by omega))
          clear hs6 hsel6 k6
          refine ⟨K6.out, ?_⟩
          (try go_frame)
          refine wpAnyL_one (i := 8) (by kernel_rfl) rfl rfl ?_
          go_simp
          refine HAND.out.mono ?_
          rintro e w7 ⟨u7, rfl, hat7, k7⟩
          obtain ⟨a7, c7, e7⟩ := ownN_slice hat7
          have K7 := hid (show Kept w5 w7 from K6.out.trans k7 (fun _ _ f => f))
          have HIS7 := hid (Po.own_isrc hat7)
          have HS7 := hid (((Sel.and hsel.out HSEL6.out).mono HSTEP.out))
          have HL7 := hid (HS7.out.len (n := LN) (fun i hi => by have := hi.1; have := HLN.out; omega) (by omega))
          clear hat7 k7
          refine ⟨K7.out, ?_⟩
          (try go_frame)
          generalize Po.setL 0 acc l6 = L7 at HIS7 e7 HS7 HL7
          generalize hN7 : L7.length = N7 at e7
          subst e7
          refine wpAnyL_one (i := 9) (by kernel_rfl) rfl rfl ?_
          go_simp
          refine ⟨K7.out, ?_⟩
          (try go_frame)
          refine wpAnyN_done (by kernel_rfl) ?_
          refine NoPanic.normal ?_
          go_wp2_with fail
          go_roundw
          case rel => exact ⟨k + 1, L7, a7, N7, c7, by omega, by go_num, rfl, HIS7.out, hid HS7.out, HL7.out, HKw.out.trans K7.out (fun _ _ f => f)⟩
          case measure => simp [intOf]; omega
        · have HQ := hid (fun W (kW : Kept (wr.alloc (.cells #[.int .i64 2, .string X, .string Y] 43)) W) => not_ix (HXw.out.stay kW) 2 X Y hsX hsY)
          rw [HXB.out, HLN.out] at HQ
          have S0 := hid (fun W (kW : Kept (wr.alloc (.cells #[.int .i64 2, .string X, .string Y] 43)) W) => (show W.cell? ⟨wr.heap.size, 0, none⟩ = some (.int .i64 2) ∧ W.cell? ⟨wr.heap.size, 1, none⟩ = some (.string X) ∧ W.cell? ⟨wr.heap.size, 2, none⟩ = some (.string Y) ∧ W.cell? ⟨T, 2, none⟩ = some (.func (.func 33) #[] #[]) from ⟨(kW.blk hbm (fun f => f)).cell 0 rfl, (kW.blk hbm (fun f => f)).cell 1 rfl, (kW.blk hbm (fun f => f)).cell 2 rfl, (kW.blk hbt (fun f => f)).cell 2 rfl⟩))
          have eg : ∀ args w, (callFunc 33 args).run Try.prog w = .ok (.enter 33 args) w := enters_of Try.func33 (by kernel_rfl) rfl
          clear hbm hbt
          go_wp2_with fail
          generalize wr.alloc (.cells #[.int .i64 2, .string X, .string Y] 43) = w5 at HQ S0 HISw HKw ⊢
          generalize wr.heap.size = B5 at S0 ⊢
          refine wp_region_noPanic ?_
          refine wp_region_last (L := 1000) (S := fun w' => Kept w5 w') (by kernel_rfl) ?_
          have K0 := hid (show Kept w5 w5.drew from (Only.refl _ _).drew)
          refine wpAnyN_take (i := 0) (v := .slice a8 n8 c8) rfl (by kernel_rfl) (by kernel_rfl) (by kernel_rfl) (by decide) (by kernel_rfl) (fun _ _ _ h => h) (Or.inl ⟨by rfl, ?_⟩) K0.out ?_
          · (intro w' hSw; obtain ⟨s0, s1, s2, s3⟩ := S0.out w' hSw; clear hSw; go_simp)
          (try simp only [List.getElem_toArray, List.getElem_cons_succ, List.getElem_cons_zero])
          go_frame
          refine wpAnyN_take (i := 1) (v := .pointer (some ⟨B5, 0, none⟩)) rfl (by kernel_rfl) (by kernel_rfl) (by kernel_rfl) (by decide) (by kernel_rfl) (fun _ _ _ h => h) (Or.inl ⟨by rfl, ?_⟩) K0.out ?_
          · (intro w' hSw; obtain ⟨s0, s1, s2, s3⟩ := S0.out w' hSw; clear hSw; go_simp)
          (try simp only [List.getElem_toArray, List.getElem_cons_succ, List.getElem_cons_zero])
          go_frame
          refine wpAnyN_take (i := 2) (v := .int .i64 2) rfl (by kernel_rfl) (by kernel_rfl) (by kernel_rfl) (by decide) (by kernel_rfl) (fun _ _ _ h => h) (Or.inl ⟨by rfl, ?_⟩) K0.out ?_
          · (intro w' hSw; obtain ⟨s0, s1, s2, s3⟩ := S0.out w' hSw; clear hSw; go_simp)
          (try simp only [List.getElem_toArray, List.getElem_cons_succ, List.getElem_cons_zero])
          go_frame
          refine wpAnyN_take (i := 3) (v := .pointer (some ⟨T, 2, none⟩)) rfl (by kernel_rfl) (by kernel_rfl) (by kernel_rfl) (by decide) (by kernel_rfl) (fun _ _ _ h => h) (Or.inl ⟨by rfl, ?_⟩) K0.out ?_
          · (intro w' hSw; obtain ⟨s0, s1, s2, s3⟩ := S0.out w' hSw; clear hSw; go_simp)
          (try simp only [List.getElem_toArray, List.getElem_cons_succ, List.getElem_cons_zero])
          go_frame
          refine wpAnyN_take (i := 4) (v := .func (.func 33) #[] #[]) rfl (by kernel_rfl) (by kernel_rfl) (by kernel_rfl) (by decide) (by kernel_rfl) (fun _ _ _ h => h) (Or.inl ⟨by rfl, ?_⟩) K0.out ?_
          · (intro w' hSw; obtain ⟨s0, s1, s2, s3⟩ := S0.out w' hSw; clear hSw; go_simp)
          (try simp only [List.getElem_toArray, List.getElem_cons_succ, List.getElem_cons_zero])
          go_frame
          refine wpAnyN_take (i := 5) (v := .pointer (some ⟨XB, 0, none⟩)) rfl (by kernel_rfl) (by kernel_rfl) (by kernel_rfl) (by decide) (by kernel_rfl) (fun _ _ _ h => h) (Or.inl ⟨by rfl, ?_⟩) K0.out ?_
          · (intro w' hSw; obtain ⟨s0, s1, s2, s3⟩ := S0.out w' hSw; clear hSw; go_simp)
          (try simp only [List.getElem_toArray, List.getElem_cons_succ, List.getElem_cons_zero])
          go_frame
          refine wpAnyN_take (i := 6) (v := .agg #[.int .i64 2, .string X, .string Y]) rfl (by kernel_rfl) (by kernel_rfl) (by kernel_rfl) (by decide) (by kernel_rfl) (fun _ _ _ h => h) (Or.inl ⟨by rfl, ?_⟩) K0.out ?_
          · (intro w' hSw; obtain ⟨s0, s1, s2, s3⟩ := S0.out w' hSw; clear hSw; go_simp)
          (try simp only [List.getElem_toArray, List.getElem_cons_succ, List.getElem_cons_zero])
          go_frame
          refine wpAnyL_one (i := 7) (by kernel_rfl) rfl rfl ?_
          go_simp
          refine (HQ.out _ K0.out).mono ?_
          rintro e w6 ⟨u6, l6, rfl, hs6, hsel6, hl6, k6⟩
          have K6 := hid (show Kept w5 w6 from K0.out.trans k6 (fun _ _ f => f))
          have HSEL6 := hid hsel6
          have HAND := hid (Po.and_any w6 (.slice a8 n8 c8) u6 acc l6 ((HISw.out.stay K0.out).stay k6) hs6 (by omega) (by omega))
          clear hs6 hsel6 k6
          refine ⟨K6.out, ?_⟩
          (try go_frame)
          refine wpAnyL_one (i := 8) (by kernel_rfl) rfl rfl ?_
          go_simp
          refine HAND.out.mono ?_
          rintro e w7 ⟨u7, rfl, hat7, k7⟩
          obtain ⟨a7, c7, e7⟩ := ownN_slice hat7
          have K7 := hid (show Kept w5 w7 from K6.out.trans k7 (fun _ _ f => f))
          have HIS7 := hid (Po.own_isrc hat7)
          have HS7 := hid (((Sel.and hsel.out HSEL6.out).mono HSTEP.out))
          have HL7 := hid (HS7.out.len (n := LN) (fun i hi => by have := hi.1; have := HLN.out; omega) (by omega))
          clear hat7 k7
          refine ⟨K7.out, ?_⟩
          (try go_frame)
          generalize Po.setL 0 acc l6 = L7 at HIS7 e7 HS7 HL7
          generalize hN7 : L7.length = N7 at e7
          subst e7
          refine wpAnyL_one (i := 9) (by kernel_rfl) rfl rfl ?_
          go_simp
          refine ⟨K7.out, ?_⟩
          (try go_frame)
          refine wpAnyN_done (by kernel_rfl) ?_
          refine NoPanic.normal ?_
          go_wp2_with fail
          go_roundw
          case rel => exact ⟨k + 1, L7, a7, N7, c7, by omega, by go_num, rfl, HIS7.out, hid HS7.out, HL7.out, HKw.out.trans K7.out (fun _ _ f => f)⟩
          case measure => simp [intOf]; omega
        · have HQ := hid (fun W (kW : Kept (wr.alloc (.cells #[.int .i64 3, .string X, .string Y] 43)) W) => prefix_ix (HXw.out.stay kW) 3 X Y)
          rw [HXB.out, HLN.out] at HQ
          have S0 := hid (fun W (kW : Kept (wr.alloc (.cells #[.int .i64 3, .string X, .string Y] 43)) W) => (show W.cell? ⟨wr.heap.size, 0, none⟩ = some (.int .i64 3) ∧ W.cell? ⟨wr.heap.size, 1, none⟩ = some (.string X) ∧ W.cell? ⟨wr.heap.size, 2, none⟩ = some (.string Y) ∧ W.cell? ⟨T, 3, none⟩ = some (.func (.func 34) #[] #[]) from ⟨(kW.blk hbm (fun f => f)).cell 0 rfl, (kW.blk hbm (fun f => f)).cell 1 rfl, (kW.blk hbm (fun f => f)).cell 2 rfl, (kW.blk hbt (fun f => f)).cell 3 rfl⟩))
          have eg : ∀ args w, (callFunc 34 args).run Try.prog w = .ok (.enter 34 args) w := enters_of Try.func34 (by kernel_rfl) rfl
          clear hbm hbt
          go_wp2_with fail
          generalize wr.alloc (.cells #[.int .i64 3, .string X, .string Y] 43) = w5 at HQ S0 HISw HKw ⊢
          generalize wr.heap.size = B5 at S0 ⊢
          refine wp_region_noPanic ?_
          refine wp_region_last (L := 1000) (S := fun w' => Kept w5 w') (by kernel_rfl) ?_
          have K0 := hid (show Kept w5 w5.drew from (Only.refl _ _).drew)
          refine wpAnyN_take (i := 0) (v := .slice a8 n8 c8) rfl (by kernel_rfl) (by kernel_rfl) (by kernel_rfl) (by decide) (by kernel_rfl) (fun _ _ _ h => h) (Or.inl ⟨by rfl, ?_⟩) K0.out ?_
          · (intro w' hSw; obtain ⟨s0, s1, s2, s3⟩ := S0.out w' hSw; clear hSw; go_simp)
          (try simp only [List.getElem_toArray, List.getElem_cons_succ, List.getElem_cons_zero])
          go_frame
          refine wpAnyN_take (i := 1) (v := .pointer (some ⟨B5, 0, none⟩)) rfl (by kernel_rfl) (by kernel_rfl) (by kernel_rfl) (by decide) (by kernel_rfl) (fun _ _ _ h => h) (Or.inl ⟨by rfl, ?_⟩) K0.out ?_
          · (intro w' hSw; obtain ⟨s0, s1, s2, s3⟩ := S0.out w' hSw; clear hSw; go_simp)
          (try simp only [List.getElem_toArray, List.getElem_cons_succ, List.getElem_cons_zero])
          go_frame
          refine wpAnyN_take (i := 2) (v := .int .i64 3) rfl (by kernel_rfl) (by kernel_rfl) (by kernel_rfl) (by decide) (by kernel_rfl) (fun _ _ _ h => h) (Or.inl ⟨by rfl, ?_⟩) K0.out ?_
          · (intro w' hSw; obtain ⟨s0, s1, s2, s3⟩ := S0.out w' hSw; clear hSw; go_simp)
          (try simp only [List.getElem_toArray, List.getElem_cons_succ, List.getElem_cons_zero])
          go_frame
          refine wpAnyN_take (i := 3) (v := .pointer (some ⟨T, 3, none⟩)) rfl (by kernel_rfl) (by kernel_rfl) (by kernel_rfl) (by decide) (by kernel_rfl) (fun _ _ _ h => h) (Or.inl ⟨by rfl, ?_⟩) K0.out ?_
          · (intro w' hSw; obtain ⟨s0, s1, s2, s3⟩ := S0.out w' hSw; clear hSw; go_simp)
          (try simp only [List.getElem_toArray, List.getElem_cons_succ, List.getElem_cons_zero])
          go_frame
          refine wpAnyN_take (i := 4) (v := .func (.func 34) #[] #[]) rfl (by kernel_rfl) (by kernel_rfl) (by kernel_rfl) (by decide) (by kernel_rfl) (fun _ _ _ h => h) (Or.inl ⟨by rfl, ?_⟩) K0.out ?_
          · (intro w' hSw; obtain ⟨s0, s1, s2, s3⟩ := S0.out w' hSw; clear hSw; go_simp)
          (try simp only [List.getElem_toArray, List.getElem_cons_succ, List.getElem_cons_zero])
          go_frame
          refine wpAnyN_take (i := 5) (v := .pointer (some ⟨XB, 0, none⟩)) rfl (by kernel_rfl) (by kernel_rfl) (by kernel_rfl) (by decide) (by kernel_rfl) (fun _ _ _ h => h) (Or.inl ⟨by rfl, ?_⟩) K0.out ?_
          · (intro w' hSw; obtain ⟨s0, s1, s2, s3⟩ := S0.out w' hSw; clear hSw; go_simp)
          (try simp only [List.getElem_toArray, List.getElem_cons_succ, List.getElem_cons_zero])
          go_frame
          refine wpAnyN_take (i := 6) (v := .agg #[.int .i64 3, .string X, .string Y]) rfl (by kernel_rfl) (by kernel_rfl) (by kernel_rfl) (by decide) (by kernel_rfl) (fun _ _ _ h => h) (Or.inl ⟨by rfl, ?_⟩) K0.out ?_
          · (intro w' hSw; obtain ⟨s0, s1, s2, s3⟩ := S0.out w' hSw; clear hSw; go_simp)
          (try simp only [List.getElem_toArray, List.getElem_cons_succ, List.getElem_cons_zero])
          go_frame
          refine wpAnyL_one (i := 7) (by kernel_rfl) rfl rfl ?_
          go_simp
          refine (HQ.out _ K0.out).mono ?_
          rintro e w6 ⟨u6, l6, rfl, hs6, hsel6, hl6, k6⟩
          have K6 := hid (show Kept w5 w6 from K0.out.trans k6 (fun _ _ f => f))
          have HSEL6 := hid hsel6
          have HAND := hid (Po.and_any w6 (.slice a8 n8 c8) u6 acc l6 ((HISw.out.stay K0.out).stay k6) hs6 (by omega) (by omega))
          clear hs6 hsel6 k6
          refine ⟨K6.out, ?_⟩
          (try go_frame)
          refine wpAnyL_one (i := 8) (by kernel_rfl) rfl rfl ?_
          go_simp
          refine HAND.out.mono ?_
          rintro e w7 ⟨u7, rfl, hat7, k7⟩
          obtain ⟨a7, c7, e7⟩ := ownN_slice hat7
          have K7 := hid (show Kept w5 w7 from K6.out.trans k7 (fun _ _ f => f))
          have HIS7 := hid (Po.own_isrc hat7)
          have HS7 := hid (((Sel.and hsel.out HSEL6.out).mono HSTEP.out))
          have HL7 := hid (HS7.out.len (n := LN) (fun i hi => by have := hi.1; have := HLN.out; omega) (by omega))
          clear hat7 k7
          refine ⟨K7.out, ?_⟩
          (try go_frame)
          generalize Po.setL 0 acc l6 = L7 at HIS7 e7 HS7 HL7
          generalize hN7 : L7.length = N7 at e7
          subst e7
          refine wpAnyL_one (i := 9) (by kernel_rfl) rfl rfl ?_
          go_simp
          refine ⟨K7.out, ?_⟩
          (try go_frame)
          refine wpAnyN_done (by kernel_rfl) ?_
          refine NoPanic.normal ?_
          go_wp2_with fail
          go_roundw
          case rel => exact ⟨k + 1, L7, a7, N7, c7, by omega, by go_num, rfl, HIS7.out, hid HS7.out, HL7.out, HKw.out.trans K7.out (fun _ _ f => f)⟩
          case measure => simp [intOf]; omega
        · have HQ := hid (fun W (kW : Kept (wr.alloc (.cells #[.int .i64 4, .string X, .string Y] 43)) W) => has_ix (HXw.out.stay kW) 4 X Y (by decide) (by decide) (by decide))
          rw [HXB.out, HLN.out] at HQ
          have S0 := hid (fun W (kW : Kept (wr.alloc (.cells #[.int .i64 4, .string X, .string Y] 43)) W) => (show W.cell? ⟨wr.heap.size, 0, none⟩ = some (.int .i64 4) ∧ W.cell? ⟨wr.heap.size, 1, none⟩ = some (.string X) ∧ W.cell? ⟨wr.heap.size, 2, none⟩ = some (.string Y) ∧ W.cell? ⟨T, 4, none⟩ = some (.func (.func 35) #[] #[]) from ⟨(kW.blk hbm (fun f => f)).cell 0 rfl, (kW.blk hbm (fun f => f)).cell 1 rfl, (kW.blk hbm (fun f => f)).cell 2 rfl, (kW.blk hbt (fun f => f)).cell 4 rfl⟩))
          have eg : ∀ args w, (callFunc 35 args).run Try.prog w = .ok (.enter 35 args) w := enters_of Try.func35 (by kernel_rfl) rfl
          clear hbm hbt
          go_wp2_with fail
          generalize wr.alloc (.cells #[.int .i64 4, .string X, .string Y] 43) = w5 at HQ S0 HISw HKw ⊢
          generalize wr.heap.size = B5 at S0 ⊢
          refine wp_region_noPanic ?_
          refine wp_region_last (L := 1000) (S := fun w' => Kept w5 w') (by kernel_rfl) ?_
          have K0 := hid (show Kept w5 w5.drew from (Only.refl _ _).drew)
          refine wpAnyN_take (i := 0) (v := .slice a8 n8 c8) rfl (by kernel_rfl) (by kernel_rfl) (by kernel_rfl) (by decide) (by kernel_rfl) (fun _ _ _ h => h) (Or.inl ⟨by rfl, ?_⟩) K0.out ?_
          · (intro w' hSw; obtain ⟨s0, s1, s2, s3⟩ := S0.out w' hSw; clear hSw; go_simp)
          (try simp only [List.getElem_toArray, List.getElem_cons_succ, List.getElem_cons_zero])
          go_frame
          refine wpAnyN_take (i := 1) (v := .pointer (some ⟨B5, 0, none⟩)) rfl (by kernel_rfl) (by kernel_rfl) (by kernel_rfl) (by decide) (by kernel_rfl) (fun _ _ _ h => h) (Or.inl ⟨by rfl, ?_⟩) K0.out ?_
          · (intro w' hSw; obtain ⟨s0, s1, s2, s3⟩ := S0.out w' hSw; clear hSw; go_simp)
          (try simp only [List.getElem_toArray, List.getElem_cons_succ, List.getElem_cons_zero])
          go_frame
          refine wpAnyN_take (i := 2) (v := .int .i64 4) rfl (by kernel_rfl) (by kernel_rfl) (by kernel_rfl) (by decide) (by kernel_rfl) (fun _ _ _ h => h) (Or.inl ⟨by rfl, ?_⟩) K0.out ?_
          · (intro w' hSw; obtain ⟨s0, s1, s2, s3⟩ := S0.out w' hSw; clear hSw; go_simp)
          (try simp only [List.getElem_toArray, List.getElem_cons_succ, List.getElem_cons_zero])
          go_frame
          refine wpAnyN_take (i := 3) (v := .pointer (some ⟨T, 4, none⟩)) rfl (by kernel_rfl) (by kernel_rfl) (by kernel_rfl) (by decide) (by kernel_rfl) (fun _ _ _ h => h) (Or.inl ⟨by rfl, ?_⟩) K0.out ?_
          · (intro w' hSw; obtain ⟨s0, s1, s2, s3⟩ := S0.out w' hSw; clear hSw; go_simp)
          (try simp only [List.getElem_toArray, List.getElem_cons_succ, List.getElem_cons_zero])
          go_frame
          refine wpAnyN_take (i := 4) (v := .func (.func 35) #[] #[]) rfl (by kernel_rfl) (by kernel_rfl) (by kernel_rfl) (by decide) (by kernel_rfl) (fun _ _ _ h => h) (Or.inl ⟨by rfl, ?_⟩) K0.out ?_
          · (intro w' hSw; obtain ⟨s0, s1, s2, s3⟩ := S0.out w' hSw; clear hSw; go_simp)
          (try simp only [List.getElem_toArray, List.getElem_cons_succ, List.getElem_cons_zero])
          go_frame
          refine wpAnyN_take (i := 5) (v := .pointer (some ⟨XB, 0, none⟩)) rfl (by kernel_rfl) (by kernel_rfl) (by kernel_rfl) (by decide) (by kernel_rfl) (fun _ _ _ h => h) (Or.inl ⟨by rfl, ?_⟩) K0.out ?_
          · (intro w' hSw; obtain ⟨s0, s1, s2, s3⟩ := S0.out w' hSw; clear hSw; go_simp)
          (try simp only [List.getElem_toArray, List.getElem_cons_succ, List.getElem_cons_zero])
          go_frame
          refine wpAnyN_take (i := 6) (v := .agg #[.int .i64 4, .string X, .string Y]) rfl (by kernel_rfl) (by kernel_rfl) (by kernel_rfl) (by decide) (by kernel_rfl) (fun _ _ _ h => h) (Or.inl ⟨by rfl, ?_⟩) K0.out ?_
          · (intro w' hSw; obtain ⟨s0, s1, s2, s3⟩ := S0.out w' hSw; clear hSw; go_simp)
          (try simp only [List.getElem_toArray, List.getElem_cons_succ, List.getElem_cons_zero])
          go_frame
          refine wpAnyL_one (i := 7) (by kernel_rfl) rfl rfl ?_
          go_simp
          refine (HQ.out _ K0.out).mono ?_
          rintro e w6 ⟨u6, l6, rfl, hs6, hsel6, hl6, k6⟩
          have K6 := hid (show Kept w5 w6 from K0.out.trans k6 (fun _ _ f => f))
          have HSEL6 := hid hsel6
          have HAND := hid (Po.and_any w6 (.slice a8 n8 c8) u6 acc l6 ((HISw.out.stay K0.out).stay k6) hs6 (by omega) (by omega))
          clear hs6 hsel6 k6
          refine ⟨K6.out, ?_⟩
          (try go_frame)
          refine wpAnyL_one (i := 8) (by kernel_rfl) rfl rfl ?_
          go_simp
          refine HAND.out.mono ?_
          rintro e w7 ⟨u7, rfl, hat7, k7⟩
          obtain ⟨a7, c7, e7⟩ := ownN_slice hat7
          have K7 := hid (show Kept w5 w7 from K6.out.trans k7 (fun _ _ f => f))
          have HIS7 := hid (Po.own_isrc hat7)
          have HS7 := hid (((Sel.and hsel.out HSEL6.out).mono HSTEP.out))
          have HL7 := hid (HS7.out.len (n := LN) (fun i hi => by have := hi.1; have := HLN.out; omega) (by omega))
          clear hat7 k7
          refine ⟨K7.out, ?_⟩
          (try go_frame)
          generalize Po.setL 0 acc l6 = L7 at HIS7 e7 HS7 HL7
          generalize hN7 : L7.length = N7 at e7
          subst e7
          refine wpAnyL_one (i := 9) (by kernel_rfl) rfl rfl ?_
          go_simp
          refine ⟨K7.out, ?_⟩
          (try go_frame)
          refine wpAnyN_done (by kernel_rfl) ?_
          refine NoPanic.normal ?_
          go_wp2_with fail
          go_roundw
          case rel => exact ⟨k + 1, L7, a7, N7, c7, by omega, by go_num, rfl, HIS7.out, hid HS7.out, HL7.out, HKw.out.trans K7.out (fun _ _ f => f)⟩
          case measure => simp [intOf]; omega
      · have e : k = M := by omega
        subst e
        have HF := hid (HFIN.out (.slice a8 n8 c8) acc wr HIS.out hsel.out hal HKW.out)
        go_wp2
        go_ret2
        exact HF.out
  · have HFIN : Hid (∀ w', Kept w w' → FindP w L m (.returned (.tuple #[.slice none 0 0, .int .i64 (checkM m)])) w') := fun w' k =>
      ⟨.slice none 0 0, [], rfl, Po.own_isrc (base := 0) (World.ownsRow_nil _ _ _ _), fun _ => rfl, fun e => absurd e hck, Nat.zero_le _, k⟩
    generalize checkM m = C at HC hck HFIN
    have hC : (C != 0) = true := by simpa using hck
    go_enter Try.func9, Try.ntmps9
    go_wp2_with fail
    refine HC.out.mono ?_
    rintro e w1 ⟨rfl, k1⟩
    have HF := hid (HFIN.out w1 k1)
    clear k1
    go_wp2
    go_ret2
    exact HF.out
end Go.Proofs.Ytdgkdgbdkhnpcaa.X

/-
  Labels of many series that came in.
-/
namespace Go.Proofs.Ytdgkdgbdkhnpcaa.X
open Go.RowKit Go.Proofs.Lys Go.Maps Go.Proofs.Ytdgkdgbdkhnpcaa.N
set_option linter.unusedVariables false
set_option linter.unusedSimpArgs false
/-- Labels of many series that came in. -/
structure LIn (w : World) (v : Value) (L : List Labs) : Prop where
  in_ : ∃ vs : List Value, SrcOf w v vs ∧ vs.length = L.length ∧ ∀ i (h : i < vs.length) (h2 : i < L.length), In w vs[i] L[i]
  len : L.length ≤ 1000000000000000
theorem LIn.src {w : World} {v : Value} {L : List Labs} (h : LIn w v L) : LSrc w v L := by
  obtain ⟨vs, h1, h2, h3⟩ := h.in_
  exact ⟨vs, h1, h2, fun i a b => (h3 i a b).src⟩
theorem LIn.came {w : World} {v : Value} {L : List Labs} (h : LIn w v L) : ∀ l ∈ L, Came l ∧ l.length ≤ 1000000000000000 := by
  intro l hl
  obtain ⟨vs, h1, h2, h3⟩ := h.in_
  obtain ⟨i, hi, rfl⟩ := List.getElem_of_mem hl
  exact ⟨(h3 i (by omega) hi).came, (h3 i (by omega) hi).len⟩
section
variable {H : Type} {enc : TypeId × Value → H} {w : World} {spare : Nat → Bool} {held : Bool} {base fuel : Nat}
theorem Try.cellsLabsX : Try.prog.cellsOf 38 = 1 := by kernel_rfl
theorem Try.byteLabsX : 1 ≤ Try.prog.bytesOf 38 := by decide +kernel
theorem open_cellR {cs : List Value} {x : DataW H × List MemPlace} (h : DataW.trod enc Try.prog w base spare held fuel 38 cs = some x) (hz : ∀ n ∈ x.1.weights Try.prog 38, n ≤ reachBytes) : ∃ q : Value × Labs, cs = [q.1] ∧ In w q.1 q.2 := by
  rcases Deep.open_slice Try.underlying38 h with ⟨hcs, _⟩ | ⟨a, len, cap, m, n, D, Pl, hcs, _⟩
  · subst hcs
    obtain ⟨l, hl⟩ := open_labs (a0 := none) (len0 := 0) (cap0 := 0) ⟨fuel, by simpa [Value.cells] using h⟩ hz
    exact ⟨(_, l), rfl, hl⟩
  · subst hcs
    obtain ⟨l, hl⟩ := open_labs (a0 := some a) (len0 := len) (cap0 := cap) ⟨fuel, by simpa [Value.cells] using h⟩ hz
    exact ⟨(_, l), rfl, hl⟩
theorem open_labss {a0 : Option Addr} {len0 cap0 : Nat} {x : DataW H × List MemPlace}
    (h : ∃ m, DataW.trod enc Try.prog w base spare held m 22 (Value.slice a0 len0 cap0).cells.toList = some x) (hz : ∀ n ∈ x.1.weights Try.prog 22, n ≤ reachBytes) : ∃ l : List Labs, LIn w (.slice a0 len0 cap0) l := by
  obtain ⟨fuel, hf⟩ := h
  rcases Deep.open_slice Try.underlying22 hf with ⟨hcs, _⟩ | ⟨a, len, cap, m, n, D, Pl, hcs, _, hl, hm, hmm, rfl, hx⟩
  · simp [Value.cells] at hcs
    obtain ⟨rfl, rfl, rfl⟩ := hcs
    exact ⟨[], ⟨[], .inl ⟨rfl, rfl⟩, rfl, fun i h => absurd h (by simp)⟩, by simp⟩
  · simp [Value.cells] at hcs
    obtain ⟨rfl, rfl, rfl⟩ := hcs
    have hlm : len0 ≤ m := by rw [hmm]; split <;> omega
    have hr := reachBytes_lt
    have hlen : len0 ≤ reachBytes := by
      have h1 := hz ((len0 + (m - len0)) * Try.prog.bytesOf 38) (by simp [DataW.weights, Try.underlying22])
      have h2 : (len0 + (m - len0)) * 1 ≤ (len0 + (m - len0)) * Try.prog.bytesOf 38 := Nat.mul_le_mul_left _ Try.byteLabsX
      omega
    have hzi : ∀ i, i < len0 → ∀ n ∈ (D i).weights Try.prog 38, n ≤ reachBytes := fun i hi n hn => by
      refine hz n ?_
      simp only [DataW.weights, Try.underlying22]
      refine List.mem_cons_of_mem _ (List.mem_append_left _ (weights_all (List.mem_map.2 ⟨i, List.mem_range.2 hi, rfl⟩) n hn))
    have each : ∀ i, i < len0 → ∃ q : Value × Labs, w.cell? (a.add i) = some q.1 ∧ In w q.1 q.2 := by
      intro i hi
      obtain ⟨cs', h1, h2⟩ := hx i (by omega)
      rw [Try.cellsLabsX] at h1
      obtain ⟨_, hlen, hcell⟩ := World.cells?_some h1
      obtain ⟨q, rfl, hq⟩ := open_cellR h2 (hzi i hi)
      have c0 := hcell 0 (by simp)
      rw [Deep.add_add] at c0
      exact ⟨q, by simpa using c0, hq⟩
    have hinh : Inhabited (Value × Labs) := ⟨(.slice none 0 0, [])⟩
    obtain ⟨q, hq⟩ := Deep.choose_lt each
    refine ⟨(List.range len0).map (fun i => (q i).2), ⟨(List.range len0).map (fun i => (q i).1), .inr ⟨a, cap0, by simp, fun j u hu => ?_⟩, by simp, fun i h1 h2 => ?_⟩, by simp; omega⟩
    · have hj : j < len0 := by
        have := (List.getElem?_eq_some_iff.1 hu).1
        simpa using this
      have hu2 : (q j).1 = u := by
        rw [List.getElem?_map, List.getElem?_range hj] at hu
        simpa using hu
      rw [← hu2]
      exact (hq j hj).1
    · have hi : i < len0 := by simpa using h1
      simpa using (hq i hi).2
end
end Go.Proofs.Ytdgkdgbdkhnpcaa.X

/-
  The law's own small ones: how much labels are, and what of them can be had.
-/
namespace Go.Proofs.Ytdgkdgbdkhnpcaa.X
open Go.RowKit Go.Proofs.Lys Go.Maps Go.Proofs.Ytdgkdgbdkhnpcaa.N
set_option linter.unusedVariables false
set_option linter.unusedSimpArgs false

theorem num15_any (w : World) (n : Int) : Calls Try.prog 10 #[.int .i64 n] w fun e w' => e = .returned (.int .i64 n) ∧ w' = w := by
  go_enter Try.func10, Try.ntmps10
  go_wp2
  go_ret
  exact ⟨rfl, rfl⟩
def sumN : List Labs → Nat
  | [] => 0
  | l :: r => l.length + sumN r
theorem sumN_app (L : List Labs) (l : Labs) : sumN (L ++ [l]) = sumN L + l.length := by
  induction L with
  | nil => simp [sumN]
  | cons a r ih => simp only [List.cons_append, sumN, ih]; omega
/-- Labels that are not too much. -/
structure Few (L : List Labs) : Prop where
  len : L.length ≤ 300
  each : ∀ l ∈ L, bigN l ≤ 4000
  sum : sumN L ≤ 1500
theorem Few.ok {L : List Labs} (h : Few L) : OkS L := fun l hl => ⟨by have := (bigN_small (h.each l hl)).2; omega, (bigN_small (h.each l hl)).1⟩
def BigX (w : World) (L : List Labs) (e : Ending) (w' : World) : Prop := ∃ b, e = .returned (.bool b) ∧ (b = false → Few L) ∧ Kept w w'

set_option maxRecDepth 100000 in
set_option maxHeartbeats 1600000 in
theorem bigx_any (w : World) (v : Value) (L : List Labs) (hs : LIn w v L) : Calls Try.prog 5 #[v] w (BigX w L) := by
  have HC := hid hs.came
  have hl := hs.len
  have hs := hs.src
  obtain ⟨av, c, rfl⟩ := hs.len
  obtain ⟨N, hN⟩ : ∃ N, L.length = N := ⟨_, rfl⟩
  rw [hN] at hl hs ⊢
  have HN := hid hN
  have HS := hid hs
  have HY : Hid (∀ w', Kept w w' → BigX w L (.returned (.bool true)) w') := fun w' k => ⟨true, rfl, fun h => (by cases h), k⟩
  clear hs hN
  by_cases h1 : 300 < N
  · have d1 : decide ((300 : Int) < (N : Int)) = true := decide_eq_true (by omega)
    go_enter Try.func5, Try.ntmps5
    go_wp2
    go_ret
    exact HY.out _ (Only.refl _ _)
  · have d1 : decide ((300 : Int) < (N : Int)) = false := decide_eq_false (by omega)
    go_enter Try.func5, Try.ntmps5
    go_wp2
    go_loopw [3, 4] (fun s3 s4 wr => ∃ (k n : Nat), k ≤ N ∧ s4 = .int .i64 (k : Int) ∧ s3 = .int .i64 (n : Int) ∧ n = sumN (L.take k) ∧ n ≤ 4000 * k ∧ Hid (∀ i (hi : i < L.length), i < k → bigN L[i] ≤ 4000) ∧ Kept w wr) (fun _ s4 _ => N - (intOf s4).toNat)
    case atStart => exact ⟨0, 0, by omega, rfl, rfl, rfl, by omega, hid (fun i _ h => by omega), Only.refl _ _⟩
    case round =>
      obtain ⟨k, n, hk, rfl, rfl, hn, hn2, hall, kr⟩ := hrel
      have HSUM := hid hn
      have HK := hid kr
      clear hn
      by_cases hlt : k < N
      · have hkL : k < L.length := by have := HN.out; omega
        obtain ⟨b, o, a', c', rfl, x0, hls⟩ := (HS.out.stay kr).cell HN.out k hlt
        have hc := HC.out L[k] (List.getElem_mem hkL)
        have HB := hid (big_any wr _ L[k] hls (by omega) hc.1)
        have hll := bigN_len L[k]
        have hc2 := hc.2
        have HT : Hid (sumN (L.take (k + 1)) = n + L[k].length) := by
          show sumN (L.take (k + 1)) = n + L[k].length
          rw [← List.take_append_getElem hkL, sumN_app, HSUM.out]
        have X0 := hid (fun W (kW : Kept wr W) => kept_cell kW x0)
        clear kr hls hc
        by_cases hb : 4000 < bigN L[k]
        · rw [decide_eq_true hb] at HB
          generalize L[k].length = NL at *
          go_wp2_with fail
          refine HB.out.mono ?_
          rintro e w1 ⟨rfl, k1⟩
          have HF := hid (HY.out w1 (HK.out.trans k1 (fun _ _ f => f)))
          clear k1
          go_wp2
          go_ret
          exact HF.out
        · rw [decide_eq_false hb] at HB
          have HA : Hid (∀ i (hi : i < L.length), i < k + 1 → bigN L[i] ≤ 4000) := fun i hi hik => by
            by_cases e : i = k
            · subst e
              omega
            · exact hall.out i hi (by omega)
          have hb2 : L[k].length ≤ 4000 := by omega
          clear hb hll hall
          generalize L[k].length = NL at *
          go_wp2_with fail
          refine HB.out.mono ?_
          rintro e w1 ⟨rfl, k1⟩
          have x1 := X0.out w1 k1
          have HK1 := hid (HK.out.trans k1 (fun _ _ f => f))
          clear k1
          have e1 : IntKind.i64.wrap ((n : Int) + (NL : Int)) = (n : Int) + (NL : Int) := by rw [IntKind.wrap_i64]; omega
          go_wp2_with fail
          go_roundw
          case rel => exact ⟨k + 1, n + NL, by omega, by go_num, by (try rw [e1]); go_num, HT.out.symm, by omega, HA, HK1.out⟩
          case measure => simp [intOf]; omega
      · have e : k = N := by omega
        subst e
        have HF : Hid (BigX w L (.returned (.bool (decide ((1500 : Int) < (n : Int))))) wr) := by
          refine ⟨_, rfl, fun h => ⟨by have := HN.out; omega, fun l hl => ?_, ?_⟩, HK.out⟩
          · obtain ⟨i, hi, rfl⟩ := List.getElem_of_mem hl
            exact hall.out i hi (by have := HN.out; omega)
          · have h2 := of_decide_eq_false h
            have h3 := HSUM.out
            rw [List.take_of_length_le (by have := HN.out; omega)] at h3
            omega
        clear hall
        go_wp2
        go_ret
        exact HF.out
theorem Made_.ixl {w w' : World} {L : List Labs} {x : IxC} (h : Made_ w L x w') (hc : checkI L = 0) : IxL w' x (fun k => w.heap.size ≤ k ∧ k < w'.heap.size) L :=
  ⟨h.at_, h.is, h.n, (check_zero.1 hc).2.1, (check_zero.1 hc).1⟩
theorem make_ok {w w' : World} {L : List Labs} {e : Ending} (h : MakeP w L e w') (hc : checkI L = 0) : ∃ x, e = .returned (.tuple #[.pointer (some ⟨x.xb, 0, none⟩), .int .i64 0]) ∧ Made_ w L x w' ∧ Kept w w' := by
  obtain ⟨h1 | h1, k⟩ := h
  · obtain ⟨x, h2, h3⟩ := h1.2
    exact ⟨x, h2, h3, k⟩
  · exact absurd hc h1.1
theorem make_no {w w' : World} {L : List Labs} {e : Ending} (h : MakeP w L e w') (hc : checkI L ≠ 0) : e = .returned (.tuple #[.pointer none, .int .i64 (checkI L)]) ∧ Kept w w' := by
  obtain ⟨h1 | h1, k⟩ := h
  · exact absurd h1.1 hc
  · exact ⟨h1.2, k⟩
end Go.Proofs.Ytdgkdgbdkhnpcaa.X

/-
  The example of the document.
-/
namespace Go.Proofs.Ytdgkdgbdkhnpcaa.X
open Go.RowKit Go.Proofs.Lys Go.Maps Go.Proofs.Ytdgkdgbdkhnpcaa.N
set_option linter.unusedVariables false
set_option linter.unusedSimpArgs false

abbrev exL : List Labs := [[(⟨#[97]⟩, ⟨#[49]⟩)], [(⟨#[97]⟩, ⟨#[49]⟩), (⟨#[98]⟩, ⟨#[50]⟩)]]
abbrev exM1 : Mats := [(1, ⟨#[97]⟩, ⟨#[49]⟩)]
abbrev exM2 : Mats := [(2, ⟨#[98]⟩, ⟨#[50]⟩)]
theorem exL_ok : checkI exL = 0 := by decide +kernel
theorem exM1_ok : checkM exM1 = 0 := by decide +kernel
theorem exM2_ok : checkM exM2 = 0 := by decide +kernel
theorem exL_small : OkS exL := by
  intro l hl
  have : l = [(⟨#[97]⟩, ⟨#[49]⟩)] ∨ l = [(⟨#[97]⟩, ⟨#[49]⟩), (⟨#[98]⟩, ⟨#[50]⟩)] := by simpa using hl
  have sm : ∀ x : Lab, x ∈ ([(⟨#[97]⟩, ⟨#[49]⟩), (⟨#[98]⟩, ⟨#[50]⟩)] : Labs) → x.1.size ≤ 100000 ∧ x.2.size ≤ 100000 := by
    intro x hx
    have : x = (⟨#[97]⟩, ⟨#[49]⟩) ∨ x = (⟨#[98]⟩, ⟨#[50]⟩) := by simpa using hx
    rcases this with rfl | rfl <;> decide
  rcases this with rfl | rfl
  · exact ⟨by decide, fun x hx => sm x (by rw [List.mem_singleton.1 hx]; exact List.mem_cons_self ..)⟩
  · exact ⟨by decide, sm⟩
theorem exM1_small : SmallM exM1 := by
  intro x hx
  rw [List.mem_singleton.1 hx]
  decide
theorem exM2_small : SmallM exM2 := by
  intro x hx
  rw [List.mem_singleton.1 hx]
  decide
theorem ex1_sel : Sel [0, 1] (fun i => i < exL.length ∧ ∀ q ∈ exM1, FitI exL q i) := by
  refine ⟨by decide, fun i => ?_⟩
  match i with
  | 0 => exact ⟨fun _ => ⟨by decide, fun q hq => by rw [List.mem_singleton.1 hq]; exact ⟨_, rfl, by decide +kernel⟩⟩, fun _ => by simp⟩
  | 1 => exact ⟨fun _ => ⟨by decide, fun q hq => by rw [List.mem_singleton.1 hq]; exact ⟨_, rfl, by decide +kernel⟩⟩, fun _ => by simp⟩
  | n + 2 => exact ⟨fun h => by simp at h; omega, fun h => by have := h.1; simp at this; omega⟩
theorem ex2_sel : Sel [0] (fun i => i < exL.length ∧ ∀ q ∈ exM2, FitI exL q i) := by
  refine ⟨by decide, fun i => ?_⟩
  match i with
  | 0 => exact ⟨fun _ => ⟨by decide, fun q hq => by rw [List.mem_singleton.1 hq]; exact ⟨_, rfl, by decide +kernel⟩⟩, fun _ => by simp⟩
  | 1 =>
    refine ⟨fun h => by simp at h, fun h => ?_⟩
    obtain ⟨l, e, h2⟩ := h.2 _ (List.mem_singleton.2 rfl)
    cases e
    exact absurd h2 (by decide +kernel)
  | n + 2 => exact ⟨fun h => by simp at h; omega, fun h => by have := h.1; simp at this; omega⟩
theorem exL_src (w : World) : LSrc (((w.alloc (.cells #[.string ⟨#[97]⟩, .string ⟨#[49]⟩] 41)).alloc (.cells #[.string ⟨#[97]⟩, .string ⟨#[49]⟩, .string ⟨#[98]⟩, .string ⟨#[50]⟩] 41)).alloc (.cells #[.slice (some ⟨w.heap.size, 0, none⟩) 1 1, .slice (some ⟨w.heap.size + 1, 0, none⟩) 2 2] 38)) (.slice (some ⟨w.heap.size + 2, 0, none⟩) 2 2) exL := by
  have b1 := Blk.new w [.string ⟨#[97]⟩, .string ⟨#[49]⟩] 41
  have b2 := Blk.new (w.alloc (.cells #[.string ⟨#[97]⟩, .string ⟨#[49]⟩] 41)) [.string ⟨#[97]⟩, .string ⟨#[49]⟩, .string ⟨#[98]⟩, .string ⟨#[50]⟩] 41
  have b3 := Blk.new ((w.alloc (.cells #[.string ⟨#[97]⟩, .string ⟨#[49]⟩] 41)).alloc (.cells #[.string ⟨#[97]⟩, .string ⟨#[49]⟩, .string ⟨#[98]⟩, .string ⟨#[50]⟩] 41)) [.slice (some ⟨w.heap.size, 0, none⟩) 1 1, .slice (some ⟨w.heap.size + 1, 0, none⟩) 2 2] 38
  have s1 : (w.alloc (.cells #[.string ⟨#[97]⟩, .string ⟨#[49]⟩] 41)).heap.size = w.heap.size + 1 := by simp
  have s2 : ((w.alloc (.cells #[.string ⟨#[97]⟩, .string ⟨#[49]⟩] 41)).alloc (.cells #[.string ⟨#[97]⟩, .string ⟨#[49]⟩, .string ⟨#[98]⟩, .string ⟨#[50]⟩] 41)).heap.size = w.heap.size + 2 := by simp
  rw [s1] at b2
  rw [s2] at b3
  have c1 := (b1.alloc (.cells #[.string ⟨#[97]⟩, .string ⟨#[49]⟩, .string ⟨#[98]⟩, .string ⟨#[50]⟩] 41)).alloc (.cells #[.slice (some ⟨w.heap.size, 0, none⟩) 1 1, .slice (some ⟨w.heap.size + 1, 0, none⟩) 2 2] 38)
  have c2 := b2.alloc (.cells #[.slice (some ⟨w.heap.size, 0, none⟩) 1 1, .slice (some ⟨w.heap.size + 1, 0, none⟩) 2 2] 38)
  refine ⟨[.slice (some ⟨w.heap.size, 0, none⟩) 1 1, .slice (some ⟨w.heap.size + 1, 0, none⟩) 2 2], .inr ⟨⟨w.heap.size + 2, 0, none⟩, 2, rfl, fun j u hu => ?_⟩, rfl, fun i h1 h2 => ?_⟩
  · have : j = 0 ∨ j = 1 := by have := (List.getElem?_eq_some_iff.1 hu).1; simp at this; omega
    rcases this with rfl | rfl
    · cases hu
      exact b3.cell 0 rfl
    · cases hu
      exact b3.cell 1 rfl
  · have : i = 0 ∨ i = 1 := by simp at h1; omega
    rcases this with rfl | rfl
    · refine .inr ⟨Nat.zero_lt_succ _, w.heap.size, 0, 1, rfl, fun i hi => ?_⟩
      have : i = 0 := by simp at hi; omega
      subst this
      exact ⟨c1.cell 0 rfl, c1.cell 1 rfl⟩
    · refine .inr ⟨Nat.zero_lt_succ _, w.heap.size + 1, 0, 2, rfl, fun i hi => ?_⟩
      have : i = 0 ∨ i = 1 := by simp at hi; omega
      rcases this with rfl | rfl
      · exact ⟨c2.cell 0 rfl, c2.cell 1 rfl⟩
      · exact ⟨c2.cell 2 rfl, c2.cell 3 rfl⟩
theorem ints_lit2 (w : World) : SrcOf (w.alloc (.cells #[.int .i64 0, .int .i64 1] 3)) (.slice (some ⟨w.heap.size, 0, none⟩) 2 2) (([0, 1] : List Int).map (Value.int .i64)) := by
  have hb := Blk.new w [.int .i64 0, .int .i64 1] 3
  refine .inr ⟨⟨w.heap.size, 0, none⟩, 2, rfl, fun j u hu => ?_⟩
  have : j = 0 ∨ j = 1 := by have := (List.getElem?_eq_some_iff.1 hu).1; simp at this; omega
  rcases this with rfl | rfl
  · cases hu
    exact hb.cell 0 rfl
  · cases hu
    exact hb.cell 1 rfl
theorem ints_lit1 (w : World) : SrcOf (w.alloc (.cells #[.int .i64 0] 3)) (.slice (some ⟨w.heap.size, 0, none⟩) 1 1) (([0] : List Int).map (Value.int .i64)) := by
  have hb := Blk.new w [.int .i64 0] 3
  refine .inr ⟨⟨w.heap.size, 0, none⟩, 1, rfl, fun j u hu => ?_⟩
  have : j = 0 := by have := (List.getElem?_eq_some_iff.1 hu).1; simp at this; omega
  subst this
  cases hu
  exact hb.cell 0 rfl
theorem find_one {w w' : World} {L : List Labs} {m : Mats} {e : Ending} {l : List Int} (h : FindP w L m e w') (hc : checkM m = 0) (hs : Sel l (fun i => i < L.length ∧ ∀ q ∈ m, FitI L q i)) : ∃ u, e = .returned (.tuple #[u, .int .i64 0]) ∧ Po.ISrc w' u l ∧ Kept w w' := by
  obtain ⟨u, l', rfl, h1, _, h3, _, k⟩ := h
  rw [hc]
  have : l' = l := Sel.ext (h3 hc) hs (fun i => Iff.rfl)
  subst this
  exact ⟨u, rfl, h1, k⟩

set_option maxRecDepth 100000 in
set_option maxHeartbeats 3200000 in
theorem xalive_any (w : World) : Calls Try.prog 4 #[] w fun e w' => e = .returned (.bool true) ∧ Kept w w' := by
  have HM := hid (make_ix _ _ exL (exL_src w) (by decide) exL_small)
  have HK0 := hid (show Kept w (((w.alloc (.cells #[.string ⟨#[97]⟩, .string ⟨#[49]⟩] 41)).alloc (.cells #[.string ⟨#[97]⟩, .string ⟨#[49]⟩, .string ⟨#[98]⟩, .string ⟨#[50]⟩] 41)).alloc (.cells #[.slice (some ⟨w.heap.size, 0, none⟩) 1 1, .slice (some ⟨w.heap.size + 1, 0, none⟩) 2 2] 38)) from (((Only.refl (fun _ => False) w).alloc _).alloc _).alloc _)
  have HN := hid num15_any
  go_enter Try.func4, Try.ntmps4
  go_wp2_with fail
  generalize (((w.alloc (.cells #[.string ⟨#[97]⟩, .string ⟨#[49]⟩] 41)).alloc (.cells #[.string ⟨#[97]⟩, .string ⟨#[49]⟩, .string ⟨#[98]⟩, .string ⟨#[50]⟩] 41)).alloc (.cells #[.slice (some ⟨w.heap.size, 0, none⟩) 1 1, .slice (some ⟨w.heap.size + 1, 0, none⟩) 2 2] 38)) = w0 at HM HK0 ⊢
  refine HM.out.mono ?_
  intro e w1 h1
  obtain ⟨x, rfl, hmd, k1⟩ := make_ok h1 exL_ok
  have HX := hid (hmd.ixl exL_ok)
  have HK1 := hid (HK0.out.trans k1 (fun _ _ f => f))
  clear hmd k1 HM HK0 h1
  have HF1 := hid (find_ix (HX.out.stay ((Only.refl (fun _ => False) w1).alloc (.cells #[.int .i64 1, .string ⟨#[97]⟩, .string ⟨#[49]⟩] 43))) _ exM1 (mat_lit w1 (1, ⟨#[97]⟩, ⟨#[49]⟩)) (by decide) exM1_small)
  have HK2 := hid (HK1.out.alloc (.cells #[.int .i64 1, .string ⟨#[97]⟩, .string ⟨#[49]⟩] 43))
  have HX2 := hid (HX.out.stay ((Only.refl (fun _ => False) w1).alloc (.cells #[.int .i64 1, .string ⟨#[97]⟩, .string ⟨#[49]⟩] 43)))
  clear HX HK1
  generalize hXB : x.xb = XB at *
  have HXB := hid hXB
  clear hXB
  go_wp2_with fail
  refine (HN.out _ _).mono ?_
  rintro e w' ⟨rfl, hw⟩
  replace hw := hw.symm
  subst hw
  go_wp2_with fail
  generalize w1.alloc (.cells #[.int .i64 1, .string ⟨#[97]⟩, .string ⟨#[49]⟩] 43) = w2 at HF1 HK2 HX2 ⊢
  refine HF1.out.mono ?_
  intro e w3 h3
  obtain ⟨u3, rfl, hs3, k3⟩ := find_one h3 exM1_ok ex1_sel
  have HK3 := hid (HK2.out.trans k3 (fun _ _ f => f))
  have HX3 := hid (HX2.out.stay k3)
  obtain ⟨a3, c3, e3, _⟩ := hs3.2
  have e3' : u3 = .slice a3 2 c3 := e3
  clear e3
  subst e3'
  have HS3 := hid hs3
  clear h3 hs3 k3 HF1 HK2 HX2
  have HF2 := hid (find_ix (HX3.out.stay ((Only.refl (fun _ => False) w3).alloc (.cells #[.int .i64 2, .string ⟨#[98]⟩, .string ⟨#[50]⟩] 43))) _ exM2 (mat_lit w3 (2, ⟨#[98]⟩, ⟨#[50]⟩)) (by decide) exM2_small)
  rw [HXB.out] at HF2
  have HK4 := hid (HK3.out.alloc (.cells #[.int .i64 2, .string ⟨#[98]⟩, .string ⟨#[50]⟩] 43))
  have HS4 := hid (HS3.out.stay ((Only.refl (fun _ => False) w3).alloc (.cells #[.int .i64 2, .string ⟨#[98]⟩, .string ⟨#[50]⟩] 43)))
  clear HX3 HK3 HS3
  go_wp2_with fail
  generalize w3.alloc (.cells #[.int .i64 2, .string ⟨#[98]⟩, .string ⟨#[50]⟩] 43) = w4 at HF2 HK4 HS4 ⊢
  refine HF2.out.mono ?_
  intro e w5 h5
  obtain ⟨u5, rfl, hs5, k5⟩ := find_one h5 exM2_ok ex2_sel
  have HK5 := hid (HK4.out.trans k5 (fun _ _ f => f))
  have HS3 := hid (HS4.out.stay k5)
  obtain ⟨a5, c5, e5, _⟩ := hs5.2
  have e5' : u5 = .slice a5 1 c5 := e5
  clear e5
  subst e5'
  have HS5 := hid hs5
  clear h5 hs5 k5 HF2 HK4 HS4
  go_wp2_with fail
  refine (HN.out _ _).mono ?_
  rintro e w' ⟨rfl, hw⟩
  replace hw := hw.symm
  subst hw
  go_wp2_with fail
  refine (HN.out _ _).mono ?_
  rintro e w' ⟨rfl, hw⟩
  replace hw := hw.symm
  subst hw
  have HQ1 := hid (Po.same_any _ _ _ [0, 1] ((HS3.out.stay ((Only.refl (fun _ => False) w5).alloc (.cells #[.int .i64 0, .int .i64 1] 3))).1) (ints_lit2 w5) (by decide))
  have HK6 := hid (HK5.out.alloc (.cells #[.int .i64 0, .int .i64 1] 3))
  have HS6 := hid (HS5.out.stay ((Only.refl (fun _ => False) w5).alloc (.cells #[.int .i64 0, .int .i64 1] 3)))
  clear HS3 HS5 HK5
  go_wp2_with fail
  generalize w5.alloc (.cells #[.int .i64 0, .int .i64 1] 3) = w6 at HQ1 HK6 HS6 ⊢
  refine HQ1.out.mono ?_
  rintro e w7 ⟨rfl, k7⟩
  have HK7 := hid (HK6.out.trans k7 (fun _ _ f => f))
  have HQ2 := hid (Po.same_any _ _ _ [0] (((HS6.out.stay k7).stay ((Only.refl (fun _ => False) w7).alloc (.cells #[.int .i64 0] 3))).1) (ints_lit1 w7) (by decide))
  have HK8 := hid (HK7.out.alloc (.cells #[.int .i64 0] 3))
  clear k7 HQ1 HK6 HK7 HS6
  go_wp2_with fail
  generalize w7.alloc (.cells #[.int .i64 0] 3) = w8 at HQ2 HK8 ⊢
  refine HQ2.out.mono ?_
  rintro e w9 ⟨rfl, k9⟩
  have HK9 := hid (HK8.out.trans k9 (fun _ _ f => f))
  clear k9
  go_wp2
  go_ret
  exact ⟨rfl, HK9.out⟩
end Go.Proofs.Ytdgkdgbdkhnpcaa.X

/-
  What the law IndexFinds walks through.
-/
namespace Go.Proofs.Ytdgkdgbdkhnpcaa.X
open Go.RowKit Go.Proofs.Lys Go.Maps Go.Proofs.Ytdgkdgbdkhnpcaa.N
set_option linter.unusedVariables false
set_option linter.unusedSimpArgs false

/-- How many numbers are below one. -/
def cntB (l : List Int) (i : Int) : Nat := (l.filter (fun x => decide (x < i))).length
theorem cnt_none {l : List Int} {i : Int} (h : ∀ x ∈ l, i ≤ x) : cntB l i = 0 := by
  unfold cntB
  rw [List.length_eq_zero_iff, List.filter_eq_nil_iff]
  intro x hx
  have := h x hx
  simp
  omega
theorem cnt_all {l : List Int} {i : Int} (h : ∀ x ∈ l, x < i) : cntB l i = l.length := by
  unfold cntB
  rw [List.filter_eq_self.2]
  intro x hx
  simpa using h x hx
theorem cnt_cons (a : Int) (t : List Int) (i : Int) : cntB (a :: t) i = (if a < i then 1 else 0) + cntB t i := by
  unfold cntB
  rw [List.filter_cons]
  by_cases h : a < i
  · rw [if_pos (decide_eq_true h), if_pos h, List.length_cons]
    omega
  · rw [if_neg (by simpa using h), if_neg h]
    omega
theorem cnt_in : ∀ {l : List Int} {last i : Int}, Po.upB last l = true → i ∈ l → ∃ h : cntB l i < l.length, l[cntB l i] = i ∧ cntB l (i + 1) = cntB l i + 1
  | a :: t, last, i, hu, hi => by
    have hz := Po.up_cons.1 hu
    have hgt : ∀ x ∈ t, a < x := fun x hx => (Po.up_mem hz.2.2 hx).1
    rcases List.mem_cons.1 hi with e | e
    · subst e
      have h0 : cntB (i :: t) i = 0 := cnt_none (fun x hx => by
        rcases List.mem_cons.1 hx with e | e
        · omega
        · have := hgt x e; omega)
      have h1 : cntB t (i + 1) = 0 := cnt_none (fun x hx => by have := hgt x hx; omega)
      refine ⟨by rw [h0]; simp, by simp only [h0]; rfl, ?_⟩
      rw [h0, cnt_cons, h1, if_pos (by omega)]
    · obtain ⟨h1, h2, h3⟩ := cnt_in hz.2.2 e
      have ha := hgt i e
      have hc : cntB (a :: t) i = cntB t i + 1 := by rw [cnt_cons, if_pos ha]; omega
      refine ⟨by rw [hc, List.length_cons]; omega, ?_, ?_⟩
      · simp only [hc, List.getElem_cons_succ]
        exact h2
      · rw [cnt_cons, if_pos (by omega), h3, hc]
        omega
theorem cnt_not {l : List Int} {i : Int} (h : i ∉ l) : cntB l (i + 1) = cntB l i := by
  unfold cntB
  congr 1
  refine List.filter_congr (fun x hx => ?_)
  have : x ≠ i := fun e => h (by rw [← e]; exact hx)
  rw [decide_eq_decide]
  omega
theorem fits_fit {L : List Labs} {m : Mats} (hc : checkM m = 0) {i : Nat} (hi : i < L.length) : fitsB m L[i] = true ↔ (i < L.length ∧ ∀ q ∈ m, FitI L q i) := by
  unfold fitsB
  rw [decide_eq_true hc, Bool.true_and, List.all_eq_true]
  constructor
  · intro h
    exact ⟨hi, fun q hq => ⟨L[i], List.getElem?_eq_getElem hi, h q hq⟩⟩
  · rintro ⟨_, h⟩ q hq
    obtain ⟨l, e, h2⟩ := h q hq
    rw [List.getElem?_eq_getElem hi] at e
    cases e
    exact h2

set_option maxRecDepth 100000 in
set_option maxHeartbeats 6400000 in
theorem finds15_walk (w : World) (v u : Value) (L : List Labs) (m : Mats) (hs : LIn w v L) (hm : InM w u m) :
    Calls Try.prog 3 #[v, u] w fun e w' => e = .returned (.bool true) ∧ Kept w w' := by
  have HA := hid (xalive_any w)
  have HBX := hid (fun W (k : Kept w W) => bigx_any W v L ⟨by
    obtain ⟨vs, h1, h2, h3⟩ := hs.in_
    exact ⟨vs, h1.stay k, h2, fun i a b => ⟨((h3 i a b).src).stay k, (h3 i a b).came, (h3 i a b).len⟩⟩, hs.len⟩)
  have HBM := hid (fun W (k : Kept w W) => mbig_any W u m (hm.src.stay k) (by have := hm.len; omega) hm.came)
  have HLS := hid hs.src
  have HMS := hid hm.src
  obtain ⟨av, cv, rfl⟩ := hs.src.len
  obtain ⟨au, cu, rfl⟩ := hm.src.len
  have hlN := hs.len
  have HNUM := hid num15_any
  clear hs hm
  obtain ⟨N, hN⟩ : ∃ N, L.length = N := ⟨_, rfl⟩
  obtain ⟨M, hM⟩ : ∃ M, m.length = M := ⟨_, rfl⟩
  rw [hN] at HBX HLS hlN ⊢
  rw [hM] at HBM HMS ⊢
  have HN := hid hN
  have HM := hid hM
  clear hN hM
  go_enter Try.func3, Try.ntmps3
  go_wp2_with fail
  refine HA.out.mono ?_
  rintro e w1 ⟨rfl, k1⟩
  have K1 := hid k1
  clear k1 HA
  go_wp2_with fail
  refine (HBX.out w1 K1.out).mono ?_
  rintro e w2 ⟨b, rfl, hfew, k2⟩
  have K2 := hid (K1.out.trans k2 (fun _ _ f => f))
  clear k2 K1 HBX
  cases b with
  | true =>
    clear hfew
    go_wp2
    go_ret
    exact ⟨rfl, K2.out⟩
  | false =>
    have HFEW := hid (hfew rfl)
    clear hfew
    have hN3 : N ≤ 300 := by have h1 := HFEW.out.len; have h2 := HN.out; omega
    go_wp2_with fail
    refine (HBM.out w2 K2.out).mono ?_
    rintro e w3 ⟨rfl, k3⟩
    have K3 := hid (K2.out.trans k3 (fun _ _ f => f))
    clear k3 K2 HBM
    by_cases hbm : 4000 < bigM m
    · rw [decide_eq_true hbm]
      go_wp2
      go_ret
      exact ⟨rfl, K3.out⟩
    · rw [decide_eq_false hbm]
      have HSM := hid (bigM_small (l := m) (by omega))
      clear hbm
      have HCK := hid (rcheckI_any w3 _ L (HLS.out.stay K3.out) (by have := HN.out; omega) HFEW.out.ok)
      by_cases hck : checkI L = 0
      · rw [hck] at HCK
        have HCI := hid hck
        clear hck
        go_wp2_with fail
        refine HCK.out.mono ?_
        rintro e w4 ⟨rfl, k4⟩
        have K4 := hid (K3.out.trans k4 (fun _ _ f => f))
        clear k4 K3 HCK
        have HMK := hid (make_ix w4 _ L (HLS.out.stay K4.out) (by have := HN.out; omega) HFEW.out.ok)
        go_wp2_with fail
        refine HMK.out.mono ?_
        intro e w5 h5
        obtain ⟨x, rfl, hmd, k5⟩ := make_ok h5 HCI.out
        have K5 := hid (K4.out.trans k5 (fun _ _ f => f))
        have HFD := hid (find_ix (hmd.ixl HCI.out) _ m (HMS.out.stay K5.out) (by have h1 := HSM.out.2; omega) HSM.out.1)
        clear h5 hmd k5 K4 HMK
        generalize x.xb = XB at *
        go_wp2_with fail
        refine HFD.out.mono ?_
        intro e w6 h6
        obtain ⟨g, l, rfl, hg, hl0, hl1, hl2, k6⟩ := h6
        have K6 := hid (K5.out.trans k6 (fun _ _ f => f))
        have HG := hid hg.1
        obtain ⟨ag, cg, eg, _⟩ := hg.2
        have HL0 := hid hl0
        have HL1 := hid hl1
        clear hl0 hl1 hg k6 K5 HFD
        subst eg
        have HRC := hid (rcheck_any w6 _ m (HMS.out.stay K6.out) (by have h1 := HSM.out.2; omega) HSM.out.1)
        by_cases hcm : checkM m = 0
        · have HSEL := hid (HL1.out hcm)
          have HCM := hid hcm
          rw [hcm] at HRC ⊢
          clear HL0 HL1 hcm
          obtain ⟨G, hG⟩ : ∃ G, l.length = G := ⟨_, rfl⟩
          rw [hG] at hl2 HG ⊢
          have HGL := hid hG
          have hGN : G ≤ N := by have := HN.out; omega
          clear hG
          go_wp2_with fail
          refine (HNUM.out _ _).mono ?_
          rintro e w' ⟨rfl, hw⟩
          replace hw := hw.symm
          subst hw
          go_wp2_with fail
          refine HRC.out.mono ?_
          rintro e w' ⟨rfl, hw⟩
          replace hw := hw.symm
          subst hw
          go_wp2_with fail
          refine (HNUM.out _ _).mono ?_
          rintro e w' ⟨rfl, hw⟩
          replace hw := hw.symm
          subst hw
          go_wp2_with fail
          go_loopw [11, 12] (fun s11 s12 wr => ∃ (i k : Nat), i ≤ N ∧ k ≤ 300 ∧ s12 = .int .i64 (i : Int) ∧ s11 = .int .i64 (k : Int) ∧ k = cntB l (i : Int) ∧ Kept w6 wr) (fun _ s12 _ => N - (intOf s12).toNat)
          case atStart =>
            refine ⟨0, 0, by omega, by omega, rfl, rfl, (cnt_none (fun x hx => ?_)).symm, Only.refl _ _⟩
            have := (Po.up_mem HSEL.out.up hx).1
            omega
          case round =>
            obtain ⟨i, k, hi, hk, rfl, rfl, hkc, kr⟩ := hrel
            have HKC := hid hkc
            have KR := hid kr
            clear hkc
            by_cases hlt : i < N
            · have hiL : i < L.length := by have := HN.out; omega
              have KW := hid (K6.out.trans kr (fun _ _ f => f))
              obtain ⟨b, o, a', c', rfl, x0, hls⟩ := (HLS.out.stay KW.out).cell HN.out i hlt
              have HFT := hid (rfits_any wr _ _ m L[i] (HMS.out.stay KW.out) (by have h1 := HSM.out.2; omega) HSM.out.1 hls (by have := (HFEW.out.ok L[i] (List.getElem_mem hiL)).1; omega))
              have HIN := hid ((fits_fit (L := L) HCM.out hiL).trans (HSEL.out.iff i).symm)
              generalize L[i].length = NL at *
              clear kr hls
              cases hf : fitsB m L[i] with
              | false =>
                rw [hf] at HFT
                have HNX : Hid (k = cntB l ((i + 1 : Nat) : Int)) := by
                  show k = cntB l ((i + 1 : Nat) : Int)
                  rw [Int.natCast_add, HKC.out]
                  exact (cnt_not (fun h => by have := HIN.out.2 h; rw [hf] at this; cases this)).symm
                clear hf HIN
                go_wp2_with fail
                refine HFT.out.mono ?_
                rintro e w7 ⟨rfl, k7⟩
                have K7 := hid (KR.out.trans k7 (fun _ _ f => f))
                clear k7
                go_wp2_with fail
                go_roundw
                case rel => exact ⟨i + 1, k, by omega, hk, by go_num, rfl, HNX.out, K7.out⟩
                case measure => simp [intOf]; omega
              | true =>
                rw [hf] at HFT
                obtain ⟨hc1, hc2, hc3⟩ := cnt_in HSEL.out.up (HIN.out.1 hf)
                have hcG : cntB l (i : Int) < G := by have := HGL.out; omega
                have hkG : k < G := by have := HKC.out; omega
                have HNX : Hid (k + 1 = cntB l ((i + 1 : Nat) : Int)) := by
                  show k + 1 = cntB l ((i + 1 : Nat) : Int)
                  rw [Int.natCast_add, HKC.out]
                  exact hc3.symm
                have HX0 : Hid (∀ W, Kept wr W → ∃ bg og, ag = some ⟨bg, og, none⟩ ∧ W.cell? ⟨bg, og + k, none⟩ = some (.int .i64 (i : Int))) := fun W kW => by
                  have h1 := (HG.out.stay (KR.out.trans kW (fun _ _ f => f)))
                  rcases h1.shape with ⟨h2, _⟩ | ⟨_, bg, og, c2, h2, h3⟩
                  · exfalso
                    have := List.map_eq_nil_iff.1 h2
                    rw [this] at hc1
                    simp at hc1
                  · simp only [Value.slice.injEq] at h2
                    refine ⟨bg, og, h2.1, ?_⟩
                    have := h3 k (.int .i64 (i : Int)) (by
                      have hkl : k < l.length := by have := HGL.out; omega
                      rw [List.getElem?_map, List.getElem?_eq_getElem hkl]
                      have e1 : l[k] = l[cntB l (i : Int)] := by simp only [← HKC.out]
                      rw [e1, hc2]
                      rfl)
                    exact this
                clear hf HIN hc1 hc2 hc3
                have hk3 : decide ((G : Int) ≤ (k : Int)) = false := decide_eq_false (by omega)
                go_wp2_with fail
                refine HFT.out.mono ?_
                rintro e w7 ⟨rfl, k7⟩
                have K7 := hid (KR.out.trans k7 (fun _ _ f => f))
                obtain ⟨bg, og, rfl, x7⟩ := HX0.out w7 k7
                clear k7
                go_wp2_with fail
                go_roundw
                case rel => exact ⟨i + 1, k + 1, by omega, by omega, by go_num, by go_num, HNX.out, K7.out⟩
                case measure => simp [intOf]; omega
            · have e : i = N := by omega
              subst e
              have hkG : k = G := by
                rw [HKC.out, cnt_all, HGL.out]
                intro y hy
                have h0 := (Po.up_mem HSEL.out.up hy).1
                obtain ⟨n, rfl⟩ : ∃ n : Nat, y = (n : Int) := ⟨y.toNat, by omega⟩
                have := ((HSEL.out.iff n).1 hy).1
                have := HN.out
                omega
              subst hkG
              have KF := hid (K6.out.trans kr (fun _ _ f => f))
              go_wp2
              go_ret
              exact ⟨rfl, KF.out⟩
        · have hl : l = [] := HL0.out hcm
          subst hl
          generalize checkM m = C at HRC hcm ⊢
          clear HL0 HL1
          have hC : (C != 0) = true := by simpa using hcm
          have hC1 : (C != C) = false := by simp
          have hC2 : (C == 0) = false := by simpa using hcm
          go_wp2_with fail
          refine (HNUM.out _ _).mono ?_
          rintro e w' ⟨rfl, hw⟩
          replace hw := hw.symm
          subst hw
          go_wp2_with fail
          refine HRC.out.mono ?_
          rintro e w' ⟨rfl, hw⟩
          replace hw := hw.symm
          subst hw
          go_wp2_with fail
          refine (HNUM.out _ _).mono ?_
          rintro e w' ⟨rfl, hw⟩
          replace hw := hw.symm
          subst hw
          go_wp2
          go_ret
          exact ⟨rfl, K6.out⟩
      · generalize checkI L = C at HCK hck
        have hC : (C != 0) = true := by simpa using hck
        go_wp2_with fail
        refine HCK.out.mono ?_
        rintro e w4 ⟨rfl, k4⟩
        have K4 := hid (K3.out.trans k4 (fun _ _ f => f))
        clear k4
        go_wp2
        go_ret
        exact ⟨rfl, K4.out⟩
end Go.Proofs.Ytdgkdgbdkhnpcaa.X
