/-
  Which names can be; Check.
-/
import Derived.Test.YtdgkdgbdkhnpcaaGreatMkind
namespace Go.Proofs.YtdgkdgbdkhnpcaaGreat.N
open Go.RowKit Go.Proofs.Lys
set_option linter.unusedVariables false
set_option linter.unusedSimpArgs false

theorem make_one (s : ByteArray) : makeL [(s, ⟨#[118]⟩)] = if nameOk s then some [(s, ⟨#[118]⟩)] else none := by
  have hv : valOk ⟨#[118]⟩ = true := by decide
  unfold makeL
  rw [if_neg (by simp)]
  by_cases h : nameOk s = true
  · rw [if_pos h, if_pos (by simp [labOk, h, hv])]
    rfl
  · rw [if_neg h, if_neg (by simp [labOk, h])]
set_option maxRecDepth 100000 in
theorem misName_any (w : World) (s : ByteArray) (hs : s.size ≤ 100000) : Calls Tryz.prog 69 #[.string s] w fun e w' => e = .returned (.bool (nameOk s)) ∧ Kept w w' := by
  have H := hid (make_any _ _ _ (lab_lit w (s, ⟨#[118]⟩)) (by simp) (fun x hx => by rw [List.mem_singleton.1 hx]; exact ⟨hs, by show (1 : Nat) ≤ 100000; decide⟩))
  rw [make_one] at H
  have HK := hid ((Only.refl (fun _ => False) w).alloc (.cells #[.string s, .string ⟨#[118]⟩] 27))
  go_enter Tryz.func69, Tryz.ntmps69
  go_wp2_with fail
  refine H.out.mono ?_
  rintro e w1 ⟨⟨u, n, rfl, hA⟩, k1⟩
  have HK1 := hid (HK.out.trans k1 (fun _ _ f => f))
  clear k1 H
  cases hn : nameOk s with
  | true =>
    rw [hn] at hA
    obtain ⟨rfl, hat⟩ := hA
    obtain ⟨oa, oc, rfl⟩ := ownN_slice hat
    clear hat
    go_wp2
    go_ret
    exact ⟨by rw [hn]; rfl, HK1.out⟩
  | false =>
    rw [hn] at hA
    obtain ⟨rfl, rfl⟩ := hA
    go_wp2
    go_ret
    exact ⟨by rw [hn]; rfl, HK1.out⟩

/-- Matchers of texts that are not too long. -/
def SmallM (l : Mats) : Prop := ∀ x ∈ l, x.2.1.size ≤ 100000 ∧ x.2.2.size ≤ 100000
theorem check_bad {l : Mats} {k : Nat} (hk : k < l.length) (h8 : l.length ≤ 8) (h : matOk l[k] = false) : checkM l = 20 := by
  unfold checkM
  rw [if_neg (by omega), if_neg]
  intro hall
  have := List.all_eq_true.1 hall _ (List.getElem_mem hk)
  rw [h] at this
  cases this
theorem check_good {l : Mats} (h8 : l.length ≤ 8) (h : ∀ k (hk : k < l.length), matOk l[k] = true) : checkM l = 0 := by
  refine checkM_zero.2 ⟨h8, fun m hm => ?_⟩
  obtain ⟨k, hk, rfl⟩ := List.getElem_of_mem hm
  exact h k hk
theorem rowK_at (n : Int) (h : kindOk n = true) : ∃ M f, rowK n = #[.string M, .int .i64 (roomN n : Nat), .func (.func f) #[] #[]] := by
  simp only [kindOk, Bool.and_eq_true, decide_eq_true_eq] at h
  have : n = 1 ∨ n = 2 ∨ n = 3 ∨ n = 4 := by omega
  rcases this with rfl | rfl | rfl | rfl
  · exact ⟨⟨#[61]⟩, 107, rfl⟩
  · exact ⟨⟨#[33, 61]⟩, 108, rfl⟩
  · exact ⟨⟨#[94, 61]⟩, 109, rfl⟩
  · exact ⟨⟨#[]⟩, 110, rfl⟩
theorem rowK_no (n : Int) (h : kindOk n = false) : rowK n = #[.string ⟨#[]⟩, .int .i64 0, .nilFunc] := by
  have : ¬ (1 ≤ n ∧ n ≤ 4) := fun ⟨h1, h2⟩ => by
    simp [kindOk, h1, h2] at h
  unfold rowK
  rw [if_neg (by omega), if_neg (by omega), if_neg (by omega), if_neg (by omega)]

set_option maxRecDepth 100000 in
set_option maxHeartbeats 1600000 in
theorem mcheck_any (w : World) (v : Value) (l : Mats) (hs : MatSrc w v l) (hl : l.length ≤ 100000) (hB : SmallM l) :
    Calls Tryz.prog 45 #[v] w fun e w' => e = .returned (.int .i64 (checkM l)) ∧ Kept w w' := by
  obtain ⟨a1, c1, rfl⟩ := hs.len
  obtain ⟨L, hL⟩ : ∃ L, l.length = L := ⟨_, rfl⟩
  rw [hL] at hs hl ⊢
  have HS := hid hs
  have HL := hid hL
  have HB := hid hB
  clear hs hL hB
  by_cases h8 : L ≤ 8
  · have H1 : Hid (∀ k (hk : k < l.length), matOk l[k] = false → checkM l = 20) := fun k hk h => check_bad hk (by have := HL.out; omega) h
    have H2 : Hid ((∀ k (hk : k < l.length), matOk l[k] = true) → checkM l = 0) := fun h => check_good (by have := HL.out; omega) h
    generalize checkM l = C at H1 H2 ⊢
    have h8' : ¬ ((8 : Int) < (L : Int)) := by omega
    go_enter Tryz.func45, Tryz.ntmps45
    go_wp2
    go_loopw [12] (fun s wr => ∃ (k : Nat), k ≤ L ∧ s = .int .i64 (k : Int) ∧ (∀ i (hi : i < l.length), i < k → matOk l[i] = true) ∧ Kept w wr) (fun s _ => L - (intOf s).toNat)
    case atStart => exact ⟨0, by omega, rfl, fun i _ h => absurd h (by omega), Only.refl _ _⟩
    case round =>
      obtain ⟨k, hk, rfl, hok, kr⟩ := hrel
      have HO := hid hok
      have HK := hid kr
      by_cases hlt : k < L
      · have hkl : k < l.length := by have := HL.out; omega
        obtain ⟨b1, o1, rfl, x1, y1, z1⟩ := (HS.out.stay kr).cell HL.out k hlt
        have hbd := HB.out _ (List.getElem_mem hkl)
        have HF := hid (fun h => H1.out k hkl h)
        have HT : Hid (matOk (l[k]'hkl) = true → ∀ i (hi : i < l.length), i < k + 1 → matOk l[i] = true) := fun h i hi hik => by
          by_cases e : i < k
          · exact HO.out i hi e
          · have : i = k := by omega
            subst this
            exact h
        clear hok kr
        generalize l[k]'hkl = x at x1 y1 z1 HF HT hbd
        obtain ⟨N, X, Y⟩ := x
        simp only at x1 y1 z1 hbd
        have Hk := hid (fun W => kindOf_any W N)
        have Hn := hid (fun W => misName_any W X (by omega))
        have e : matOk (N, X, Y) = (kindOk N && nameOk X && decide (Y.size ≤ roomN N)) := rfl
        rw [e] at HF HT
        go_wp2_with fail
        refine (Hk.out _).mono ?_
        rintro e1 w1 ⟨rfl, k1⟩
        have HB1 := Only.blk k1 (Blk.new wr [.int .i64 N, .string X, .string Y] 52) (fun f => f)
        have HK1 := hid ((HK.out.alloc _).trans k1 (fun _ _ f => f))
        clear k1 Hk
        cases hkn : kindOk N with
        | false =>
          rw [hkn] at HF
          have hmk := hid (HF.out rfl)
          rw [rowK_no N hkn]
          go_wp2
          go_ret
          exact ⟨by rw [hmk.out]; rfl, HK1.out.alloc _⟩
        | true =>
          rw [hkn] at HF HT
          obtain ⟨M, f, hrow⟩ := rowK_at N hkn
          rw [hrow]
          have hlt1 := HB1.lt
          have b1' := HB1.cell 1 rfl
          have b2' := HB1.cell 2 rfl
          have hrl : roomN N ≤ 64 := by unfold roomN; split <;> omega
          generalize roomN N = R at HF HT hrl ⊢
          go_wp2_with (go_at_call 69; refine (Hn.out _).mono ?_)
          rintro e2 w2 ⟨rfl, k2⟩
          have HB2 := Only.blk k2 (Only.blk ((Only.refl (fun _ => False) w1).alloc (.cells #[.string M, .int .i64 (R : Int), .func (.func f) #[] #[]] 119)) HB1 (fun h => h)) (fun h => h)
          have HB3 := Only.blk k2 (Blk.new w1 [.string M, .int .i64 (R : Int), .func (.func f) #[] #[]] 119) (fun h => h)
          have HK2 := hid ((HK1.out.alloc _).trans k2 (fun _ _ f => f))
          have d2 := HB2.cell 2 rfl
          have d3 := HB3.cell 1 rfl
          clear k2 HB1 HB2 HB3 b1' b2'
          cases hn : nameOk X with
          | false =>
            rw [hn] at HF
            have hmk := hid (HF.out rfl)
            go_wp2
            go_ret
            exact ⟨by rw [hmk.out]; rfl, HK2.out⟩
          | true =>
            rw [hn] at HF HT
            by_cases hr : Y.size ≤ R
            · rw [decide_eq_true hr] at HT
              have HT2 := hid (HT.out rfl)
              have hr' : ¬ ((R : Int) < (Y.size : Int)) := by omega
              go_wp2
              all_goals try (exfalso; omega)
              refine ⟨⟨k + 1, by omega, by go_num, HT2.out, HK2.out⟩, ?_⟩
              simp [intOf]
              omega
            · rw [decide_eq_false hr] at HF
              have hmk := hid (HF.out rfl)
              have hr' : (R : Int) < (Y.size : Int) := by omega
              go_wp2
              all_goals try (exfalso; omega)
              go_ret
              exact ⟨by rw [hmk.out]; rfl, HK2.out⟩
      · have e : k = L := by omega
        subst e
        have hmk := hid (H2.out (fun i hi => HO.out i hi (by have := HL.out; omega)))
        go_wp2
        go_ret
        exact ⟨by rw [hmk.out]; rfl, kr⟩
  · have hmk : Hid (checkM l = 2) := by refine hid ?_; unfold checkM; rw [if_pos (by have := HL.out; omega)]
    have h8' : (8 : Int) < (L : Int) := by omega
    go_enter Tryz.func45, Tryz.ntmps45
    go_wp2
    go_ret
    exact ⟨by rw [hmk.out]; rfl, Only.refl _ _⟩
end Go.Proofs.YtdgkdgbdkhnpcaaGreat.N
