/-
  The document's own Parse of matchers.
-/
import Derived.Test.YtbdcaikcdhfdoaaMrtext
import Derived.Test.YtbdcaikcdhfdoaaNrparse
import Derived.Test.YtbdcaikcdhfdoaaMparse
import Derived.Deep.CutRange
namespace Go.Proofs.Ytbdcaikcdhfdoaa.N
open Go.RowKit Go.Proofs.Lys
set_option linter.unusedVariables false
set_option linter.unusedSimpArgs false

/-- How far the document's own reader is. -/
structure Rm (s : ByteArray) (R : Option Mats) (k : Nat) (acc : Mats) (p : Nat) : Prop where
  len : acc.length = k
  k9 : k ≤ 9
  ps : p ≤ s.size
  sm : SmallM acc
  eq : R = rmread (9 - k) acc (s.data.toList.drop p)
theorem Rm.full {s : ByteArray} {R : Option Mats} {k : Nat} {acc : Mats} {p : Nat} (h : Rm s R k acc p) (hk : ¬ k ≤ 8) : R = some acc := by
  rw [h.eq, show 9 - k = 0 by have := h.k9; omega]
  rfl
theorem Rm.bad {s : ByteArray} {R : Option Mats} {k : Nat} {acc : Mats} {p : Nat} (h : Rm s R k acc p) (hk : k ≤ 8) (hn : rmatR (s.data.toList.drop p) = none) : R = none := by
  rw [h.eq, show 9 - k = (8 - k) + 1 by omega, rmread, hn]
theorem Rm.last {s : ByteArray} {R : Option Mats} {k : Nat} {acc : Mats} {p e : Nat} {m : Mat} (h : Rm s R k acc p) (hk : k ≤ 8) (hn : rmatR (s.data.toList.drop p) = some (m, s.data.toList.drop e)) (hc : ∀ he : e < s.size, (s[e]'he).toNat ≠ 44) : R = some (acc ++ [m]) := by
  rw [h.eq, show 9 - k = (8 - k) + 1 by omega, rmread, hn]
  by_cases he : e < s.size
  · rw [drop_more s e he]
    simp only
    rw [if_neg (hc he)]
  · rw [List.drop_of_length_le (by rw [← Lib.size_eq]; omega)]
theorem Rm.more {s : ByteArray} {R : Option Mats} {k : Nat} {acc : Mats} {p e : Nat} {m : Mat} (h : Rm s R k acc p) (hk : k ≤ 8) (hn : rmatR (s.data.toList.drop p) = some (m, s.data.toList.drop e)) (he : e < s.size) (hc : (s[e]'he).toNat = 44) (hm : m.2.1.size ≤ 100000 ∧ m.2.2.size ≤ 100000) : Rm s R (k + 1) (acc ++ [m]) (e + 1) := by
  refine ⟨by rw [List.length_append, h.len]; rfl, by omega, by omega, fun y hy => ?_, ?_⟩
  · rcases List.mem_append.1 hy with hy | hy
    · exact h.sm y hy
    · have := List.mem_singleton.1 hy
      subst this
      exact hm
  · rw [h.eq, show 9 - k = (8 - k) + 1 by omega, rmread, hn, drop_more s e he]
    simp only
    rw [if_pos hc, show 9 - (k + 1) = 8 - k by omega]
theorem valS_eq (s : ByteArray) (a : Nat) : valS s a = valQ (s.data.toList.drop a) := by
  unfold valS valQ
  cases s.data.toList.drop a <;> rfl
/-- The mark that stands at a place. -/
theorem rmark_at (s : ByteArray) (n : Nat) : rmark (s.data.toList.drop n) = if h : n < s.size then (if (s[n]'h).toNat = 61 then (1, 1) else if h2 : n + 1 < s.size then (if (s[n + 1]'h2).toNat = 61 ∧ (s[n]'h).toNat = 33 then (2, 2) else if (s[n + 1]'h2).toNat = 61 ∧ (s[n]'h).toNat = 94 then (3, 2) else (4, 0)) else (4, 0)) else (4, 0) := by
  by_cases h : n < s.size
  · rw [dif_pos h, drop_more s n h]
    by_cases h2 : n + 1 < s.size
    · rw [dif_pos h2, drop_more s (n + 1) h2]
      rfl
    · rw [dif_neg h2, List.drop_of_length_le (by rw [← Lib.size_eq]; omega)]
      rfl
  · rw [dif_neg h, List.drop_of_length_le (by rw [← Lib.size_eq]; omega)]
    rfl
theorem rmat_at {s : ByteArray} {a n : Nat} (h : Wd s a n) (hn : ∀ h : n < s.size, plainB (s[n]'h) = false) : rmatR (s.data.toList.drop a) = rvalM ((s.data.toList.take n).drop a) (s.data.toList.drop n) := by
  obtain ⟨h1, h2⟩ := h.stop hn
  unfold rmatR
  rw [h1, h2]
theorem rpars_yes {s : List UInt8} {R : Option Mats} {l : Mats} (h42 : s ≠ [42]) (hR : rmread 9 [] s = R) (h : R = some l) (ht : mtxtL l = s) (h0 : s ≠ []) : rparseM s = some l := by
  unfold rparseM
  rw [if_neg h42, hR, h]
  show (if mtxtL l = s ∧ s ≠ [] then some l else none) = _
  rw [if_pos ⟨ht, h0⟩]
theorem rpars_no {s : List UInt8} {R : Option Mats} {l : Mats} (h42 : s ≠ [42]) (hR : rmread 9 [] s = R) (h : R = some l) (ht : mtxtL l ≠ s ∨ s = []) : rparseM s = none := by
  unfold rparseM
  rw [if_neg h42, hR, h]
  show (if mtxtL l = s ∧ s ≠ [] then some l else none) = _
  rw [if_neg]
  rintro ⟨h1, h2⟩
  rcases ht with ht | ht
  · exact ht h1
  · exact h2 ht
theorem rpars_none {s : List UInt8} {R : Option Mats} (h42 : s ≠ [42]) (hR : rmread 9 [] s = R) (h : R = none) : rparseM s = none := by
  unfold rparseM
  rw [if_neg h42, hR, h]
  rfl

set_option maxRecDepth 100000 in
set_option maxHeartbeats 16000000 in
theorem rmparse_any (w : World) (s : ByteArray) (hs : s.size ≤ 10000) :
    Calls Try.prog 19 #[.string s] w fun e w' => (∃ u n, e = .returned (.tuple #[u, .int .i64 n]) ∧ ParseM w' w.heap.size u n (rparseM s.data.toList)) ∧ Kept w w' := by
  have hstr : (s.toList == [42]) = decide (s.data.toList = [42]) := by
    rw [ByteArray.toList_eq]
    by_cases h : s.data.toList = [42]
    · rw [decide_eq_true h, h]; rfl
    · rw [decide_eq_false h]; simpa using h
  by_cases h42 : s.data.toList = [42]
  · have hp : Hid (rparseM s.data.toList = some []) := by refine hid ?_; unfold rparseM; rw [if_pos h42]
    rw [decide_eq_true h42] at hstr
    clear h42
    go_enter Try.func19, Try.ntmps19
    go_wp2
    go_ret2
    refine ⟨⟨_, _, rfl, ?_⟩, Only.refl _ _⟩
    rw [hp.out]
    exact ⟨rfl, rfl, .inl ⟨rfl, rfl⟩⟩
  · rw [decide_eq_false h42] at hstr
    obtain ⟨R, hR⟩ : ∃ R, rmread 9 [] s.data.toList = R := ⟨_, rfl⟩
    have HM0 : Hid (Rm s R 0 [] 0) := hid ⟨rfl, by omega, by omega, fun y hy => (by cases hy), by rw [List.drop_zero]; exact hR.symm⟩
    have HPy : Hid (∀ l, R = some l → mtxtL l = s.data.toList → s.data.toList ≠ [] → rparseM s.data.toList = some l) := fun l h1 h2 h3 => rpars_yes h42 hR h1 h2 h3
    have HPn : Hid (∀ l, R = some l → (mtxtL l ≠ s.data.toList ∨ s.data.toList = []) → rparseM s.data.toList = none) := fun l h1 h2 => rpars_no h42 hR h1 h2
    have HP0 : Hid (R = none → rparseM s.data.toList = none) := fun h1 => rpars_none h42 hR h1
    generalize rparseM s.data.toList = PP at HPy HPn HP0 ⊢
    clear h42 hR
    go_enter Try.func19, Try.ntmps19
    go_wp2
    go_loopw [4, 5] (fun i out wr => ∃ (k : Nat) (acc : Mats) (p : Nat), i = .int .i64 (p : Int) ∧ Rm s R k acc p ∧ MatAt wr w.heap.size out acc ∧ Kept w wr) (fun _ out _ => 10 - outN out)
    case atStart => exact ⟨0, [], 0, rfl, HM0.out, ⟨rfl, .inl ⟨rfl, rfl⟩⟩, Only.refl _ _⟩
    case round =>
      obtain ⟨k, acc, p, rfl, hr, hat, kr⟩ := hrel
      obtain ⟨oa, oc, rfl⟩ := ownN_slice hat
      have hk := hr.len
      have hk9 := hr.k9
      have hps := hr.ps
      have HR := hid hr
      have HA := hid hat
      have HK := hid kr
      rw [hk] at HA ⊢
      clear hr hat kr
      by_cases hlt : k ≤ 8
      · have hlt' : (k : Int) ≤ 8 := by omega
        have H1 := hid (word_any wr s p hps (by omega))
        go_wp2_with fail
        refine H1.out.mono ?_
        rintro e w1 ⟨⟨n, hW, hst, rfl⟩, hq⟩
        replace hq := hq.symm
        subst hq
        have hrm := rmat_at hW hst
        have hpn := hW.1
        have hns := hW.2.1
        have hsz : (s.extract p n).size = n - p := by rw [ByteArray.size_extract]; omega
        have HWd : Hid (mkB ((s.data.toList.take n).drop p) = s.extract p n) := by refine hid ?_; exact bytes_inj (sub_bytes s p n).symm
        have hadd : (p : Int) + ((s.extract p n).size : Int) = (n : Int) := by omega
        have HRm := hid hrm
        clear hW hst H1 hrm
        generalize s.extract p n = wd at hsz HWd hadd ⊢
        have hwds : wd.size ≤ 10000 := by omega
        have HSz := hid hsz
        clear hsz
        have HMk := hid (rmark_at s n)
        obtain ⟨b1, hb1⟩ : ∃ b1 : Bool, (b1 = true ↔ ∃ h : n < s.size, (s[n]'h).toNat = 61) := ⟨decide (∃ h : n < s.size, (s[n]'h).toNat = 61), by simp⟩
        obtain ⟨b2, hb2⟩ : ∃ b2 : Bool, (b2 = true ↔ ∃ h : n + 1 < s.size, (s[n + 1]'h).toNat = 61 ∧ ((s[n]'(by omega)).toNat = 33 ∨ (s[n]'(by omega)).toNat = 94)) := ⟨decide (∃ h : n + 1 < s.size, (s[n + 1]'h).toNat = 61 ∧ ((s[n]'(by omega)).toNat = 33 ∨ (s[n]'(by omega)).toNat = 94)), by simp⟩
        have HB1 := hid hb1
        have HB2 := hid hb2
        clear hb1 hb2
        have hb0 := Blk.new wr [.int .i64 4, .string wd, .string ⟨#[]⟩] 40
        go_upto_region 10 with fail
        go_cut [35] from 14 to 98 (fun s' wx => s' = .bool b1 ∧ wx = wr.alloc (.cells #[.int .i64 4, .string wd, .string ⟨#[]⟩] 40))
        case first =>
          by_cases h1 : n < s.size
          · have h1' : (n : Int) < (s.size : Int) := by omega
            by_cases h2 : (s[n]'h1).toNat = 61
            · have e1 : b1 = true := HB1.out.2 ⟨h1, h2⟩
              have h2' : (((s[n]'h1).toNat : Int) == 61) = true := by simp; omega
              subst e1
              have H2 := hid h2
              clear h2
              go_wp2_with fail
              go_meet
              case rel => exact ⟨rfl, rfl⟩
            · have e1 : b1 = false := by
                cases b1 with
                | false => rfl
                | true => exact absurd (HB1.out.1 rfl).2 h2
              have h2' : (((s[n]'h1).toNat : Int) == 61) = false := by simp; omega
              subst e1
              have H2 := hid h2
              clear h2
              go_wp2_with fail
              go_meet
              case rel => exact ⟨rfl, rfl⟩
          · have e1 : b1 = false := by
              cases b1 with
              | false => rfl
              | true => exact absurd (HB1.out.1 rfl).1 h1
            have h1' : ¬ ((n : Int) < (s.size : Int)) := by omega
            subst e1
            go_wp2_with fail
            go_meet
            case rel => exact ⟨rfl, rfl⟩
        case rest =>
          obtain ⟨rfl, rfl⟩ := hcut
          go_upto_if 35 with fail
          go_cut [8] from 14 to 98 (fun s' wx => s' = .int .i64 (if b1 then 1 else 0) ∧ wx = wr.alloc (.cells #[.int .i64 (if b1 then 1 else 4), .string wd, .string ⟨#[]⟩] 40))
          case first =>
            cases b1 with
            | true =>
              go_wp2_with fail
              go_meet
              case rel => exact ⟨rfl, rfl⟩
            | false =>
              go_wp2_with fail
              go_meet
              case rel => exact ⟨rfl, rfl⟩
          case rest =>
            obtain ⟨rfl, rfl⟩ := hcut
            obtain ⟨kk1, hkk1⟩ : ∃ x : Int, (if b1 = true then 1 else 0 : Int) = x := ⟨_, rfl⟩
            obtain ⟨K1, hK1⟩ : ∃ x : Int, (if b1 = true then 1 else 4 : Int) = x := ⟨_, rfl⟩
            rw [hkk1, hK1]
            have HKK1 := hid hkk1
            have HK1 := hid hK1
            clear hkk1 hK1
            go_upto_region 13 with fail
            go_cut [60] from 14 to 98 (fun s' wx => s' = .bool b2 ∧ wx = wr.alloc (.cells #[.int .i64 K1, .string wd, .string ⟨#[]⟩] 40))
            case first =>
              by_cases h1 : n + 1 < s.size
              · have h1' : (n : Int) + 1 < (s.size : Int) := by omega
                have h0 : n < s.size := by omega
                have h0' : (n : Int) < (s.size : Int) := by omega
                by_cases h2 : (s[n + 1]'h1).toNat = 61
                · have h2' : (((s[n + 1]'h1).toNat : Int) == 61) = true := by simp; omega
                  by_cases h3 : (s[n]'h0).toNat = 33
                  · have e1 : b2 = true := HB2.out.2 ⟨h1, h2, .inl h3⟩
                    have h3' : (((s[n]'h0).toNat : Int) == 33) = true := by simp; omega
                    subst e1
                    have H2 := hid h2
                    have H3 := hid h3
                    clear h2 h3
                    go_wp2_with fail
                    go_meet
                    case rel => exact ⟨rfl, rfl⟩
                  · have h3' : (((s[n]'h0).toNat : Int) == 33) = false := by simp; omega
                    by_cases h4 : (s[n]'h0).toNat = 94
                    · have e1 : b2 = true := HB2.out.2 ⟨h1, h2, .inr h4⟩
                      have h4' : (((s[n]'h0).toNat : Int) == 94) = true := by simp; omega
                      subst e1
                      have H2 := hid h2
                      have H3 := hid h3
                      have H4 := hid h4
                      clear h2 h3 h4
                      go_wp2_with fail
                      go_meet
                      case rel => exact ⟨rfl, rfl⟩
                    · have h4' : (((s[n]'h0).toNat : Int) == 94) = false := by simp; omega
                      have e1 : b2 = false := by
                        cases b2 with
                        | false => rfl
                        | true => rcases (HB2.out.1 rfl).2.2 with h | h; exact absurd h h3; exact absurd h h4
                      subst e1
                      have H2 := hid h2
                      have H3 := hid h3
                      have H4 := hid h4
                      clear h2 h3 h4
                      go_wp2_with fail
                      go_meet
                      case rel => exact ⟨rfl, rfl⟩
                · have h2' : (((s[n + 1]'h1).toNat : Int) == 61) = false := by simp; omega
                  have e1 : b2 = false := by
                    cases b2 with
                    | false => rfl
                    | true => exact absurd (HB2.out.1 rfl).2.1 h2
                  subst e1
                  have H2 := hid h2
                  clear h2
                  go_wp2_with fail
                  go_meet
                  case rel => exact ⟨rfl, rfl⟩
              · have e1 : b2 = false := by
                  cases b2 with
                  | false => rfl
                  | true => exact absurd (HB2.out.1 rfl).1 h1
                have h1' : ¬ ((n : Int) + 1 < (s.size : Int)) := by omega
                subst e1
                go_wp2_with fail
                go_meet
                case rel => exact ⟨rfl, rfl⟩
            case rest =>
              obtain ⟨rfl, rfl⟩ := hcut
              obtain ⟨K, kk, hKk⟩ : ∃ (K : Int) (kk : Nat), rmark (s.data.toList.drop n) = (K, kk) := ⟨_, _, rfl⟩
              have hKk2 := HMk.out
              rw [hKk] at hKk2
              have HKk := hid hKk
              clear hKk
              go_upto_if 60 with fail
              go_cut [8] from 14 to 98 (fun s' wx => s' = .int .i64 (kk : Int) ∧ wx = wr.alloc (.cells #[.int .i64 K, .string wd, .string ⟨#[]⟩] 40))
              case first =>
                cases b2 with
                | true =>
                  obtain ⟨h1, h2, h3⟩ := HB2.out.1 rfl
                  have h0 : n < s.size := by omega
                  have h0' : (n : Int) < (s.size : Int) := by omega
                  have h61 : (s[n]'h0).toNat ≠ 61 := by omega
                  rw [dif_pos h0, if_neg h61, dif_pos h1] at hKk2
                  by_cases h4 : (s[n]'h0).toNat = 94
                  · rw [if_neg (by omega), if_pos ⟨h2, h4⟩] at hKk2
                    obtain ⟨rfl, rfl⟩ := Prod.mk.inj hKk2
                    have h4' : (((s[n]'h0).toNat : Int) == 94) = true := by simp; omega
                    clear h1 h2 h3 h4 h61 hKk2
                    go_wp2_with fail
                    go_meet
                    case rel => exact ⟨rfl, rfl⟩
                  · have h33 : (s[n]'h0).toNat = 33 := by omega
                    rw [if_pos ⟨h2, h33⟩] at hKk2
                    obtain ⟨rfl, rfl⟩ := Prod.mk.inj hKk2
                    have h4' : (((s[n]'h0).toNat : Int) == 94) = false := by simp; omega
                    clear h1 h2 h3 h4 h61 h33 hKk2
                    go_wp2_with fail
                    go_meet
                    case rel => exact ⟨rfl, rfl⟩
                | false =>
                  have hno : ¬ ∃ h : n + 1 < s.size, (s[n + 1]'h).toNat = 61 ∧ ((s[n]'(by omega)).toNat = 33 ∨ (s[n]'(by omega)).toNat = 94) := fun h => by cases HB2.out.2 h
                  have hfin : (K, kk) = (K1, kk1.toNat) ∧ 0 ≤ kk1 := by
                    rw [hKk2, ← HK1.out, ← HKK1.out]
                    cases b1 with
                    | true =>
                      obtain ⟨h0, h61⟩ := HB1.out.1 rfl
                      rw [dif_pos h0, if_pos h61]
                      exact ⟨rfl, by decide⟩
                    | false =>
                      refine ⟨?_, by decide⟩
                      show _ = ((4 : Int), 0)
                      split
                      · rename_i h0
                        rw [if_neg (fun h => by cases HB1.out.2 ⟨h0, h⟩)]
                        split
                        · rename_i h1
                          rw [if_neg (fun h => hno ⟨h1, h.1, .inl h.2⟩), if_neg (fun h => hno ⟨h1, h.1, .inr h.2⟩)]
                        · rfl
                      · rfl
                  obtain ⟨hf1, hf2⟩ := hfin
                  obtain ⟨rfl, e2⟩ := Prod.mk.inj hf1
                  have e3 : (kk : Int) = kk1 := by rw [e2]; omega
                  have HE3 := hid e3
                  clear hno hf1 hf2 e2 e3 hKk2
                  go_wp2_with fail
                  go_meet
                  case rel => exact ⟨by rw [HE3.out], rfl⟩
              case rest =>
                obtain ⟨rfl, rfl⟩ := hcut
                clear HB1 HB2 HK1 HKK1 hKk2 hb0
                have hb0 := Blk.new wr [.int .i64 K, .string wd, .string ⟨#[]⟩] 40
                have hkw : Kept wr (wr.alloc (.cells #[.int .i64 K, .string wd, .string ⟨#[]⟩] 40)) := (Only.refl _ wr).alloc _
                have hkn : n + kk ≤ s.size + 1 ∧ kk ≤ 2 ∧ (kk = 0 → K = 4) := by
                  have h := HMk.out
                  rw [HKk.out] at h
                  split at h
                  · split at h
                    · cases h; omega
                    · split at h
                      · split at h
                        · cases h; omega
                        · split at h
                          · cases h; omega
                          · cases h; omega
                      · cases h; omega
                  · cases h; omega
                have HRv : Hid (rmatR (s.data.toList.drop p) = if kk = 0 then some ((4, wd, mkB []), s.data.toList.drop n) else (valS s (n + kk)).map (fun q => ((K, wd, mkB q.1), q.2))) := by
                  refine hid ?_
                  rw [HRm.out]
                  unfold rvalM
                  rw [HKk.out, valS_eq, HWd.out, List.drop_drop]
                generalize wr.alloc (.cells #[.int .i64 K, .string wd, .string ⟨#[]⟩] 40) = w2 at hb0 hkw ⊢
                have hmB : wr.heap.size < w2.heap.size := hb0.lt
                obtain ⟨hkn1, hkn2, hkn3⟩ := hkn
                clear HMk
                go_upto_if 68 with fail
                go_cut [4, 9, 10, 11] from 14 to 98 (fun s4 _ _ _ wx => ∃ (e : Nat) (V : ByteArray), s4 = .int .i64 (e : Int) ∧ e ≤ s.size ∧ rmatR (s.data.toList.drop p) = some ((K, wd, V), s.data.toList.drop e) ∧ Blk wx wr.heap.size [.int .i64 K, .string wd, .string V] 40 ∧ Kept wr wx ∧ V.size ≤ 10000)
                case first =>
                  by_cases hk0 : kk = 0
                  · rw [if_pos hk0] at HRv
                    have e4 := hkn3 hk0
                    have hkz : ¬ ((0 : Int) < (kk : Int)) := by omega
                    have HK0 := hid hk0
                    subst e4
                    clear hk0
                    go_wp2_with fail
                    go_meet
                    case rel => exact ⟨n, mkB [], rfl, hns, HRv.out, hb0, hkw, by show (0 : Nat) ≤ 10000; omega⟩
                  · rw [if_neg hk0] at HRv
                    have hkz : (0 : Int) < (kk : Int) := by omega
                    have H2 := hid (value_any w2 s (n + kk) hkn1 (by omega))
                    have hc2 : ((n + kk : Nat) : Int) = (n : Int) + (kk : Int) := by omega
                    rw [hc2] at H2
                    have HK0 := hid hk0
                    clear hk0 hc2
                    go_wp2_with fail
                    refine H2.out.mono ?_
                    rintro e w3 ⟨hV, k3⟩
                    have hb3 := Only.blk k3 hb0 (fun f => f)
                    have HK3 := hid (hkw.trans k3 (fun _ _ f => f))
                    clear k3 H2
                    cases hv : valS s (n + kk) with
                    | none =>
                      rw [hv] at hV HRv
                      have hV' : e = .returned (.tuple #[.string ⟨#[]⟩, .int .i64 0, .bool false]) := hV
                      subst hV'
                      have hp := hid (HP0.out (HR.out.bad hlt HRv.out))
                      clear hV hb3
                      go_wp2
                      go_ret2
                      refine ⟨⟨_, _, rfl, ?_⟩, HK.out.trans HK3.out (fun _ _ f => f)⟩
                      rw [hp.out]
                      exact ⟨rfl, rfl⟩
                    | some q =>
                      obtain ⟨vl, r⟩ := q
                      rw [hv] at hV HRv
                      obtain ⟨q, hqs, hqd, rfl⟩ := hV
                      have hvl := valS_len hv
                      have m0 := hb3.cell 2 rfl
                      have f0 := hb3.frozen 2
                      have hset := hb3.set 2 (.string (mkB vl))
                      have HKs := hid (HK3.out.setCell (p := ⟨wr.heap.size, 2, none⟩) (fun hh => absurd hh (Nat.lt_irrefl _)) (.string (mkB vl)))
                      have HRs : Hid (rmatR (s.data.toList.drop p) = some ((K, wd, mkB vl), s.data.toList.drop q)) := by refine hid ?_; rw [HRv.out, hqd]; rfl
                      clear hv hqd hb3
                      go_wp2_with fail
                      go_meet
                      case rel => exact ⟨q, mkB vl, rfl, hqs, HRs.out, hset, HKs.out, by rw [mkB_size]; omega⟩
                case rest =>
                  obtain ⟨q, V, rfl, hqs, hrq, hbq, hkq, hVs⟩ := hcut
                  have HRq := hid hrq
                  have HKq := hid (HK.out.trans hkq (fun _ _ f => f))
                  have HAq := hid (ownN_stay HA.out hkq)
                  have d0 := hbq.cell 0 rfl
                  have d1 := hbq.cell 1 rfl
                  have d2 := hbq.cell 2 rfl
                  have hltq := hbq.lt
                  obtain ⟨g, cap, w4, Hr, hat4, hk4⟩ := mat_step (w0 := w) (w := wc) HAq.out HKq.out (K, wd, V) (by omega)
                  rw [hk] at Hr hat4
                  simp only at Hr
                  have HA4 := hid hat4
                  have HK4 := hid hk4
                  have hsx : (K, wd, V).2.1.size ≤ 100000 ∧ (K, wd, V).2.2.size ≤ 100000 := ⟨by show wd.size ≤ _; omega, by show V.size ≤ _; omega⟩
                  have HSm : Hid (SmallM (acc ++ [(K, wd, V)])) := fun y hy => by
                    rcases List.mem_append.1 hy with hy | hy
                    · exact HR.out.sm y hy
                    · have := List.mem_singleton.1 hy
                      subst this
                      exact hsx
                  clear hrq hat4 hk4 hkq hbq HRv hb0 hkw
                  by_cases hqc : ∃ he : q < s.size, (s[q]'he).toNat = 44
                  · obtain ⟨he, h44⟩ := hqc
                    have HMo := hid (HR.out.more hlt HRq.out he h44 hsx)
                    have h44' : (((s[q]'he).toNat : Int) == 44) = true := by simp; omega
                    have H44 := hid h44
                    have he' : (q : Int) < (s.size : Int) := by omega
                    clear h44 hsx
                    go_wp2_with (at_builtin; refine wpList_append_run rfl _ _ _ rfl rfl rfl Hr ?_)
                    go_roundw
                    case rel => exact ⟨k + 1, acc ++ [(K, wd, V)], q + 1, by go_num, HMo.out, HA4.out, HK4.out⟩
                    case measure => simp only [outN]; omega
                  · have HRl := hid (HR.out.last hlt HRq.out (fun he h => hqc ⟨he, h⟩))
                    have HQc := hid hqc
                    clear hsx hqc
                    by_cases he : q < s.size
                    · have h44' : (((s[q]'he).toNat : Int) == 44) = false := by
                        have : (s[q]'he).toNat ≠ 44 := fun h => HQc.out ⟨he, h⟩
                        simp
                        omega
                      have he' : (q : Int) < (s.size : Int) := by omega
                      have HTx := hid (rmtext_any w4 _ (acc ++ [(K, wd, V)]) (MatAt.src HA4.out) (by simp; omega) HSm.out)
                      have hEq : ((mkB (mtxtL (acc ++ [(K, wd, V)]))).toList == s.toList) = decide (mtxtL (acc ++ [(K, wd, V)]) = s.data.toList) := by
                        rw [ByteArray.toList_eq, ByteArray.toList_eq]
                        by_cases h : mtxtL (acc ++ [(K, wd, V)]) = s.data.toList
                        · rw [decide_eq_true h, h]; simp
                        · rw [decide_eq_false h]
                          simpa using h
                      have HY := hid (HPy.out (acc ++ [(K, wd, V)]) HRl.out)
                      have HN := hid (HPn.out (acc ++ [(K, wd, V)]) HRl.out)
                      generalize mtxtL (acc ++ [(K, wd, V)]) = TT at HTx hEq HY HN
                      have HEq := hid hEq
                      clear hEq
                      go_wp2_with (at_builtin; refine wpList_append_run rfl _ _ _ rfl rfl rfl Hr ?_)
                      refine HTx.out.mono ?_
                      rintro e w9 ⟨rfl, k9⟩
                      have HK9 := hid (HK4.out.trans k9 (fun _ _ f => f))
                      have HA9 := hid (ownN_stay HA4.out k9)
                      clear k9 HTx
                      have hEq := HEq.out
                      cases hb : decide (TT = s.data.toList) with
                      | true =>
                        rw [hb] at hEq
                        have hT := of_decide_eq_true hb
                        by_cases hz : s.size = 0
                        · have hsd : s.data.toList = [] := List.length_eq_zero_iff.1 (by rw [← Lib.size_eq]; exact hz)
                          have hp := hid (HN.out (.inr hsd))
                          have es : s.toList.isEmpty = true := by rw [ByteArray.toList_eq, hsd]; rfl
                          clear hb hT hz hsd HY HN
                          go_wp2
                          all_goals try (exfalso; simp_all; done)
                          go_ret2
                          refine ⟨⟨_, _, rfl, ?_⟩, HK9.out⟩
                          rw [hp.out]
                          exact ⟨rfl, rfl⟩
                        · have hsd : s.data.toList ≠ [] := fun e => hz (by rw [Lib.size_eq, e]; rfl)
                          have hp := hid (HY.out hT hsd)
                          have es := not_empty hz
                          clear hb hT hz hsd HY HN
                          go_wp2
                          all_goals try (exfalso; simp_all; done)
                          go_ret2
                          refine ⟨⟨_, _, rfl, ?_⟩, HK9.out⟩
                          rw [hp.out]
                          exact ⟨rfl, HA9.out⟩
                      | false =>
                        rw [hb] at hEq
                        have hp := hid (HN.out (.inl (of_decide_eq_false hb)))
                        clear hb HY HN
                        go_wp2
                        all_goals try (exfalso; simp_all; done)
                        go_ret2
                        refine ⟨⟨_, _, rfl, ?_⟩, HK9.out⟩
                        rw [hp.out]
                        exact ⟨rfl, rfl⟩
                    · have he' : ¬ ((q : Int) < (s.size : Int)) := by omega
                      have HTx := hid (rmtext_any w4 _ (acc ++ [(K, wd, V)]) (MatAt.src HA4.out) (by simp; omega) HSm.out)
                      have hEq : ((mkB (mtxtL (acc ++ [(K, wd, V)]))).toList == s.toList) = decide (mtxtL (acc ++ [(K, wd, V)]) = s.data.toList) := by
                        rw [ByteArray.toList_eq, ByteArray.toList_eq]
                        by_cases h : mtxtL (acc ++ [(K, wd, V)]) = s.data.toList
                        · rw [decide_eq_true h, h]; simp
                        · rw [decide_eq_false h]
                          simpa using h
                      have HY := hid (HPy.out (acc ++ [(K, wd, V)]) HRl.out)
                      have HN := hid (HPn.out (acc ++ [(K, wd, V)]) HRl.out)
                      generalize mtxtL (acc ++ [(K, wd, V)]) = TT at HTx hEq HY HN
                      have HEq := hid hEq
                      clear hEq
                      go_wp2_with (at_builtin; refine wpList_append_run rfl _ _ _ rfl rfl rfl Hr ?_)
                      refine HTx.out.mono ?_
                      rintro e w9 ⟨rfl, k9⟩
                      have HK9 := hid (HK4.out.trans k9 (fun _ _ f => f))
                      have HA9 := hid (ownN_stay HA4.out k9)
                      clear k9 HTx
                      have hEq := HEq.out
                      cases hb : decide (TT = s.data.toList) with
                      | true =>
                        rw [hb] at hEq
                        have hT := of_decide_eq_true hb
                        by_cases hz : s.size = 0
                        · have hsd : s.data.toList = [] := List.length_eq_zero_iff.1 (by rw [← Lib.size_eq]; exact hz)
                          have hp := hid (HN.out (.inr hsd))
                          have es : s.toList.isEmpty = true := by rw [ByteArray.toList_eq, hsd]; rfl
                          clear hb hT hz hsd HY HN
                          go_wp2
                          all_goals try (exfalso; simp_all; done)
                          go_ret2
                          refine ⟨⟨_, _, rfl, ?_⟩, HK9.out⟩
                          rw [hp.out]
                          exact ⟨rfl, rfl⟩
                        · have hsd : s.data.toList ≠ [] := fun e => hz (by rw [Lib.size_eq, e]; rfl)
                          have hp := hid (HY.out hT hsd)
                          have es := not_empty hz
                          clear hb hT hz hsd HY HN
                          go_wp2
                          all_goals try (exfalso; simp_all; done)
                          go_ret2
                          refine ⟨⟨_, _, rfl, ?_⟩, HK9.out⟩
                          rw [hp.out]
                          exact ⟨rfl, HA9.out⟩
                      | false =>
                        rw [hb] at hEq
                        have hp := hid (HN.out (.inl (of_decide_eq_false hb)))
                        clear hb HY HN
                        go_wp2
                        all_goals try (exfalso; simp_all; done)
                        go_ret2
                        refine ⟨⟨_, _, rfl, ?_⟩, HK9.out⟩
                        rw [hp.out]
                        exact ⟨rfl, rfl⟩
      · have HRl := hid (HR.out.full hlt)
        have HSm := hid HR.out.sm
        have hlt' : ¬ ((k : Int) ≤ 8) := by omega
        have HTx := hid (rmtext_any wr _ (acc) (MatAt.src HA.out) (by omega) HSm.out)
        have hEq : ((mkB (mtxtL (acc))).toList == s.toList) = decide (mtxtL (acc) = s.data.toList) := by
          rw [ByteArray.toList_eq, ByteArray.toList_eq]
          by_cases h : mtxtL (acc) = s.data.toList
          · rw [decide_eq_true h, h]; simp
          · rw [decide_eq_false h]
            simpa using h
        have HY := hid (HPy.out (acc) HRl.out)
        have HN := hid (HPn.out (acc) HRl.out)
        generalize mtxtL (acc) = TT at HTx hEq HY HN
        have HEq := hid hEq
        clear hEq
        go_wp2_with fail
        refine HTx.out.mono ?_
        rintro e w9 ⟨rfl, k9⟩
        have HK9 := hid (HK.out.trans k9 (fun _ _ f => f))
        have HA9 := hid (ownN_stay HA.out k9)
        clear k9 HTx
        have hEq := HEq.out
        cases hb : decide (TT = s.data.toList) with
        | true =>
          rw [hb] at hEq
          have hT := of_decide_eq_true hb
          by_cases hz : s.size = 0
          · have hsd : s.data.toList = [] := List.length_eq_zero_iff.1 (by rw [← Lib.size_eq]; exact hz)
            have hp := hid (HN.out (.inr hsd))
            have es : s.toList.isEmpty = true := by rw [ByteArray.toList_eq, hsd]; rfl
            clear hb hT hz hsd HY HN
            go_wp2
            all_goals try (exfalso; simp_all; done)
            go_ret2
            refine ⟨⟨_, _, rfl, ?_⟩, HK9.out⟩
            rw [hp.out]
            exact ⟨rfl, rfl⟩
          · have hsd : s.data.toList ≠ [] := fun e => hz (by rw [Lib.size_eq, e]; rfl)
            have hp := hid (HY.out hT hsd)
            have es := not_empty hz
            clear hb hT hz hsd HY HN
            go_wp2
            all_goals try (exfalso; simp_all; done)
            go_ret2
            refine ⟨⟨_, _, rfl, ?_⟩, HK9.out⟩
            rw [hp.out]
            exact ⟨rfl, HA9.out⟩
        | false =>
          rw [hb] at hEq
          have hp := hid (HN.out (.inl (of_decide_eq_false hb)))
          clear hb HY HN
          go_wp2
          all_goals try (exfalso; simp_all; done)
          go_ret2
          refine ⟨⟨_, _, rfl, ?_⟩, HK9.out⟩
          rw [hp.out]
          exact ⟨rfl, rfl⟩
end Go.Proofs.Ytbdcaikcdhfdoaa.N
