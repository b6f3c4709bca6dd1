/-
  A value out of a text; a mark at the beginning of a text.
-/
import Derived.Test.YtbdcaikcdhfdoaaMkind
import Derived.Test.YtbdcaikcdhfdoaaNparse
import Derived.Test.YtbdcaikcdhfdoaaMcheck
namespace Go.Proofs.Ytbdcaikcdhfdoaa.N
open Go.RowKit Go.Proofs.Lys
set_option linter.unusedVariables false
set_option linter.unusedSimpArgs false

/-- What unquoted answers. -/
def UnqA : Option (List UInt8) → Value
  | some v => .tuple #[.string (mkB v), .bool true]
  | none => .tuple #[.string ⟨#[]⟩, .bool false]
set_option maxRecDepth 100000 in
set_option maxHeartbeats 1600000 in
theorem unquoted_any (w : World) (s : ByteArray) (hM : Mx w) (hs : s.size ≤ 10000) : Calls Try.prog 48 #[.string s] w fun e w' => e = .returned (UnqA (unqM s.data.toList)) ∧ Kept w w' := by
  by_cases h0 : s.size = 0
  · have hu : Hid (unqM s.data.toList = some []) := by
      refine hid ?_
      have : s.data.toList = [] := List.length_eq_zero_iff.1 (by rw [← Lib.size_eq]; exact h0)
      rw [this]
      rfl
    have e : s = ⟨#[]⟩ := bytes_inj (List.length_eq_zero_iff.1 (by rw [← Lib.size_eq]; exact h0))
    subst e
    go_enter Try.func48, Try.ntmps48
    go_wp2
    all_goals first
      | (go_ret2; exact ⟨by rw [hu.out]; rfl, Only.refl _ _⟩)
      | (exfalso; simp_all)
  · have hne := not_empty (s := s) h0
    have hsd : s.data.toList ≠ [] := fun e => h0 (by rw [Lib.size_eq, e]; rfl)
    have h1 : (⟨#[123, 118, 61, 34]⟩ : ByteArray).size = 4 := rfl
    have h2 : (⟨#[34, 125]⟩ : ByteArray).size = 2 := rfl
    have H := hid (parse_any w ((⟨#[123, 118, 61, 34]⟩ : ByteArray) ++ s ++ ⟨#[34, 125]⟩) hM (by rw [ByteArray.size_append, ByteArray.size_append, h1, h2]; omega))
    have hcat : ((⟨#[123, 118, 61, 34]⟩ : ByteArray) ++ s ++ ⟨#[34, 125]⟩).data.toList = [123, 118, 61, 34] ++ s.data.toList ++ [34, 125] := by
      rw [ByteArray.data_append, ByteArray.data_append, Array.toList_append, Array.toList_append]
    rw [hcat] at H
    have HU : Hid (unqM s.data.toList = match parseL ([123, 118, 61, 34] ++ s.data.toList ++ [34, 125]) with
      | some [x] => some x.2.data.toList
      | _ => none) := by refine hid ?_; unfold unqM; rw [if_neg hsd]; rfl
    generalize parseL ([123, 118, 61, 34] ++ s.data.toList ++ [34, 125]) = R at H HU
    generalize unqM s.data.toList = U at HU ⊢
    have g1 : 4 + s.size ≤ 9223372036854775807 := by omega
    have g2 : 4 + s.size + 2 ≤ 9223372036854775807 := by omega
    clear hcat hsd
    go_enter Try.func48, Try.ntmps48
    go_wp2_with fail
    refine H.out.mono ?_
    rintro e w1 ⟨⟨u, n, rfl, hA⟩, k1⟩
    have HK := hid k1
    clear k1 H
    cases R with
    | none =>
      obtain ⟨rfl, rfl⟩ := hA
      have hu : Hid (U = none) := HU
      go_wp2
      go_ret2
      exact ⟨by rw [hu.out]; rfl, HK.out⟩
    | some m =>
      obtain ⟨rfl, hat⟩ := hA
      have hat' : LabAt w1 w.heap.size u m := hat
      obtain ⟨oa, oc, rfl⟩ := ownN_slice hat'
      by_cases hm1 : m.length = 1
      · obtain ⟨x, rfl⟩ := List.length_eq_one_iff.1 hm1
        obtain ⟨b1, o1, rfl, x1, y1⟩ := (LabAt.src hat').cell rfl 0 (by simp)
        have hu : Hid (U = some x.2.data.toList) := HU
        have y1' : w1.cell? ⟨b1, o1 + 1, none⟩ = some (.string x.2) := y1
        obtain ⟨X, Y⟩ := x
        clear hat hat' x1 y1 hm1 HU
        go_wp2
        go_ret2
        exact ⟨by rw [hu.out]; rfl, HK.out⟩
      · have hu : Hid (U = none) := by
          refine hid ?_
          rw [HU.out]
          match m, hm1 with
          | [], _ => rfl
          | [x], h => exact absurd rfl h
          | _ :: _ :: _, _ => rfl
        generalize m.length = K at hm1 ⊢
        have hk : ((K : Int) != 1) = true := by simp; omega
        clear hat hat' hm1 HU
        go_wp2
        go_ret2
        exact ⟨by rw [hu.out]; rfl, HK.out⟩

theorem row_0 (w : World) : (Instr.index 49 (.agg tabK) (.int .i64 0)).run Try.prog w = .ok (.agg #[.string ⟨#[]⟩, .int .i64 0, .nilFunc]) w := by kernel_rfl
theorem row_1 (w : World) : (Instr.index 49 (.agg tabK) (.int .i64 1)).run Try.prog w = .ok (.agg #[.string ⟨#[61]⟩, .int .i64 64, fIs]) w := by kernel_rfl
theorem row_2 (w : World) : (Instr.index 49 (.agg tabK) (.int .i64 2)).run Try.prog w = .ok (.agg #[.string ⟨#[33, 61]⟩, .int .i64 64, fNot]) w := by kernel_rfl
theorem row_3 (w : World) : (Instr.index 49 (.agg tabK) (.int .i64 3)).run Try.prog w = .ok (.agg #[.string ⟨#[94, 61]⟩, .int .i64 64, fBeg]) w := by kernel_rfl
theorem row_4 (w : World) : (Instr.index 49 (.agg tabK) (.int .i64 4)).run Try.prog w = .ok (.agg #[.string ⟨#[]⟩, .int .i64 0, fHas]) w := by kernel_rfl
/-- What readMark answers. -/
def MarkA : Option (Int × List UInt8) → Value
  | some (k, t) => .tuple #[.int .i64 k, .string (mkB t), .bool true]
  | none => .tuple #[.int .i64 0, .string ⟨#[]⟩, .bool false]
/-- The marks that were looked at are not there. -/
def NoMark (s : List UInt8) (k : Nat) : Prop := (1 < k → Lib.hasPrefix s [61, 34] = false) ∧ (2 < k → Lib.hasPrefix s [33, 61, 34] = false) ∧ (3 < k → Lib.hasPrefix s [94, 61, 34] = false)

set_option maxRecDepth 100000 in
set_option maxHeartbeats 4000000 in
theorem mark_any (w : World) (s : ByteArray) : Calls Try.prog 46 #[.string s] w fun e w' => e = .returned (MarkA (markR s.data.toList)) ∧ Kept w w' := by
  have i0 := row_0
  have i1 := row_1
  have i2 := row_2
  have i3 := row_3
  have i4 := row_4
  have HC := hid (fun (p : ByteArray) W => Try.strings_CutPrefix s p W)
  have HR1 : Hid (Lib.hasPrefix s.data.toList [61, 34] = true → markR s.data.toList = some (1, Lib.trimPrefix s.data.toList [61, 34])) := fun h => by unfold markR; rw [if_pos h]
  have HR2 : Hid (NoMark s.data.toList 2 → Lib.hasPrefix s.data.toList [33, 61, 34] = true → markR s.data.toList = some (2, Lib.trimPrefix s.data.toList [33, 61, 34])) := fun hn h => by unfold markR; rw [if_neg (by rw [hn.1 (by omega)]; decide), if_pos h]
  have HR3 : Hid (NoMark s.data.toList 3 → Lib.hasPrefix s.data.toList [94, 61, 34] = true → markR s.data.toList = some (3, Lib.trimPrefix s.data.toList [94, 61, 34])) := fun hn h => by unfold markR; rw [if_neg (by rw [hn.1 (by omega)]; decide), if_neg (by rw [hn.2.1 (by omega)]; decide), if_pos h]
  have HRn : Hid (NoMark s.data.toList 5 → markR s.data.toList = none) := fun hn => by unfold markR; rw [if_neg (by rw [hn.1 (by omega)]; decide), if_neg (by rw [hn.2.1 (by omega)]; decide), if_neg (by rw [hn.2.2 (by omega)]; decide)]
  generalize markR s.data.toList = R at HR1 HR2 HR3 HRn ⊢
  go_enter Try.func46, Try.ntmps46
  go_wp2_with fail
  refine (kinds_any w).mono ?_
  rintro e w1 ⟨rfl, k1⟩
  generalize tabK = T at i0 i1 i2 i3 i4 ⊢
  go_wp2_with fail
  go_loopw [10] (fun i wr => ∃ k : Nat, k ≤ 5 ∧ i = .int .i64 (k : Int) ∧ NoMark s.data.toList k ∧ Kept w wr) (fun i _ => 5 - (intOf i).toNat)
  case atStart => exact ⟨0, by omega, rfl, ⟨fun h => absurd h (by omega), fun h => absurd h (by omega), fun h => absurd h (by omega)⟩, k1⟩
  case round =>
    obtain ⟨k, hk, rfl, hno, kr⟩ := hrel
    have HN := hid hno
    have HK := hid kr
    clear hno kr k1
    have hk5 : k = 0 ∨ k = 1 ∨ k = 2 ∨ k = 3 ∨ k = 4 ∨ k = 5 := by omega
    rcases hk5 with rfl | rfl | rfl | rfl | rfl | rfl
    · have H1 := hid (HC.out ⟨#[34]⟩)
      have e2 : (⟨#[34]⟩ : ByteArray).data.toList = [34] := rfl
      rw [e2] at H1
      clear e2
      have HNx : Hid ((Lib.hasPrefix s.data.toList [34] = false ∨ 0 = 0 ∨ 0 = 4) → NoMark s.data.toList 1) := fun h => ⟨fun hh => absurd hh (by omega), fun hh => absurd hh (by omega), fun hh => absurd hh (by omega)⟩
      generalize Lib.hasPrefix s.data.toList [34] = B at H1 HNx
      generalize Lib.trimPrefix s.data.toList [34] = TP at H1
      have HKw := hid (HK.out.alloc (.cells #[.string ⟨#[]⟩, .int .i64 0, .nilFunc] 46))
      go_wp2_with fail
      refine (H1.out _).mono ?_
      rintro e w2 ⟨rfl, hq⟩
      replace hq := hq.symm
      subst hq
      cases B with
      | false =>
        have HN2 := hid (HNx.out (.inl rfl))
        go_wp2_with fail
        go_roundw
        case rel => exact ⟨1, by omega, by go_num, HN2.out, HKw.out⟩
        case measure => decide
      | true =>
        have HN2 := hid (HNx.out (.inr (by decide)))
        go_wp2_with fail
        go_roundw
        case rel => exact ⟨1, by omega, by go_num, HN2.out, HKw.out⟩
        case measure => decide
    · have H1 := hid (HC.out ⟨#[61, 34]⟩)
      have e2 : (⟨#[61, 34]⟩ : ByteArray).data.toList = [61, 34] := rfl
      rw [e2] at H1
      clear e2
      have HNx : Hid ((Lib.hasPrefix s.data.toList [61, 34] = false ∨ 1 = 0 ∨ 1 = 4) → NoMark s.data.toList 2) := fun h => ⟨fun hh => by rcases h with h | h | h; exact h; omega; omega, fun hh => absurd hh (by omega), fun hh => absurd hh (by omega)⟩
      have HY := hid (HR1.out)
      generalize Lib.hasPrefix s.data.toList [61, 34] = B at H1 HNx HY
      generalize Lib.trimPrefix s.data.toList [61, 34] = TP at H1 HY
      have HKw := hid (HK.out.alloc (.cells #[.string ⟨#[61]⟩, .int .i64 64, fIs] 46))
      go_wp2_with fail
      refine (H1.out _).mono ?_
      rintro e w2 ⟨rfl, hq⟩
      replace hq := hq.symm
      subst hq
      cases B with
      | false =>
        have HN2 := hid (HNx.out (.inl rfl))
        go_wp2_with fail
        go_roundw
        case rel => exact ⟨2, by omega, by go_num, HN2.out, HKw.out⟩
        case measure => decide
      | true =>
        have hmk := hid (HY.out rfl)
        go_wp2_with fail
        go_ret3
        exact ⟨by rw [hmk.out]; rfl, HKw.out⟩
    · have H1 := hid (HC.out ⟨#[33, 61, 34]⟩)
      have e2 : (⟨#[33, 61, 34]⟩ : ByteArray).data.toList = [33, 61, 34] := rfl
      rw [e2] at H1
      clear e2
      have HNx : Hid ((Lib.hasPrefix s.data.toList [33, 61, 34] = false ∨ 2 = 0 ∨ 2 = 4) → NoMark s.data.toList 3) := fun h => ⟨fun hh => HN.out.1 (by omega), fun hh => by rcases h with h | h | h; exact h; omega; omega, fun hh => absurd hh (by omega)⟩
      have HY := hid (HR2.out HN.out)
      generalize Lib.hasPrefix s.data.toList [33, 61, 34] = B at H1 HNx HY
      generalize Lib.trimPrefix s.data.toList [33, 61, 34] = TP at H1 HY
      have HKw := hid (HK.out.alloc (.cells #[.string ⟨#[33, 61]⟩, .int .i64 64, fNot] 46))
      go_wp2_with fail
      refine (H1.out _).mono ?_
      rintro e w2 ⟨rfl, hq⟩
      replace hq := hq.symm
      subst hq
      cases B with
      | false =>
        have HN2 := hid (HNx.out (.inl rfl))
        go_wp2_with fail
        go_roundw
        case rel => exact ⟨3, by omega, by go_num, HN2.out, HKw.out⟩
        case measure => decide
      | true =>
        have hmk := hid (HY.out rfl)
        go_wp2_with fail
        go_ret3
        exact ⟨by rw [hmk.out]; rfl, HKw.out⟩
    · have H1 := hid (HC.out ⟨#[94, 61, 34]⟩)
      have e2 : (⟨#[94, 61, 34]⟩ : ByteArray).data.toList = [94, 61, 34] := rfl
      rw [e2] at H1
      clear e2
      have HNx : Hid ((Lib.hasPrefix s.data.toList [94, 61, 34] = false ∨ 3 = 0 ∨ 3 = 4) → NoMark s.data.toList 4) := fun h => ⟨fun hh => HN.out.1 (by omega), fun hh => HN.out.2.1 (by omega), fun hh => by rcases h with h | h | h; exact h; omega; omega⟩
      have HY := hid (HR3.out HN.out)
      generalize Lib.hasPrefix s.data.toList [94, 61, 34] = B at H1 HNx HY
      generalize Lib.trimPrefix s.data.toList [94, 61, 34] = TP at H1 HY
      have HKw := hid (HK.out.alloc (.cells #[.string ⟨#[94, 61]⟩, .int .i64 64, fBeg] 46))
      go_wp2_with fail
      refine (H1.out _).mono ?_
      rintro e w2 ⟨rfl, hq⟩
      replace hq := hq.symm
      subst hq
      cases B with
      | false =>
        have HN2 := hid (HNx.out (.inl rfl))
        go_wp2_with fail
        go_roundw
        case rel => exact ⟨4, by omega, by go_num, HN2.out, HKw.out⟩
        case measure => decide
      | true =>
        have hmk := hid (HY.out rfl)
        go_wp2_with fail
        go_ret3
        exact ⟨by rw [hmk.out]; rfl, HKw.out⟩
    · have H1 := hid (HC.out ⟨#[34]⟩)
      have e2 : (⟨#[34]⟩ : ByteArray).data.toList = [34] := rfl
      rw [e2] at H1
      clear e2
      have HNx : Hid ((Lib.hasPrefix s.data.toList [34] = false ∨ 4 = 0 ∨ 4 = 4) → NoMark s.data.toList 5) := fun h => ⟨fun hh => HN.out.1 (by omega), fun hh => HN.out.2.1 (by omega), fun hh => HN.out.2.2 (by omega)⟩
      generalize Lib.hasPrefix s.data.toList [34] = B at H1 HNx
      generalize Lib.trimPrefix s.data.toList [34] = TP at H1
      have HKw := hid (HK.out.alloc (.cells #[.string ⟨#[]⟩, .int .i64 0, fHas] 46))
      go_wp2_with fail
      refine (H1.out _).mono ?_
      rintro e w2 ⟨rfl, hq⟩
      replace hq := hq.symm
      subst hq
      cases B with
      | false =>
        have HN2 := hid (HNx.out (.inl rfl))
        go_wp2_with fail
        go_roundw
        case rel => exact ⟨5, by omega, by go_num, HN2.out, HKw.out⟩
        case measure => decide
      | true =>
        have HN2 := hid (HNx.out (.inr (by decide)))
        go_wp2_with fail
        go_roundw
        case rel => exact ⟨5, by omega, by go_num, HN2.out, HKw.out⟩
        case measure => decide
    · have hmk := hid (HRn.out HN.out)
      go_wp2
      go_ret3
      exact ⟨by rw [hmk.out]; rfl, HK.out⟩
end Go.Proofs.Ytbdcaikcdhfdoaa.N
