/-
  Text: the matchers as a text.
-/
import Derived.Test.YtbdcaikcdhfdoaaMcheck
import Derived.Test.YtbdcaikcdhfdoaaNtxt
import Derived.Test.YtbdcaikcdhfdoaaMfind
namespace Go.Proofs.Ytbdcaikcdhfdoaa.N
open Go.RowKit Go.Proofs.Lys
set_option linter.unusedVariables false
set_option linter.unusedSimpArgs false

theorem txt_one (v : ByteArray) (h : v.size ≤ 64) : (txtB [(⟨#[118]⟩, v)]).data.toList = if v.size = 0 then [] else [123, 118, 61, 34] ++ quoteL v.data.toList ++ [34, 125] := by
  by_cases h0 : v.size = 0
  · rw [if_pos h0]
    have hm : makeL [(⟨#[118]⟩, v)] = none := by
      unfold makeL
      rw [if_neg (by simp), if_neg]
      simp [labOk, valOk, h0]
    unfold txtB
    rw [hm]
  · rw [if_neg h0]
    have hok : labOk ((⟨#[118]⟩ : ByteArray), v) = true := by
      have a1 : nameOk ⟨#[118]⟩ = true := by decide
      have a2 : valOk v = true := by
        simp only [valOk, Bool.and_eq_true, decide_eq_true_eq]
        omega
      unfold labOk
      rw [a1, a2]
      rfl
    have hm : Made [((⟨#[118]⟩ : ByteArray), v)] := ⟨by simp, by simp, fun x hx => by rw [List.mem_singleton.1 hx]; exact hok, by simp [Rise]⟩
    unfold txtB
    rw [hm.make]
    simp [textL, accT, restT, labT]
theorem trim_mid (q : List UInt8) : Lib.trimSuffix (Lib.trimPrefix ([123, 118, 61, 34] ++ q ++ [34, 125]) [123, 118, 61, 34]) [34, 125] = q := by
  have h1 : Lib.trimPrefix ([123, 118, 61, 34] ++ q ++ [34, 125]) [123, 118, 61, 34] = q ++ [34, 125] := by
    unfold Lib.trimPrefix
    rw [if_pos (by
      unfold Lib.hasPrefix
      exact List.isPrefixOf_iff_prefix.2 ⟨q ++ [34, 125], by simp⟩)]
    simp
  rw [h1]
  unfold Lib.trimSuffix
  rw [if_pos (by
    unfold Lib.hasSuffix
    exact List.isSuffixOf_iff_suffix.2 ⟨q, rfl⟩)]
  simp

set_option maxRecDepth 100000 in
set_option maxHeartbeats 1000000 in
theorem mquoted_any (w : World) (v : ByteArray) (h : v.size ≤ 64) : Calls Try.prog 26 #[.string v] w fun e w' => e = .returned (.string (mkB (quoteL v.data.toList))) ∧ Kept w w' := by
  have H := hid (text_any _ _ _ (lab_lit w (⟨#[118]⟩, v)) (by simp) (fun x hx => by rw [List.mem_singleton.1 hx]; exact ⟨by show (1 : Nat) ≤ 100000; decide, by show v.size ≤ 100000; omega⟩))
  have HK := hid ((Only.refl (fun _ => False) w).alloc (.cells #[.string ⟨#[118]⟩, .string v] 43))
  have ht := txt_one v h
  generalize txtB [(⟨#[118]⟩, v)] = T at H ht
  have hTs : T.size ≤ 1000 := by
    have hq := quote_len v.data.toList
    rw [← Lib.size_eq] at hq
    rw [Lib.size_eq, ht]
    split
    · simp
    · simp
      omega
  have hfin : Hid (mkB (Lib.trimSuffix (mkB (Lib.trimPrefix T.data.toList [123, 118, 61, 34])).data.toList [34, 125]) = mkB (quoteL v.data.toList)) := by
    refine hid ?_
    show mkB (Lib.trimSuffix (Lib.trimPrefix T.data.toList [123, 118, 61, 34]) [34, 125]) = _
    rw [ht]
    split
    · rename_i h0
      have : v.data.toList = [] := List.length_eq_zero_iff.1 (by rw [← Lib.size_eq]; exact h0)
      rw [this]
      rfl
    · rw [trim_mid]
  have H2 := hid (fun W => Try.strings_TrimPrefix T ⟨#[123, 118, 61, 34]⟩ W)
  have hl : (mkB (Lib.trimPrefix T.data.toList [123, 118, 61, 34])).size ≤ 9223372036854775807 := by
    rw [Lib.size_eq]
    show (Lib.trimPrefix T.data.toList [123, 118, 61, 34]).length ≤ _
    unfold Lib.trimPrefix
    split
    · rw [List.length_drop, ← Lib.size_eq]; omega
    · rw [← Lib.size_eq]; omega
  have H3 := hid (fun W => Try.strings_TrimSuffix (mkB (Lib.trimPrefix T.data.toList [123, 118, 61, 34])) ⟨#[34, 125]⟩ W hl)
  go_enter Try.func26, Try.ntmps26
  go_wp2_with fail
  refine H.out.mono ?_
  rintro e w1 ⟨rfl, k1⟩
  have HK1 := hid (HK.out.trans k1 (fun _ _ f => f))
  clear k1 H ht hTs hl
  go_wp2_with fail
  refine (H2.out _).mono ?_
  rintro e w2 ⟨rfl, hq⟩
  replace hq := hq.symm
  subst hq
  go_wp2_with fail
  refine (H3.out _).mono ?_
  rintro e w2 ⟨rfl, hq⟩
  replace hq := hq.symm
  subst hq
  go_wp2
  go_ret
  exact ⟨by rw [← hfin.out]; rfl, HK1.out⟩

theorem Bld.stay {w w' : World} {B b : Nat} {l : List UInt8} (h : Bld w B b l) (k : Kept w w') : Bld w' B b l := by
  have each : ∀ p, Lib.BuilderAtF 57 5 B b p (Lib.byteCells l) w → Lib.BuilderAtF 57 5 B b p (Lib.byteCells l) w' := by
    rintro p ⟨hB, v, hb, hown, hne⟩
    refine ⟨hB, v, ?_, ?_, hne⟩
    · rw [k.block b (Array.getElem?_eq_some_iff.1 hb).1 (fun f => f)]
      exact hb
    · rcases hown with ⟨hl, hn | ⟨g, cap, cur, fz, hv, hbg, hg, rest⟩⟩
      · exact ⟨hl, .inl hn⟩
      · exact ⟨hl, .inr ⟨g, cap, cur, fz, hv, hbg, by rw [k.block g (Array.getElem?_eq_some_iff.1 hg).1 (fun f => f)]; exact hg, rest⟩⟩
  rcases h with h | h
  · exact .inl (each _ h)
  · exact .inr (each _ h)

theorem matT_len {m : Mat} (h : matOk m = true) : (matT m).length ≤ 300 := by
  obtain ⟨h1, h4, hn, hv⟩ := matOk_parts h
  simp only [nameOk, Bool.and_eq_true, decide_eq_true_eq] at hn
  have h64 := hn.1.1.2
  have hq := quote_len m.2.2.data.toList
  rw [← Lib.size_eq] at hq
  have hr : roomN m.1 ≤ 64 := by unfold roomN; split <;> omega
  have hm : (markB m.1).length ≤ 2 := by
    unfold markB
    repeat' split
    all_goals simp
  unfold matT valT
  rw [List.length_append, ← Lib.size_eq]
  split
  · simp only [List.length_append, List.length_cons, List.length_nil]
    omega
  · simp
    omega
theorem matsT_len {l : Mats} (h : ∀ m ∈ l, matOk m = true) : (matsT l).length ≤ 301 * l.length := by
  cases l with
  | nil => simp [matsT]
  | cons x r =>
    have hr : ∀ m : Mats, (∀ x ∈ m, matOk x = true) → (restM m).length ≤ 301 * m.length := fun m hm => by
      induction m with
      | nil => simp [restM]
      | cons y m ih =>
        have e : restM (y :: m) = 44 :: (matT y ++ restM m) := by simp [restM]
        have h1 := matT_len (hm y (List.mem_cons_self ..))
        have h2 := ih (fun z hz => hm z (List.mem_cons_of_mem _ hz))
        rw [e, List.length_cons, List.length_append, List.length_cons]
        omega
    have h1 := matT_len (h x (List.mem_cons_self ..))
    have h2 := hr r (fun z hz => h z (List.mem_cons_of_mem _ hz))
    simp only [matsT, List.length_cons, List.length_append]
    omega
end Go.Proofs.Ytbdcaikcdhfdoaa.N
