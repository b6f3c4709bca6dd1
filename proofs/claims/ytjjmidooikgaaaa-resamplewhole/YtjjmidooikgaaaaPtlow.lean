/-
  Package resample: below (how many samples stand ahead of a time), by slices.BinarySearchFunc.
-/
import Derived.Test.YtjjmidooikgaaaaPtplain
import Derived.Test.YtjjmidooikgaaaaYnum
import Derived.Test.YtjjmidooikgaaaaYbk
namespace Go.Proofs.Ytjjmidooikgaaaa.Rs
open Go Go.RowKit Go.Proofs.Lys
set_option linter.unusedVariables false
set_option linter.unusedSimpArgs false
def cmpZ (x y : Int) : Int := if x < y then -1 else if y < x then 1 else 0
theorem cmpZ_lt {x y : Int} : cmpZ x y < 0 ↔ x < y := by
  unfold cmpZ
  by_cases h1 : x < y
  · rw [if_pos h1]; omega
  · rw [if_neg h1]
    by_cases h2 : y < x
    · rw [if_pos h2]; omega
    · rw [if_neg h2]; omega
theorem cmpZ_zero {x y : Int} : cmpZ x y = 0 ↔ x = y := by
  unfold cmpZ
  by_cases h1 : x < y
  · rw [if_pos h1]; omega
  · rw [if_neg h1]
    by_cases h2 : y < x
    · rw [if_pos h2]; omega
    · rw [if_neg h2]; omega
theorem isnan_any (n : Int) (w : World) : Calls Try.prog 27 #[.int .i64 n] w fun e w' => e = .returned (.bool false) ∧ w' = w := by
  go_enter Try.func27, Try.ntmps27
  go_wp2
  go_ret
  exact ⟨by simp, rfl⟩
theorem compare_any (x y : Int) (w : World) : Calls Try.prog 23 #[.int .i64 x, .int .i64 y] w fun e w' => e = .returned (.int .i64 (cmpZ x y)) ∧ w' = w := by
  unfold cmpZ
  by_cases h1 : x < y
  · go_enter Try.func23, Try.ntmps23
    go_wp2_with (go_at_call 27; refine (isnan_any _ _).mono ?_; rintro e w' ⟨rfl, hw⟩; replace hw := hw.symm; subst hw)
    go_ret
    exact ⟨by simp [h1], rfl⟩
  · by_cases h2 : y < x
    · go_enter Try.func23, Try.ntmps23
      go_wp2_with (go_at_call 27; refine (isnan_any _ _).mono ?_; rintro e w' ⟨rfl, hw⟩; replace hw := hw.symm; subst hw)
      go_ret
      exact ⟨by simp [h1, h2], rfl⟩
    · go_enter Try.func23, Try.ntmps23
      go_wp2_with (go_at_call 27; refine (isnan_any _ _).mono ?_; rintro e w' ⟨rfl, hw⟩; replace hw := hw.symm; subst hw)
      go_ret
      exact ⟨by simp [h1, h2], rfl⟩
theorem clos_any (w : World) (T V t : Int) : Calls Try.prog 22 #[.agg #[.int .i64 T, .int .i64 V], .int .i64 t] w fun e w' => e = .returned (.int .i64 (cmpZ T t)) ∧ Kept w w' := by
  have HC := hid (compare_any T t)
  have HK := hid (show Kept w (w.alloc (.cells #[.int .i64 T, .int .i64 V] 36)) from (Only.refl _ w).alloc _)
  go_enter Try.func22, Try.ntmps22
  go_wp2_with fail
  refine (HC.out _).mono ?_
  rintro e w' ⟨rfl, hw⟩
  replace hw := hw.symm
  subst hw
  go_wp2
  go_ret
  exact ⟨rfl, HK.out⟩
theorem enters_own {P : Program} {f : FuncId} {fn : Func} {c : Code} (hf : P.funcs[f]? = some fn) (hname : (fn.name == "runtime.NumGoroutine") = false) (hb : fn.body = some c) (args : Array Value) (w : World) : (callFunc f args).run P w = .ok (.enter f args) w := by
  have h1 : fn.name ≠ "runtime.NumGoroutine" := by simpa using hname
  simp [callFunc, hf, h1, hb, mark]
theorem eg_below : ∀ args w, (callFunc 22 args).run Try.prog w = .ok (.enter 22 args) w := enters_own Try.func22 (by kernel_rfl) rfl

/-- What a search tells. -/
def FoundP (l : Smps) (t : Int) (w : World) (e : Ending) (w' : World) : Prop :=
  ∃ (k : Nat) (b : Bool), Cut l t k ∧ e = .returned (.tuple #[.int .i64 (k : Int), .bool b]) ∧ Kept w w'
/-- The times of samples don't fall. -/
def Mono (l : Smps) : Prop := ∀ i j (hij : i < j) (hj : j < l.length), (l[i]'(Nat.lt_trans hij hj)).1 ≤ l[j].1

set_option maxRecDepth 100000 in
set_option maxHeartbeats 1600000 in
theorem bsearch_any (w : World) (a : Option Addr) (L c : Nat) (l : Smps) (tm : Int) (hs : SmpSrc w (.slice a L c) l) (hL : l.length = L) (hl : L ≤ 1000000) (hr : Mono l) :
    Calls Try.prog 21 #[.slice a L c, .int .i64 tm, .func (.func 22) #[] #[]] w (FoundP l tm w) := by
  obtain ⟨R, hR⟩ : ∃ R, FoundP l tm w = R := ⟨_, rfl⟩
  rw [hR]
  have HRR := hid hR
  have HS := hid hs
  have HL := hid hL
  have HM : Hid (∀ i j (hij : i < j) (hj : j < l.length), (l[i]'(Nat.lt_trans hij hj)).1 ≤ l[j].1) := hid hr
  have eg := eg_below
  clear hs hL hr hR
  go_enter Try.func21, Try.ntmps21
  go_wp2
  go_loopw [9, 10] (fun s9 s10 wr => ∃ (lo hi : Nat), s9 = .int .i64 (lo : Int) ∧ s10 = .int .i64 (hi : Int) ∧ lo ≤ hi ∧ hi ≤ L ∧ Hid ((∀ t (ht : t < l.length), t < lo → l[t].1 < tm) ∧ (∀ t (ht : t < l.length), hi ≤ t → tm ≤ l[t].1)) ∧ Kept w wr) (fun s9 s10 _ => (intOf s10 - intOf s9).toNat)
  case atStart => exact ⟨0, L, rfl, rfl, Nat.zero_le _, Nat.le_refl _, hid ⟨fun t _ ht => absurd ht (Nat.not_lt_zero _), fun t h1 h2 => by have := HL.out; omega⟩, Only.refl _ _⟩
  case round =>
    obtain ⟨lo, hi, rfl, rfl, hlh, hin, I, kr⟩ := hrel
    have HK := hid kr
    by_cases hlt : lo < hi
    · obtain ⟨m, hm⟩ : ∃ m, (lo + hi) / 2 = m := ⟨_, rfl⟩
      have hm1 : ((lo : Int) + (hi : Int)) / 2 = (m : Int) := by omega
      have hmL : m < L := by omega
      have hml : m < l.length := by have := HL.out; omega
      obtain ⟨b, o, e0, c0, c1⟩ := (HS.out.stay kr).cell HL.out m hmL
      subst e0
      obtain ⟨x, hx⟩ : ∃ x, l[m] = x := ⟨_, rfl⟩
      have HX := hid hx
      rw [hx] at c0 c1
      obtain ⟨T, V⟩ := x
      simp only at c0 c1
      have hb : b < wr.heap.size := World.block_lt_of_cell? wr _ c0
      have HCL := hid (clos_any wr T V tm)
      have HM1 : Hid (m < hi ∧ lo ≤ m) := hid ⟨by omega, by omega⟩
      clear hx kr hm
      by_cases hc : cmpZ T tm < 0
      · have HI : Hid (∀ t (ht : t < l.length), t < m + 1 → l[t].1 < tm) := hid (fun t ht htm => by
          have hi1 := cmpZ_lt.1 hc
          have hxi : (l[m]'hml).1 = T := by rw [HX.out]
          rcases Nat.lt_or_eq_of_le (Nat.le_of_lt_succ htm) with h | h
          · have := HM.out t m h hml
            omega
          · subst h
            omega)
        go_wp2_with fail
        refine HCL.out.mono ?_
        rintro e w' ⟨rfl, k1⟩
        have HK1 := hid (HK.out.trans k1 (fun _ _ f => f))
        clear k1 HCL c0 c1
        go_wp2
        refine ⟨⟨m + 1, hi, ?_, rfl, by have := HM1.out; omega, hin, hid ⟨HI.out, I.out.2⟩, HK1.out⟩, ?_⟩
        · go_num
        · have := HM1.out
          simp [intOf]
          omega
      · have HI : Hid (∀ t (ht : t < l.length), m ≤ t → tm ≤ l[t].1) := hid (fun t ht htm => by
          have hi1 : ¬ T < tm := fun h => hc (cmpZ_lt.2 h)
          have hxi : (l[m]'hml).1 = T := by rw [HX.out]
          rcases Nat.lt_or_eq_of_le htm with h | h
          · have := HM.out m t h ht
            omega
          · subst h
            omega)
        go_wp2_with fail
        refine HCL.out.mono ?_
        rintro e w' ⟨rfl, k1⟩
        have HK1 := hid (HK.out.trans k1 (fun _ _ f => f))
        clear k1 HCL c0 c1
        go_wp2
        refine ⟨⟨lo, m, rfl, rfl, HM1.out.2, by have := HM1.out; omega, hid ⟨I.out.1, HI.out⟩, HK1.out⟩, ?_⟩
        have := HM1.out
        simp [intOf]
        omega
    · obtain rfl : hi = lo := by omega
      have HCUT : Hid (Cut l tm hi) := hid ⟨by rw [HL.out]; exact hin, I.out.1, I.out.2⟩
      by_cases hk : hi < L
      · obtain ⟨b, o, e0, c0, c1⟩ := (HS.out.stay kr).cell HL.out hi hk
        subst e0
        obtain ⟨x, hx⟩ : ∃ x, (l[hi]'(by have := HL.out; omega)) = x := ⟨_, rfl⟩
        rw [hx] at c0 c1
        obtain ⟨T, V⟩ := x
        simp only at c0 c1
        have hb : b < wr.heap.size := World.block_lt_of_cell? wr _ c0
        have HCL := hid (clos_any wr T V tm)
        clear hx kr
        have HF : Hid (∀ w' b, Kept w w' → R (.returned (.tuple #[.int .i64 (hi : Int), .bool b])) w') := hid (fun w' b k => by
          rw [← HRR.out]
          exact ⟨hi, b, HCUT.out, rfl, k⟩)
        generalize cmpZ T tm = z at HCL
        go_wp2_with fail
        refine HCL.out.mono ?_
        rintro e w' ⟨rfl, k1⟩
        have HK1 := hid (HK.out.trans k1 (fun _ _ f => f))
        clear k1 HCL c0 c1
        go_wp2
        exact HF.out _ _ HK1.out
      · have HF : Hid (∀ b, R (.returned (.tuple #[.int .i64 (hi : Int), .bool b])) wr) := hid (fun b => by
          rw [← HRR.out]
          exact ⟨hi, b, HCUT.out, rfl, HK.out⟩)
        go_wp2
        exact HF.out _

set_option maxRecDepth 100000 in
set_option maxHeartbeats 1600000 in
theorem below_any (w : World) (a : Option Addr) (L c : Nat) (l : Smps) (tm : Int) (hs : SmpSrc w (.slice a L c) l) (hL : l.length = L) (hl : L ≤ 1000000) (hr : Mono l) :
    Calls Try.prog 17 #[.slice a L c, .int .i64 tm] w fun e w' => ∃ k : Nat, Cut l tm k ∧ e = .returned (.int .i64 (k : Int)) ∧ Kept w w' := by
  have HB := hid (bsearch_any w a L c l tm hs hL hl hr)
  clear hs hL hr
  go_enter Try.func17, Try.ntmps17
  go_wp2_with fail
  refine HB.out.mono ?_
  rintro e w' ⟨k, b, hk, rfl, k1⟩
  have HK := hid hk
  have HK1 := hid k1
  clear hk k1 HB
  go_wp2
  go_ret
  exact ⟨k, HK.out, rfl, HK1.out⟩
/-- Samples whose slice has room enough. -/
def SSrc (w : World) (v : Value) (l : Smps) : Prop := SmpSrc w v l ∧ ∃ a c, v = .slice a l.length c ∧ l.length ≤ c
theorem SSrc.stay {w w' : World} {v : Value} {l : Smps} (h : SSrc w v l) (k : Kept w w') : SSrc w' v l := ⟨h.1.stay k, h.2⟩
theorem ssrc_sub {w : World} {a : Option Addr} {L c : Nat} {l : Smps} (h : SSrc w (.slice a L c) l) {lo hi : Nat} (h1 : lo ≤ hi) (h2 : hi ≤ l.length) :
    ∃ a' c', (∀ W, (Instr.sliceAt 22 (.slice a l.length c) (some (.int .i64 (lo : Int))) (some (.int .i64 (hi : Int))) none).run Try.prog W = .ok (.slice a' (hi - lo) c') W) ∧ SSrc w (.slice a' (hi - lo) c') ((l.take hi).drop lo) := by
  obtain ⟨hs, a2, c2, e, hc⟩ := h
  simp only [Value.slice.injEq] at e
  obtain ⟨rfl, rfl, rfl⟩ := e
  have hlen : ((l.take hi).drop lo).length = hi - lo := by rw [List.length_drop, List.length_take]; omega
  have hz : ∀ W, (sizeOf 36).run Try.prog W = .ok 2 W := fun W => by kernel_rfl
  have e2 : hi ≤ c := by omega
  refine ⟨if c = lo then a else a.map (·.add (lo * 2)), c - lo, fun W => ?_, ?_, _, c - lo, by rw [hlen], by rw [hlen]; omega⟩
  · simp [Instr.sliceAt, Instr.slice, Instr.sliceBounds, Instr.sliceBound, run_underlying Try.underlying22, asIntOf, h1, e2, hz, Result.andThen]
  · by_cases h0 : hi - lo = 0
    · have hn : (l.take hi).drop lo = [] := List.length_eq_zero_iff.1 (by rw [hlen]; exact h0)
      rw [hn, h0]
      exact .inl ⟨_, _, rfl, rfl⟩
    · rcases hs with ⟨x, y, hv, hn⟩ | ⟨hp, b, o, c3, hv, hcell⟩
      · rw [hn] at h2
        simp at h2
        omega
      · simp only [Value.slice.injEq] at hv
        obtain ⟨rfl, _, rfl⟩ := hv
        rw [if_neg (by omega)]
        refine .inr ⟨by rw [hlen]; omega, b, o + lo * 2, c - lo, by rw [hlen, Option.map_some, add_none], fun i hi' => ?_⟩
        rw [hlen] at hi'
        have := hcell (lo + i) (by omega)
        have e5 : ((l.take hi).drop lo)[i]'(by rw [hlen]; exact hi') = l[lo + i]'(by omega) := by
          rw [List.getElem_drop, List.getElem_take]
        rw [e5, show o + lo * 2 + i * 2 = o + (lo + i) * 2 by omega]
        exact this
end Go.Proofs.Ytjjmidooikgaaaa.Rs
