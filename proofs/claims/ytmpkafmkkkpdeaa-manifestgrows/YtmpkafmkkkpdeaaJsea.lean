/-
  Where an Id stands among blocks whose Ids rise: slices.BinarySearchFunc.
-/
import Derived.Test.YtmpkafmkkkpdeaaJadd2
namespace Go.Proofs.Ytmpkafmkkkpdeaa.J
open Go.RowKit Go.Proofs.Lys
set_option linter.unusedVariables false
set_option linter.unusedSimpArgs false

def cmpZ (x y : Int) : Int := if x < y then -1 else if y < x then 1 else 0
theorem cmpZ_lt {x y : Int} : cmpZ x y < 0 ↔ x < y := by
  unfold cmpZ
  by_cases h1 : x < y
  · rw [if_pos h1]; omega
  · rw [if_neg h1]
    by_cases h2 : y < x
    · rw [if_pos h2]; omega
    · rw [if_neg h2]; omega
theorem cmpZ_zero {x y : Int} : cmpZ x y = 0 ↔ x = y := by
  unfold cmpZ
  by_cases h1 : x < y
  · rw [if_pos h1]; omega
  · rw [if_neg h1]
    by_cases h2 : y < x
    · rw [if_pos h2]; omega
    · rw [if_neg h2]; omega
theorem isnan_any (n : Int) (w : World) : Calls Try.prog 31 #[.int .i64 n] w fun e w' => e = .returned (.bool false) ∧ w' = w := by
  go_enter Try.func31, Try.ntmps31
  go_wp2
  go_ret
  exact ⟨by simp, rfl⟩
theorem compare_any (x y : Int) (w : World) : Calls Try.prog 27 #[.int .i64 x, .int .i64 y] w fun e w' => e = .returned (.int .i64 (cmpZ x y)) ∧ w' = w := by
  unfold cmpZ
  by_cases h1 : x < y
  · go_enter Try.func27, Try.ntmps27
    go_wp2_with (go_at_call 31; refine (isnan_any _ _).mono ?_; rintro e w' ⟨rfl, hw⟩; replace hw := hw.symm; subst hw)
    go_ret
    exact ⟨by simp [h1], rfl⟩
  · by_cases h2 : y < x
    · go_enter Try.func27, Try.ntmps27
      go_wp2_with (go_at_call 31; refine (isnan_any _ _).mono ?_; rintro e w' ⟨rfl, hw⟩; replace hw := hw.symm; subst hw)
      go_ret
      exact ⟨by simp [h1, h2], rfl⟩
    · go_enter Try.func27, Try.ntmps27
      go_wp2_with (go_at_call 31; refine (isnan_any _ _).mono ?_; rintro e w' ⟨rfl, hw⟩; replace hw := hw.symm; subst hw)
      go_ret
      exact ⟨by simp [h1, h2], rfl⟩
theorem clos_any (w : World) (x : Rf) (id : Int) : Calls Try.prog 26 #[.agg #[.int .i64 x.1, .int .i64 x.2.1, .int .i64 x.2.2.1, .int .i64 x.2.2.2], .int .i64 id] w fun e w' => e = .returned (.int .i64 (cmpZ x.1 id)) ∧ Kept w w' := by
  obtain ⟨i, lv, f, t⟩ := x
  have HC := hid (compare_any i id)
  have HK := hid (show Kept w (w.alloc (rfO (i, lv, f, t))) from (Only.refl _ w).alloc _)
  go_enter Try.func26, Try.ntmps26
  go_wp2_with fail
  refine (HC.out _).mono ?_
  rintro e w' ⟨rfl, hw⟩
  replace hw := hw.symm
  subst hw
  go_wp2
  go_ret
  exact ⟨rfl, HK.out⟩

/-- What a search tells. -/
def FoundP (l : List Rf) (id : Int) (w : World) (e : Ending) (w' : World) : Prop :=
  (∃ k, ∃ h : k < l.length, l[k].1 = id ∧ e = .returned (.tuple #[.int .i64 (k : Int), .bool true]) ∧ Kept w w') ∨
  (id ∉ l.map (·.1) ∧ ∃ k : Nat, e = .returned (.tuple #[.int .i64 (k : Int), .bool false]) ∧ Kept w w')
theorem enters_own {P : Program} {f : FuncId} {fn : Func} {c : Code} (hf : P.funcs[f]? = some fn) (hname : (fn.name == "runtime.NumGoroutine") = false) (hb : fn.body = some c) (args : Array Value) (w : World) : (callFunc f args).run P w = .ok (.enter f args) w := by
  have h1 : fn.name ≠ "runtime.NumGoroutine" := by simpa using hname
  simp [callFunc, hf, h1, hb, mark]
theorem eg_without : ∀ args w, (callFunc 26 args).run Try.prog w = .ok (.enter 26 args) w := enters_own Try.func26 (by kernel_rfl) rfl

set_option maxRecDepth 100000 in
set_option maxHeartbeats 1600000 in
theorem bsearch_any (w : World) (a : Option Addr) (L c : Nat) (l : List Rf) (id : Int) (hs : RfSrc w (.slice a L c) l) (hL : l.length = L) (hl : L ≤ 100000) (hr : ∀ i j (hij : i < j) (hj : j < l.length), (l[i]'(by omega)).1 < l[j].1) :
    Calls Try.prog 25 #[.slice a L c, .int .i64 id, .func (.func 26) #[] #[]] w (FoundP l id w) := by
  obtain ⟨R, hR⟩ : ∃ R, FoundP l id w = R := ⟨_, rfl⟩
  rw [hR]
  have HRR := hid hR
  have HS := hid hs
  have HL := hid hL
  have HM : Hid (∀ i j (hij : i < j) (hj : j < l.length), (l[i]'(Nat.lt_trans hij hj)).1 < l[j].1) := hid hr
  have eg := eg_without
  clear hs hL hr hR
  go_enter Try.func25, Try.ntmps25
  go_wp2
  go_loopw [9, 10] (fun s9 s10 wr => ∃ (lo hi : Nat), s9 = .int .i64 (lo : Int) ∧ s10 = .int .i64 (hi : Int) ∧ lo ≤ hi ∧ hi ≤ L ∧ Hid ((∀ t (ht : t < l.length), t < lo → l[t].1 < id) ∧ (∀ t (ht : t < l.length), hi ≤ t → id ≤ l[t].1)) ∧ Kept w wr) (fun s9 s10 _ => (intOf s10 - intOf s9).toNat)
  case atStart => exact ⟨0, L, rfl, rfl, Nat.zero_le _, Nat.le_refl _, hid ⟨fun t _ ht => absurd ht (Nat.not_lt_zero _), fun t h1 h2 => by have := HL.out; omega⟩, Only.refl _ _⟩
  case round =>
    obtain ⟨lo, hi, rfl, rfl, hlh, hin, I, kr⟩ := hrel
    have HK := hid kr
    by_cases hlt : lo < hi
    · obtain ⟨m, hm⟩ : ∃ m, (lo + hi) / 2 = m := ⟨_, rfl⟩
      have hm1 : ((lo : Int) + (hi : Int)) / 2 = (m : Int) := by omega
      have hmL : m < L := by omega
      have hml : m < l.length := by have := HL.out; omega
      obtain ⟨b, o, e0, c0, c1, c2, c3⟩ := (HS.out.stay kr).cell HL.out m hmL
      subst e0
      obtain ⟨x, hx⟩ : ∃ x, l[m] = x := ⟨_, rfl⟩
      have HX := hid hx
      rw [hx] at c0 c1 c2 c3
      obtain ⟨i, lv, f, t⟩ := x
      simp only at c0 c1 c2 c3
      have hb : b < wr.heap.size := World.block_lt_of_cell? wr _ c0
      have HCL := hid (clos_any wr (i, lv, f, t) id)
      have HM1 : Hid (m < hi ∧ lo ≤ m) := hid ⟨by omega, by omega⟩
      clear hx kr hm
      by_cases hc : cmpZ i id < 0
      · have HI : Hid (∀ t (ht : t < l.length), t < m + 1 → l[t].1 < id) := hid (fun t ht htm => by
          have hi1 := cmpZ_lt.1 hc
          have hxi : (l[m]'hml).1 = i := by rw [HX.out]
          rcases Nat.lt_or_eq_of_le (Nat.le_of_lt_succ htm) with h | h
          · have := HM.out t m h hml
            omega
          · subst h
            omega)
        go_wp2_with fail
        refine HCL.out.mono ?_
        rintro e w' ⟨rfl, k1⟩
        have HK1 := hid (HK.out.trans k1 (fun _ _ f => f))
        clear k1 HCL c0 c1 c2 c3
        go_wp2
        refine ⟨⟨m + 1, hi, ?_, rfl, by have := HM1.out; omega, hin, hid ⟨HI.out, I.out.2⟩, HK1.out⟩, ?_⟩
        · go_num
        · have := HM1.out
          simp [intOf]
          omega
      · have HI : Hid (∀ t (ht : t < l.length), m ≤ t → id ≤ l[t].1) := hid (fun t ht htm => by
          have hi1 : ¬ i < id := fun h => hc (cmpZ_lt.2 h)
          have hxi : (l[m]'hml).1 = i := by rw [HX.out]
          rcases Nat.lt_or_eq_of_le htm with h | h
          · have := HM.out m t h ht
            omega
          · subst h
            omega)
        go_wp2_with fail
        refine HCL.out.mono ?_
        rintro e w' ⟨rfl, k1⟩
        have HK1 := hid (HK.out.trans k1 (fun _ _ f => f))
        clear k1 HCL c0 c1 c2 c3
        go_wp2
        refine ⟨⟨lo, m, rfl, rfl, HM1.out.2, by have := HM1.out; omega, hid ⟨I.out.1, HI.out⟩, HK1.out⟩, ?_⟩
        have := HM1.out
        simp [intOf]
        omega
    · obtain rfl : hi = lo := by omega
      by_cases hk : hi < L
      · have hml : hi < l.length := by have := HL.out; omega
        obtain ⟨b, o, e0, c0, c1, c2, c3⟩ := (HS.out.stay kr).cell HL.out hi hk
        subst e0
        obtain ⟨x, hx⟩ : ∃ x, l[hi] = x := ⟨_, rfl⟩
        have HX := hid hx
        rw [hx] at c0 c1 c2 c3
        obtain ⟨i, lv, f, t⟩ := x
        simp only at c0 c1 c2 c3
        have hb : b < wr.heap.size := World.block_lt_of_cell? wr _ c0
        have HCL := hid (clos_any wr (i, lv, f, t) id)
        clear hx kr
        by_cases hc : cmpZ i id = 0
        · have HF : Hid (∀ w', Kept w w' → R (.returned (.tuple #[.int .i64 (hi : Int), .bool true])) w') := hid (fun w' k => by
            rw [← HRR.out]
            exact .inl ⟨hi, hml, by rw [HX.out]; exact cmpZ_zero.1 hc, rfl, k⟩)
          rw [hc] at HCL
          go_wp2_with fail
          refine HCL.out.mono ?_
          rintro e w' ⟨rfl, k1⟩
          have HK1 := hid (HK.out.trans k1 (fun _ _ f => f))
          clear k1 HCL c0 c1 c2 c3
          go_wp2
          exact HF.out _ HK1.out
        · have HF : Hid (∀ w', Kept w w' → R (.returned (.tuple #[.int .i64 (hi : Int), .bool false])) w') := hid (fun w' k => by
            rw [← HRR.out]
            refine .inr ⟨fun hin => ?_, hi, rfl, k⟩
            obtain ⟨y, hy, e⟩ := List.mem_map.1 hin
            obtain ⟨t, ht, rfl⟩ := List.getElem_of_mem hy
            try simp only at e
            have hxi : (l[hi]'hml).1 = i := by rw [HX.out]
            have h2 : i ≠ id := fun h => hc (cmpZ_zero.2 h)
            rcases Nat.lt_trichotomy t hi with h | h | h
            · have := I.out.1 t ht h; omega
            · subst h; omega
            · have h3 := HM.out hi t h ht
              have h4 := I.out.2 hi hml (Nat.le_refl _)
              omega)
          have hcb : (cmpZ i id == 0) = false := by simpa using hc
          generalize cmpZ i id = z at HCL hc hcb
          go_wp2_with fail
          refine HCL.out.mono ?_
          rintro e w' ⟨rfl, k1⟩
          have HK1 := hid (HK.out.trans k1 (fun _ _ f => f))
          clear k1 HCL c0 c1 c2 c3
          go_wp2
          exact HF.out _ HK1.out
      · have HF : Hid (∀ w', Kept w w' → R (.returned (.tuple #[.int .i64 (hi : Int), .bool false])) w') := hid (fun w' k => by
          rw [← HRR.out]
          refine .inr ⟨fun hin => ?_, hi, rfl, k⟩
          obtain ⟨y, hy, e⟩ := List.mem_map.1 hin
          obtain ⟨t, ht, rfl⟩ := List.getElem_of_mem hy
          try simp only at e
          have := I.out.1 t ht (by have := HL.out; omega)
          omega)
        go_wp2
        exact HF.out _ HK.out
end Go.Proofs.Ytmpkafmkkkpdeaa.J
