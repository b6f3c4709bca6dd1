/-
  New, refuse, newest, the place of a time.
-/
import Derived.Test.YtnbfbnhiikliaaaGreatHst
import Derived.Defers
import Derived.Recover
import Derived.BigQuiet
import Derived.Deep.QuietTactic
namespace Go.Proofs.YtnbfbnhiikliaaaGreat.Hd
open Go.RowKit Go.Proofs.Lys Go.Maps Go.Proofs.YtnbfbnhiikliaaaGreat.N
set_option linter.unusedVariables false
set_option linter.unusedSimpArgs false

theorem new_any (w : World) (n : Int) : Calls Tryz.prog 7 #[.int .i64 n] w fun e w' => e = .returned (.pointer (some ⟨w.heap.size, 0, none⟩)) ∧ HeadAt w' ⟨w.heap.size, min (max n 0) 9007199254740992, none, [], []⟩ (fun k => k = w.heap.size) ∧ Kept w w' := by
  go_enter Tryz.func7, Tryz.ntmps7
  go_wp2
  go_ret
  have hb := Blk.new w [.int .i64 (min (max n 0) 9007199254740992), .map none] 65
  refine ⟨rfl, ⟨hb, (fun mb e => by cases e), fun _ => rfl, .refl _, (fun s hs => by cases hs), (fun s hs => by cases hs), .nil, .nil, ?_, ?_, ?_⟩, (Only.refl _ w).alloc _⟩
  · rintro k (e | e | ⟨s, hs, _⟩)
    · exact e
    · cases e
    · cases hs
  · intro k e
    rw [e]
    exact hb.lt
  · show (0 : Int) ≤ min (max n 0) 9007199254740992 ∧ min (max n 0) 9007199254740992 ≤ 9007199254740992
    omega

/-- The end of a call that gives up. -/
abbrev gaveH (n : Int) : Ending := .panicked [{ v := .iface 32 (.int .i64 n), recovered := false }]
theorem refuse_no (n : Int) (w : World) : Calls Tryz.prog 33 #[.bool false, .int .i64 n] w fun e w' => e = .returned (.tuple #[]) ∧ w' = w := by
  go_enter Tryz.func33, Tryz.ntmps33
  go_wp2
  go_end0
  exact ⟨rfl, rfl⟩
theorem refuse_yes (n : Int) (w : World) : Calls Tryz.prog 33 #[.bool true, .int .i64 n] w fun e w' => e = gaveH n ∧ w' = w := by
  go_enter Tryz.func33, Tryz.ntmps33
  go_wp2
  exact ⟨rfl, rfl, rfl⟩

theorem newest_no {w : World} {h : HeadC} {O : Nat → Prop} (hA : HeadAt w h O) (s : ByteArray) (hs : s.size ≤ 100000) (hn : kvGet h.kv s.data.toList = none) :
    Calls Tryz.prog 48 #[.pointer (some ⟨h.hb, 0, none⟩), .string s] w fun e w' => e = .returned (.tuple #[.int .i64 0, .bool false]) ∧ w' = w := by
  have c1 := hA.blk.cell 1 rfl
  have hl : (Instr.lookup 63 (.map h.mv) (.string s) false).run Tryz.prog w = .ok (.pointer none) w := by
    cases e : h.mv with
    | none => exact look_nil w s
    | some mb => exact look_no (hA.map mb e) (by unfold maxLen; omega) hn
  generalize h.mv = mv at c1 hl
  generalize h.hb = hb at c1 ⊢
  clear hA hn
  go_enter Tryz.func48, Tryz.ntmps48
  go_wp2
  go_ret2
  exact ⟨rfl, rfl⟩
theorem newest_yes {w : World} {h : HeadC} {O : Nat → Prop} (hA : HeadAt w h O) (s : ByteArray) (hs : s.size ≤ 100000) {c : SerC} (hc : c ∈ h.cs) (h0 : 0 < c.smps.length) (hm : c.smps.length ≤ 1000000) (hn : kvGet h.kv s.data.toList = some (c.b : Int)) :
    Calls Tryz.prog 48 #[.pointer (some ⟨h.hb, 0, none⟩), .string s] w fun e w' => e = .returned (.tuple #[.int .i64 (lastT c.smps), .bool true]) ∧ Kept w w' := by
  have c1 := hA.blk.cell 1 rfl
  have hl : (Instr.lookup 63 (.map h.mv) (.string s) false).run Tryz.prog w = .ok (.pointer (some ⟨c.b, 0, none⟩)) w := by
    cases e : h.mv with
    | none => rw [hA.nil e] at hn; cases hn
    | some mb => exact look_yes (hA.map mb e) (by unfold maxLen; omega) hn
  have S := hA.each c hc
  have d1 := S.blk.cell 1 rfl
  obtain ⟨g, cap, hsv⟩ := ownN_some S.smp h0
  obtain ⟨b0, o0, e0, x0, y0⟩ := (SmpAt.src S.smp).len.elim (fun a h => h.elim (fun cc h => by
    have hsrc := SmpAt.src S.smp
    rw [hsv] at hsrc
    exact hsrc.cell rfl (c.smps.length - 1) (by omega)))
  simp only [Option.some.injEq, Addr.mk.injEq] at e0
  obtain ⟨rfl, rfl, _⟩ := e0
  rw [Nat.zero_add] at x0
  have hL : lastT c.smps = (c.smps[c.smps.length - 1]'(by omega)).1 := lastT_eq h0
  rw [← hL] at x0
  rw [hsv] at d1
  clear y0 hL hsv S hn hc hA
  generalize lastT c.smps = T at x0 ⊢
  generalize c.smps.length = L at x0 d1 h0 hm
  generalize c.b = cb at hl d1
  generalize h.mv = mv at c1 hl
  generalize h.hb = hb at c1 ⊢
  obtain ⟨L', rfl⟩ : ∃ L', L = L' + 1 := ⟨L - 1, by omega⟩
  rw [Nat.add_sub_cancel] at x0
  have hw1 : IntKind.i64.wrap (L' : Int) = (L' : Int) := by rw [IntKind.wrap_i64]; omega
  go_enter Tryz.func48, Tryz.ntmps48
  go_wp2_with fail
  go_quiet (fail)
  go_wp2
  go_ret2
  exact ⟨rfl, kept_drewN (Only.refl _ w) _⟩

/-- Is the time of a place below t? -/
theorem clos_place (w : World) (c : SerC) (S : SerOk w c) (t : Int) (p q : Nat) (hp : w.cell? ⟨p, 0, none⟩ = some (.pointer (some ⟨c.b, 0, none⟩))) (hq : w.cell? ⟨q, 0, none⟩ = some (.int .i64 t)) (i : Nat) (hi : i < c.smps.length) :
    Calls Tryz.prog 75 #[.int .i64 (i : Int), .pointer (some ⟨p, 0, none⟩), .pointer (some ⟨q, 0, none⟩)] w fun e w' => e = .returned (.bool (decide (t ≤ c.smps[i].1))) ∧ Kept w w' := by
  have d1 := S.blk.cell 1 rfl
  obtain ⟨g, cap, hsv⟩ := ownN_some S.smp (by omega)
  have hsrc := SmpAt.src S.smp
  rw [hsv] at hsrc
  obtain ⟨b0, o0, e0, x0, y0⟩ := hsrc.cell rfl i hi
  simp only [Option.some.injEq, Addr.mk.injEq] at e0
  obtain ⟨rfl, rfl, _⟩ := e0
  rw [Nat.zero_add] at x0
  rw [hsv] at d1
  clear y0 hsrc hsv S
  generalize c.smps[i].1 = T at x0 ⊢
  generalize c.smps.length = L at hi d1
  generalize c.b = cb at hp d1
  go_enter Tryz.func75, Tryz.ntmps75
  go_wp2_with fail
  go_quiet (fail)
  go_wp2
  go_ret
  exact ⟨rfl, kept_drewN (Only.refl _ w) _⟩

set_option maxHeartbeats 1600000 in
/-- sort.Search. -/
theorem search_any (w : World) (g n : Nat) (cb : Array Value) (P : Nat → Bool) (hn : n ≤ 1000000) (eg : ∀ args w, (callFunc g args).run Tryz.prog w = .ok (.enter g args) w)
    (hf : ∀ W, Kept w W → ∀ i, i < n → Calls Tryz.prog g (#[.int .i64 (i : Int)] ++ cb) W fun e w' => e = .returned (.bool (P i)) ∧ Kept W w') (hmono : ∀ a b, a ≤ b → b < n → P a = true → P b = true) :
    Calls Tryz.prog 74 #[.int .i64 (n : Int), .func (.func g) #[] cb] w fun e w' => (∃ k : Nat, e = .returned (.int .i64 (k : Int)) ∧ k ≤ n ∧ (∀ i, i < k → P i = false) ∧ (∀ i, k ≤ i → i < n → P i = true)) ∧ Kept w w' := by
  have HF := hid hf
  have M := hid hmono
  clear hf hmono
  go_enter Tryz.func74, Tryz.ntmps74
  go_wp2
  go_loopw [5, 6] (fun s5 s6 wr => ∃ (lo hi : Nat), s5 = .int .i64 (lo : Int) ∧ s6 = .int .i64 (hi : Int) ∧ lo ≤ hi ∧ hi ≤ n ∧ Hid ((∀ t, t < lo → P t = false) ∧ (∀ t, hi ≤ t → t < n → P t = true)) ∧ Kept w wr) (fun s5 s6 _ => (intOf s6 - intOf s5).toNat)
  case atStart => exact ⟨0, n, rfl, rfl, Nat.zero_le _, Nat.le_refl _, (⟨fun t ht => absurd ht (Nat.not_lt_zero _), fun t h1 h2 => by omega⟩ : (∀ t, t < 0 → P t = false) ∧ (∀ t, n ≤ t → t < n → P t = true)), Only.refl _ _⟩
  case round =>
    obtain ⟨lo, hi, rfl, rfl, hlh, hin, I, kr⟩ := hrel
    have HK := hid kr
    by_cases hlt : lo < hi
    · have hc := HF.out wr kr ((lo + hi) / 2) (by omega)
      rw [show (((lo + hi) / 2 : Nat) : Int) = ((lo : Int) + (hi : Int)) / 2 by omega] at hc
      cases hp : P ((lo + hi) / 2) <;> rw [hp] at hc
      · have HP := hid hp
        have HC := hid hc
        clear hp kr hc
        go_wp2_with fail
        refine HC.out.mono ?_
        rintro e w' ⟨rfl, k1⟩
        have HK1 := hid (HK.out.trans k1 (fun _ _ f => f))
        clear k1 HC
        go_wp2
        refine ⟨⟨(lo + hi) / 2 + 1, hi, ?_, rfl, by omega, hin, ?_, HK1.out⟩, ?_⟩
        · rw [show ((lo : Int) + (hi : Int)) / 2 + 1 = (((lo + hi) / 2 + 1 : Nat) : Int) by omega]
        · refine (⟨fun t ht => ?_, I.out.2⟩ : (∀ t, t < (lo + hi) / 2 + 1 → P t = false) ∧ (∀ t, hi ≤ t → t < n → P t = true))
          cases h : P t with
          | false => rfl
          | true => have := M.out t ((lo + hi) / 2) (by omega) (by omega) h; rw [HP.out] at this; cases this
        · simp [intOf]
          omega
      · have HP := hid hp
        have HC := hid hc
        clear hp kr hc
        go_wp2_with fail
        refine HC.out.mono ?_
        rintro e w' ⟨rfl, k1⟩
        have HK1 := hid (HK.out.trans k1 (fun _ _ f => f))
        clear k1 HC
        go_wp2
        refine ⟨⟨lo, (lo + hi) / 2, rfl, ?_, by omega, by omega, (⟨I.out.1, fun t ht htn => M.out ((lo + hi) / 2) t ht htn HP.out⟩ : (∀ t, t < lo → P t = false) ∧ (∀ t, (lo + hi) / 2 ≤ t → t < n → P t = true)), HK1.out⟩, ?_⟩
        · rw [show ((lo : Int) + (hi : Int)) / 2 = (((lo + hi) / 2 : Nat) : Int) by omega]
        · simp [intOf]
          omega
    · obtain rfl : hi = lo := by omega
      go_wp2
      go_ret
      exact ⟨⟨hi, rfl, hin, I.out.1, I.out.2⟩, HK.out⟩

set_option maxHeartbeats 800000 in
/-- Where a time belongs. -/
theorem place_any (w : World) (c : SerC) (S : SerOk w c) (hr : RiseS c.smps) (hl : c.smps.length ≤ 1000000) (t : Int) :
    Calls Tryz.prog 56 #[.pointer (some ⟨c.b, 0, none⟩), .int .i64 t] w fun e w' => e = .returned (.int .i64 (placeS t c.smps : Nat)) ∧ Kept w w' := by
  obtain ⟨w2, hw2⟩ : ∃ w2, w2 = (w.alloc (.cells #[.pointer (some ⟨c.b, 0, none⟩)] 72)).alloc (.cells #[.int .i64 t] 3) := ⟨_, rfl⟩
  have k2 : Kept w w2 := by rw [hw2]; exact ((Only.refl _ w).alloc _).alloc _
  have S2 := S.only k2 (fun _ _ f => f)
  have bp : Blk w2 w.heap.size [.pointer (some ⟨c.b, 0, none⟩)] 72 := by rw [hw2]; exact (Blk.new w _ _).alloc _
  have bq : Blk w2 (w.heap.size + 1) [.int .i64 t] 3 := by
    rw [hw2]
    have := Blk.new (w.alloc (.cells #[.pointer (some ⟨c.b, 0, none⟩)] 72)) [.int .i64 t] 3
    simpa using this
  have eg : ∀ args w, (callFunc 75 args).run Tryz.prog w = .ok (.enter 75 args) w := enters_of Tryz.func75 (by kernel_rfl) rfl
  have HS := hid (search_any w2 75 c.smps.length #[.pointer (some ⟨w.heap.size, 0, none⟩), .pointer (some ⟨w.heap.size + 1, 0, none⟩)] (fun i => decide (t ≤ (c.smps.getD i (0, 0)).1)) hl eg
    (fun W kW i hi => by
      have := clos_place W c (S2.only kW (fun _ _ f => f)) t w.heap.size (w.heap.size + 1) ((kW.blk bp (fun f => f)).cell 0 rfl) ((kW.blk bq (fun f => f)).cell 0 rfl) i hi
      rw [List.getD_eq_getElem?_getD, List.getElem?_eq_getElem hi]
      exact this)
    (fun a b hab hb h => by
      rw [List.getD_eq_getElem?_getD, List.getElem?_eq_getElem (by omega)] at h
      rw [List.getD_eq_getElem?_getD, List.getElem?_eq_getElem hb]
      simp only [Option.getD_some, decide_eq_true_eq] at h ⊢
      rcases Nat.lt_or_eq_of_le hab with h1 | h1
      · have := rise_get hr h1 hb
        omega
      · subst h1
        exact h))
  have HP : Hid (∀ k, k ≤ c.smps.length → (∀ i, i < k → decide (t ≤ (c.smps.getD i (0, 0)).1) = false) → (∀ i, k ≤ i → i < c.smps.length → decide (t ≤ (c.smps.getD i (0, 0)).1) = true) → placeS t c.smps = k) := fun k hk h1 h2 => by
    have hle := placeS_le t c.smps
    rcases Nat.lt_trichotomy (placeS t c.smps) k with h | h | h
    · have := h1 _ h
      rw [List.getD_eq_getElem?_getD, List.getElem?_eq_getElem (by omega)] at this
      have h3 := placeS_at (t := t) (l := c.smps) (by omega)
      simp only [Option.getD_some, decide_eq_false_iff_not] at this
      omega
    · exact h
    · have := h2 k (Nat.le_refl _) (by omega)
      rw [List.getD_eq_getElem?_getD, List.getElem?_eq_getElem (by omega)] at this
      have h3 := placeS_lt h (by omega)
      simp only [Option.getD_some, decide_eq_true_eq] at this
      omega
  have d1 := S2.blk.cell 1 rfl
  obtain ⟨a1, c1, hsv⟩ := ownN_slice S.smp
  rw [hsv] at d1
  have p1 := bp.cell 0 rfl
  have K2 := hid k2
  clear bp bq S S2 hsv k2
  subst hw2
  generalize placeS t c.smps = pl at HP ⊢
  generalize c.smps.length = L at HP HS d1 hl
  generalize c.b = cb at HS K2 d1 p1 ⊢
  go_enter Tryz.func56, Tryz.ntmps56
  go_wp2_with fail
  refine HS.out.mono ?_
  rintro e w' ⟨⟨k, rfl, hk, h1, h2⟩, k1⟩
  have HE := hid (HP.out k hk h1 h2)
  have HK := hid (K2.out.trans k1 (fun _ _ f => f))
  clear h1 h2 k1 HP HS
  go_wp2
  go_ret
  exact ⟨by rw [HE.out]; rfl, HK.out⟩
end Go.Proofs.YtnbfbnhiikliaaaGreat.Hd
