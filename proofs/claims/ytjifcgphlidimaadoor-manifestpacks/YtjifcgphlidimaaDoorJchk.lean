/-
  Which manifests can be: the document's words, and the program's Check.
-/
import Derived.Test.YtjifcgphlidimaaDoorJrow
namespace Go.Proofs.YtjifcgphlidimaaDoor.J
open Go.RowKit Go.Proofs.Lys
set_option linter.unusedVariables false

structure Man where
  bl : List Rf
  next : Int
  log : Int
  low : Int
def cntO (n : Int) : Bool := decide (1 ≤ n) && decide (n ≤ 1099511627776)
def winO (t : Int) : Bool := decide (-9007199254740992 ≤ t) && decide (t ≤ 9007199254740993)
def numO (ahead next : Int) : List Rf → Bool
  | [] => true
  | x :: r => decide (ahead < x.1) && decide (x.1 < next) && decide (0 ≤ x.2.1) && decide (x.2.1 ≤ 20) && numO x.1 next r
def timO : List Rf → Bool
  | [] => true
  | x :: r => winO x.2.2.1 && winO x.2.2.2 && decide (x.2.2.1 < x.2.2.2) && timO r
def chkO (m : Man) : Int := if 200 < m.bl.length then 2 else if (cntO m.next && cntO m.log && numO 0 m.next m.bl) = false then 1 else if (timO m.bl && winO m.low) = false then 21 else 0
abbrev manV (v : Value) (m : Man) : Value := .agg #[v, .int .i64 m.next, .int .i64 m.log, .int .i64 m.low]
theorem num_no {a n : Int} {x : Rf} {r : List Rf} (h : x.1 ≤ a ∨ n ≤ x.1 ∨ x.2.1 < 0 ∨ 20 < x.2.1) : numO a n (x :: r) = false := by
  unfold numO
  cases e : (decide (a < x.1) && decide (x.1 < n) && decide (0 ≤ x.2.1) && decide (x.2.1 ≤ 20)) with
  | false => rw [Bool.false_and]
  | true => simp only [Bool.and_eq_true, decide_eq_true_eq] at e; omega
theorem num_go {a n : Int} {x : Rf} {r : List Rf} (h : ¬ (x.1 ≤ a ∨ n ≤ x.1 ∨ x.2.1 < 0 ∨ 20 < x.2.1)) : numO a n (x :: r) = numO x.1 n r := by
  rw [numO]
  have e : (decide (a < x.1) && decide (x.1 < n) && decide (0 ≤ x.2.1) && decide (x.2.1 ≤ 20)) = true := by simp only [Bool.and_eq_true, decide_eq_true_eq]; omega
  rw [e, Bool.true_and]

theorem counts_any (n : Int) (w : World) : Calls Tryd.prog 34 #[.int .i64 n] w fun e w' => e = .returned (.bool (cntO n)) ∧ w' = w := by
  unfold cntO
  by_cases h1 : 1 ≤ n
  · by_cases h2 : n ≤ 1099511627776
    · go_enter Tryd.func34, Tryd.ntmps34
      go_wp2
      go_ret
      exact ⟨by simp; omega, rfl⟩
    · go_enter Tryd.func34, Tryd.ntmps34
      go_wp2
      go_ret
      exact ⟨by simp; omega, rfl⟩
  · go_enter Tryd.func34, Tryd.ntmps34
    go_wp2
    go_ret
    exact ⟨by simp; omega, rfl⟩
theorem within_any (n : Int) (w : World) : Calls Tryd.prog 35 #[.int .i64 n] w fun e w' => e = .returned (.bool (winO n)) ∧ w' = w := by
  unfold winO
  by_cases h1 : -9007199254740992 ≤ n
  · by_cases h2 : n ≤ 9007199254740993
    · go_enter Tryd.func35, Tryd.ntmps35
      go_wp2
      go_ret
      exact ⟨by simp; omega, rfl⟩
    · go_enter Tryd.func35, Tryd.ntmps35
      go_wp2
      go_ret
      exact ⟨by simp; omega, rfl⟩
  · go_enter Tryd.func35, Tryd.ntmps35
    go_wp2
    go_ret
    exact ⟨by simp; omega, rfl⟩

set_option maxRecDepth 100000 in
set_option maxHeartbeats 1600000 in
theorem numbered_any (w : World) (a : Option Addr) (L c : Nat) (N G Lo : Int) (l : List Rf) (hs : RfSrc w (.slice a L c) l) (hL : l.length = L) (hl : L ≤ 1000000) :
    Calls Tryd.prog 17 #[.agg #[.slice a L c, .int .i64 N, .int .i64 G, .int .i64 Lo]] w fun e w' => e = .returned (.bool (cntO N && cntO G && numO 0 N l)) ∧ Kept w w' := by
  have HS := hid hs
  have HL := hid hL
  clear hs hL
  have HK := hid (show Kept w (w.alloc (.cells #[.slice a L c, .int .i64 N, .int .i64 G, .int .i64 Lo] 24)) from (Only.refl _ w).alloc _)
  cases hN : cntO N with
  | false =>
    go_enter Tryd.func17, Tryd.ntmps17
    go_wp2_with (go_at_call 34; refine (counts_any _ _).mono ?_; rintro e w' ⟨rfl, hw⟩; replace hw := hw.symm; subst hw)
    go_ret
    exact ⟨rfl, HK.out⟩
  | true =>
  cases hG : cntO G with
  | false =>
    go_enter Tryd.func17, Tryd.ntmps17
    go_wp2_with (go_at_call 34; refine (counts_any _ _).mono ?_; rintro e w' ⟨rfl, hw⟩; replace hw := hw.symm; subst hw)
    go_ret
    exact ⟨rfl, HK.out⟩
  | true =>
    rw [Bool.true_and, Bool.true_and]
    go_enter Tryd.func17, Tryd.ntmps17
    go_wp2_with (go_at_call 34; refine (counts_any _ _).mono ?_; rintro e w' ⟨rfl, hw⟩; replace hw := hw.symm; subst hw)
    clear hN hG
    go_loopw [3, 19] (fun t s wr => ∃ (k : Nat) (last : Int), k ≤ L ∧ t = .int .i64 last ∧ s = .int .i64 (k : Int) ∧ numO last N (l.drop k) = numO 0 N l ∧ Kept (w.alloc (.cells #[.slice a L c, .int .i64 N, .int .i64 G, .int .i64 Lo] 24)) wr) (fun t s _ => L - (intOf s).toNat)
    case atStart => exact ⟨0, 0, by omega, rfl, rfl, rfl, Only.refl _ _⟩
    case round =>
      obtain ⟨k, last, hk, rfl, rfl, hr, kr⟩ := hrel
      have KR := hid (HK.out.trans kr (fun _ _ f => f))
      by_cases hlt : k < L
      · have hB := (Blk.new w [.slice a L c, .int .i64 N, .int .i64 G, .int .i64 Lo] 24).of_block (kr.block w.heap.size (by simp) (fun f => f))
        have hsz := hB.lt
        have m1 := hB.cell 1 rfl
        obtain ⟨b, o, rfl, c0, c1, c2, c3⟩ := (HS.out.stay KR.out).cell HL.out k hlt
        have hkl : k < l.length := by have := HL.out; omega
        rw [List.drop_eq_getElem_cons hkl] at hr
        obtain ⟨x, hx⟩ : ∃ x, l[k] = x := ⟨_, rfl⟩
        rw [hx] at c0 c1 c2 c3 hr
        obtain ⟨i, lv, f, t⟩ := x
        clear hx hB
        have hb : b < wr.heap.size := World.block_lt_of_cell? wr _ c0
        by_cases h1 : i ≤ last
        · have HR := hid ((num_no (.inl h1)).symm.trans hr)
          clear hr
          go_wp2
          go_ret
          exact ⟨by rw [← HR.out]; rfl, KR.out.alloc _⟩
        · by_cases h2 : N ≤ i
          · have HR := hid ((num_no (.inr (.inl h2))).symm.trans hr)
            clear hr
            go_wp2
            go_ret
            exact ⟨by rw [← HR.out]; rfl, KR.out.alloc _⟩
          · by_cases h3 : lv < 0
            · have HR := hid ((num_no (.inr (.inr (.inl h3)))).symm.trans hr)
              clear hr
              go_wp2
              go_ret
              exact ⟨by rw [← HR.out]; rfl, KR.out.alloc _⟩
            · by_cases h4 : 20 < lv
              · have HR := hid ((num_no (.inr (.inr (.inr h4)))).symm.trans hr)
                clear hr
                go_wp2
                go_ret
                exact ⟨by rw [← HR.out]; rfl, KR.out.alloc _⟩
              · have HR := hid ((num_go (by show ¬ (i ≤ last ∨ N ≤ i ∨ lv < 0 ∨ 20 < lv); omega)).symm.trans hr)
                clear hr
                go_wp2
                go_roundw
                case rel => exact ⟨k + 1, i, by omega, rfl, by go_num, HR.out, kr.alloc _⟩
                case measure => simp [intOf]; omega
      · have e0 : l.drop k = [] := List.drop_of_length_le (by have := HL.out; omega)
        rw [e0] at hr
        have HR : Hid (numO 0 N l = true) := hr.symm
        clear hr
        go_wp2
        go_ret
        exact ⟨by rw [HR.out]; rfl, KR.out⟩

theorem tim_no {x : Rf} {r : List Rf} (h : winO x.2.2.1 = false ∨ winO x.2.2.2 = false ∨ x.2.2.2 ≤ x.2.2.1) : timO (x :: r) = false := by
  unfold timO
  rcases h with h | h | h
  · rw [h]; simp
  · rw [h]; simp
  · rw [show decide (x.2.2.1 < x.2.2.2) = false by simp; omega]; simp
theorem tim_go {x : Rf} {r : List Rf} (h1 : winO x.2.2.1 = true) (h2 : winO x.2.2.2 = true) (h3 : ¬ x.2.2.2 ≤ x.2.2.1) : timO (x :: r) = timO r := by
  rw [timO, h1, h2, show decide (x.2.2.1 < x.2.2.2) = true by simp; omega]
  rfl
set_option maxRecDepth 100000 in
set_option maxHeartbeats 1600000 in
theorem timed_any (w : World) (a : Option Addr) (L c : Nat) (N G Lo : Int) (l : List Rf) (hs : RfSrc w (.slice a L c) l) (hL : l.length = L) (hl : L ≤ 1000000) :
    Calls Tryd.prog 18 #[.agg #[.slice a L c, .int .i64 N, .int .i64 G, .int .i64 Lo]] w fun e w' => e = .returned (.bool (timO l && winO Lo)) ∧ Kept w w' := by
  have HS := hid hs
  have HL := hid hL
  clear hs hL
  have HK := hid (show Kept w (w.alloc (.cells #[.slice a L c, .int .i64 N, .int .i64 G, .int .i64 Lo] 24)) from (Only.refl _ w).alloc _)
  go_enter Tryd.func18, Tryd.ntmps18
  go_wp2
  go_loopw [8] (fun s wr => ∃ (k : Nat), k ≤ L ∧ s = .int .i64 (k : Int) ∧ timO (l.drop k) = timO l ∧ Kept (w.alloc (.cells #[.slice a L c, .int .i64 N, .int .i64 G, .int .i64 Lo] 24)) wr) (fun s _ => L - (intOf s).toNat)
  case atStart => exact ⟨0, by omega, rfl, rfl, Only.refl _ _⟩
  case round =>
    obtain ⟨k, hk, rfl, hr, kr⟩ := hrel
    have KR := hid (HK.out.trans kr (fun _ _ f => f))
    have hB := (Blk.new w [.slice a L c, .int .i64 N, .int .i64 G, .int .i64 Lo] 24).of_block (kr.block w.heap.size (by simp) (fun f => f))
    have hsz := hB.lt
    have m3 := hB.cell 3 rfl
    by_cases hlt : k < L
    · obtain ⟨b, o, rfl, c0, c1, c2, c3⟩ := (HS.out.stay KR.out).cell HL.out k hlt
      have hkl : k < l.length := by have := HL.out; omega
      rw [List.drop_eq_getElem_cons hkl] at hr
      obtain ⟨x, hx⟩ : ∃ x, l[k] = x := ⟨_, rfl⟩
      rw [hx] at c0 c1 c2 c3 hr
      obtain ⟨i, lv, f, t⟩ := x
      clear hx hB
      have hb : b < wr.heap.size := World.block_lt_of_cell? wr _ c0
      cases h1 : winO f with
      | false =>
        have HR := hid ((tim_no (.inl h1)).symm.trans hr)
        clear hr
        go_wp2_with (go_at_call 35; refine (within_any _ _).mono ?_; rintro e w' ⟨rfl, hw⟩; replace hw := hw.symm; subst hw)
        go_ret
        exact ⟨by rw [← HR.out]; rfl, KR.out.alloc _⟩
      | true =>
        cases h2 : winO t with
        | false =>
          have HR := hid ((tim_no (.inr (.inl h2))).symm.trans hr)
          clear hr
          go_wp2_with (go_at_call 35; refine (within_any _ _).mono ?_; rintro e w' ⟨rfl, hw⟩; replace hw := hw.symm; subst hw)
          go_ret
          exact ⟨by rw [← HR.out]; rfl, KR.out.alloc _⟩
        | true =>
          by_cases h3 : t ≤ f
          · have HR := hid ((tim_no (.inr (.inr h3))).symm.trans hr)
            clear hr
            go_wp2_with (go_at_call 35; refine (within_any _ _).mono ?_; rintro e w' ⟨rfl, hw⟩; replace hw := hw.symm; subst hw)
            go_ret
            exact ⟨by rw [← HR.out]; rfl, KR.out.alloc _⟩
          · have HR := hid ((tim_go h1 h2 h3).symm.trans hr)
            clear hr
            go_wp2_with (go_at_call 35; refine (within_any _ _).mono ?_; rintro e w' ⟨rfl, hw⟩; replace hw := hw.symm; subst hw)
            go_roundw
            case rel => exact ⟨k + 1, by omega, by go_num, HR.out, kr.alloc _⟩
            case measure => simp [intOf]; omega
    · have e0 : l.drop k = [] := List.drop_of_length_le (by have := HL.out; omega)
      rw [e0] at hr
      have HR : Hid (timO l = true) := hr.symm
      clear hr hB
      go_wp2_with (go_at_call 35; refine (within_any _ _).mono ?_; rintro e w' ⟨rfl, hw⟩; replace hw := hw.symm; subst hw)
      go_ret
      exact ⟨by rw [HR.out]; rfl, KR.out⟩

set_option maxRecDepth 100000 in
set_option maxHeartbeats 1600000 in
theorem check_any (w : World) (a : Option Addr) (c : Nat) (m : Man) (hs : RfSrc w (.slice a m.bl.length c) m.bl) :
    Calls Tryd.prog 6 #[manV (.slice a m.bl.length c) m] w fun e w' => e = .returned (.int .i64 (chkO m)) ∧ Kept w w' := by
  obtain ⟨l, N, G, Lo⟩ := m
  have HS := hid hs
  obtain ⟨L, hL⟩ : ∃ L, l.length = L := ⟨_, rfl⟩
  have HL := hid hL
  unfold chkO manV
  simp only at HS ⊢
  rw [hL] at HS ⊢
  clear hs hL
  have HK := hid (show Kept w (w.alloc (.cells #[.slice a L c, .int .i64 N, .int .i64 G, .int .i64 Lo] 24)) from (Only.refl _ w).alloc _)
  have HB := hid (Blk.new w [.slice a L c, .int .i64 N, .int .i64 G, .int .i64 Lo] 24)
  by_cases h1 : 200 < L
  · go_enter Tryd.func6, Tryd.ntmps6
    go_wp2
    go_ret
    exact ⟨by first | rfl | rw [if_pos h1], HK.out⟩
  · rw [if_neg h1]
    have hn := hid (numbered_any _ a L c N G Lo l (HS.out.stay HK.out) HL.out (by omega))
    cases hq : (cntO N && cntO G && numO 0 N l) with
    | false =>
      rw [hq] at hn
      rw [if_pos rfl]
      clear hq
      go_enter Tryd.func6, Tryd.ntmps6
      go_wp2_with fail
      refine hn.out.mono ?_
      rintro e w2 ⟨rfl, k2⟩
      have K2 := hid (HK.out.trans k2 (fun _ _ f => f))
      have hB2 := HB.out.of_block (k2.block w.heap.size (by simp) (fun f => f))
      have m0 := hB2.cell 0 rfl
      have m1 := hB2.cell 1 rfl
      have m2 := hB2.cell 2 rfl
      have m3 := hB2.cell 3 rfl
      have ht := hid (timed_any _ a L c N G Lo l (HS.out.stay K2.out) HL.out (by omega))
      clear hn k2 hB2 ht
      go_wp2
      go_ret
      exact ⟨rfl, K2.out⟩
    | true =>
      rw [hq] at hn
      rw [if_neg (by decide)]
      clear hq
      cases hp : (timO l && winO Lo) with
      | false =>
        rw [if_pos rfl]
        go_enter Tryd.func6, Tryd.ntmps6
        go_wp2_with fail
        refine hn.out.mono ?_
        rintro e w2 ⟨rfl, k2⟩
        have K2 := hid (HK.out.trans k2 (fun _ _ f => f))
        have hB2 := HB.out.of_block (k2.block w.heap.size (by simp) (fun f => f))
        have m0 := hB2.cell 0 rfl
        have m1 := hB2.cell 1 rfl
        have m2 := hB2.cell 2 rfl
        have m3 := hB2.cell 3 rfl
        have ht := hid (timed_any _ a L c N G Lo l (HS.out.stay K2.out) HL.out (by omega))
        clear hn k2 hB2
        rw [hp] at ht
        clear hp
        go_wp2_with fail
        refine ht.out.mono ?_
        rintro e w3 ⟨rfl, k3⟩
        have K3 := hid (K2.out.trans k3 (fun _ _ f => f))
        clear ht k3
        go_wp2
        go_ret
        exact ⟨rfl, K3.out⟩
      | true =>
        rw [if_neg (by decide)]
        go_enter Tryd.func6, Tryd.ntmps6
        go_wp2_with fail
        refine hn.out.mono ?_
        rintro e w2 ⟨rfl, k2⟩
        have K2 := hid (HK.out.trans k2 (fun _ _ f => f))
        have hB2 := HB.out.of_block (k2.block w.heap.size (by simp) (fun f => f))
        have m0 := hB2.cell 0 rfl
        have m1 := hB2.cell 1 rfl
        have m2 := hB2.cell 2 rfl
        have m3 := hB2.cell 3 rfl
        have ht := hid (timed_any _ a L c N G Lo l (HS.out.stay K2.out) HL.out (by omega))
        clear hn k2 hB2
        rw [hp] at ht
        clear hp
        go_wp2_with fail
        refine ht.out.mono ?_
        rintro e w3 ⟨rfl, k3⟩
        have K3 := hid (K2.out.trans k3 (fun _ _ f => f))
        clear ht k3
        go_wp2
        go_ret
        exact ⟨rfl, K3.out⟩
end Go.Proofs.YtjifcgphlidimaaDoor.J
