/-
  Package season: Miss and the document's own.
-/
import Derived.Test.YtkhbkjnjhojnbaaSefn
namespace Go.Proofs.Ytkhbkjnjhojnbaa.Se
open Go Go.RowKit Go.Proofs.Lys
set_option linter.unusedVariables false
set_option linter.unusedSimpArgs false

theorem enters_own {P : Program} {f : FuncId} {fn : Func} {c : Code} (hf : P.funcs[f]? = some fn) (hname : (fn.name == "runtime.NumGoroutine") = false) (hb : fn.body = some c) (args : Array Value) (w : World) : (callFunc f args).run P w = .ok (.enter f args) w := by
  have h1 : fn.name ≠ "runtime.NumGoroutine" := by simpa using hname
  simp [callFunc, hf, h1, hb, mark]
theorem eg_miss : ∀ args w, (callFunc 13 args).run Try.prog w = .ok (.enter 13 args) w := enters_own Try.func13 (by kernel_rfl) rfl
/-- Miss has something to tell. -/
abbrev OkM (L : Nat) (s n : Int) : Prop := MayB L s ∧ 1 ≤ n ∧ n ≤ (L : Int) - s
/-- What Miss returns. -/
def MissR (w : World) (l : List Int) (L : Nat) (s n : Int) (e : Ending) (w' : World) : Prop := e = .returned (.tuple #[.int .i64 (missV l s n), .int .i64 (missE L s n)]) ∧ Kept w w'
theorem missR_no {w w' : World} {l : List Int} {L : Nat} {s n : Int} (hL : l.length = L) (h : ¬ OkM L s n) (k : Kept w w') : MissR w l L s n (.returned (.tuple #[.int .i64 0, .int .i64 1])) w' := by
  refine ⟨?_, k⟩
  rw [show missV l s n = 0 by unfold missV; rw [hL, if_neg h], show missE L s n = 1 from if_neg h]
theorem missR_ok {w w' : World} {l : List Int} {L : Nat} {s n : Int} (hL : l.length = L) (h : OkM L s n) (k : Kept w w') : MissR w l L s n (.returned (.tuple #[.int .i64 (sumD l s.toNat (L - n.toNat) n.toNat), .int .i64 0])) w' := by
  refine ⟨?_, k⟩
  rw [show missV l s n = sumD l s.toNat (L - n.toNat) n.toNat by unfold missV; rw [hL, if_pos h], show missE L s n = 0 from if_pos h]
/-- The boxes of Miss. -/
abbrev boxW (w : World) (v : Value) (s : Int) : World := (w.alloc (.cells #[v] 22)).alloc (.cells #[.int .i64 s] 3)
theorem boxK (w : World) (v : Value) (s : Int) : Kept w (boxW w v s) := ((Only.refl _ w).alloc _).alloc _
theorem box0 (w : World) (v : Value) (s : Int) : Blk (boxW w v s) w.heap.size [v] 22 := (Blk.new w [v] 22).alloc _
theorem box1 (w : World) (v : Value) (s : Int) : Blk (boxW w v s) (w.heap.size + 1) [.int .i64 s] 3 := by
  have := Blk.new (w.alloc (.cells #[v] 22)) [.int .i64 s] 3
  simpa using this
set_option maxRecDepth 100000 in
set_option maxHeartbeats 1600000 in
theorem miss_any (w : World) (a : Option Addr) (L c : Nat) (l : List Int) (s n : Int) (h : PtSrc w (.slice a L c) l) (hL : l.length = L) (hc : L ≤ c) (hl : L ≤ 9223372036854775807) (hin : ∀ i, In64 (l.getD i 0)) :
    Calls Try.prog 8 #[.slice a L c, .int .i64 s, .int .i64 n] w (MissR w l L s n) := by
  have HM := hid (fun W => may_any W a L c s)
  have hmf : ∀ (fn : Fn) (first cap : Array Value) (w : World), (Instr.makeFunc fn first cap).run Try.prog w = .ok (.func fn first cap) w := fun _ _ _ _ => rfl
  obtain ⟨W1, hW1⟩ : ∃ W1, boxW w (.slice a L c) s = W1 := ⟨_, rfl⟩
  have K1 : Hid (Kept w W1) := hid (by rw [← hW1]; exact boxK _ _ _)
  have B0 : Blk W1 w.heap.size [.slice a L c] 22 := by rw [← hW1]; exact box0 _ _ _
  have B1 : Blk W1 (w.heap.size + 1) [.int .i64 s] 3 := by rw [← hW1]; exact box1 _ _ _
  have HW := hid hW1
  have x0 := B0.cell 0 rfl
  have x1 := B1.cell 0 rfl
  have HB0 := hid B0
  have HB1 := hid B1
  clear hW1 B0 B1
  by_cases hm : MayB L s
  · rw [decide_eq_true hm] at HM
    by_cases h1 : n < 1
    · have HF := hid (missR_no (w := w) (s := s) (n := n) hL (by omega) K1.out)
      clear hm h
      go_enter Try.func8, Try.ntmps8
      go_wp2_with fail
      rw [show (w.alloc (.cells #[.slice a L c] 22)).alloc (.cells #[.int .i64 s] 3) = W1 from HW.out]
      refine (HM.out _).mono ?_
      rintro e w' ⟨rfl, rfl⟩
      go_wp2
      go_ret2
      exact HF.out
    have hw1 : wrap64 ((L : Int) - s) = (L : Int) - s := by have := hm.1; have := hm.2.2; unfold wrap64; omega
    by_cases h2 : (L : Int) - s < n
    · have HF := hid (missR_no (w := w) (s := s) (n := n) hL (by omega) K1.out)
      clear hm h
      go_enter Try.func8, Try.ntmps8
      go_wp2_with fail
      rw [show (w.alloc (.cells #[.slice a L c] 22)).alloc (.cells #[.int .i64 s] 3) = W1 from HW.out]
      refine (HM.out _).mono ?_
      rintro e w' ⟨rfl, rfl⟩
      go_wp2
      go_ret2
      exact HF.out
    have hok : OkM L s n := ⟨hm, by omega, by omega⟩
    obtain ⟨m1, m2, m3⟩ := hm
    have HF := hid (fun W' k => missR_ok (w := w) (w' := W') (s := s) (n := n) hL hok k)
    obtain ⟨N, hN⟩ : ∃ N, n.toNat = N := ⟨_, rfl⟩
    obtain ⟨S, hS⟩ : ∃ S, s.toNat = S := ⟨_, rfl⟩
    have hnN : n = (N : Int) := by omega
    have hsS : s = (S : Int) := by omega
    have hns : N + S ≤ L := by omega
    obtain ⟨lo, hlo⟩ : ∃ lo, L - N = lo := ⟨_, rfl⟩
    rw [hN, hS, hlo] at HF
    have hlo1 : (L : Int) - n = (lo : Int) := by omega
    have hlo2 : lo + N = L := by omega
    have hlo3 : S ≤ lo := by omega
    have hw2 : wrap64 ((L : Int) - (N : Int)) = (lo : Int) := by unfold wrap64; omega
    have hLN : (L : Int) - (N : Int) = (lo : Int) := by omega
    have eg := eg_miss
    rcases SrcOf.shape h with ⟨hnil, _⟩ | ⟨hsh1, b, o, c', he, hsh2⟩
    · rw [List.map_eq_nil_iff.1 hnil] at hL
      simp at hL
      omega
    simp only [Value.slice.injEq] at he
    obtain ⟨rfl, hsh3, rfl⟩ := he
    clear hsh1 hsh2 hsh3
    have HC : Hid (∀ W p, Kept W1 W → S ≤ p → p < L → Calls Try.prog 13 #[.int .i64 (p : Int), .pointer (some ⟨w.heap.size, 0, none⟩), .pointer (some ⟨w.heap.size + 1, 0, none⟩)] W fun e w' => e = .returned (.int .i64 (distC (l.getD p 0) (l.getD (p - S) 0))) ∧ Kept W w') := hid (fun W p k hp1 hp2 => by
      have hq := miss1_any W w.heap.size (w.heap.size + 1) b o L c l s p ((k.blk HB0.out (fun f => f)).cell 0 rfl) ((k.blk HB1.out (fun f => f)).cell 0 rfl) (SrcOf.stay h (K1.out.trans k (fun _ _ f => f))) hL hc hl hin m1 m2 (by omega) hp2
      rw [hS] at hq
      exact hq)
    have HSU := hid (fun k => sumD_in l S lo k)
    have HDI := hid (fun x y => distC_in x y)
    clear h hok hN hS hL hin hlo hc
    subst hsS
    subst hnN
    go_enter Try.func8, Try.ntmps8
    go_wp2_with fail
    rw [show (w.alloc (.cells #[.slice (some ⟨b, o, none⟩) L c] 22)).alloc (.cells #[.int .i64 (S : Int)] 3) = W1 from HW.out]
    refine (HM.out _).mono ?_
    rintro e w' ⟨rfl, rfl⟩
    have KW := hid (Only.refl (fun _ => False) w')
    go_wp2_with fail
    go_loopw [10, 9] (fun s10 s9 wr => ∃ k : Nat, k ≤ N ∧ s10 = .int .i64 ((lo + k : Nat) : Int) ∧ s9 = .int .i64 (sumD l S lo k) ∧ Hid (Kept w' wr)) (fun s10 _ _ => L - (intOf s10).toNat)
    case atStart => exact ⟨0, by omega, rfl, rfl, KW⟩
    case round =>
      obtain ⟨k, hk, rfl, rfl, HK⟩ := hrel
      have y0 := (HK.out.blk HB0.out (fun f => f)).cell 0 rfl
      by_cases hlt : k < N
      · have HCK := hid (HC.out wr (lo + k) HK.out (by omega) (by omega))
        have HAD := hid (fun W => add_any (sumD l S lo k) (distC (l.getD (lo + k) 0) (l.getD (lo + k - S) 0)) W (HSU.out k) (HDI.out _ _))
        have hsd : addC (sumD l S lo k) (distC (l.getD (lo + k) 0) (l.getD (lo + k - S) 0)) = sumD l S lo (k + 1) := rfl
        rw [hsd] at HAD
        generalize distC (l.getD (lo + k) 0) (l.getD (lo + k - S) 0) = D at *
        have HNX := hid hsd
        clear hsd
        have hik : ((lo + k : Nat) : Int) < (L : Int) := by omega
        go_wp2_with fail
        refine HCK.out.mono ?_
        rintro e w2 ⟨rfl, k2⟩
        have HK2 := hid (HK.out.trans k2 (fun _ _ f => f))
        clear k2
        go_wp2_with fail
        refine (HAD.out _).mono ?_
        rintro e w3 ⟨rfl, hw3⟩
        replace hw3 := hw3.symm
        subst hw3
        go_wp2_with fail
        go_roundw
        case rel => exact ⟨k + 1, by omega, by go_num, rfl, HK2⟩
        case measure => simp [intOf]; omega
      · have e : k = N := by omega
        subst e
        have hik : ¬ ((lo + k : Nat) : Int) < (L : Int) := by omega
        go_wp2
        go_ret2
        exact HF.out _ (K1.out.trans HK.out (fun _ _ f => f))
  · rw [decide_eq_false hm] at HM
    have HF := hid (missR_no (w := w) (s := s) (n := n) hL (fun x => hm x.1) K1.out)
    clear hm h
    go_enter Try.func8, Try.ntmps8
    go_wp2_with fail
    rw [show (w.alloc (.cells #[.slice a L c] 22)).alloc (.cells #[.int .i64 s] 3) = W1 from HW.out]
    refine (HM.out _).mono ?_
    rintro e w' ⟨rfl, rfl⟩
    go_wp2
    go_ret2
    exact HF.out
end Go.Proofs.Ytkhbkjnjhojnbaa.Se
