/-
  The document's own: names; labels that are the same; labels that are lent; the law's small ones.
-/
import Derived.Test.YtcacoanhiphbiaaNmake
import Derived.Deep.QuietTactic
namespace Go.Proofs.Ytcacoanhiphbiaa.N
open Go.RowKit Go.Proofs.Lys
set_option linter.unusedVariables false
set_option linter.unusedSimpArgs false

theorem kept_drewN {w wr : World} (h : Kept w wr) (n : Nat) : Kept w (wr.drewN n) := ⟨h.os, h.tape, h.output, h.size, h.block⟩

def plainAll (s : ByteArray) : Bool := s.data.toList.all plainB

theorem name_eq (s : ByteArray) (h0 : 0 < s.size) (h64 : s.size ≤ 64) : nameOk s = (!digitB (s[0]'h0) && plainAll s) := by
  have e2 : s.data.toList.headD 0 = s[0]'h0 := by
    have hl : 0 < s.data.toList.length := by rw [← Lib.size_eq]; exact h0
    rw [← at_list s 0 h0, List.headD_eq_head?_getD, List.head?_eq_getElem?, List.getElem?_eq_getElem hl]
    rfl
  unfold nameOk plainAll
  rw [e2, decide_eq_true h0, decide_eq_true h64, Bool.and_comm]
  simp

theorem not_empty {s : ByteArray} (h0 : ¬ s.size = 0) : s.toList.isEmpty = false := by
  rw [ByteArray.toList_eq]
  cases h : s.data.toList with
  | nil => exact absurd (by rw [Lib.size_eq, h]; rfl) h0
  | cons a r => rfl

theorem less_any (w : World) (X Y : ByteArray) : Calls Try.prog 29 #[.string X, .string Y] w fun e w' => e = .returned (.int .i64 (cmpB X Y)) ∧ w' = w := by
  have hE := eq_str X Y
  have hL := lt_str X Y
  have hR := cmpB_good.rng X Y
  by_cases c1 : cmpB X Y = -1
  · rw [decide_eq_true c1] at hL
    have HC := hid c1
    clear hE hR c1
    go_enter Try.func29, Try.ntmps29
    go_wp2
    go_ret
    exact ⟨by rw [HC.out]; rfl, rfl⟩
  · rw [decide_eq_false c1] at hL
    by_cases c0 : cmpB X Y = 0
    · rw [decide_eq_true c0] at hE
      have HC := hid c0
      clear hR c1 c0
      go_enter Try.func29, Try.ntmps29
      go_wp2
      go_ret
      exact ⟨by rw [HC.out]; rfl, rfl⟩
    · rw [decide_eq_false c0] at hE
      have HC : Hid (cmpB X Y = 1) := by refine hid ?_; omega
      clear hR c1 c0
      go_enter Try.func29, Try.ntmps29
      go_wp2
      go_ret
      exact ⟨by rw [HC.out]; rfl, rfl⟩

set_option maxRecDepth 100000 in
set_option maxHeartbeats 1600000 in
theorem same_any (w : World) (va vb : Value) (l : Labs) (ha : LabSrc w va l) (hb : LabSrc w vb l) (hl : l.length ≤ 1000000) :
    Calls Try.prog 18 #[va, vb] w fun e w' => e = .returned (.bool true) ∧ Kept w w' := by
  obtain ⟨a1, c1, rfl⟩ := ha.len
  obtain ⟨a2, c2, rfl⟩ := hb.len
  obtain ⟨L, hL⟩ : ∃ L, l.length = L := ⟨_, rfl⟩
  rw [hL] at ha hb hl ⊢
  have HA := hid ha
  have HB := hid hb
  have HL := hid hL
  clear ha hb hL
  go_enter Try.func18, Try.ntmps18
  go_wp2
  go_loopw [5] (fun s wr => ∃ (k : Nat), k ≤ L ∧ s = .int .i64 (k : Int) ∧ Kept w wr) (fun s _ => L - (intOf s).toNat)
  case atStart => exact ⟨0, by omega, rfl, Only.refl _ _⟩
  case round =>
    obtain ⟨k, hk, rfl, kr⟩ := hrel
    by_cases hlt : k < L
    · obtain ⟨b1, o1, rfl, x1, y1⟩ := (HA.out.stay kr).cell HL.out k hlt
      obtain ⟨b2, o2, rfl, x2, y2⟩ := (HB.out.stay kr).cell HL.out k hlt
      generalize (l[k]'(by have := HL.out; omega)).1 = X at x1 x2
      generalize (l[k]'(by have := HL.out; omega)).2 = Y at y1 y2
      go_wp2_with fail
      go_quiet (fail)
      go_wp2_with fail
      go_roundw
      case rel => exact ⟨k + 1, by omega, by go_num, kept_drewN kr nq⟩
      case measure => simp [intOf]; omega
    · have e : k = L := by omega
      subst e
      go_wp2
      go_ret
      exact ⟨rfl, kr⟩

/-- How much labels are. -/
def bigN : Labs → Nat
  | [] => 0
  | x :: r => 1 + x.1.size + x.2.size + bigN r
theorem bigN_app (l : Labs) (x : Lab) : bigN (l ++ [x]) = bigN l + (1 + x.1.size + x.2.size) := by
  induction l with
  | nil => simp [bigN]
  | cons y r ih => simp only [List.cons_append, bigN, ih]; omega
theorem bigN_le (l : Labs) (k : Nat) : bigN (l.take k) ≤ bigN l := by
  induction l generalizing k with
  | nil => simp
  | cons x r ih =>
    cases k with
    | zero => simp [bigN]
    | succ k => simp only [List.take_succ_cons, bigN]; have := ih k; omega
theorem bigN_len (l : Labs) : l.length ≤ bigN l := by
  induction l with
  | nil => simp
  | cons x r ih => simp only [List.length_cons, bigN]; omega
theorem bigN_small {l : Labs} (h : bigN l ≤ 4000) : Small l ∧ l.length ≤ 4000 := by
  refine ⟨fun x hx => ?_, Nat.le_trans (bigN_len l) h⟩
  induction l with
  | nil => cases hx
  | cons y r ih =>
    simp only [bigN] at h
    rcases List.mem_cons.1 hx with rfl | hx
    · omega
    · exact ih (by omega) hx
/-- Labels that came in: their texts are not longer than a text can be. -/
def Came (l : Labs) : Prop := ∀ x ∈ l, x.1.size ≤ 1000000000000000 ∧ x.2.size ≤ 1000000000000000
set_option maxRecDepth 100000 in
set_option maxHeartbeats 1600000 in
theorem big_any (w : World) (v : Value) (l : Labs) (hs : LabSrc w v l) (hl : l.length ≤ 9223372036854775807) (hC : Came l) :
    Calls Try.prog 11 #[v] w fun e w' => e = .returned (.bool (decide (4000 < bigN l))) ∧ Kept w w' := by
  obtain ⟨a1, c1, rfl⟩ := hs.len
  obtain ⟨L, hL⟩ : ∃ L, l.length = L := ⟨_, rfl⟩
  rw [hL] at hs hl ⊢
  have HS := hid hs
  have HL := hid hL
  have HC := hid hC
  clear hs hL hC
  go_enter Try.func11, Try.ntmps11
  go_wp2
  go_loopw [3, 4] (fun n s wr => ∃ (k : Nat) (N : Nat), k ≤ L ∧ s = .int .i64 (k : Int) ∧ n = .int .i64 (N : Int) ∧ N = bigN (l.take k) ∧ N ≤ 2000000000005000 ∧ Kept w wr) (fun _ s _ => L - (intOf s).toNat)
  case atStart => exact ⟨0, 0, by omega, rfl, rfl, by simp [bigN], by omega, Only.refl _ _⟩
  case round =>
    obtain ⟨k, N, hk, rfl, rfl, hN, hN2, kr⟩ := hrel
    have HN := hid hN
    have HK := hid kr
    clear hN
    by_cases hlt : k < L
    · by_cases hn : N ≤ 4000
      · have hkl : k < l.length := by have := HL.out; omega
        obtain ⟨b1, o1, rfl, x1, y1⟩ := (HS.out.stay kr).cell HL.out k hlt
        have HT : Hid (bigN (l.take (k + 1)) = N + (1 + (l[k]'hkl).1.size + (l[k]'hkl).2.size)) := by
          refine hid ?_
          rw [← List.take_append_getElem hkl, bigN_app, HN.out]
        have hc := HC.out _ (List.getElem_mem hkl)
        clear kr
        generalize l[k]'hkl = x at x1 y1 HT hc
        obtain ⟨X, Y⟩ := x
        simp only at x1 y1 HT hc
        have hn' : (N : Int) ≤ 4000 := by omega
        go_wp2_with fail
        go_quiet (fail)
        go_wp2_with fail
        go_roundw
        case rel =>
          have e1 : IntKind.i64.wrap ((N : Int) + 1) = (N : Int) + 1 := by rw [IntKind.wrap_i64]; omega
          have e2 : IntKind.i64.wrap ((N : Int) + 1 + (X.size : Int)) = (N : Int) + 1 + (X.size : Int) := by rw [IntKind.wrap_i64]; omega
          have e3 : IntKind.i64.wrap ((N : Int) + 1 + (X.size : Int) + (Y.size : Int)) = (N : Int) + 1 + (X.size : Int) + (Y.size : Int) := by rw [IntKind.wrap_i64]; omega
          exact ⟨k + 1, N + (1 + X.size + Y.size), by omega, by go_num, by rw [e1, e2, e3]; go_num, HT.out.symm, by omega, kept_drewN HK.out nq⟩
        case measure => simp [intOf]; omega
      · have HE : Hid (decide (4000 < bigN l) = true) := by
          refine hid ?_
          have := bigN_le l k
          rw [← HN.out] at this
          exact decide_eq_true (by omega)
        have hn' : decide ((N : Int) ≤ 4000) = false := by simp; omega
        go_wp2
        go_ret
        exact ⟨by rw [HE.out]; simp; omega, kr⟩
    · have e : k = L := by omega
      subst e
      have HE : Hid (bigN l = N) := by
        refine hid ?_
        rw [HN.out, List.take_of_length_le (by have := HL.out; omega)]
      go_wp2
      go_ret
      refine ⟨?_, kr⟩
      rw [HE.out]
      simp
      omega

/-- A label behind the others. -/
abbrev endL : Lab := (⟨#[45]⟩, ⟨#[]⟩)
end Go.Proofs.Ytcacoanhiphbiaa.N
