/-
  What a file that is written aside, synced and given its name is behind a crash: the plain disk.
-/
import Derived.Test.YtephpgiiljjieaaLsure
namespace Go.Proofs.Ytephpgiiljjieaa
open Go.RowKit Go.Proofs.Lys Go.Maps Go.Shelf
set_option linter.unusedVariables false

abbrev nw : List UInt8 := [110, 101, 119]

/-- The disk behind so many of the five steps. -/
def sw (j : Nat) (A F : List UInt8) (off : Bool) (fu : Option Nat) : DModel :=
  match j with
  | 0 => ⟨[⟨A, A.length⟩], [([97], 0)], [([97], 0)], [], 20000, 4, off, fu, none⟩
  | 1 => ⟨[⟨A, A.length⟩, ⟨[], 0⟩], [([97], 0), (nw, 1)], [([97], 0)], [⟨0, nw, [], 1⟩], 20000, 5, off, fu, none⟩
  | 2 => ⟨[⟨A, A.length⟩, ⟨F, 0⟩], [([97], 0), (nw, 1)], [([97], 0)], [⟨0, nw, [], 1⟩], 20000, 6, off, fu, none⟩
  | 3 => ⟨[⟨A, A.length⟩, ⟨F, F.length⟩], [([97], 0), (nw, 1)], [([97], 0)], [⟨0, nw, [], 1⟩], 20000, 7, off, fu, none⟩
  | 4 => ⟨[⟨A, A.length⟩, ⟨F, F.length⟩], [([97], 1)], [([97], 0)], [⟨0, nw, [], 1⟩, ⟨1, nw, [97], 0⟩], 20000, 8, off, fu, none⟩
  | _ => ⟨[⟨A, A.length⟩, ⟨F, F.length⟩], [([97], 1)], [([97], 1)], [], 20000, 9, off, fu, none⟩
def swO (F : List UInt8) (j : Nat) : DOp :=
  match j with
  | 0 => ⟨0, nw, [], []⟩
  | 1 => ⟨1, nw, [], F⟩
  | 2 => ⟨2, nw, [], []⟩
  | 3 => ⟨3, nw, [97], []⟩
  | _ => ⟨5, [], [], []⟩
theorem swO_kind (F : List UInt8) (j : Nat) : 0 ≤ (swO F j).kind ∧ (swO F j).kind ≤ 5 := by
  unfold swO
  split <;> simp
theorem sw_off (j : Nat) (A F : List UInt8) (off : Bool) (fu : Option Nat) : (sw j A F off fu).off = off ∧ (sw j A F off fu).fuse = fu ∧ (sw j A F off fu).fault = none := by
  unfold sw
  split <;> exact ⟨rfl, rfl, rfl⟩
theorem sw_few (j : Nat) (A F : List UInt8) (off : Bool) (fu : Option Nat) : (sw j A F off fu).few := by
  unfold sw DModel.few
  split <;> simp
theorem sw_own (j : Nat) (A F : List UInt8) (fu : Option Nat) (hj : j ≤ 4) (h : A.length + F.length ≤ 20000) : (sw j A F false fu).own (swO F j) = 0 := by
  match j, hj with
  | 0, _ => rfl
  | 1, _ =>
    have hu : (sw 1 A F false fu).used = A.length := by show A.length + (0 + 0) = _; omega
    show (if 16777216 < 0 + F.length then 2 else if 20000 < (sw 1 A F false fu).used + F.length then 11 else 0) = _
    rw [if_neg (by omega), hu, if_neg (by omega)]
  | 2, _ => rfl
  | 3, _ => rfl
  | 4, _ => rfl
theorem sw_done (j : Nat) (A F : List UInt8) (fu : Option Nat) (hj : j ≤ 4) : ((sw j A F false fu).done (swO F j)).count = sw (j + 1) A F false (fu.map (· - 1)) := by
  match j, hj with
  | 0, _ => rfl
  | 1, _ => rfl
  | 2, _ => rfl
  | 3, _ => rfl
  | 4, _ => rfl
/-- One of the five steps. -/
theorem sw_step (j : Nat) (A F : List UInt8) (fu : Option Nat) (hj : j ≤ 4) (h : A.length + F.length ≤ 20000) (h0 : fu ≠ some 0) : (sw j A F false fu).doOp (swO F j) = (0, sw (j + 1) A F false (fu.map (· - 1))) := by
  obtain ⟨k0, k1⟩ := swO_kind F j
  rw [do_done k0 k1 (sw_off j A F false fu).1 (by rw [(sw_off j A F false fu).2.1]; exact h0) (sw_own j A F fu hj h) (by rw [(sw_off j A F false fu).2.2]; exact fun e => by cases e), sw_done j A F fu hj]
theorem sw_blow (j i : Nat) (A F : List UInt8) : (sw j A F false (some 0)).doOp (swO F i) = (12, sw j A F true (some 0)) := by
  obtain ⟨k0, k1⟩ := swO_kind F i
  rw [do_blown k0 k1 (sw_off j A F false (some 0)).1 (sw_off j A F false (some 0)).2.1]
  unfold sw
  split <;> rfl
theorem sw_dark (j i : Nat) (A F : List UInt8) (fu : Option Nat) : (sw j A F true fu).doOp (swO F i) = (12, sw j A F true fu) := by
  obtain ⟨k0, k1⟩ := swO_kind F i
  exact do_off k0 k1 (sw_off j A F true fu).1

/-- Any of the steps: it is done, or nothing is. -/
theorem sw_any (j i : Nat) (A F : List UInt8) (off : Bool) (fu : Option Nat) (hj : j ≤ 4) (hi : off = false → i = j) (h : A.length + F.length ≤ 20000) :
    (∃ fu', (sw j A F off fu).doOp (swO F i) = (0, sw (j + 1) A F false fu') ∧ off = false ∧ i = j) ∨ (∃ off' fu', (sw j A F off fu).doOp (swO F i) = (12, sw j A F off' fu') ∧ off' = true) := by
  cases off with
  | true => exact .inr ⟨true, fu, sw_dark j i A F fu, rfl⟩
  | false =>
    have hij := hi rfl
    subst hij
    by_cases h0 : fu = some 0
    · subst h0
      exact .inr ⟨true, some 0, sw_blow i i A F, rfl⟩
    · exact .inl ⟨_, sw_step i A F fu hj h h0, rfl, rfl⟩

theorem settle_whole (B : List UInt8) (l : List Int) : DModel.settleF ⟨B, B.length⟩ l = (⟨B, B.length⟩, l) := by
  unfold DModel.settleF
  rw [if_pos rfl]

/-- Behind a crash: the old one or the new one. -/
theorem sw_read (j : Nat) (A F : List UInt8) (off : Bool) (fu : Option Nat) (hj : j ≤ 5) (keep : List Int) :
    ∃ B, ((sw j A F off fu).crash keep).read [97] = (0, B) ∧ (B = A ∨ B = F) ∧ (j = 5 → B = F) := by
  have one : ∀ (f : DFile) (s : Nat) (of : Bool) (fu : Option Nat), ((DModel.mk [⟨A, A.length⟩, f] [([97], 0), (nw, 1)] [([97], 0)] [⟨0, nw, [], 1⟩] 20000 s of fu none).crash keep).read [97] = (0, A) := by
    intro f s of fu
    have e : DModel.keepActs [⟨0, nw, [], 1⟩] keep [([97], 0)] = ((if DModel.oddB (keep.headD 0) = true then [([97], 0), (nw, 1)] else [([97], 0)]), keep.tail) := rfl
    unfold DModel.crash
    simp only [e]
    cases DModel.oddB (keep.headD 0)
    · show (0, (DModel.settleF ⟨A, A.length⟩ keep.tail).1.b) = _
      rw [settle_whole]
    · show (0, (DModel.settleF ⟨A, A.length⟩ keep.tail).1.b) = _
      rw [settle_whole]
  match j, hj with
  | 0, _ =>
    refine ⟨A, ?_, .inl rfl, fun h => by omega⟩
    show (0, (DModel.settleF ⟨A, A.length⟩ keep).1.b) = _
    rw [settle_whole]
  | 1, _ => exact ⟨A, one _ 5 off fu, .inl rfl, fun h => by omega⟩
  | 2, _ => exact ⟨A, one _ 6 off fu, .inl rfl, fun h => by omega⟩
  | 3, _ => exact ⟨A, one _ 7 off fu, .inl rfl, fun h => by omega⟩
  | 4, _ =>
    have e : DModel.keepActs (sw 4 A F off fu).acts keep (sw 4 A F off fu).sure = ((if DModel.oddB (keep.headD 0) = true then (if DModel.oddB (keep.tail.headD 0) = true then [([97], 1)] else [([97], 0), (nw, 1)]) else [([97], 0)]), keep.tail.tail) := by
      show DModel.keepActs [⟨0, nw, [], 1⟩, ⟨1, nw, [97], 0⟩] keep [([97], 0)] = _
      unfold DModel.keepActs
      unfold DModel.keepActs
      unfold DModel.keepActs
      cases DModel.oddB (keep.headD 0) <;> cases DModel.oddB (keep.tail.headD 0) <;> rfl
    by_cases h0 : DModel.oddB (keep.headD 0) = true
    · by_cases h1 : DModel.oddB (keep.tail.headD 0) = true
      · refine ⟨F, ?_, .inr rfl, fun h => by omega⟩
        unfold DModel.crash
        simp only [e, h0, h1, if_true]
        show (0, (DModel.settleF ⟨F, F.length⟩ keep.tail.tail).1.b) = _
        rw [settle_whole]
      · refine ⟨A, ?_, .inl rfl, fun h => by omega⟩
        unfold DModel.crash
        simp only [e, h0, h1, if_true, if_false, Bool.false_eq_true]
        show (0, (DModel.settleF ⟨A, A.length⟩ keep.tail.tail).1.b) = _
        rw [settle_whole]
    · refine ⟨A, ?_, .inl rfl, fun h => by omega⟩
      unfold DModel.crash
      simp only [e, h0, if_false, Bool.false_eq_true]
      show (0, (DModel.settleF ⟨A, A.length⟩ keep.tail.tail).1.b) = _
      rw [settle_whole]
  | 5, _ =>
    refine ⟨F, ?_, .inr rfl, fun _ => rfl⟩
    show (0, (DModel.settleF ⟨F, F.length⟩ keep).1.b) = _
    rw [settle_whole]
end Go.Proofs.Ytephpgiiljjieaa
