/-
  Kplain.
-/
import Derived.Test.YtllfanlhgnkcfaaGreatDoorQ15
import Derived.Test.YtllfanlhgnkcfaaGreatDoorQ22
import Derived.Test.YtllfanlhgnkcfaaGreatDoorQ02
import Derived.Test.YtllfanlhgnkcfaaGreatDoorQ09
namespace Go.Proofs.YtllfanlhgnkcfaaGreatDoor.K
open Go.RowKit Go.Proofs.Lys
set_option linter.unusedVariables false
abbrev Ser := N.Labs × C.Smps
def riseB : Int → List Int → Bool
 | _, [] => true
 | p, t :: r => decide (p < t) && decide (t ≤ 9007199254740992) && riseB t r
def timesB (l : List Int) : Bool := riseB (-9007199254740993) l
theorem rise_drop : ∀ (l : List Int) (p : Int), riseB p l = true → ∀ i (h : i < l.length), l[i] ≤ 9007199254740992 ∧ (if i = 0 then p else l.getD (i - 1) 0) < l[i] ∧ p < l[i]
 | [], p, _, i, h => by cases h
 | t :: r, p, hr, i, h => by
  simp only [riseB, Bool.and_eq_true, decide_eq_true_eq] at hr
  obtain ⟨⟨h1, h2⟩, h3⟩ := hr
  cases i with
  | zero => exact ⟨h2, h1, h1⟩
  | succ i =>
   obtain ⟨g1, g2, g3⟩ := rise_drop r t h3 i (by simpa using h)
   refine ⟨g1, ?_, Int.lt_trans h1 g3⟩
   cases i with
   | zero => exact g3
   | succ j => simpa using g2
theorem rise_of : ∀ (l : List Int) (p : Int), (∀ i (h : i < l.length), l[i] ≤ 9007199254740992 ∧ (if i = 0 then p else l.getD (i - 1) 0) < l[i]) → riseB p l = true
 | [], p, _ => rfl
 | t :: r, p, hr => by
  simp only [riseB, Bool.and_eq_true, decide_eq_true_eq]
  obtain ⟨h1, h2⟩ := hr 0 (by simp)
  refine ⟨⟨h2, h1⟩, rise_of r t (fun i h => ?_)⟩
  obtain ⟨g1, g2⟩ := hr (i + 1) (by simpa using h)
  refine ⟨g1, ?_⟩
  cases i with
  | zero => simpa using g2
  | succ j => simpa using g2
theorem times_at {l : List Int} (h : timesB l = true) {i : Nat} (hi : i < l.length) : -9007199254740992 ≤ l[i] ∧ l[i] ≤ 9007199254740992 ∧ (0 < i → l.getD (i - 1) 0 < l[i]) := by
 obtain ⟨g1, g2, g3⟩ := rise_drop l _ h i hi
 exact ⟨by omega, g1, fun h0 => by rw [if_neg (by omega)] at g2; exact g2⟩
theorem times_iff (l : List Int) : timesB l = true ↔ S.Rising l := by
 constructor
 ·intro h i hi
  obtain ⟨g1, g2, g3⟩ := times_at h hi
  refine ⟨g1, g2, fun h0 => ?_⟩
  have := g3 h0
  rw [List.getD_eq_getElem?_getD, List.getElem?_eq_getElem (by omega)] at this
  exact this
 ·intro h
  refine rise_of l _ (fun i hi => ?_)
  obtain ⟨g1, g2, g3⟩ := h i hi
  refine ⟨g2, ?_⟩
  by_cases h0 : i = 0
  ·rw [if_pos h0]; omega
  ·rw [if_neg h0, List.getD_eq_getElem?_getD, List.getElem?_eq_getElem (by omega)]
   exact g3 (by omega)
def checkF : N.Labs → List Ser → Int
 | _, [] => 0
 | p, s :: r => if N.makeL s.1 = some s.1 then (if N.cmpL p s.1 = -1 ∧ s.2 ≠ [] then (if timesB (s.2.map (·.1)) = true then checkF s.1 r else 21) else 1) else 20
def checkB (l : List Ser) : Int := if 1000 < l.length then 2 else checkF [] l
def prevL (l : List Ser) (i : Nat) : N.Labs := if i = 0 then [] else (l.getD (i - 1) ([], [])).1
structure Fit (p : N.Labs) (s : Ser) : Prop where
 made : N.makeL s.1 = some s.1
 above : N.cmpL p s.1 = -1
 some : s.2 ≠ []
 times : timesB (s.2.map (·.1)) = true
theorem checkF_fit : ∀ (l : List Ser) (p : N.Labs), checkF p l = 0 → ∀ i (h : i < l.length), Fit (if i = 0 then p else (l.getD (i - 1) ([], [])).1) l[i]
 | [], p, _, i, h => by cases h
 | s :: r, p, hc, i, h => by
  simp only [checkF] at hc
  split at hc
  ·rename_i h1
   split at hc
   ·rename_i h2
    split at hc
    ·rename_i h3
     cases i with
     | zero => exact ⟨h1, h2.1, h2.2, h3⟩
     | succ i =>
      have := checkF_fit r s.1 hc i (by simpa using h)
      cases i with
      | zero => exact this
      | succ j => simpa using this
    ·cases hc
   ·cases hc
  ·cases hc
theorem check_fit {l : List Ser} (h : checkB l = 0) : l.length ≤ 1000 ∧ ∀ i (h : i < l.length), Fit (prevL l i) l[i] := by
 unfold checkB at h
 split at h
 ·cases h
 ·exact ⟨by omega, checkF_fit l [] h⟩
def firstT (s : Ser) : Int := (s.2.getD 0 (0, 0)).1
def lastT (s : Ser) : Int := (s.2.getD (s.2.length - 1) (0, 0)).1
def spanS (p : Int × Int) (s : Ser) : Int × Int := (min p.1 (firstT s), max p.2 (lastT s + 1))
def spanB : List Ser → Int × Int
 | [] => (0, 0)
 | s :: r => r.foldl spanS (firstT s, lastT s + 1)
theorem span_snoc (l : List Ser) (s : Ser) : spanB (l ++ [s]) = spanS (if l = [] then (firstT s, lastT s + 1) else spanB l) s := by
 cases l with
 | nil => simp [spanB, spanS]
 | cons a r => simp [spanB]
def chkB (p : C.Smps) : List UInt8 := C.chunkB p (packL (S.allB (p.map (·.1)))) (packL (V.allB (p.map (·.2))))
theorem packs_chk {p : C.Smps} {bs : List UInt8} {x : Int} (h : C.Packs p bs x) (h0 : p ≠ []) (hl : p.length ≤ 120) (hr : S.Rising (p.map (·.1))) : bs = chkB p ∧ x = 0 := by
 rcases h with ⟨h1, _⟩ | ⟨_, a, e, h2, h3, _⟩ | ⟨_, a, c, h2, h3, h4, h5⟩
 ·exact absurd h1 h0
 ·rcases h2 with ⟨h, _⟩ | ⟨_, h, _⟩ | ⟨_, _, _, h⟩
  ·rw [List.length_map] at h; omega
  ·exact absurd hr h
  ·exact absurd h h3
 ·rcases h2 with ⟨_, _, h⟩ | ⟨_, _, _, h⟩ | ⟨_, _, ha, _⟩
  ·cases h
  ·cases h
  ·rcases h3 with ⟨_, _, h⟩ | ⟨_, hc, _⟩
   ·cases h
   ·rw [h4, ha, hc]
    exact ⟨rfl, h5⟩
theorem rising_take {l : List Int} (h : S.Rising l) (n : Nat) : S.Rising (l.take n) := by
 intro i hi
 have hi2 : i < l.length := by rw [List.length_take] at hi; omega
 obtain ⟨g1, g2, g3⟩ := h i hi2
 rw [List.getElem_take]
 refine ⟨g1, g2, fun h0 => ?_⟩
 rw [List.getElem_take]
 exact g3 h0
theorem rising_drop {l : List Int} (h : S.Rising l) (n : Nat) : S.Rising (l.drop n) := by
 intro i hi
 have hi2 : n + i < l.length := by rw [List.length_drop] at hi; omega
 obtain ⟨g1, g2, g3⟩ := h (n + i) hi2
 rw [List.getElem_drop]
 refine ⟨g1, g2, fun h0 => ?_⟩
 rw [List.getElem_drop]
 have := g3 (by omega)
 simp only [show n + i - 1 = n + (i - 1) by omega] at this
 exact this
theorem parts_ok (n : Nat) : ∀ (l : C.Smps), l.length = n → S.Rising (l.map (·.1)) → ∀ p ∈ C.splitL l, p ≠ [] ∧ p.length ≤ 120 ∧ S.Rising (p.map (·.1)) := by
 induction n using Nat.strongRecOn with
 | _ n ih =>
  intro l hl hr p hp
  by_cases h0 : l = []
  ·subst h0
   rw [C.splitL_nil] at hp
   cases hp
  ·have hlen : l.length ≠ 0 := fun e => h0 (List.length_eq_zero_iff.1 e)
   rw [C.splitL_cons h0] at hp
   rcases List.mem_cons.1 hp with e | e
   ·rw [e]
    refine ⟨fun e2 => ?_, by rw [List.length_take]; omega, by rw [List.map_take]; exact rising_take hr 120⟩
    have := congrArg List.length e2
    rw [List.length_take, List.length_nil] at this
    omega
   ·exact ih (l.drop 120).length (by rw [List.length_drop]; omega) (l.drop 120) rfl (by rw [List.map_drop]; exact rising_drop hr 120) p e
def serB (s : Ser) : List UInt8 := putN (U.uN ((N.txtB s.1).size : Int)) ++ (N.txtB s.1).data.toList ++ putN (U.uN ((C.splitL s.2).length : Int)) ++ (C.splitL s.2).flatMap chkB
def bodyB (l : List Ser) : List UInt8 := [76, 89, 83, 49] ++ putN (U.zigN (spanB l).1) ++ putN (U.zigN (spanB l).2) ++ putN (U.uN (l.length : Int)) ++ l.flatMap serB
def blockB (l : List Ser) : List UInt8 := bodyB l ++ G.four (G.sumL (bodyB l))
theorem chk_len (p : C.Smps) (hl : p.length ≤ 120) : (chkB p).length ≤ 32 + 20 * p.length := by
 unfold chkB C.chunkB
 simp only [List.length_append, packL_length]
 have h1 := S.allB_length (p.map (·.1))
 have h2 := V.allB_length (p.map (·.2))
 rw [List.length_map] at h1 h2
 have p1 := putN_ten (n := p.length) (by omega)
 have p2 := putN_ten (n := ((S.allB (p.map (·.1))).length + 7) / 8) (by omega)
 have p3 := putN_ten (n := ((V.allB (p.map (·.2))).length + 7) / 8) (by omega)
 omega
end Go.Proofs.YtllfanlhgnkcfaaGreatDoor.K
