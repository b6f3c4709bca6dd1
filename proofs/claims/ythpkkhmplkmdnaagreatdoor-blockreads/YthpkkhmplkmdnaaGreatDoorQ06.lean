/-
  Cplain.
-/
import Derived.Test.YthpkkhmplkmdnaaGreatDoorQ04
import Derived.Test.YthpkkhmplkmdnaaGreatDoorQ02
namespace Go.Proofs.YthpkkhmplkmdnaaGreatDoor.C
open Go.RowKit Go.Proofs.Lys
set_option linter.unusedVariables false
abbrev Smps := List (Int × Int)
def chunkB (l : Smps) (a c : List UInt8) : List UInt8 := putN l.length ++ (putN a.length ++ (a ++ (putN c.length ++ c)))
def Packs (l : Smps) (bs : List UInt8) (x : Int) : Prop :=
 (l = [] ∧ bs = [] ∧ x = 1) ∨
 (l ≠ [] ∧ ∃ a e, S.Packs (l.map (·.1)) a e ∧ e ≠ 0 ∧ bs = [] ∧ x = e) ∨
 (l ≠ [] ∧ ∃ a c, S.Packs (l.map (·.1)) a 0 ∧ V.Packs (l.map (·.2)) c 0 ∧ bs = chunkB l a c ∧ x = 0)
theorem Packs.inj {l : Smps} {bs bs' : List UInt8} {x x' : Int} (h : Packs l bs x) (h' : Packs l bs' x') : bs = bs' ∧ x = x' := by
 rcases h with ⟨h1, h2, h3⟩ | ⟨h1, a, e, h2, h3, h4, h5⟩ | ⟨h1, a, c, h2, h3, h4, h5⟩ <;> rcases h' with ⟨k1, k2, k3⟩ | ⟨k1, a', e', k2, k3, k4, k5⟩ | ⟨k1, a', c', k2, k3, k4, k5⟩
 ·exact ⟨by rw [h2, k2], by rw [h3, k3]⟩
 ·exact absurd h1 k1
 ·exact absurd h1 k1
 ·exact absurd k1 h1
 ·have := h2.inj k2
  exact ⟨by rw [h4, k4], by rw [h5, k5, this.2]⟩
 ·exact absurd (h2.inj k2).2 h3
 ·exact absurd k1 h1
 ·exact absurd (h2.inj k2).2.symm k3
 ·have e1 := (h2.inj k2).1
  have e2 := (h3.inj k3).1
  exact ⟨by rw [h4, k4, e1, e2], by rw [h5, k5]⟩
theorem Packs.few {l : Smps} {bs : List UInt8} (h : Packs l bs 0) : 1 ≤ l.length ∧ l.length ≤ 120 := by
 rcases h with ⟨_, _, h3⟩ | ⟨_, a, e, _, h3, _, h5⟩ | ⟨h1, a, c, h2, h3, h4, h5⟩
 ·cases h3
 ·exact absurd h5.symm h3
 ·have h6 : l.length ≠ 0 := fun h => h1 (List.length_eq_zero_iff.1 h)
  rcases h3 with ⟨_, _, h⟩ | ⟨h, _⟩
  ·cases h
  ·rw [List.length_map] at h
   omega
def cutR (bs : List UInt8) : Option (List UInt8 × List UInt8) :=
 if (getA bs 0 0).2.2 ≠ 0 ∨ wrap64 ((getA bs 0 0).1 : Int) < 0 ∨ (bs.length : Int) - ((getA bs 0 0).2.1 : Int) < wrap64 ((getA bs 0 0).1 : Int) then none
 else some ((bs.drop (getA bs 0 0).2.1).take (wrap64 ((getA bs 0 0).1 : Int)).toNat, (bs.drop (getA bs 0 0).2.1).drop (wrap64 ((getA bs 0 0).1 : Int)).toNat)
def headC (bs : List UInt8) : Option (Nat × List UInt8 × List UInt8 × Nat) :=
 if (getA bs 0 0).2.2 ≠ 0 ∨ wrap64 ((getA bs 0 0).1 : Int) < 1 ∨ 120 < wrap64 ((getA bs 0 0).1 : Int) then none
 else (cutR (bs.drop (getA bs 0 0).2.1)).bind fun a => (cutR a.2).map fun c => ((wrap64 ((getA bs 0 0).1 : Int)).toNat, a.1, c.1, bs.length - c.2.length)
def Reads (bs : List UInt8) (l : Smps) (n : Nat) (x : Int) : Prop :=
 (headC bs = none ∧ l = [] ∧ n = 0 ∧ x = 5) ∨
 ∃ N a c k, headC bs = some (N, a, c, k) ∧ ∃ t e v f, S.Reads a (N : Int) t e ∧ V.Reads c (N : Int) v f ∧
  (((e ≠ 0 ∨ f ≠ 0) ∧ l = [] ∧ n = 0 ∧ x = 5) ∨ (e = 0 ∧ f = 0 ∧ l = t.zip v ∧ n = k ∧ x = 0))
theorem Reads.inj {bs : List UInt8} {l l' : Smps} {n n' : Nat} {x x' : Int} (h : Reads bs l n x) (h' : Reads bs l' n' x') : l = l' ∧ n = n' ∧ x = x' := by
 rcases h with ⟨h1, h2, h3, h4⟩ | ⟨N, a, c, k, h1, t, e, v, f, hs, hv, h2⟩ <;> rcases h' with ⟨k1, k2, k3, k4⟩ | ⟨N', a', c', k', k1, t', e', v', f', ks, kv, k2⟩
 ·exact ⟨by rw [h2, k2], by rw [h3, k3], by rw [h4, k4]⟩
 ·rw [h1] at k1; cases k1
 ·rw [h1] at k1; cases k1
 ·rw [h1] at k1
  cases k1
  obtain ⟨rfl, rfl⟩ := hs.inj ks
  obtain ⟨rfl, rfl⟩ := hv.inj kv
  rcases h2 with ⟨p1, p2, p3, p4⟩ | ⟨p1, p2, p3, p4, p5⟩ <;> rcases k2 with ⟨q1, q2, q3, q4⟩ | ⟨q1, q2, q3, q4, q5⟩
  ·exact ⟨by rw [p2, q2], by rw [p3, q3], by rw [p4, q4]⟩
  ·rcases p1 with p1 | p1
   ·exact absurd q1 p1
   ·exact absurd q2 p1
  ·rcases q1 with q1 | q1
   ·exact absurd p1 q1
   ·exact absurd p2 q1
  ·exact ⟨by rw [p3, q3], by rw [p4, q4], by rw [p5, q5]⟩
theorem wrap_small {n : Nat} (h : n < 9223372036854775808) : wrap64 (n : Int) = (n : Int) := by unfold wrap64; omega
theorem cut_put (a R : List UInt8) (h : a.length < 4294967296) : cutR (putN a.length ++ (a ++ R)) = some (a, R) := by
 have hg := get_put0 (u := a.length) (by omega) (a ++ R)
 unfold cutR
 rw [hg]
 simp only
 rw [wrap_small (by omega), if_neg (by simp only [List.length_append]; omega), List.drop_left, Int.toNat_natCast, List.take_left, List.drop_left]
theorem head_put (l : Smps) (a c more : List UInt8) (h1 : 1 ≤ l.length) (h2 : l.length ≤ 120) (ha : a.length < 4294967296) (hc : c.length < 4294967296) : headC (chunkB l a c ++ more) = some (l.length, a, c, (chunkB l a c).length) := by
 have e0 : chunkB l a c ++ more = putN l.length ++ (putN a.length ++ (a ++ (putN c.length ++ (c ++ more)))) := by
  unfold chunkB
  simp only [List.append_assoc]
 have hg := get_put0 (u := l.length) (by omega) (putN a.length ++ (a ++ (putN c.length ++ (c ++ more))))
 unfold headC
 rw [e0, hg]
 simp only
 rw [wrap_small (by omega), if_neg (by omega), List.drop_left, cut_put a _ ha]
 simp only [Option.bind_some]
 rw [cut_put c more hc]
 simp only [Option.map_some, Int.toNat_natCast, chunkB, List.length_append]
 congr 4
 omega
theorem zip_maps (l : Smps) : (l.map (·.1)).zip (l.map (·.2)) = l := by
 induction l with
 | nil => rfl
 | cons p r ih => rw [List.map_cons, List.map_cons, List.zip_cons_cons, ih]
theorem reads_packs {l : Smps} {bs : List UInt8} (h : Packs l bs 0) (hl : V.In64 (l.map (·.2))) (more : List UInt8) : Reads (bs ++ more) l bs.length 0 := by
 have hf := h.few
 rcases h with ⟨_, _, h3⟩ | ⟨_, a, e, _, h3, _, h5⟩ | ⟨h1, a, c, h2, h3, h4, h5⟩
 ·cases h3
 ·exact absurd h5.symm h3
 ·have r1 := S.reads_packs h2
  have r2 := V.reads_packs h3 hl
  rw [List.length_map] at r1 r2
  have ha : a.length < 4294967296 := by
   rcases h2 with ⟨_, h, _⟩ | ⟨_, _, h, _⟩ | ⟨h0, _, h, _⟩
   ·simp [h]
   ·simp [h]
   ·rw [h, packL_length]
    have := S.allB_length (l.map (·.1))
    omega
  have hc : c.length < 4294967296 := by have := h3.small; omega
  subst h4
  exact .inr ⟨_, _, _, _, head_put l a c more hf.1 hf.2 ha hc, _, _, _, _, r1, r2, .inr ⟨rfl, rfl, (zip_maps l).symm, rfl, rfl⟩⟩
theorem readS_len (n : Nat) : ∀ L g p acc m, S.readT n L g p acc = some m → m.length = acc.length + n := by
 induction n with
 | zero =>
  intro L g p acc m h
  simp only [S.readT, Option.some.injEq] at h
  rw [h, Nat.add_zero]
 | succ n ih =>
  intro L g p acc m h
  simp only [S.readT] at h
  split at h
  ·cases hg : S.getR L 64 with
   | none => rw [hg] at h; cases h
   | some x =>
    rw [hg, Option.bind_some] at h
    have := ih _ _ _ _ _ h
    rw [List.length_append, List.length_singleton] at this
    omega
  ·cases hg : S.chgR L with
   | none => rw [hg] at h; cases h
   | some x =>
    rw [hg, Option.bind_some] at h
    have := ih _ _ _ _ _ h
    rw [List.length_append, List.length_singleton] at this
    omega
theorem readV_len (n : Nat) : ∀ L p z t acc m, V.readT n L p z t acc = some m → m.length = acc.length + n := by
 induction n with
 | zero =>
  intro L p z t acc m h
  simp only [V.readT, Option.some.injEq] at h
  rw [h, Nat.add_zero]
 | succ n ih =>
  intro L p z t acc m h
  simp only [V.readT] at h
  split at h
  ·cases hg : V.getN L 64 with
   | none => rw [hg] at h; cases h
   | some x =>
    rw [hg, Option.bind_some] at h
    have := ih _ _ _ _ _ _ h
    rw [List.length_append, List.length_singleton] at this
    omega
  ·cases hg : V.chgR z t L with
   | none => rw [hg] at h; cases h
   | some x =>
    rw [hg, Option.bind_some] at h
    have := ih _ _ _ _ _ _ h
    rw [List.length_append, List.length_singleton] at this
    omega
theorem readsS_len {a : List UInt8} {N : Nat} {t : List Int} (h : S.Reads a (N : Int) t 0) : t.length = N := by
 rcases h with ⟨_, _, h⟩ | ⟨_, _, h⟩ | ⟨_, _, ⟨_, _, h⟩ | ⟨m, hm, ⟨_, _, h⟩ | ⟨_, rfl, _⟩⟩⟩
 ·cases h
 ·cases h
 ·cases h
 ·cases h
 ·have := readS_len _ _ _ _ _ _ hm
  simpa using this
theorem readsV_len {a : List UInt8} {N : Nat} {t : List Int} (h : V.Reads a (N : Int) t 0) : t.length = N := by
 rcases h with ⟨_, _, h⟩ | ⟨_, _, h⟩ | ⟨_, _, ⟨_, _, h⟩ | ⟨m, hm, ⟨_, _, h⟩ | ⟨_, rfl, _⟩⟩⟩
 ·cases h
 ·cases h
 ·cases h
 ·cases h
 ·have := readV_len _ _ _ _ _ _ _ hm
  simpa using this
def splitF : Nat → Smps → List Smps
 | 0, _ => []
 | f + 1, l => if l = [] then [] else l.take 120 :: splitF f (l.drop 120)
def splitL (l : Smps) : List Smps := splitF l.length l
theorem splitF_nil (f : Nat) : splitF f [] = [] := by cases f <;> rfl
theorem splitF_more (f : Nat) : ∀ (g : Nat) (l : Smps), l.length ≤ f → l.length ≤ g → splitF f l = splitF g l := by
 induction f with
 | zero =>
  intro g l h _
  have : l = [] := List.length_eq_zero_iff.1 (by omega)
  rw [this, splitF_nil, splitF_nil]
 | succ f ih =>
  intro g l h hg
  cases l with
  | nil => rw [splitF_nil, splitF_nil]
  | cons p r =>
   rw [List.length_cons] at h hg
   obtain ⟨g, rfl⟩ : ∃ g', g = g' + 1 := ⟨g - 1, by omega⟩
   have hd : ((p :: r).drop 120).length ≤ r.length := by rw [List.length_drop, List.length_cons]; omega
   unfold splitF
   rw [if_neg (by simp), if_neg (by simp), ih g _ (by omega) (by omega)]
theorem splitL_nil : splitL [] = [] := rfl
theorem splitL_cons {l : Smps} (h : l ≠ []) : splitL l = l.take 120 :: splitL (l.drop 120) := by
 cases l with
 | nil => exact absurd rfl h
 | cons p r =>
  have hd : ((p :: r).drop 120).length ≤ r.length := by rw [List.length_drop, List.length_cons]; omega
  show splitF (r.length + 1) (p :: r) = _
  unfold splitF
  rw [if_neg (by simp)]
  exact congrArg _ (splitF_more _ _ _ hd (Nat.le_refl _))
theorem splitL_len (n : Nat) : ∀ l : Smps, l.length = n → (splitL l).length = (n + 119) / 120 := by
 induction n using Nat.strongRecOn with
 | ind n ih =>
  intro l hl
  by_cases h : l = []
  ·subst h
   rw [splitL_nil, ← hl]
   rfl
  ·rw [splitL_cons h, List.length_cons, ih (n - 120) (by have : l.length ≠ 0 := fun e => h (List.length_eq_zero_iff.1 e); omega) _ (by rw [List.length_drop, hl])]
   have : l.length ≠ 0 := fun e => h (List.length_eq_zero_iff.1 e)
   omega
end Go.Proofs.YthpkkhmplkmdnaaGreatDoor.C
