/-
  The document's own Parse: the walk.
-/
import Derived.Test.YtbdcaikcdhfdoaaNrpar
namespace Go.Proofs.Ytbdcaikcdhfdoaa.N
open Go.RowKit Go.Proofs.Lys
set_option linter.unusedVariables false
set_option linter.unusedSimpArgs false

/-- How far the document's own reader is. -/
structure Rk (s : ByteArray) (k : Nat) (acc : Labs) (p : Nat) : Prop where
  len : acc.length = k
  k17 : k ≤ 17
  ps : p ≤ s.size
  sm : Small acc
  eq : rreadL s.data.toList = (rreadR (17 - k) (s.data.toList.drop p)).map (acc ++ ·)
theorem rlab_at {s : ByteArray} {a n : Nat} (h : Wd s a n) (hn : ∀ h : n < s.size, plainB (s[n]'h) = false) :
    rlabR (s.data.toList.drop a) = if hl : n < s.size then (if (s[n]'hl).toNat = 61 then (valS s (n + 1)).map (fun p => (((s.data.toList.take n).drop a, p.1), p.2)) else none) else none := by
  obtain ⟨h1, h2⟩ := h.stop hn
  unfold rlabR
  rw [h1, h2]
  by_cases hlt : n < s.size
  · rw [dif_pos hlt, drop_more s n hlt]
    unfold valS
    cases hd : s.data.toList.drop (n + 1) with
    | nil =>
      simp only
      split <;> rfl
    | cons c r =>
      simp only
      by_cases h61 : (s[n]'hlt).toNat = 61
      · rw [if_pos h61]
        by_cases h34 : c.toNat = 34
        · rw [if_pos ⟨h61, h34⟩, if_pos h34]
        · rw [if_neg (fun h => h34 h.2), if_neg h34]
          rfl
      · rw [if_neg h61, if_neg (fun h => h61 h.1)]
  · rw [dif_neg hlt, List.drop_of_length_le (by rw [← Lib.size_eq]; omega)]
theorem Rk.bad {s : ByteArray} {k : Nat} {acc : Labs} {p : Nat} (h : Rk s k acc p) (hn : rlabR (s.data.toList.drop p) = none ∨ 16 < k) : rreadL s.data.toList = none := by
  have h17 := h.k17
  have := h.eq
  by_cases hk : k ≤ 16
  · have e : 17 - k = (16 - k) + 1 := by omega
    rcases hn with hn | hn
    · rw [e, rreadR, hn] at this
      exact this
    · omega
  · have e : 17 - k = 0 := by omega
    rw [e] at this
    exact this
theorem Rk.last {s : ByteArray} {k : Nat} {acc : Labs} {p e : Nat} {x : List UInt8 × List UInt8} (h : Rk s k acc p) (hk : k ≤ 16) (hl : rlabR (s.data.toList.drop p) = some (x, s.data.toList.drop e)) (hc : ∀ he : e < s.size, (s[e]'he).toNat ≠ 44) : rreadL s.data.toList = some (acc ++ [mkLab x]) := by
  have e1 : 17 - k = (16 - k) + 1 := by omega
  have := h.eq
  rw [e1, rreadR, hl] at this
  by_cases he : e < s.size
  · rw [drop_more s e he] at this
    simp only [if_neg (hc he)] at this
    exact this
  · rw [List.drop_of_length_le (by rw [← Lib.size_eq]; omega)] at this
    exact this
theorem Rk.more {s : ByteArray} {k : Nat} {acc : Labs} {p e : Nat} {x : List UInt8 × List UInt8} (h : Rk s k acc p) (hk : k ≤ 16) (hl : rlabR (s.data.toList.drop p) = some (x, s.data.toList.drop e)) (he : e < s.size) (hc : (s[e]'he).toNat = 44) (hx : (mkLab x).1.size ≤ 100000 ∧ (mkLab x).2.size ≤ 100000) : Rk s (k + 1) (acc ++ [mkLab x]) (e + 1) := by
  have e1 : 17 - k = (16 - k) + 1 := by omega
  have e2 : 17 - (k + 1) = 16 - k := by omega
  have := h.eq
  rw [e1, rreadR, hl, drop_more s e he] at this
  simp only [if_pos hc] at this
  refine ⟨by rw [List.length_append, h.len]; rfl, by omega, by omega, fun y hy => ?_, ?_⟩
  · rcases List.mem_append.1 hy with hy | hy
    · exact h.sm y hy
    · have := List.mem_singleton.1 hy
      subst this
      exact hx
  · rw [this, e2, Option.map_map]
    congr 1
    funext z
    simp
theorem Rk.start {s : ByteArray} (h0 : 0 < s.size) (hc : (s[0]'h0).toNat = 123) : Rk s 0 [] 1 := by
  refine ⟨rfl, by omega, h0, fun y hy => (by cases hy), ?_⟩
  have := drop_more s 0 h0
  rw [List.drop_zero] at this
  rw [this]
  show (if (s[0]'h0).toNat = 123 then rreadR 17 (s.data.toList.drop (0 + 1)) else none) = _
  rw [if_pos hc]
  simp
theorem rread_no {s : ByteArray} (h : ∀ h0 : 0 < s.size, (s[0]'h0).toNat ≠ 123) : rreadL s.data.toList = none := by
  by_cases h0 : 0 < s.size
  · have := drop_more s 0 h0
    rw [List.drop_zero] at this
    rw [this]
    show (if (s[0]'h0).toNat = 123 then _ else none) = none
    rw [if_neg (h h0)]
  · have : s.data.toList = [] := List.length_eq_zero_iff.1 (by rw [← Lib.size_eq]; omega)
    rw [this]
    rfl
theorem valR_len : ∀ (n : Nat) (S v r : List UInt8), S.length ≤ n → valR S = some (v, r) → v.length ≤ S.length := by
  intro n
  induction n with
  | zero =>
    intro S v r hS h
    have : S = [] := List.length_eq_zero_iff.1 (by omega)
    subst this
    rw [valR_nil] at h
    cases h
  | succ n ih =>
    intro S v r hS h
    cases S with
    | nil => rw [valR_nil] at h; cases h
    | cons c S' =>
      rw [valR_cons] at h
      split at h
      · cases h; simp
      · split at h
        · cases hx : hex2 S' with
          | none => rw [hx] at h; cases h
          | some y =>
            rw [hx] at h
            obtain ⟨z, hz, e⟩ := Option.map_eq_some_iff.1 h
            obtain ⟨z1, z2⟩ := z
            cases e
            have := ih (S'.drop 2) z1 z2 (by rw [List.length_drop]; simp at hS; omega) hz
            rw [List.length_drop] at this
            simp
            omega
        · obtain ⟨z, hz, e⟩ := Option.map_eq_some_iff.1 h
          obtain ⟨z1, z2⟩ := z
          cases e
          have := ih S' z1 z2 (by simp at hS; omega) hz
          simp
          omega
theorem valS_len {s : ByteArray} {a : Nat} {v r : List UInt8} (h : valS s a = some (v, r)) : v.length ≤ s.size := by
  unfold valS at h
  split at h
  · rename_i c r' hd
    split at h
    · have h1 := valR_len _ _ _ _ (Nat.le_refl _) h
      have h2 := congrArg List.length hd
      rw [List.length_drop, ← Lib.size_eq, List.length_cons] at h2
      omega
    · cases h
  · cases h

end Go.Proofs.Ytbdcaikcdhfdoaa.N
