/-
  spoil: the tail's bytes in the last sector are turned.
-/
import Derived.Test.YtpjedcfdchebgaaDsync
namespace Go.Proofs.Ytpjedcfdchebgaa
open Go.RowKit Go.Proofs.Lys Go.Maps Go.Shelf
set_option linter.unusedVariables false

theorem xor_byte (x : UInt8) : bits .xor .u8 (x.toNat : Int) 165 = ((x ^^^ 165).toNat : Int) := by
  have h : ∀ n : Fin 256, bits .xor .u8 (n.val : Int) 165 = ((n.val ^^^ 165 : Nat) : Int) := by decide +kernel
  have h1 := h ⟨x.toNat, x.toNat_lt⟩
  simp only at h1
  rw [h1]
  simp

/-- Bytes whose places from s up to k are turned. -/
def turnTo (bs : List UInt8) (s k : Nat) : List UInt8 := bs.mapIdx fun i x => if s ≤ i ∧ i < k then x ^^^ 165 else x

theorem turn_none (bs : List UInt8) (s : Nat) : turnTo bs s s = bs := by
  unfold turnTo
  apply List.ext_getElem
  · simp
  · intro i h1 h2
    simp
    omega
theorem turn_len (bs : List UInt8) (s k : Nat) : (turnTo bs s k).length = bs.length := by simp [turnTo]
theorem turn_all (bs : List UInt8) (su : Nat) : turnTo bs (max ((bs.length - 1) / 512 * 512) su) bs.length = DModel.spoil bs su := by
  unfold turnTo DModel.spoil
  apply List.ext_getElem
  · simp
  · intro i h1 h2
    simp at h1 ⊢
    by_cases h : su ≤ i ∧ (bs.length - 1) / 512 * 512 ≤ i
    · rw [if_pos (by omega), if_pos h]
    · rw [if_neg (by omega), if_neg h]
theorem turn_past (bs : List UInt8) (s k : Nat) (h : bs.length ≤ s) : turnTo bs s k = bs := by
  unfold turnTo
  apply List.ext_getElem
  · simp
  · intro i h1 h2
    simp at h1 ⊢
    omega
theorem turn_step (bs : List UInt8) (s k : Nat) (hs : s ≤ k) (x : UInt8) (hx : bs[k]? = some x) : turnTo bs s (k + 1) = (turnTo bs s k).set k (x ^^^ 165) := by
  obtain ⟨hk, rfl⟩ := List.getElem?_eq_some_iff.1 hx
  unfold turnTo
  apply List.ext_getElem
  · simp
  · intro i h1 h2
    simp at h1
    rw [List.getElem_set]
    by_cases e : k = i
    · subst e
      simp
      omega
    · rw [if_neg e]
      simp
      by_cases h : s ≤ i ∧ i < k + 1
      · rw [if_pos h, if_pos (by omega)]
      · rw [if_neg h, if_neg (by omega)]
theorem turn_at (bs : List UInt8) (s k : Nat) (x : UInt8) (hx : bs[k]? = some x) : (turnTo bs s k)[k]? = some x := by
  obtain ⟨hk, rfl⟩ := List.getElem?_eq_some_iff.1 hx
  unfold turnTo
  simp [hk]

section
variable {w : World}

/-- A cell of a row of bytes, and a store into it. -/
theorem row_store {g n cap : Nat} {ls : List UInt8} (h : w.ownsRow 0 5 1 (.slice (some ⟨g, 0, none⟩) n cap) n (ls.map byteV)) (k : Nat) (hk : k < ls.length) (y : UInt8) :
    (w.setCell ⟨g, k, none⟩ (byteV y)).ownsRow 0 5 1 (.slice (some ⟨g, 0, none⟩) n cap) n ((ls.set k y).map byteV) ∧ w.frozen? ⟨g, k, none⟩ = false := by
  obtain ⟨hl, ⟨h1, _⟩ | ⟨g', cap', cur, hv, hb, hg, hn, hm, hc, ht⟩⟩ := h
  · cases h1
  · cases hv
    have hB : Blk w g cur.toList 5 := by simpa [Blk] using hg
    have hB2 := hB.set k (byteV y)
    unfold Blk at hB2
    refine ⟨⟨by simpa using hl, .inr ⟨g, cap, _, rfl, hb, hB2, hn, hm, by simpa using hc, ?_⟩⟩, hB.frozen k⟩
    simp only [Nat.mul_one] at ht ⊢
    simp
    rw [← ht, List.take_set]

theorem row_cell0 {e : TypeId} {v : Value} {n : Nat} {xs : List Value} (h : w.ownsRow 0 e 1 v n xs) {k : Nat} {u : Value} (hk : xs[k]? = some u) : ∃ g cap, v = .slice (some ⟨g, 0, none⟩) n cap ∧ w.cell? ⟨g, k, none⟩ = some u := by
  obtain ⟨hl, ⟨rfl, rfl⟩ | ⟨g, cap, cur, rfl, _, hg, hn, _, hc, ht⟩⟩ := h
  · have : xs = [] := List.eq_nil_of_length_eq_zero (by simpa using hl)
    subst this
    simp at hk
  · refine ⟨g, cap, rfl, ?_⟩
    simp only [World.cell?, hg]
    rw [← ht] at hk
    rw [List.getElem?_take] at hk
    split at hk
    · simpa using hk
    · cases hk

set_option maxHeartbeats 1600000 in
theorem spoil_raw {fb su : Nat} {v : Value} {bs : List UInt8} (hF : Blk w fb [v, .int .i64 (su : Int)] 117) (hB : w.ownsRow 0 5 1 v bs.length (bs.map byteV)) (hsu : su ≤ bs.length) (hl : bs.length ≤ 16777216) :
    Calls Try.prog 88 #[.pointer (some ⟨fb, 0, none⟩)] w fun e w' => e = .returned (.tuple #[]) ∧ w'.ownsRow 0 5 1 v bs.length ((DModel.spoil bs su).map byteV) ∧ Only (fun k => v.ownBlock = some k) w w' := by
  obtain ⟨a, cap, rfl⟩ := row_slice hB
  have f0 := hF.cell 0 rfl
  have f1 := hF.cell 1 rfl
  have hbs : ∀ k, k < bs.length → ∃ g, a = some ⟨g, 0, none⟩ := by
    intro k hk
    obtain ⟨g, cap', hv, _⟩ := row_cell0 hB (k := k) (u := byteV bs[k]) (by simp [hk])
    cases hv
    exact ⟨g, rfl⟩
  have hsp := Hid.mk (turn_all bs su)
  have hst0 := Hid.mk (turn_none bs)
  have hstep := Hid.mk (turn_step bs)
  have hpast := Hid.mk (turn_past bs)
  have hat := Hid.mk (turn_at bs)
  have hq : ((bs.length : Int) - 1).tdiv 512 = (((bs.length - 1) / 512 : Nat) : Int) := by
    by_cases h0 : bs.length = 0
    · rw [h0]; rfl
    · have : ((bs.length : Int) - 1) = ((bs.length - 1 : Nat) : Int) := by omega
      rw [this]
      rfl
  have hT : (bs.length - 1) / 512 * 512 ≤ bs.length := by omega
  generalize hn : bs.length = n at *
  have HN := Hid.mk hn
  clear hn
  generalize hqq : (n - 1) / 512 = q at *
  clear hqq
  have hq2 : (q : Int) * 512 ≤ 16777216 := by omega
  have hq3 : (0 : Int) ≤ (q : Int) * 512 := by omega
  have fin : ∀ st : Nat, st = max (q * 512) su → ∀ wr : World, wr.ownsRow 0 5 1 (.slice a n cap) n ((turnTo bs st (max n st)).map byteV) → wr.ownsRow 0 5 1 (.slice a n cap) n ((DModel.spoil bs su).map byteV) := by
    intro st e wr hr
    rw [← hsp.out, ← e]
    have e2 := HN.out
    by_cases h : st ≤ n
    · rw [show max n st = n by omega] at hr
      exact hr
    · rw [hpast.out st n (by omega)]
      rw [hpast.out st _ (by omega)] at hr
      exact hr
  have FIN := Hid.mk fin
  clear fin
  by_cases hc : su ≤ q * 512
  · have hc2 : (su : Int) ≤ (q : Int) * 512 := by omega
    go_enter Try.func88, Try.ntmps88
    go_wp2_with fail
    go_loopw [4] (fun i wr => ∃ k : Nat, q * 512 ≤ k ∧ k ≤ max n (q * 512) ∧ i = .int .i64 (k : Int) ∧ wr.ownsRow 0 5 1 (.slice a n cap) n ((turnTo bs (q * 512) k).map byteV) ∧ Only (fun j => (Value.slice a n cap).ownBlock = some j) w wr)
      (fun i _ => n - (intOf i).toNat)
    case atStart => exact ⟨q * 512, Nat.le_refl _, by omega, by simp, by rw [hst0.out]; exact hB, Only.refl _ _⟩
    case round =>
      obtain ⟨k, hk1, hk2, rfl, hr, hor⟩ := hrel
      have hFr := hor.blk hF (fun e => (row_typed hB e).ne hF.typed (by decide) rfl)
      clear f0 f1
      have f0 := hFr.cell 0 rfl
      by_cases hlt : k < n
      · have hx : bs[k]? = some (bs.getD k 0) := by
          have e := HN.out
          rw [List.getD_eq_getElem?_getD, List.getElem?_eq_getElem (by omega)]
          rfl
        obtain ⟨g, hg⟩ := hbs k hlt
        subst hg
        obtain ⟨g', cap', hv, hcell⟩ := row_cell0 hr (k := k) (u := byteV (bs.getD k 0)) (by rw [List.getElem?_map, hat.out _ k _ hx]; rfl)
        cases hv
        obtain ⟨hr2, hfz⟩ := row_store hr k (by rw [turn_len, HN.out]; exact hlt) (bs.getD k 0 ^^^ 165)
        have hst2 := Hid.mk (hstep.out (q * 512) k hk1 _ hx)
        have hxor := xor_byte (bs.getD k 0)
        have H2 := Hid.mk hr2
        clear hr2 hx
        unfold byteV at hcell
        generalize bs.getD k 0 = y at *
        go_wp2_with fail
        go_roundw
        case rel => exact ⟨k + 1, by omega, by omega, by go_num, by rw [hst2.out]; exact H2.out, hor.setCell (p := ⟨g, k, none⟩) (fun _ => rfl) _⟩
        case measure => simp [intOf]; omega
      · have hkn : k = max n (q * 512) := by omega
        have FF := Hid.mk (FIN.out (q * 512) (by omega) wr (by rw [← hkn]; exact hr))
        go_wp2
        go_end0
        exact ⟨rfl, FF.out, hor⟩
  · have hc2 : ¬ ((su : Int) ≤ (q : Int) * 512) := by omega
    go_enter Try.func88, Try.ntmps88
    go_wp2_with fail
    go_loopw [4] (fun i wr => ∃ k : Nat, su ≤ k ∧ k ≤ max n su ∧ i = .int .i64 (k : Int) ∧ wr.ownsRow 0 5 1 (.slice a n cap) n ((turnTo bs su k).map byteV) ∧ Only (fun j => (Value.slice a n cap).ownBlock = some j) w wr)
      (fun i _ => n - (intOf i).toNat)
    case atStart => exact ⟨su, Nat.le_refl _, by omega, by simp, by rw [hst0.out]; exact hB, Only.refl _ _⟩
    case round =>
      obtain ⟨k, hk1, hk2, rfl, hr, hor⟩ := hrel
      have hFr := hor.blk hF (fun e => (row_typed hB e).ne hF.typed (by decide) rfl)
      clear f0 f1
      have f0 := hFr.cell 0 rfl
      by_cases hlt : k < n
      · have hx : bs[k]? = some (bs.getD k 0) := by
          have e := HN.out
          rw [List.getD_eq_getElem?_getD, List.getElem?_eq_getElem (by omega)]
          rfl
        obtain ⟨g, hg⟩ := hbs k hlt
        subst hg
        obtain ⟨g', cap', hv, hcell⟩ := row_cell0 hr (k := k) (u := byteV (bs.getD k 0)) (by rw [List.getElem?_map, hat.out _ k _ hx]; rfl)
        cases hv
        obtain ⟨hr2, hfz⟩ := row_store hr k (by rw [turn_len, HN.out]; exact hlt) (bs.getD k 0 ^^^ 165)
        have hst2 := Hid.mk (hstep.out su k hk1 _ hx)
        have hxor := xor_byte (bs.getD k 0)
        have H2 := Hid.mk hr2
        clear hr2 hx
        unfold byteV at hcell
        generalize bs.getD k 0 = y at *
        go_wp2_with fail
        go_roundw
        case rel => exact ⟨k + 1, by omega, by omega, by go_num, by rw [hst2.out]; exact H2.out, hor.setCell (p := ⟨g, k, none⟩) (fun _ => rfl) _⟩
        case measure => simp [intOf]; omega
      · have hkn : k = max n su := by omega
        have FF := Hid.mk (FIN.out su (by omega) wr (by rw [← hkn]; exact hr))
        go_wp2
        go_end0
        exact ⟨rfl, FF.out, hor⟩
end
end Go.Proofs.Ytpjedcfdchebgaa
