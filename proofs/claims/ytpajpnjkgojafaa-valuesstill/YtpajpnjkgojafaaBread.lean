/-
  A writer's length and bytes; a reader of bits: made, asked how many are left.
-/
import Derived.Test.YtpajpnjkgojafaaBput
import Derived.Deep.QuietTactic
import Derived.BigQuiet
namespace Go.Proofs.Ytpajpnjkgojafaa
open Go.RowKit Go.Proofs.Lys
set_option linter.unusedVariables false

theorem ret_int {k : IntKind} {a b : Int} (h : a = b) : Ending.returned (.int k a) = .returned (.int k b) := by rw [h]

theorem wbytes_any (w : World) (b : Nat) (v : Value) (X : Value) (bs : List UInt8) (h : Blk w b [v, X] 42) (hs : SrcOf w v (bs.map bV)) (hl : bs.length ≤ 100000000) :
    Calls Try.prog 15 #[.pointer (some ⟨b, 0, none⟩)] w fun e w' => ∃ v, e = .returned v ∧ w'.ownsRow w.heap.size 5 1 v bs.length (bs.map bV) ∧ Kept w w' := by
  have c1 := h.cell 0 rfl
  go_enter Try.func15, Try.ntmps15
  go_wp2_with fail
  refine (clone_any w v bs hs hl).mono ?_
  rintro e w' ⟨v', rfl, ho, hk⟩
  go_wp2_with fail
  go_ret
  exact ⟨_, rfl, ho, hk⟩

theorem newReader_any (w : World) (v : Value) (bs : List UInt8) (hs : SrcOf w v (bs.map bV)) (hl : bs.length ≤ 100000000) :
    Calls Try.prog 27 #[v] w fun e w' => ∃ b v', e = .returned (.pointer (some ⟨b, 0, none⟩)) ∧ w.heap.size ≤ b ∧ Blk w' b [v', .int .i64 0] 76 ∧ w'.ownsRow w.heap.size 5 1 v' bs.length (bs.map bV) ∧ Kept w w' := by
  go_enter Try.func27, Try.ntmps27
  go_wp2_with fail
  refine (clone_any w v bs hs hl).mono ?_
  rintro e w' ⟨v', rfl, ho, hk⟩
  obtain ⟨a', c', rfl⟩ := own_slice ho
  have hsz := hk.size
  go_wp2_with fail
  go_ret
  exact ⟨_, _, rfl, hsz, Blk.new w' _ _, ho.alloc _, hk.alloc _⟩

theorem left_drew (w : World) (b : Nat) (a : Option Addr) (n c t : Nat) (h : Blk w b [.slice a n c, .int .i64 (t : Int)] 76) (hn : n ≤ 100000000) (ht : t ≤ 8 * n) :
    Calls Try.prog 35 #[.pointer (some ⟨b, 0, none⟩)] w fun e w' => e = .returned (.int .i64 ((8 * n - t : Nat) : Int)) ∧ w' = w.drew := by
  have c0 := h.cell 0 rfl
  have c1 := h.cell 1 rfl
  go_enter Try.func35, Try.ntmps35
  go_wp2
  go_region
  go_wp2
  go_ret
  exact ⟨ret_int (by omega), rfl⟩

theorem left_any (w : World) (b : Nat) (a : Option Addr) (n c t : Nat) (h : Blk w b [.slice a n c, .int .i64 (t : Int)] 76) (hn : n ≤ 100000000) (ht : t ≤ 8 * n) :
    Calls Try.prog 35 #[.pointer (some ⟨b, 0, none⟩)] w fun e w' => e = .returned (.int .i64 ((8 * n - t : Nat) : Int)) ∧ Kept w w' :=
  (left_drew w b a n c t h hn ht).mono (by rintro e w' ⟨rfl, rfl⟩; exact ⟨rfl, (Only.refl _ _).drew⟩)

/-- The panic by which a reader gives up. -/
abbrev tooFew : Ending := .panicked [{ v := .iface 25 (.int .i64 5), recovered := false }]

theorem take_few (w : World) (b : Nat) (a : Option Addr) (n c t N : Nat) (h : Blk w b [.slice a n c, .int .i64 (t : Int)] 76) (hn : n ≤ 100000000) (ht : t ≤ 8 * n) (hN : 8 * n - t < N) (hN2 : N ≤ 64) :
    Calls Try.prog 34 #[.pointer (some ⟨b, 0, none⟩), .int .i64 (N : Int)] w fun e w' => e = tooFew ∧ Kept w w' := by
  obtain ⟨q, hq⟩ : ∃ q, 8 * n - t = q := ⟨_, rfl⟩
  have hl := left_any w b a n c t h hn ht
  rw [hq] at hl hN
  clear hq
  go_enter Try.func34, Try.ntmps34
  go_wp2_with fail
  refine hl.mono ?_
  rintro e w' ⟨rfl, hk⟩
  clear hl
  go_wp2_with fail
  exact ⟨rfl, rfl, hk⟩

theorem take_step (bs : List UInt8) (t j s V : Nat) (hs : (t + j) % 8 + s ≤ 8) (hlt : t + j < 8 * bs.length) (hlt2 : t + j + s ≤ 8 * bs.length) (hV : V = valL (((unpackL bs).drop t).take j)) (hj : j + s ≤ 64) :
    V * 2 ^ s ||| ((bs.getD ((t + j) / 8) 0).toNat * 2 ^ ((t + j) % 8)) % 256 / 2 ^ (8 - s) = valL (((unpackL bs).drop t).take (j + s)) ∧ V * 2 ^ s < 18446744073709551616 ∧ ((bs.getD ((t + j) / 8) 0).toNat * 2 ^ ((t + j) % 8)) % 256 / 2 ^ (8 - s) < 256 := by
  have hp := val_piece bs (t + j) s hlt hs
  have hpl := valL_lt (((unpackL bs).drop (t + j)).take s)
  have hlen : (((unpackL bs).drop (t + j)).take s).length = s := by rw [List.length_take, List.length_drop, unpackL_length]; omega
  rw [hlen] at hpl
  have hVl : V < 2 ^ j := by
    have := valL_lt (((unpackL bs).drop t).take j)
    rw [← hV, List.length_take] at this
    exact Nat.lt_of_lt_of_le this (Nat.pow_le_pow_right (by decide) (by omega))
  refine ⟨?_, ?_, ?_⟩
  · rw [← hp, List.take_add, List.drop_drop, valL_append, hlen, ← hV, Nat.mul_comm V, ← Nat.two_pow_add_eq_or_of_lt hpl]
  · calc V * 2 ^ s < 2 ^ j * 2 ^ s := Nat.mul_lt_mul_of_pos_right hVl (Nat.two_pow_pos _)
      _ = 2 ^ (j + s) := by rw [← Nat.pow_add]
      _ ≤ 2 ^ 64 := Nat.pow_le_pow_right (by decide) hj
  · exact Nat.lt_of_le_of_lt (Nat.div_le_self _ _) (Nat.mod_lt _ (by decide))

theorem wrap_nat (n : Nat) (h : n < 18446744073709551616) : IntKind.u64.wrap (n : Int) = (n : Int) := by
  have : IntKind.u64.wrap (n : Int) = (n : Int) % 18446744073709551616 := by simp [IntKind.wrap, IntKind.bits, IntKind.signed]
  rw [this]
  omega
theorem take_or (bs : List UInt8) (t j s V T kk at_ old : Nat) (hT : T = t + j) (e2 : (T : Int) / 8 = (kk : Int)) (e1 : (T : Int) % 8 = (at_ : Int)) (ho : (bs.getD kk 0).toNat = old) (hs : at_ + s ≤ 8) (hlt : T < 8 * bs.length) (hlt2 : T + s ≤ 8 * bs.length)
    (hV : V = valL (((unpackL bs).drop t).take j)) (hj : j + s ≤ 64) :
    bits .or .u64 (IntKind.u64.wrap ((V : Int) * 2 ^ s)) (IntKind.u64.wrap ((old : Int) * 2 ^ at_ % 256 / 2 ^ (8 - s))) = ((valL (((unpackL bs).drop t).take (j + s)) : Nat) : Int) := by
  subst hT
  obtain rfl : kk = (t + j) / 8 := by omega
  obtain rfl : at_ = (t + j) % 8 := by omega
  obtain ⟨h1, h2, h3⟩ := take_step bs t j s V hs hlt hlt2 hV hj
  rw [ho] at h1 h3
  have i1 : (V : Int) * 2 ^ s = ((V * 2 ^ s : Nat) : Int) := by simp
  have i2 : (old : Int) * 2 ^ ((t + j) % 8) % 256 / 2 ^ (8 - s) = ((old * 2 ^ ((t + j) % 8) % 256 / 2 ^ (8 - s) : Nat) : Int) := by
    simp only [Int.natCast_ediv, Int.natCast_emod, Int.natCast_mul, Int.natCast_pow, Int.cast_ofNat_Int]
  rw [i1, i2, wrap_nat _ h2, wrap_nat _ (by omega), u64_or_nat _ _ h2 (by omega), h1]

set_option maxHeartbeats 800000 in
theorem take_any (w : World) (b : Nat) (v : Value) (t N : Nat) (bs : List UInt8) (h : Blk w b [v, .int .i64 (t : Int)] 76) (hown : w.ownsRow 0 5 1 v bs.length (bs.map bV)) (hn : bs.length ≤ 100000000) (hN : t + N ≤ 8 * bs.length) (hN2 : N ≤ 64) :
    Calls Try.prog 34 #[.pointer (some ⟨b, 0, none⟩), .int .i64 (N : Int)] w fun e w' => e = .returned (.int .i64 (wrap64 ((valL (((unpackL bs).drop t).take N) : Nat) : Int))) ∧ Only (· = b) w w' ∧ Blk w' b [v, .int .i64 ((t + N : Nat) : Int)] 76 := by
  obtain ⟨a, c, rfl⟩ := own_slice hown
  have hl := left_any w b a bs.length c t h hn (by omega)
  obtain ⟨q, hq⟩ : ∃ q, 8 * bs.length - t = q := ⟨_, rfl⟩
  rw [hq] at hl
  have hNq : N ≤ q := by omega
  have hd : decide (q < N) = false := by simp; omega
  clear hq
  have hB := hid h
  have HO := hid hown
  clear h hown
  go_enter Try.func34, Try.ntmps34
  go_wp2_with fail
  refine hl.mono ?_
  rintro e w1 ⟨rfl, hk⟩
  clear hl
  go_wp2_with fail
  go_loopw [1, 5] (fun p q wr => ∃ (m T V : Nat), m ≤ N ∧ p = .int .i64 (m : Int) ∧ q = .int .u64 (V : Int) ∧ T = t + (N - m) ∧ V = valL (((unpackL bs).drop t).take (N - m)) ∧ Only (· = b) w wr ∧ Blk wr b [.slice a bs.length c, .int .i64 (T : Int)] 76) (fun p _ _ => (intOf p).toNat)
  case atStart => exact ⟨N, t, 0, Nat.le_refl _, rfl, rfl, by omega, by rw [Nat.sub_self]; rfl, hk.mono (fun _ _ f => f.elim), hk.blk hB.out (fun f => f)⟩
  case round =>
    obtain ⟨m, T, V, hm, rfl, rfl, hT, hV, hon, hblk⟩ := hrel
    have HV := hid hV
    clear hV hk
    by_cases h0 : m = 0
    · subst h0
      have hE : Hid (Only (· = b) w wr ∧ Blk wr b [.slice a bs.length c, .int .i64 ((t + N : Nat) : Int)] 76) := by
        rw [show t + N = T by omega]
        exact ⟨hon, hblk⟩
      clear hon hblk
      go_wp2
      go_ret
      exact ⟨ret_int (by rw [HV.out]; rfl), hE.out⟩
    have hT0 : T < 8 * bs.length := by omega
    have hT1 : T + m ≤ 8 * bs.length := by omega
    obtain ⟨kk, e2⟩ : ∃ k : Nat, (T : Int) / 8 = (k : Int) := ⟨T / 8, by omega⟩
    obtain ⟨at_, e1⟩ : ∃ a : Nat, (T : Int) % 8 = (a : Int) := ⟨T % 8, by omega⟩
    have a1 : at_ < 8 := by omega
    have hkk : kk < bs.length := by omega
    have hwn : wr.ownsRow 0 5 1 (.slice a bs.length c) bs.length (bs.map bV) := own_only HO.out hon (fun k hk e => by subst e; exact (own_typed HO.out hk).ne hB.out.typed (by decide) rfl)
    obtain ⟨g, cap, hg⟩ := own_some hwn (by omega)
    cases hg
    obtain ⟨old, ho⟩ : ∃ old : Nat, (bs.getD kk 0).toNat = old := ⟨_, rfl⟩
    have hc : wr.cell? ⟨g, kk, none⟩ = some (.int .u8 (old : Int)) := by
      rw [hwn.cellAt kk (by omega), List.getElem?_map, List.getElem?_eq_getElem hkk, ← ho, List.getD_eq_getElem?_getD, List.getElem?_eq_getElem hkk]
      rfl
    have ho1 : old < 256 := by rw [← ho]; exact UInt8.toNat_lt _
    have HO1 := hid ho
    have HT := hid hT
    have hT9 : T ≤ 800000000 := by omega
    have c0 := hblk.cell 0 rfl
    have c1 := hblk.cell 1 rfl
    have f1 := hblk.frozen 1
    have HBk := hid hblk
    have HN := hid hon
    clear hT ho hwn hblk hon
    by_cases hs : (m : Int) ≤ 8 - (at_ : Int)
    · have hm0 : 0 < m := by omega
      go_wp2
      go_region
      go_wp2
      go_roundw
      case rel =>
        have h3 := take_or bs t (N - m) m V T kk at_ old HT.out e2 e1 HO1.out (by omega) hT0 hT1 HV.out (by omega)
        exact ⟨0, T + m, _, by omega, rfl, by rw [h3], by have := HT.out; omega, by rw [show N - 0 = N - m + m by omega], (HN.out.setCell (fun _ => rfl) _).drew, by rw [show ((T + m : Nat) : Int) = (T : Int) + (m : Int) by omega]; exact (HBk.out.set 1 _).drew⟩
      case measure => simp [intOf]; omega
    · go_wp2
      go_region
      go_wp2
      go_roundw
      case rel =>
        have h3 := take_or bs t (N - m) (8 - at_) V T kk at_ old HT.out e2 e1 HO1.out (by omega) hT0 (by omega) HV.out (by omega)
        exact ⟨m - (8 - at_), T + (8 - at_), _, by omega, by go_num, by rw [h3], by have := HT.out; omega, by rw [show N - (m - (8 - at_)) = N - m + (8 - at_) by omega], (HN.out.setCell (fun _ => rfl) _).drew, by rw [show ((T + (8 - at_) : Nat) : Int) = (T : Int) + (8 - (at_ : Int)) by omega]; exact (HBk.out.set 1 _).drew⟩
      case measure => simp [intOf]; omega
end Go.Proofs.Ytpajpnjkgojafaa
