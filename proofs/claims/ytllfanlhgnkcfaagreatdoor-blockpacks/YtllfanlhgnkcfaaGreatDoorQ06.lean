/-
  Bread, Bref, Wplain, Bref2, Bref3, Splain, Cplain.
-/
import Derived.Test.YtllfanlhgnkcfaaGreatDoorQ05
import Derived.Deep.QuietTactic
import Derived.BigQuiet
import Derived.Test.YtllfanlhgnkcfaaGreatDoorQ04
namespace Go.Proofs.YtllfanlhgnkcfaaGreatDoor
open Go.RowKit Go.Proofs.Lys
set_option linter.unusedVariables false
theorem ret_int {k : IntKind} {a b : Int} (h : a = b) : Ending.returned (.int k a) = .returned (.int k b) := by rw [h]
theorem wbytes_any (w : World) (b : Nat) (v : Value) (X : Value) (bs : List UInt8) (h : Blk w b [v, X] 174) (hs : SrcOf w v (bs.map bV)) (hl : bs.length ≤ 100000000) :
  Calls Tryz.prog 119 #[.pointer (some ⟨b, 0, none⟩)] w fun e w' => ∃ v, e = .returned v ∧ w'.ownsRow w.heap.size 5 1 v bs.length (bs.map bV) ∧ Kept w w' := by
 have c1 := h.cell 0 rfl
 go_enter Tryz.func119, Tryz.ntmps119
 go_wp2_with fail
 refine (clone_any w v bs hs hl).mono ?_
 rintro e w' ⟨v', rfl, ho, hk⟩
 go_wp2_with fail
 go_ret
 exact ⟨_, rfl, ho, hk⟩
theorem newReader_any (w : World) (v : Value) (bs : List UInt8) (hs : SrcOf w v (bs.map bV)) (hl : bs.length ≤ 100000000) :
  Calls Tryz.prog 146 #[v] w fun e w' => ∃ b v', e = .returned (.pointer (some ⟨b, 0, none⟩)) ∧ w.heap.size ≤ b ∧ Blk w' b [v', .int .i64 0] 223 ∧ w'.ownsRow w.heap.size 5 1 v' bs.length (bs.map bV) ∧ Kept w w' := by
 go_enter Tryz.func146, Tryz.ntmps146
 go_wp2_with fail
 refine (clone_any w v bs hs hl).mono ?_
 rintro e w' ⟨v', rfl, ho, hk⟩
 obtain ⟨a', c', rfl⟩ := own_slice ho
 have hsz := hk.size
 go_wp2_with fail
 go_ret
 exact ⟨_, _, rfl, hsz, Blk.new w' _ _, ho.alloc _, hk.alloc _⟩
theorem left_drew (w : World) (b : Nat) (a : Option Addr) (n c t : Nat) (h : Blk w b [.slice a n c, .int .i64 (t : Int)] 223) (hn : n ≤ 100000000) (ht : t ≤ 8 * n) :
  Calls Tryz.prog 165 #[.pointer (some ⟨b, 0, none⟩)] w fun e w' => e = .returned (.int .i64 ((8 * n - t : Nat) : Int)) ∧ w' = w.drew := by
 have c0 := h.cell 0 rfl
 have c1 := h.cell 1 rfl
 go_enter Tryz.func165, Tryz.ntmps165
 go_wp2
 go_region
 go_wp2
 go_ret
 exact ⟨ret_int (by omega), rfl⟩
theorem left_any (w : World) (b : Nat) (a : Option Addr) (n c t : Nat) (h : Blk w b [.slice a n c, .int .i64 (t : Int)] 223) (hn : n ≤ 100000000) (ht : t ≤ 8 * n) :
  Calls Tryz.prog 165 #[.pointer (some ⟨b, 0, none⟩)] w fun e w' => e = .returned (.int .i64 ((8 * n - t : Nat) : Int)) ∧ Kept w w' :=
 (left_drew w b a n c t h hn ht).mono (by rintro e w' ⟨rfl, rfl⟩; exact ⟨rfl, (Only.refl _ _).drew⟩)
abbrev tooFew : Ending := .panicked [{ v := .iface 26 (.int .i64 5), recovered := false }]
theorem take_few (w : World) (b : Nat) (a : Option Addr) (n c t N : Nat) (h : Blk w b [.slice a n c, .int .i64 (t : Int)] 223) (hn : n ≤ 100000000) (ht : t ≤ 8 * n) (hN : 8 * n - t < N) (hN2 : N ≤ 64) :
  Calls Tryz.prog 160 #[.pointer (some ⟨b, 0, none⟩), .int .i64 (N : Int)] w fun e w' => e = tooFew ∧ Kept w w' := by
 obtain ⟨q, hq⟩ : ∃ q, 8 * n - t = q := ⟨_, rfl⟩
 have hl := left_any w b a n c t h hn ht
 rw [hq] at hl hN
 clear hq
 go_enter Tryz.func160, Tryz.ntmps160
 go_wp2_with fail
 refine hl.mono ?_
 rintro e w' ⟨rfl, hk⟩
 clear hl
 go_wp2_with fail
 exact ⟨rfl, rfl, hk⟩
theorem take_step (bs : List UInt8) (t j s V : Nat) (hs : (t + j) % 8 + s ≤ 8) (hlt : t + j < 8 * bs.length) (hlt2 : t + j + s ≤ 8 * bs.length) (hV : V = valL (((unpackL bs).drop t).take j)) (hj : j + s ≤ 64) :
  V * 2 ^ s ||| ((bs.getD ((t + j) / 8) 0).toNat * 2 ^ ((t + j) % 8)) % 256 / 2 ^ (8 - s) = valL (((unpackL bs).drop t).take (j + s)) ∧ V * 2 ^ s < 18446744073709551616 ∧ ((bs.getD ((t + j) / 8) 0).toNat * 2 ^ ((t + j) % 8)) % 256 / 2 ^ (8 - s) < 256 := by
 have hp := val_piece bs (t + j) s hlt hs
 have hpl := valL_lt (((unpackL bs).drop (t + j)).take s)
 have hlen : (((unpackL bs).drop (t + j)).take s).length = s := by rw [List.length_take, List.length_drop, unpackL_length]; omega
 rw [hlen] at hpl
 have hVl : V < 2 ^ j := by
  have := valL_lt (((unpackL bs).drop t).take j)
  rw [← hV, List.length_take] at this
  exact Nat.lt_of_lt_of_le this (Nat.pow_le_pow_right (by decide) (by omega))
 refine ⟨?_, ?_, ?_⟩
 ·rw [← hp, List.take_add, List.drop_drop, valL_append, hlen, ← hV, Nat.mul_comm V, ← Nat.two_pow_add_eq_or_of_lt hpl]
 ·calc V * 2 ^ s < 2 ^ j * 2 ^ s := Nat.mul_lt_mul_of_pos_right hVl (Nat.two_pow_pos _)
   _ = 2 ^ (j + s) := by rw [← Nat.pow_add]
   _ ≤ 2 ^ 64 := Nat.pow_le_pow_right (by decide) hj
 ·exact Nat.lt_of_le_of_lt (Nat.div_le_self _ _) (Nat.mod_lt _ (by decide))
theorem wrap_nat (n : Nat) (h : n < 18446744073709551616) : IntKind.u64.wrap (n : Int) = (n : Int) := by
 have : IntKind.u64.wrap (n : Int) = (n : Int) % 18446744073709551616 := by simp [IntKind.wrap, IntKind.bits, IntKind.signed]
 rw [this]
 omega
theorem take_or (bs : List UInt8) (t j s V T kk at_ old : Nat) (hT : T = t + j) (e2 : (T : Int) / 8 = (kk : Int)) (e1 : (T : Int) % 8 = (at_ : Int)) (ho : (bs.getD kk 0).toNat = old) (hs : at_ + s ≤ 8) (hlt : T < 8 * bs.length) (hlt2 : T + s ≤ 8 * bs.length)
  (hV : V = valL (((unpackL bs).drop t).take j)) (hj : j + s ≤ 64) :
  bits .or .u64 (IntKind.u64.wrap ((V : Int) * 2 ^ s)) (IntKind.u64.wrap ((old : Int) * 2 ^ at_ % 256 / 2 ^ (8 - s))) = ((valL (((unpackL bs).drop t).take (j + s)) : Nat) : Int) := by
 subst hT
 obtain rfl : kk = (t + j) / 8 := by omega
 obtain rfl : at_ = (t + j) % 8 := by omega
 obtain ⟨h1, h2, h3⟩ := take_step bs t j s V hs hlt hlt2 hV hj
 rw [ho] at h1 h3
 have i1 : (V : Int) * 2 ^ s = ((V * 2 ^ s : Nat) : Int) := by simp
 have i2 : (old : Int) * 2 ^ ((t + j) % 8) % 256 / 2 ^ (8 - s) = ((old * 2 ^ ((t + j) % 8) % 256 / 2 ^ (8 - s) : Nat) : Int) := by
  simp only [Int.natCast_ediv, Int.natCast_emod, Int.natCast_mul, Int.natCast_pow, Int.cast_ofNat_Int]
 rw [i1, i2, wrap_nat _ h2, wrap_nat _ (by omega), u64_or_nat _ _ h2 (by omega), h1]
set_option maxHeartbeats 800000 in
theorem take_any (w : World) (b : Nat) (v : Value) (t N : Nat) (bs : List UInt8) (h : Blk w b [v, .int .i64 (t : Int)] 223) (hown : w.ownsRow 0 5 1 v bs.length (bs.map bV)) (hn : bs.length ≤ 100000000) (hN : t + N ≤ 8 * bs.length) (hN2 : N ≤ 64) :
  Calls Tryz.prog 160 #[.pointer (some ⟨b, 0, none⟩), .int .i64 (N : Int)] w fun e w' => e = .returned (.int .i64 (wrap64 ((valL (((unpackL bs).drop t).take N) : Nat) : Int))) ∧ Only (· = b) w w' ∧ Blk w' b [v, .int .i64 ((t + N : Nat) : Int)] 223 := by
 obtain ⟨a, c, rfl⟩ := own_slice hown
 have hl := left_any w b a bs.length c t h hn (by omega)
 obtain ⟨q, hq⟩ : ∃ q, 8 * bs.length - t = q := ⟨_, rfl⟩
 rw [hq] at hl
 have hNq : N ≤ q := by omega
 have hd : decide (q < N) = false := by simp; omega
 clear hq
 have hB := hid h
 have HO := hid hown
 clear h hown
 go_enter Tryz.func160, Tryz.ntmps160
 go_wp2_with fail
 refine hl.mono ?_
 rintro e w1 ⟨rfl, hk⟩
 clear hl
 go_wp2_with fail
 go_loopw [1, 5] (fun p q wr => ∃ (m T V : Nat), m ≤ N ∧ p = .int .i64 (m : Int) ∧ q = .int .u64 (V : Int) ∧ T = t + (N - m) ∧ V = valL (((unpackL bs).drop t).take (N - m)) ∧ Only (· = b) w wr ∧ Blk wr b [.slice a bs.length c, .int .i64 (T : Int)] 223) (fun p _ _ => (intOf p).toNat)
 case atStart => exact ⟨N, t, 0, Nat.le_refl _, rfl, rfl, by omega, by rw [Nat.sub_self]; rfl, hk.mono (fun _ _ f => f.elim), hk.blk hB.out (fun f => f)⟩
 case round =>
  obtain ⟨m, T, V, hm, rfl, rfl, hT, hV, hon, hblk⟩ := hrel
  have HV := hid hV
  clear hV hk
  by_cases h0 : m = 0
  ·subst h0
   have hE : Hid (Only (· = b) w wr ∧ Blk wr b [.slice a bs.length c, .int .i64 ((t + N : Nat) : Int)] 223) := by
    rw [show t + N = T by omega]
    exact ⟨hon, hblk⟩
   clear hon hblk
   go_wp2
   go_ret
   exact ⟨ret_int (by rw [HV.out]; rfl), hE.out⟩
  have hT0 : T < 8 * bs.length := by omega
  have hT1 : T + m ≤ 8 * bs.length := by omega
  obtain ⟨kk, e2⟩ : ∃ k : Nat, (T : Int) / 8 = (k : Int) := ⟨T / 8, by omega⟩
  obtain ⟨at_, e1⟩ : ∃ a : Nat, (T : Int) % 8 = (a : Int) := ⟨T % 8, by omega⟩
  have a1 : at_ < 8 := by omega
  have hkk : kk < bs.length := by omega
  have hwn : wr.ownsRow 0 5 1 (.slice a bs.length c) bs.length (bs.map bV) := own_only HO.out hon (fun k hk e => by subst e; exact (own_typed HO.out hk).ne hB.out.typed (by decide) rfl)
  obtain ⟨g, cap, hg⟩ := own_some hwn (by omega)
  cases hg
  obtain ⟨old, ho⟩ : ∃ old : Nat, (bs.getD kk 0).toNat = old := ⟨_, rfl⟩
  have hc : wr.cell? ⟨g, kk, none⟩ = some (.int .u8 (old : Int)) := by
   rw [hwn.cellAt kk (by omega), List.getElem?_map, List.getElem?_eq_getElem hkk, ← ho, List.getD_eq_getElem?_getD, List.getElem?_eq_getElem hkk]
   rfl
  have ho1 : old < 256 := by rw [← ho]; exact UInt8.toNat_lt _
  have HO1 := hid ho
  have HT := hid hT
  have hT9 : T ≤ 800000000 := by omega
  have c0 := hblk.cell 0 rfl
  have c1 := hblk.cell 1 rfl
  have f1 := hblk.frozen 1
  have HBk := hid hblk
  have HN := hid hon
  clear hT ho hwn hblk hon
  by_cases hs : (m : Int) ≤ 8 - (at_ : Int)
  ·have hm0 : 0 < m := by omega
   go_wp2
   go_region
   go_wp2
   go_roundw
   case rel =>
    have h3 := take_or bs t (N - m) m V T kk at_ old HT.out e2 e1 HO1.out (by omega) hT0 hT1 HV.out (by omega)
    exact ⟨0, T + m, _, by omega, rfl, by rw [h3], by have := HT.out; omega, by rw [show N - 0 = N - m + m by omega], (HN.out.setCell (fun _ => rfl) _).drew, by rw [show ((T + m : Nat) : Int) = (T : Int) + (m : Int) by omega]; exact (HBk.out.set 1 _).drew⟩
   case measure => simp [intOf]; omega
  ·go_wp2
   go_region
   go_wp2
   go_roundw
   case rel =>
    have h3 := take_or bs t (N - m) (8 - at_) V T kk at_ old HT.out e2 e1 HO1.out (by omega) hT0 (by omega) HV.out (by omega)
    exact ⟨m - (8 - at_), T + (8 - at_), _, by omega, by go_num, by rw [h3], by have := HT.out; omega, by rw [show N - (m - (8 - at_)) = N - m + (8 - at_) by omega], (HN.out.setCell (fun _ => rfl) _).drew, by rw [show ((T + (8 - at_) : Nat) : Int) = (T : Int) + (8 - (at_ : Int)) by omega]; exact (HBk.out.set 1 _).drew⟩
   case measure => simp [intOf]; omega
end Go.Proofs.YtllfanlhgnkcfaaGreatDoor
namespace Go.Proofs.YtllfanlhgnkcfaaGreatDoor
open Go.RowKit Go.Proofs.Lys
set_option linter.unusedVariables false
theorem Tryz.infoT : (Tryz.prog.info? 4).map (fun i => (i.zero, i.size, i.bytes)) = some (some (.bool false), 1, 1) := by kernel_rfl
structure RwIn (w0 : World) (b : Nat) (v0 : Value) (w : World) (v : Value) (lr : List Bool) : Prop where
 blk : Blk w b [v] 115
 own : w.ownsRow 0 4 1 v lr.length (lr.map tV)
 only : Only (fun k => k = b ∨ v0.ownBlock = some k) w0 w
 new : ∀ k, v.ownBlock = some k → v0.ownBlock = some k ∨ w0.heap.size ≤ k
theorem and_one (U k : Nat) (hU : U < 18446744073709551616) : (bits .and .u64 ((U : Int) / 2 ^ k) 1 == 1) = U.testBit k := by
 have e : (U : Int) / 2 ^ k = ((U / 2 ^ k : Nat) : Int) := by simp
 have hlt : U / 2 ^ k < 18446744073709551616 := Nat.lt_of_le_of_lt (Nat.div_le_self _ _) hU
 have h2 := u64_and_nat (U / 2 ^ k) 1 hlt (by decide)
 rw [e, show ((1 : Int)) = ((1 : Nat) : Int) from rfl, h2, Nat.and_one_is_mod, ← Nat.shiftRight_eq_div_pow]
 have h3 : U.testBit k = (U >>> k % 2 != 0) := by
  unfold Nat.testBit
  rw [Nat.and_comm, Nat.and_one_is_mod]
 rw [h3]
 rcases Nat.mod_two_eq_zero_or_one (U >>> k) with h4 | h4 <;> rw [h4] <;> rfl
theorem uN_lt (x : Int) : uN x < 18446744073709551616 := by
 unfold uN
 have := Int.emod_nonneg x (b := 18446744073709551616) (by decide)
 have := Int.emod_lt_of_pos x (b := 18446744073709551616) (by decide)
 omega
theorem rw_step {w wr : World} {b : Nat} {v vr : Value} {lr : List Bool} (h : RwIn w b v wr vr lr) (hl : lr.length ≤ 1000064) (B : Bool) :
  ∃ g cap w1, Hid ((Builtin.append_ #[113, 113] 0 #[vr, .slice (some ⟨wr.heap.size, 0, none⟩) 1 1]).run Tryz.prog (wr.alloc (.cells #[.bool B] 4)) = .ok (.slice (some ⟨g, 0, none⟩) (lr.length + 1) cap) w1) ∧ Hid (RwIn w b v (w1.setCell ⟨b, 0, none⟩ (.slice (some ⟨g, 0, none⟩) (lr.length + 1) cap)) (.slice (some ⟨g, 0, none⟩) (lr.length + 1) cap) (lr ++ [B])) ∧ (∃ u, w1.cell? ⟨b, 0, none⟩ = some u) ∧ w1.frozen? ⟨b, 0, none⟩ = false := by
 obtain ⟨hblk, hown, hon, hnew⟩ := h
 have hne : vr.ownBlock ≠ some b := fun e => (own_typed hown e).ne hblk.typed (by decide) rfl
 obtain ⟨v', w1, hrun, hown1, hgrow, hat⟩ := append_src (P := Tryz.prog) (xv := .slice (some ⟨wr.heap.size, 0, none⟩) 1 1) (ys := [.bool B]) Tryz.underlying113 Tryz.infoT rfl (by decide) (hown.alloc (.cells #[.bool B] 4)) (own_src (World.ownsRow_lit wr #[.bool B] 1 (Nat.zero_le _) (by decide) rfl)) (by intro u hu; simp at hu; subst hu; rfl) (by simp; omega) (Nat.zero_le _)
 have hb1 : Blk w1 b [vr] 115 := (hblk.alloc _).of_block (hgrow.block b (hblk.alloc _).lt (fun e => hne e.symm))
 have hlb := hblk.lt
 obtain ⟨g, cap, rfl⟩ := own_some hown1 (by simp)
 refine ⟨g, cap, w1, hrun, ⟨hb1.set 0 _, ?_, ?_, ?_⟩, ⟨vr, hb1.cell 0 rfl⟩, hb1.frozen 0⟩
 ·have e1 : (lr ++ [B]).length = lr.length + [Value.bool B].length := by simp
  have e2 : (lr ++ [B]).map tV = lr.map tV ++ [Value.bool B] := by simp [tV]
  rw [e1, e2]
  exact own_block hown1 (fun j hj => Below.heap_setCell _ _ _ _ (by
   show j ≠ b
   rintro rfl
   exact (own_typed hown1 hj).ne hb1.typed (by decide) rfl))
 ·exact ((hon.alloc _).grown hgrow (fun j hj hlt => (hnew j hj).elim (fun e => .inr e) (fun e => absurd hlt (by omega)))).setCell (fun _ => .inl rfl) _
 ·intro k hk
  have hk' : g = k := by simpa [Value.ownBlock] using hk
  subst hk'
  rcases hat with e | e
  ·exact hnew g e.symm
  ·have : g = wr.heap.size + 1 := by simpa [Value.ownBlock] using e
   have := hon.size
   exact .inr (by omega)
set_option maxRecDepth 100000 in
set_option maxHeartbeats 1600000 in
theorem rput_any (w : World) (b : Nat) (v : Value) (l : List Bool) (x N : Int) (n : Nat) (hN : (N < 0 ∧ n = 0) ∨ (64 < N ∧ n = 64) ∨ (N = n ∧ n ≤ 64)) (h : RwIn w b v w v l) (hl : l.length ≤ 1000000) :
  Calls Tryz.prog 80 #[.pointer (some ⟨b, 0, none⟩), .int .i64 x, .int .i64 N] w fun e w' => e = .returned (.tuple #[]) ∧ ∃ v', RwIn w b v w' v' (l ++ bitsL (uN x) n) := by
 have hU := uN_wrap x
 have hUl := uN_lt x
 generalize uN x = U at hU hUl ⊢
 have HI := hid h
 clear h
 have hn : n ≤ 64 := by omega
 rcases hN with ⟨h1, h2⟩ | ⟨h1, h2⟩ | ⟨h1, h2⟩
 ·subst h2
  have hE : Hid (∃ v', RwIn w b v w v' (l ++ bitsL U 0)) := ⟨v, by rw [bitsL_zero, List.append_nil]; exact HI.out⟩
  clear HI
  go_enter Tryz.func80, Tryz.ntmps80
  go_wp2
  refine wp_loop_rounds 1 ?_
  rw [rounds_succ]
  go_wp2
  go_end0
  exact ⟨rfl, hE.out⟩
 ·subst h2
  have d0 : decide (N < 0) = false := by simp; omega
  have d1 : decide (64 < N) = true := by simp; omega
  go_enter Tryz.func80, Tryz.ntmps80
  go_wp2
  go_loopw [6] (fun t wr => ∃ (m : Nat) (z : Int) (vr : Value) (lr : List Bool), m ≤ 64 ∧ z = (m : Int) - 1 ∧ t = .int .i64 z ∧ lr.length + m = l.length + 64 ∧ RwIn w b v wr vr lr ∧ lr ++ bitsL U m = l ++ bitsL U 64) (fun t _ => (intOf t + 1).toNat)
  case atStart => exact ⟨64, _, v, l, hn, rfl, by go_num, rfl, HI.out, rfl⟩
  case round =>
   obtain ⟨m, z, vr, lr, hm, hz, rfl, hLm, hI, hbits⟩ := hrel
   have HB := hid hbits
   clear hbits
   by_cases h0 : m = 0
   ·subst h0
    have hE : Hid (∃ v', RwIn w b v wr v' (l ++ bitsL U 64)) := by
     have := HB.out
     rw [bitsL_zero, List.append_nil] at this
     exact ⟨vr, by rw [← this]; exact hI⟩
    clear hI
    have hz0 : z < 0 := by omega
    clear hz
    go_wp2
    go_end0
    exact ⟨rfl, hE.out⟩
   obtain ⟨k, rfl⟩ : ∃ k, m = k + 1 := ⟨m - 1, by omega⟩
   obtain rfl : z = (k : Int) := by omega
   have hbit := and_one U k hUl
   obtain ⟨B, hB⟩ : ∃ B, U.testBit k = B := ⟨_, rfl⟩
   have HBt := hid hB
   rw [hB] at hbit
   clear hB
   obtain ⟨g, cap, w1, Hr, HR, ⟨u, c1⟩, f1⟩ := rw_step hI (by omega) B
   have c0 := hI.blk.cell 0 rfl
   have hlb := hI.blk.lt
   have HL := hid hLm
   clear hz hI hLm
   go_wp2_with (at_builtin; refine wpList_append_run rfl _ _ _ rfl rfl rfl Hr ?_)
   go_roundw
   case rel => exact ⟨k, _, _, lr ++ [B], by omega, rfl, by go_num, by have := HL.out; rw [List.length_append]; simp; omega, HR.out, by rw [List.append_assoc, ← HB.out, bitsL_succ, HBt.out]; rfl⟩
   case measure => simp [intOf]
 ·subst h1
  have d0 : decide ((n : Int) < 0) = false := by simp
  have d1 : decide (64 < (n : Int)) = false := by simp; omega
  go_enter Tryz.func80, Tryz.ntmps80
  go_wp2
  go_loopw [6] (fun t wr => ∃ (m : Nat) (z : Int) (vr : Value) (lr : List Bool), m ≤ 64 ∧ z = (m : Int) - 1 ∧ t = .int .i64 z ∧ lr.length + m = l.length + n ∧ RwIn w b v wr vr lr ∧ lr ++ bitsL U m = l ++ bitsL U n) (fun t _ => (intOf t + 1).toNat)
  case atStart => exact ⟨n, _, v, l, hn, rfl, by go_num, rfl, HI.out, rfl⟩
  case round =>
   obtain ⟨m, z, vr, lr, hm, hz, rfl, hLm, hI, hbits⟩ := hrel
   have HB := hid hbits
   clear hbits
   by_cases h0 : m = 0
   ·subst h0
    have hE : Hid (∃ v', RwIn w b v wr v' (l ++ bitsL U n)) := by
     have := HB.out
     rw [bitsL_zero, List.append_nil] at this
     exact ⟨vr, by rw [← this]; exact hI⟩
    clear hI
    have hz0 : z < 0 := by omega
    clear hz
    go_wp2
    go_end0
    exact ⟨rfl, hE.out⟩
   obtain ⟨k, rfl⟩ : ∃ k, m = k + 1 := ⟨m - 1, by omega⟩
   obtain rfl : z = (k : Int) := by omega
   have hbit := and_one U k hUl
   obtain ⟨B, hB⟩ : ∃ B, U.testBit k = B := ⟨_, rfl⟩
   have HBt := hid hB
   rw [hB] at hbit
   clear hB
   obtain ⟨g, cap, w1, Hr, HR, ⟨u, c1⟩, f1⟩ := rw_step hI (by omega) B
   have c0 := hI.blk.cell 0 rfl
   have hlb := hI.blk.lt
   have HL := hid hLm
   clear hz hI hLm
   go_wp2_with (at_builtin; refine wpList_append_run rfl _ _ _ rfl rfl rfl Hr ?_)
   go_roundw
   case rel => exact ⟨k, _, _, lr ++ [B], by omega, rfl, by go_num, by have := HL.out; rw [List.length_append]; simp; omega, HR.out, by rw [List.append_assoc, ← HB.out, bitsL_succ, HBt.out]; rfl⟩
   case measure => simp [intOf]
end Go.Proofs.YtllfanlhgnkcfaaGreatDoor
namespace Go.Proofs.YtllfanlhgnkcfaaGreatDoor.V
open Go.RowKit Go.Proofs.Lys
set_option linter.unusedVariables false
def leadA (x : Nat) : Nat → Nat
 | 0 => 31
 | f + 1 => if x.testBit (33 + f) then 30 - f else leadA x f
def trailA (x : Nat) : Nat → Nat
 | 0 => 64
 | f + 1 => if x.testBit (63 - f) then 63 - f else trailA x f
def lead (x : Nat) : Nat := leadA x 31
def trail (x : Nat) : Nat := trailA x 64
theorem leadA_le (x f : Nat) : leadA x f ≤ 31 := by
 induction f with
 | zero => exact Nat.le_refl _
 | succ f ih =>
  unfold leadA
  split
  ·omega
  ·exact ih
theorem leadA_high (x f : Nat) (hf : f ≤ 31) : ∀ j, 64 - leadA x f ≤ j → j < 33 + f → x.testBit j = false := by
 induction f with
 | zero =>
  intro j h1 h2
  unfold leadA at h1
  omega
 | succ f ih =>
  intro j h1 h2
  unfold leadA at h1
  by_cases hb : x.testBit (33 + f) = true
  ·rw [if_pos hb] at h1
   omega
  ·rw [if_neg hb] at h1
   by_cases e : j = 33 + f
   ·subst e
    simpa using hb
   ·exact ih (by omega) j h1 (by omega)
theorem lead_le (x : Nat) : lead x ≤ 31 := leadA_le x 31
theorem lead_high {x : Nat} (hx : x < 18446744073709551616) {j : Nat} (hj : 64 - lead x ≤ j) : x.testBit j = false := by
 by_cases h : j < 64
 ·exact leadA_high x 31 (Nat.le_refl _) j hj (by omega)
 ·refine Nat.testBit_lt_two_pow (Nat.lt_of_lt_of_le hx ?_)
  rw [show (18446744073709551616 : Nat) = 2 ^ 64 by decide]
  exact Nat.pow_le_pow_right (by decide) (by omega)
theorem lead_lt {x z : Nat} (hx : x < 18446744073709551616) (hz : z ≤ lead x) : x < 2 ^ (64 - z) :=
 Nat.lt_pow_two_of_testBit x (fun i hi => lead_high hx (by omega))
theorem trailA_low (x f : Nat) (hf : f ≤ 64) : ∀ j, 64 - f ≤ j → j < trailA x f → x.testBit j = false := by
 induction f with
 | zero =>
  intro j h1 h2
  unfold trailA at h2
  omega
 | succ f ih =>
  intro j h1 h2
  unfold trailA at h2
  by_cases hb : x.testBit (63 - f) = true
  ·rw [if_pos hb] at h2
   omega
  ·rw [if_neg hb] at h2
   by_cases e : j = 63 - f
   ·subst e
    simpa using hb
   ·exact ih (by omega) j (by omega) h2
theorem trailA_bit (x f : Nat) : trailA x f < 64 → x.testBit (trailA x f) = true := by
 induction f with
 | zero =>
  intro h
  unfold trailA at h
  omega
 | succ f ih =>
  unfold trailA
  by_cases hb : x.testBit (63 - f) = true
  ·rw [if_pos hb]
   exact fun _ => hb
  ·rw [if_neg hb]
   exact ih
theorem trail_low (x : Nat) {j : Nat} (h : j < trail x) : x.testBit j = false := trailA_low x 64 (Nat.le_refl _) j (by omega) h
theorem trail_lt {x : Nat} (hx : x < 18446744073709551616) (h0 : x ≠ 0) : trail x < 64 := by
 refine Nat.lt_of_not_le (fun h => h0 (Nat.eq_of_testBit_eq (fun j => ?_)))
 rw [Nat.zero_testBit]
 by_cases hj : j < 64
 ·exact trail_low x (by omega)
 ·exact lead_high hx (by omega)
theorem both_lt {x : Nat} (hx : x < 18446744073709551616) (h0 : x ≠ 0) : lead x + trail x < 64 := by
 have h1 := trail_lt hx h0
 have h2 : x.testBit (trail x) = true := trailA_bit x 64 h1
 have h3 := lead_le x
 refine Nat.lt_of_not_le (fun h => ?_)
 rw [lead_high hx (by omega)] at h2
 cases h2
theorem shift_lt {x z t : Nat} (hx : x < 18446744073709551616) (hz : z ≤ lead x) (hzt : z + t < 64) : x >>> t < 2 ^ (64 - z - t) := by
 rw [Nat.shiftRight_eq_div_pow]
 refine Nat.div_lt_of_lt_mul ?_
 rw [← Nat.pow_add, show t + (64 - z - t) = 64 - z by omega]
 exact lead_lt hx hz
theorem shift_back {x t : Nat} (ht : t ≤ trail x) : (x >>> t) <<< t = x := by
 apply Nat.eq_of_testBit_eq
 intro j
 rw [Nat.testBit_shiftLeft]
 by_cases h : t ≤ j
 ·simp only [h, decide_true, Bool.true_and]
  rw [Nat.testBit_shiftRight]
  congr 1
  omega
 ·simp only [h, decide_false, Bool.false_and]
  exact (trail_low x (by omega)).symm
structure Win where
 o : Bool
 z : Nat
 t : Nat
def W0 : Win := ⟨false, 0, 0⟩
abbrev Win.fit (W : Win) (x : Nat) : Prop := W.o = true ∧ W.z ≤ lead x ∧ W.t ≤ trail x
structure Win.wf (W : Win) : Prop where
 z : W.z ≤ 31
 zt : W.z + W.t < 64
 no : W.o = false → W.z = 0 ∧ W.t = 0
theorem W0_wf : W0.wf := ⟨by decide, by decide, fun _ => ⟨rfl, rfl⟩⟩
def Win.next (W : Win) (x : Nat) : Win := if x = 0 then W else if W.fit x then W else ⟨true, lead x, trail x⟩
theorem Win.wf.next {W : Win} (h : W.wf) {x : Nat} (hx : x < 18446744073709551616) : (W.next x).wf := by
 unfold Win.next
 split
 ·exact h
 ·rename_i h0
  split
  ·exact h
  ·exact ⟨lead_le x, both_lt hx h0, fun h => by cases h⟩
def bodyB (z t x : Nat) : List Bool := bitsL (x >>> t) (64 - z - t)
def encX (W : Win) (x : Nat) : List Bool :=
 if x = 0 then bitsL 0 1 else if W.fit x then bitsL 2 2 ++ bodyB W.z W.t x
 else ((bitsL 3 2 ++ bitsL (lead x) 5) ++ bitsL (63 - lead x - trail x) 6) ++ bodyB (lead x) (trail x) x
theorem encX_length (W : Win) (x : Nat) : (encX W x).length ≤ 77 := by
 unfold encX bodyB
 split
 ·simp [bitsL_length]
 ·split
  ·simp only [List.length_append, bitsL_length]
   omega
  ·simp only [List.length_append, bitsL_length]
   omega
def xr (p v : Int) : Nat := uN v ^^^ uN p
theorem xr_lt (p v : Int) : xr p v < 18446744073709551616 := Nat.xor_lt_two_pow (n := 64) (uN_lt v) (uN_lt p)
theorem xr_back (p v : Int) : uN p ^^^ xr p v = uN v := by
 unfold xr
 rw [Nat.xor_comm (uN v), ← Nat.xor_assoc, Nat.xor_self, Nat.zero_xor]
def encT : Int → Win → List Int → List Bool
 | _, _, [] => []
 | p, W, v :: r => encX W (xr p v) ++ encT v (W.next (xr p v)) r
theorem encT_length (r : List Int) : ∀ p W, (encT p W r).length ≤ 77 * r.length := by
 induction r with
 | nil => intro p W; simp [encT]
 | cons v r ih =>
  intro p W
  simp only [encT, List.length_append, List.length_cons]
  have := ih v (W.next (xr p v))
  have := encX_length W (xr p v)
  omega
def allB : List Int → List Bool
 | [] => []
 | v :: r => bitsL (uN v) 64 ++ encT v W0 r
theorem allB_length (l : List Int) : (allB l).length ≤ 77 * l.length := by
 cases l with
 | nil => simp [allB]
 | cons t r =>
  simp only [allB, List.length_append, bitsL_length, List.length_cons]
  have := encT_length r t W0
  omega
def getN (l : List Bool) (N : Nat) : Option (Nat × List Bool) := if N ≤ l.length then some (valL (l.take N), l.drop N) else none
def bodyR (z t : Nat) (l : List Bool) : Option ((Nat × Nat × Nat) × List Bool) := (getN l (64 - z - t)).map fun y => (((y.1 <<< t) % 18446744073709551616, z, t), y.2)
def newR (l : List Bool) : Option ((Nat × Nat × Nat) × List Bool) :=
 (getN l 5).bind fun a => (getN a.2 6).bind fun m => if 63 < a.1 + m.1 then none else bodyR a.1 (63 - a.1 - m.1) m.2
def chgR (z t : Nat) : List Bool → Option ((Nat × Nat × Nat) × List Bool)
 | [] => none
 | false :: l => some ((0, z, t), l)
 | [true] => none
 | true :: false :: l => bodyR z t l
 | true :: true :: l => newR l
def readT : Nat → List Bool → Nat → Nat → Nat → List Int → Option (List Int)
 | 0, _, _, _, _, acc => some acc
 | n + 1, l, p, z, t, acc =>
  if acc = [] then (getN l 64).bind fun x => readT n x.2 x.1 z t (acc ++ [wrap64 (x.1 : Int)])
  else (chgR z t l).bind fun x => readT n x.2 (p ^^^ x.1.1) x.1.2.1 x.1.2.2 (acc ++ [wrap64 ((p ^^^ x.1.1 : Nat) : Int)])
theorem getN_bits (u : Nat) (n : Nat) (R : List Bool) : getN (bitsL u n ++ R) n = some (u % 2 ^ n, R) := by
 unfold getN
 have e : (bitsL u n ++ R).take n = bitsL u n := by
  rw [List.take_append_of_le_length (by rw [bitsL_length]; exact Nat.le_refl _)]
  exact List.take_of_length_le (by rw [bitsL_length]; exact Nat.le_refl _)
 have e2 : (bitsL u n ++ R).drop n = R := by
  rw [List.drop_append_of_le_length (by rw [bitsL_length]; exact Nat.le_refl _), List.drop_eq_nil_of_le (by rw [bitsL_length]; exact Nat.le_refl _)]
  rfl
 rw [if_pos (by rw [List.length_append, bitsL_length]; omega), e, e2, valL_bits]
theorem wrap_uN (x : Int) (h0 : -9223372036854775808 ≤ x) (h1 : x ≤ 9223372036854775807) : wrap64 ((uN x : Nat) : Int) = x := by
 unfold uN wrap64
 omega
theorem uN_nat {n : Nat} (h : n < 18446744073709551616) : uN (n : Int) = n := by
 unfold uN
 omega
theorem uN_wrap64 {n : Nat} (h : n < 18446744073709551616) : uN (wrap64 (n : Int)) = n := by
 unfold uN wrap64
 omega
theorem body_back {z t x : Nat} (hx : x < 18446744073709551616) (hz : z ≤ lead x) (ht : t ≤ trail x) (hzt : z + t < 64) (R : List Bool) : bodyR z t (bodyB z t x ++ R) = some ((x, z, t), R) := by
 unfold bodyR bodyB
 rw [getN_bits, Nat.mod_eq_of_lt (shift_lt hx hz hzt)]
 simp only [Option.map_some]
 rw [shift_back ht, Nat.mod_eq_of_lt hx]
theorem chgR_enc {W : Win} (hW : W.wf) {x : Nat} (hx : x < 18446744073709551616) (R : List Bool) : chgR W.z W.t (encX W x ++ R) = some ((x, (W.next x).z, (W.next x).t), R) := by
 unfold encX Win.next
 by_cases h0 : x = 0
 ·subst h0
  rw [if_pos rfl, if_pos rfl, show bitsL 0 1 = [false] by decide]
  rfl
 ·rw [if_neg h0, if_neg h0]
  by_cases hf : W.fit x
  ·rw [if_pos hf, if_pos hf, show bitsL 2 2 = [true, false] by decide]
   exact body_back hx hf.2.1 hf.2.2 hW.zt R
  ·rw [if_neg hf, if_neg hf, show bitsL 3 2 = [true, true] by decide]
   have h1 := lead_le x
   have h2 := both_lt hx h0
   show newR (((bitsL (lead x) 5 ++ bitsL (63 - lead x - trail x) 6) ++ bodyB (lead x) (trail x) x) ++ R) = _
   unfold newR
   rw [List.append_assoc, List.append_assoc, getN_bits, Nat.mod_eq_of_lt (show lead x < 2 ^ 5 by omega)]
   simp only [Option.bind_some]
   rw [getN_bits, Nat.mod_eq_of_lt (show 63 - lead x - trail x < 2 ^ 6 by omega)]
   simp only [Option.bind_some]
   rw [if_neg (by omega), show 63 - lead x - (63 - lead x - trail x) = trail x by omega]
   exact body_back hx (Nat.le_refl _) (Nat.le_refl _) h2 R
def In64 (l : List Int) : Prop := ∀ v ∈ l, -9223372036854775808 ≤ v ∧ v ≤ 9223372036854775807
theorem readT_enc (r : List Int) : ∀ (p : Int) (W : Win) (Z : List Bool) (acc : List Int), acc ≠ [] → W.wf → In64 r → readT r.length (encT p W r ++ Z) (uN p) W.z W.t acc = some (acc ++ r) := by
 induction r with
 | nil => intro p W Z acc _ _ _; simp [readT]
 | cons v r ih =>
  intro p W Z acc ha hW hr
  have hv := hr v (List.mem_cons_self ..)
  simp only [readT, encT, List.length_cons, List.append_assoc]
  rw [if_neg ha, chgR_enc hW (xr_lt p v)]
  simp only [Option.bind_some, xr_back]
  rw [wrap_uN v hv.1 hv.2, ih v (W.next (xr p v)) Z (acc ++ [v]) (by simp) (hW.next (xr_lt p v)) (fun u hu => hr u (List.mem_cons_of_mem _ hu))]
  simp
theorem readT_all {l : List Int} (h : In64 l) (Z : List Bool) : readT l.length (allB l ++ Z) 0 0 0 [] = some l := by
 cases l with
 | nil => simp [readT]
 | cons v r =>
  have hv := h v (List.mem_cons_self ..)
  simp only [readT, allB, List.length_cons, List.append_assoc]
  rw [if_pos trivial, getN_bits, Nat.mod_eq_of_lt (show uN v < 2 ^ 64 from uN_lt v)]
  simp only [Option.bind_some, List.nil_append]
  rw [wrap_uN v hv.1 hv.2]
  exact readT_enc r v W0 Z [v] (by simp) W0_wf (fun u hu => h u (List.mem_cons_of_mem _ hu))
def Packs (l : List Int) (bs : List UInt8) (x : Int) : Prop :=
 (120 < l.length ∧ bs = [] ∧ x = 2) ∨ (l.length ≤ 120 ∧ bs = packL (allB l) ∧ x = 0)
def Reads (bs : List UInt8) (n : Int) (l : List Int) (x : Int) : Prop :=
 (120 < n ∧ l = [] ∧ x = 2) ∨ (n < 0 ∧ l = [] ∧ x = 1) ∨
 (0 ≤ n ∧ n ≤ 120 ∧ ((readT n.toNat (unpackL bs) 0 0 0 [] = none ∧ l = [] ∧ x = 5) ∨
  ∃ m, readT n.toNat (unpackL bs) 0 0 0 [] = some m ∧ ((¬ Packs m bs 0 ∧ l = [] ∧ x = 5) ∨ (Packs m bs 0 ∧ l = m ∧ x = 0))))
theorem Packs.inj {l : List Int} {bs bs' : List UInt8} {x x' : Int} (h : Packs l bs x) (h' : Packs l bs' x') : bs = bs' ∧ x = x' := by
 rcases h with ⟨h1, h2, h3⟩ | ⟨h1, h2, h3⟩ <;> rcases h' with ⟨k1, k2, k3⟩ | ⟨k1, k2, k3⟩ <;> first | omega | (subst h2; subst k2; subst h3; subst k3; exact ⟨rfl, rfl⟩)
theorem Reads.inj {bs : List UInt8} {n : Int} {l l' : List Int} {x x' : Int} (h : Reads bs n l x) (h' : Reads bs n l' x') : l = l' ∧ x = x' := by
 rcases h with ⟨h1, h2, h3⟩ | ⟨h1, h2, h3⟩ | ⟨h0, h1, ⟨h4, h2, h3⟩ | ⟨m, hm, ⟨h4, h2, h3⟩ | ⟨h4, h2, h3⟩⟩⟩ <;>
  rcases h' with ⟨k1, k2, k3⟩ | ⟨k1, k2, k3⟩ | ⟨k0, k1, ⟨k4, k2, k3⟩ | ⟨m', km, ⟨k4, k2, k3⟩ | ⟨k4, k2, k3⟩⟩⟩ <;>
  first
  | omega
  | (subst h2; subst k2; subst h3; subst k3; exact ⟨rfl, rfl⟩)
  | (rw [h4] at km; cases km)
  | (rw [k4] at hm; cases hm)
  | (rw [hm] at km; cases km; first | exact absurd h4 k4 | exact absurd k4 h4 | (subst h2; subst k2; subst h3; subst k3; exact ⟨rfl, rfl⟩))
theorem reads_packs {l : List Int} {bs : List UInt8} (h : Packs l bs 0) (hl : In64 l) : Reads bs (l.length : Int) l 0 := by
 have h' := h
 rcases h with ⟨h1, h2, h3⟩ | ⟨h0, h2, h3⟩
 ·omega
 ·obtain ⟨z, hz, e⟩ := unpack_pack (allB l)
  refine .inr (.inr ⟨by omega, by omega, .inr ⟨l, ?_, .inr ⟨h', rfl, rfl⟩⟩⟩)
  rw [h2, e]
  exact readT_all hl _
theorem Packs.small {l : List Int} {bs : List UInt8} {x : Int} (h : Packs l bs x) : bs.length ≤ 2000 := by
 rcases h with ⟨_, h, _⟩ | ⟨h0, h, _⟩
 ·simp [h]
 ·rw [h, packL_length]
  have := allB_length l
  omega
end Go.Proofs.YtllfanlhgnkcfaaGreatDoor.V
namespace Go.Proofs.YtllfanlhgnkcfaaGreatDoor
open Go.RowKit Go.Proofs.Lys
set_option linter.unusedVariables false
theorem mod_small (q : Nat) (h : q < 256) : (q : Int) % 256 = (q : Int) := by omega
theorem made_zero (K : Nat) : (madeCells #[Value.int .u8 0] K).toList = (packK [] K).map bV := by
 rw [packK_none]
 apply List.ext_getElem?
 intro i
 by_cases h : i < K
 ·simp [madeCells, h, bV, Nat.mod_one]
 ·rw [List.getElem?_eq_none (by simp [size_madeCells]; omega), List.getElem?_eq_none (by simp; omega)]
set_option maxRecDepth 100000 in
set_option maxHeartbeats 1600000 in
theorem rbytes_any (w : World) (b : Nat) (v : Value) (l : List Bool) (h : Blk w b [v] 115) (hown : w.ownsRow 0 4 1 v l.length (l.map tV)) (hl : l.length ≤ 1000000) :
  Calls Tryz.prog 81 #[.pointer (some ⟨b, 0, none⟩)] w fun e w' => ∃ v', e = .returned v' ∧ w'.ownsRow w.heap.size 5 1 v' ((l.length + 7) / 8) ((packL l).map bV) ∧ Kept w w' := by
 obtain ⟨i0, hi0, hz0, hz1, hz2⟩ := info_parts Tryz.infoB
 obtain ⟨L, hL⟩ : ∃ L, l.length = L := ⟨_, rfl⟩
 obtain ⟨K, hK⟩ : ∃ K, (L + 7) / 8 = K := ⟨_, rfl⟩
 have e1 : ((L : Int) + 7) / 8 = (K : Int) := by omega
 have hmk : ∀ w, (Instr.makeSlice 28 (.int .i64 (K : Int)) (.int .i64 (K : Int))).run Tryz.prog w = .ok (.slice (some ⟨w.heap.size, 0, none⟩) K K) (w.alloc (.cells (madeCells #[Value.int .u8 0] K) 5)) := fun w => by
  have := run_make (P := Tryz.prog) w 28 5 i0 (.int .u8 0) Tryz.underlying28 hi0 hz0 .i64 .i64 (K : Int) (K : Int) (by omega) (by omega) (by rw [hz2]; omega) (by omega)
  rw [hz1] at this
  simp only [Int.toNat_natCast, Nat.mul_one] at this
  exact this
 rw [hL] at hown hl ⊢
 rw [hK]
 obtain ⟨a, c, rfl⟩ := own_slice hown
 have c0 := h.cell 0 rfl
 have HO := hid hown
 have HP : Hid (packL l = packK l K) := by show _ = _; unfold packL; rw [hL, hK]
 have hlb := h.lt
 have HBk := hid h
 have HL := hid hL
 have hK0 : K ≤ 1000000 := by omega
 have hKL : 8 * K ≥ L := by omega
 clear hown h hL hK
 go_enter Tryz.func81, Tryz.ntmps81
 go_wp2
 go_loopw [4] (fun t wr => ∃ k : Nat, k ≤ L ∧ t = .int .i64 (k : Int) ∧ wr.ownsRow w.heap.size 5 1 (.slice (some ⟨w.heap.size, 0, none⟩) K K) K ((packK (l.take k) K).map bV) ∧ Kept w wr) (fun t _ => L - (intOf t).toNat)
 case atStart =>
  refine ⟨0, by omega, rfl, ?_, (Only.refl _ w).alloc _⟩
  rw [List.take_zero, ← made_zero]
  exact World.ownsRow_lit w _ K (Nat.le_refl _) (by unfold maxLen; omega) (by rw [size_madeCells]; omega)
 case round =>
  obtain ⟨k, hk, rfl, hro, hkept⟩ := hrel
  have hbk := hkept.blk HBk.out (fun f => f)
  have r0 := hbk.cell 0 rfl
  clear hbk
  by_cases hlt : k < L
  ·have hO := own_only HO.out hkept (fun _ _ f => f)
   obtain ⟨g, cap, hg⟩ := own_some hO (by omega)
   cases hg
   have hkl : k < l.length := by have := HL.out; omega
   have hc : wr.cell? ⟨g, k, none⟩ = some (.bool l[k]) := by
    rw [hO.cellAt k (by omega), List.getElem?_map, List.getElem?_eq_getElem hkl]
    rfl
   obtain ⟨B, hB⟩ : ∃ B, l[k] = B := ⟨_, rfl⟩
   rw [hB] at hc
   have HB := hid hB
   clear hB hO
   cases B with
   | false =>
    have HR := hid hro
    have HKp := hid hkept
    clear hro hkept
    go_wp2
    go_roundw
    case rel =>
     refine ⟨k + 1, by omega, by go_num, ?_, HKp.out⟩
     rw [packK_take_no l k K hkl HB.out]
     exact HR.out
    case measure => simp [intOf]; omega
   | true =>
    obtain ⟨kk, e2⟩ : ∃ q : Nat, (k : Int) / 8 = (q : Int) := ⟨k / 8, by omega⟩
    obtain ⟨sh, e3⟩ : ∃ q : Nat, 7 - (k : Int) % 8 = (q : Int) := ⟨7 - k % 8, by omega⟩
    have sh1 : sh ≤ 7 := by omega
    have hkK : kk < K := by omega
    have hb : wr.cell? ⟨w.heap.size, kk, none⟩ = some (.int .u8 ((byteB (l.take k) kk : Nat) : Int)) := by
     rw [hro.cellAt kk (by omega), List.getElem?_map, packK_get _ hkK]
     show some (bV _) = _
     unfold bV
     rw [UInt8.toNat_ofNat', Nat.mod_eq_of_lt (byteB_lt _ _)]
    have hf := hro.frozenAt kk
    have hst := (hro.stored kk (.int .u8 ((byteB (l.take k) kk ||| 2 ^ sh : Nat) : Int))).1
    have HST := hid hst
    have hsh : 2 ^ sh < 256 := Nat.pow_lt_pow_right (by decide) (show sh < 8 by omega)
    have hor : bits .or .u8 ((byteB (l.take k) kk : Nat) : Int) (2 ^ sh % 256) = ((byteB (l.take k) kk ||| 2 ^ sh : Nat) : Int) := by
     have e4 : (2 : Int) ^ sh % 256 = ((2 ^ sh : Nat) : Int) := by
      rw [show (2 : Int) ^ sh = ((2 ^ sh : Nat) : Int) by simp]
      exact mod_small _ hsh
     rw [e4]
     exact u8_or_nat _ _ (byteB_lt _ _) hsh
    have HKp := hid hkept
    clear hst hro hkept
    go_wp2
    go_roundw
    case rel =>
     refine ⟨k + 1, by omega, by go_num, ?_, HKp.out.setCell (fun hlt => absurd hlt (by simp)) _⟩
     rw [packK_take_yes l k K kk sh hkl (by omega) HB.out (by omega) (by omega), List.map_set]
     have e : bV (UInt8.ofNat (byteB (l.take k) kk ||| 2 ^ sh)) = .int .u8 ((byteB (l.take k) kk ||| 2 ^ sh : Nat) : Int) := by
      unfold bV
      rw [UInt8.toNat_ofNat', Nat.mod_eq_of_lt (Nat.or_lt_two_pow (n := 8) (byteB_lt _ _) hsh)]
     rw [e]
     exact HST.out
    case measure => simp [intOf]; omega
  ·have HE : Hid (wr.ownsRow w.heap.size 5 1 (.slice (some ⟨w.heap.size, 0, none⟩) K K) K ((packL l).map bV)) := by
    rw [HP.out]
    rw [List.take_of_length_le (by have := HL.out; omega)] at hro
    exact hro
   have HKp := hid hkept
   clear hro hkept
   go_wp2
   go_ret
   exact ⟨_, rfl, HE.out, HKp.out⟩
end Go.Proofs.YtllfanlhgnkcfaaGreatDoor
namespace Go.Proofs.YtllfanlhgnkcfaaGreatDoor
open Go.RowKit Go.Proofs.Lys
set_option linter.unusedVariables false
section
variable {w : World} {b : Nat} {v : Value} {l : List Bool} {t : Nat}
end
end Go.Proofs.YtllfanlhgnkcfaaGreatDoor
namespace Go.Proofs.YtllfanlhgnkcfaaGreatDoor.S
open Go.RowKit Go.Proofs.Lys
set_option linter.unusedVariables false
def wb : Nat → Nat
 | 0 => 0
 | 1 => 7
 | 2 => 9
 | 3 => 12
 | _ => 64
def ws : Nat → Int
 | 0 => 0
 | 1 => 63
 | 2 => 255
 | 3 => 2047
 | _ => 0
def mkB (k : Nat) : List Bool := List.replicate k true ++ (if k < 4 then [false] else [])
def wk (e : Int) : Nat := if e = 0 then 0 else if -63 ≤ e ∧ e ≤ 64 then 1 else if -255 ≤ e ∧ e ≤ 256 then 2 else if -2047 ≤ e ∧ e ≤ 2048 then 3 else 4
theorem wk_le (e : Int) : wk e ≤ 4 := by
 unfold wk
 repeat' split
 all_goals omega
def encE (e : Int) : List Bool := mkB (wk e) ++ bitsL (uN (e + ws (wk e))) (wb (wk e))
theorem encE_length (e : Int) : (encE e).length ≤ 68 := by
 unfold encE wk
 repeat' split
 all_goals simp [mkB, wb, bitsL_length]
def encT : Int → Int → List Int → List Bool
 | _, _, [] => []
 | p, g, t :: r => encE (t - p - g) ++ encT t (t - p) r
theorem encT_length (r : List Int) : ∀ p g, (encT p g r).length ≤ 68 * r.length := by
 induction r with
 | nil => intro p g; simp [encT]
 | cons t r ih =>
  intro p g
  simp only [encT, List.length_append, List.length_cons]
  have := ih t (t - p)
  have := encE_length (t - p - g)
  omega
def allB : List Int → List Bool
 | [] => []
 | t :: r => bitsL (uN t) 64 ++ encT t 0 r
theorem allB_length (l : List Int) : (allB l).length ≤ 68 * l.length := by
 cases l with
 | nil => simp [allB]
 | cons t r =>
  simp only [allB, List.length_append, bitsL_length, List.length_cons]
  have := encT_length r t 0
  omega
def Rising (l : List Int) : Prop := ∀ i (h : i < l.length), -9007199254740992 ≤ l[i] ∧ l[i] ≤ 9007199254740992 ∧ (0 < i → l[i - 1] < l[i])
theorem Rising.at {l : List Int} (h : Rising l) {i : Nat} (hi : i < l.length) : -9007199254740992 ≤ l[i] ∧ l[i] ≤ 9007199254740992 := ⟨(h i hi).1, (h i hi).2.1⟩
def rise : Int → List Int → Prop
 | _, [] => True
 | p, t :: r => p < t ∧ t ≤ 9007199254740992 ∧ rise t r
theorem rise_of {l : List Int} (h : Rising l) : ∀ k i (hi : i < l.length), l.length = i + 1 + k → rise l[i] (l.drop (i + 1)) := by
 intro k
 induction k with
 | zero =>
  intro i hi e
  rw [List.drop_eq_nil_of_le (by omega)]
  trivial
 | succ k ih =>
  intro i hi e
  have hj : i + 1 < l.length := by omega
  rw [List.drop_eq_getElem_cons hj]
  have := h (i + 1) hj
  exact ⟨by simpa using this.2.2 (by omega), this.2.1, ih (i + 1) hj (by omega)⟩
def getR (l : List Bool) (N : Nat) : Option (Int × List Bool) := if N ≤ l.length then some (wrap64 ((valL (l.take N) : Nat) : Int), l.drop N) else none
def onesR : Nat → List Bool → Option (Nat × List Bool)
 | 0, l => some (0, l)
 | _ + 1, [] => none
 | _ + 1, false :: l => some (0, l)
 | f + 1, true :: l => (onesR f l).map (fun x => (x.1 + 1, x.2))
def chgR (l : List Bool) : Option (Int × List Bool) := (onesR 4 l).bind fun x => (getR x.2 (wb x.1)).map fun y => (wrap64 (y.1 - ws x.1), y.2)
def readT : Nat → List Bool → Int → Int → List Int → Option (List Int)
 | 0, _, _, _, acc => some acc
 | n + 1, l, g, p, acc =>
  if acc = [] then (getR l 64).bind fun x => readT n x.2 g x.1 (acc ++ [x.1])
  else (chgR l).bind fun x => readT n x.2 (wrap64 (g + x.1)) (wrap64 (p + wrap64 (g + x.1))) (acc ++ [wrap64 (p + wrap64 (g + x.1))])
theorem getR_bits (u : Nat) (n : Nat) (R : List Bool) : getR (bitsL u n ++ R) n = some (wrap64 ((u % 2 ^ n : Nat) : Int), R) := by
 unfold getR
 have e : (bitsL u n ++ R).take n = bitsL u n := by
  rw [List.take_append_of_le_length (by rw [bitsL_length]; exact Nat.le_refl _)]
  exact List.take_of_length_le (by rw [bitsL_length]; exact Nat.le_refl _)
 have e2 : (bitsL u n ++ R).drop n = R := by
  rw [List.drop_append_of_le_length (by rw [bitsL_length]; exact Nat.le_refl _), List.drop_eq_nil_of_le (by rw [bitsL_length]; exact Nat.le_refl _)]
  rfl
 rw [if_pos (by rw [List.length_append, bitsL_length]; omega), e, e2, valL_bits]
theorem uN_small (x : Int) (n : Nat) (h0 : 0 ≤ x) (h1 : x < 2 ^ n) (hn : n ≤ 63) : wrap64 ((uN x % 2 ^ n : Nat) : Int) = x := by
 have hq : (2 : Nat) ^ n ≤ 2 ^ 63 := Nat.pow_le_pow_right (by decide) hn
 have hp : (2 : Int) ^ n ≤ 2 ^ 63 := by exact_mod_cast hq
 have hp2 : (2 : Int) ^ 63 = 9223372036854775808 := by decide
 have e : uN x = x.toNat := by
  unfold uN
  rw [Int.emod_eq_of_lt h0 (by omega)]
 have e2 : x.toNat < 2 ^ n := by
  have : ((2 ^ n : Nat) : Int) = 2 ^ n := by norm_cast
  omega
 rw [e, Nat.mod_eq_of_lt e2]
 unfold wrap64
 omega
theorem uN_whole (x : Int) (h0 : -9223372036854775808 ≤ x) (h1 : x ≤ 9223372036854775807) : wrap64 ((uN x % 2 ^ 64 : Nat) : Int) = x := by
 have h := uN_lt x
 rw [Nat.mod_eq_of_lt h]
 unfold uN wrap64
 omega
theorem onesR_mk (k : Nat) (hk : k ≤ 4) (R : List Bool) : onesR 4 (mkB k ++ R) = some (k, R) := by
 rcases k with _ | _ | _ | _ | _ | k
 ·rfl
 ·rfl
 ·rfl
 ·rfl
 ·rfl
 ·omega
theorem chgR_enc (e : Int) (R : List Bool) (h0 : -1000000000000000000 ≤ e) (h1 : e ≤ 1000000000000000000) : chgR (encE e ++ R) = some (e, R) := by
 unfold chgR encE
 rw [List.append_assoc, onesR_mk _ (wk_le e)]
 simp only [Option.bind_some, getR_bits, Option.map_some]
 have key : wrap64 (wrap64 ((uN (e + ws (wk e)) % 2 ^ wb (wk e) : Nat) : Int) - ws (wk e)) = e := by
  unfold wk
  split
  ·rename_i h; subst h; decide +kernel
  ·split
   ·simp only [ws, wb]
    rw [uN_small _ 7 (by omega) (by omega) (by decide)]
    unfold wrap64; omega
   ·split
    ·simp only [ws, wb]
     rw [uN_small _ 9 (by omega) (by omega) (by decide)]
     unfold wrap64; omega
    ·split
     ·simp only [ws, wb]
      rw [uN_small _ 12 (by omega) (by omega) (by decide)]
      unfold wrap64; omega
     ·simp only [ws, wb]
      rw [uN_whole _ (by omega) (by omega)]
      unfold wrap64; omega
 rw [key]
theorem readT_enc (r : List Int) : ∀ (p g : Int) (Z : List Bool) (acc : List Int), acc ≠ [] → rise p r → -9007199254740992 ≤ p → p ≤ 9007199254740992 → -18014398509481984 ≤ g → g ≤ 18014398509481984 →
  readT r.length (encT p g r ++ Z) g p acc = some (acc ++ r) := by
 induction r with
 | nil => intro p g Z acc _ _ _ _ _ _; simp [readT]
 | cons t r ih =>
  intro p g Z acc ha hr h1 h2 h3 h4
  obtain ⟨hr1, hr2, hr3⟩ := hr
  simp only [readT, encT, List.length_cons, List.append_assoc]
  rw [if_neg ha, chgR_enc _ _ (by omega) (by omega)]
  have e1 : wrap64 (g + (t - p - g)) = t - p := by unfold wrap64; omega
  have e2 : wrap64 (p + (t - p)) = t := by unfold wrap64; omega
  simp only [Option.bind_some, e1, e2]
  rw [ih t (t - p) Z (acc ++ [t]) (by simp) hr3 (by omega) hr2 (by omega) (by omega)]
  simp
theorem readT_all {l : List Int} (h : Rising l) (Z : List Bool) : readT l.length (allB l ++ Z) 0 0 [] = some l := by
 cases l with
 | nil => simp [readT]
 | cons t r =>
  have h0 := h.at (i := 0) (by simp)
  have hr := rise_of h r.length 0 (by simp) (by simp; omega)
  simp only [List.getElem_cons_zero, Nat.zero_add, List.drop_succ_cons, List.drop_zero] at h0 hr
  simp only [readT, allB, List.length_cons, List.append_assoc]
  rw [if_pos trivial, getR_bits, uN_whole _ (by omega) (by omega)]
  simp only [Option.bind_some, List.nil_append]
  exact readT_enc r t 0 Z [t] (by simp) hr h0.1 h0.2 (by omega) (by omega)
def Packs (l : List Int) (bs : List UInt8) (x : Int) : Prop :=
 (120 < l.length ∧ bs = [] ∧ x = 2) ∨ (l.length ≤ 120 ∧ ¬ Rising l ∧ bs = [] ∧ x = 21) ∨ (l.length ≤ 120 ∧ Rising l ∧ bs = packL (allB l) ∧ x = 0)
def Reads (bs : List UInt8) (n : Int) (l : List Int) (x : Int) : Prop :=
 (120 < n ∧ l = [] ∧ x = 2) ∨ (n < 0 ∧ l = [] ∧ x = 1) ∨
 (0 ≤ n ∧ n ≤ 120 ∧ ((readT n.toNat (unpackL bs) 0 0 [] = none ∧ l = [] ∧ x = 5) ∨
  ∃ m, readT n.toNat (unpackL bs) 0 0 [] = some m ∧ ((¬ Packs m bs 0 ∧ l = [] ∧ x = 5) ∨ (Packs m bs 0 ∧ l = m ∧ x = 0))))
theorem Packs.inj {l : List Int} {bs bs' : List UInt8} {x x' : Int} (h : Packs l bs x) (h' : Packs l bs' x') : bs = bs' ∧ x = x' := by
 rcases h with ⟨h1, h2, h3⟩ | ⟨h0, h1, h2, h3⟩ | ⟨h0, h1, h2, h3⟩ <;> rcases h' with ⟨k1, k2, k3⟩ | ⟨k0, k1, k2, k3⟩ | ⟨k0, k1, k2, k3⟩ <;> first | omega | (subst h2; subst k2; subst h3; subst k3; exact ⟨rfl, rfl⟩) | exact absurd h1 k1 | exact absurd k1 h1
theorem Reads.inj {bs : List UInt8} {n : Int} {l l' : List Int} {x x' : Int} (h : Reads bs n l x) (h' : Reads bs n l' x') : l = l' ∧ x = x' := by
 rcases h with ⟨h1, h2, h3⟩ | ⟨h1, h2, h3⟩ | ⟨h0, h1, ⟨h4, h2, h3⟩ | ⟨m, hm, ⟨h4, h2, h3⟩ | ⟨h4, h2, h3⟩⟩⟩ <;>
  rcases h' with ⟨k1, k2, k3⟩ | ⟨k1, k2, k3⟩ | ⟨k0, k1, ⟨k4, k2, k3⟩ | ⟨m', km, ⟨k4, k2, k3⟩ | ⟨k4, k2, k3⟩⟩⟩ <;>
  first
  | omega
  | (subst h2; subst k2; subst h3; subst k3; exact ⟨rfl, rfl⟩)
  | (rw [h4] at km; cases km)
  | (rw [k4] at hm; cases hm)
  | (rw [hm] at km; cases km; first | exact absurd h4 k4 | exact absurd k4 h4 | (subst h2; subst k2; subst h3; subst k3; exact ⟨rfl, rfl⟩))
theorem reads_packs {l : List Int} {bs : List UInt8} (h : Packs l bs 0) : Reads bs (l.length : Int) l 0 := by
 have h' := h
 rcases h with ⟨h1, h2, h3⟩ | ⟨h0, h1, h2, h3⟩ | ⟨h0, h1, h2, h3⟩
 ·omega
 ·omega
 ·obtain ⟨z, hz, e⟩ := unpack_pack (allB l)
  refine .inr (.inr ⟨by omega, by omega, .inr ⟨l, ?_, .inr ⟨h', rfl, rfl⟩⟩⟩)
  rw [h2, e]
  exact readT_all h1 _
end Go.Proofs.YtllfanlhgnkcfaaGreatDoor.S
namespace Go.Proofs.YtllfanlhgnkcfaaGreatDoor.C
open Go.RowKit Go.Proofs.Lys
set_option linter.unusedVariables false
abbrev Smps := List (Int × Int)
def chunkB (l : Smps) (a c : List UInt8) : List UInt8 := putN l.length ++ (putN a.length ++ (a ++ (putN c.length ++ c)))
def Packs (l : Smps) (bs : List UInt8) (x : Int) : Prop :=
 (l = [] ∧ bs = [] ∧ x = 1) ∨
 (l ≠ [] ∧ ∃ a e, S.Packs (l.map (·.1)) a e ∧ e ≠ 0 ∧ bs = [] ∧ x = e) ∨
 (l ≠ [] ∧ ∃ a c, S.Packs (l.map (·.1)) a 0 ∧ V.Packs (l.map (·.2)) c 0 ∧ bs = chunkB l a c ∧ x = 0)
theorem Packs.inj {l : Smps} {bs bs' : List UInt8} {x x' : Int} (h : Packs l bs x) (h' : Packs l bs' x') : bs = bs' ∧ x = x' := by
 rcases h with ⟨h1, h2, h3⟩ | ⟨h1, a, e, h2, h3, h4, h5⟩ | ⟨h1, a, c, h2, h3, h4, h5⟩ <;> rcases h' with ⟨k1, k2, k3⟩ | ⟨k1, a', e', k2, k3, k4, k5⟩ | ⟨k1, a', c', k2, k3, k4, k5⟩
 ·exact ⟨by rw [h2, k2], by rw [h3, k3]⟩
 ·exact absurd h1 k1
 ·exact absurd h1 k1
 ·exact absurd k1 h1
 ·have := h2.inj k2
  exact ⟨by rw [h4, k4], by rw [h5, k5, this.2]⟩
 ·exact absurd (h2.inj k2).2 h3
 ·exact absurd k1 h1
 ·exact absurd (h2.inj k2).2.symm k3
 ·have e1 := (h2.inj k2).1
  have e2 := (h3.inj k3).1
  exact ⟨by rw [h4, k4, e1, e2], by rw [h5, k5]⟩
theorem Packs.few {l : Smps} {bs : List UInt8} (h : Packs l bs 0) : 1 ≤ l.length ∧ l.length ≤ 120 := by
 rcases h with ⟨_, _, h3⟩ | ⟨_, a, e, _, h3, _, h5⟩ | ⟨h1, a, c, h2, h3, h4, h5⟩
 ·cases h3
 ·exact absurd h5.symm h3
 ·have h6 : l.length ≠ 0 := fun h => h1 (List.length_eq_zero_iff.1 h)
  rcases h3 with ⟨_, _, h⟩ | ⟨h, _⟩
  ·cases h
  ·rw [List.length_map] at h
   omega
def cutR (bs : List UInt8) : Option (List UInt8 × List UInt8) :=
 if (getA bs 0 0).2.2 ≠ 0 ∨ wrap64 ((getA bs 0 0).1 : Int) < 0 ∨ (bs.length : Int) - ((getA bs 0 0).2.1 : Int) < wrap64 ((getA bs 0 0).1 : Int) then none
 else some ((bs.drop (getA bs 0 0).2.1).take (wrap64 ((getA bs 0 0).1 : Int)).toNat, (bs.drop (getA bs 0 0).2.1).drop (wrap64 ((getA bs 0 0).1 : Int)).toNat)
def headC (bs : List UInt8) : Option (Nat × List UInt8 × List UInt8 × Nat) :=
 if (getA bs 0 0).2.2 ≠ 0 ∨ wrap64 ((getA bs 0 0).1 : Int) < 1 ∨ 120 < wrap64 ((getA bs 0 0).1 : Int) then none
 else (cutR (bs.drop (getA bs 0 0).2.1)).bind fun a => (cutR a.2).map fun c => ((wrap64 ((getA bs 0 0).1 : Int)).toNat, a.1, c.1, bs.length - c.2.length)
def Reads (bs : List UInt8) (l : Smps) (n : Nat) (x : Int) : Prop :=
 (headC bs = none ∧ l = [] ∧ n = 0 ∧ x = 5) ∨
 ∃ N a c k, headC bs = some (N, a, c, k) ∧ ∃ t e v f, S.Reads a (N : Int) t e ∧ V.Reads c (N : Int) v f ∧
  (((e ≠ 0 ∨ f ≠ 0) ∧ l = [] ∧ n = 0 ∧ x = 5) ∨ (e = 0 ∧ f = 0 ∧ l = t.zip v ∧ n = k ∧ x = 0))
theorem Reads.inj {bs : List UInt8} {l l' : Smps} {n n' : Nat} {x x' : Int} (h : Reads bs l n x) (h' : Reads bs l' n' x') : l = l' ∧ n = n' ∧ x = x' := by
 rcases h with ⟨h1, h2, h3, h4⟩ | ⟨N, a, c, k, h1, t, e, v, f, hs, hv, h2⟩ <;> rcases h' with ⟨k1, k2, k3, k4⟩ | ⟨N', a', c', k', k1, t', e', v', f', ks, kv, k2⟩
 ·exact ⟨by rw [h2, k2], by rw [h3, k3], by rw [h4, k4]⟩
 ·rw [h1] at k1; cases k1
 ·rw [h1] at k1; cases k1
 ·rw [h1] at k1
  cases k1
  obtain ⟨rfl, rfl⟩ := hs.inj ks
  obtain ⟨rfl, rfl⟩ := hv.inj kv
  rcases h2 with ⟨p1, p2, p3, p4⟩ | ⟨p1, p2, p3, p4, p5⟩ <;> rcases k2 with ⟨q1, q2, q3, q4⟩ | ⟨q1, q2, q3, q4, q5⟩
  ·exact ⟨by rw [p2, q2], by rw [p3, q3], by rw [p4, q4]⟩
  ·rcases p1 with p1 | p1
   ·exact absurd q1 p1
   ·exact absurd q2 p1
  ·rcases q1 with q1 | q1
   ·exact absurd p1 q1
   ·exact absurd p2 q1
  ·exact ⟨by rw [p3, q3], by rw [p4, q4], by rw [p5, q5]⟩
theorem wrap_small {n : Nat} (h : n < 9223372036854775808) : wrap64 (n : Int) = (n : Int) := by unfold wrap64; omega
theorem cut_put (a R : List UInt8) (h : a.length < 4294967296) : cutR (putN a.length ++ (a ++ R)) = some (a, R) := by
 have hg := get_put0 (u := a.length) (by omega) (a ++ R)
 unfold cutR
 rw [hg]
 simp only
 rw [wrap_small (by omega), if_neg (by simp only [List.length_append]; omega), List.drop_left, Int.toNat_natCast, List.take_left, List.drop_left]
theorem head_put (l : Smps) (a c more : List UInt8) (h1 : 1 ≤ l.length) (h2 : l.length ≤ 120) (ha : a.length < 4294967296) (hc : c.length < 4294967296) : headC (chunkB l a c ++ more) = some (l.length, a, c, (chunkB l a c).length) := by
 have e0 : chunkB l a c ++ more = putN l.length ++ (putN a.length ++ (a ++ (putN c.length ++ (c ++ more)))) := by
  unfold chunkB
  simp only [List.append_assoc]
 have hg := get_put0 (u := l.length) (by omega) (putN a.length ++ (a ++ (putN c.length ++ (c ++ more))))
 unfold headC
 rw [e0, hg]
 simp only
 rw [wrap_small (by omega), if_neg (by omega), List.drop_left, cut_put a _ ha]
 simp only [Option.bind_some]
 rw [cut_put c more hc]
 simp only [Option.map_some, Int.toNat_natCast, chunkB, List.length_append]
 congr 4
 omega
theorem zip_maps (l : Smps) : (l.map (·.1)).zip (l.map (·.2)) = l := by
 induction l with
 | nil => rfl
 | cons p r ih => rw [List.map_cons, List.map_cons, List.zip_cons_cons, ih]
theorem reads_packs {l : Smps} {bs : List UInt8} (h : Packs l bs 0) (hl : V.In64 (l.map (·.2))) (more : List UInt8) : Reads (bs ++ more) l bs.length 0 := by
 have hf := h.few
 rcases h with ⟨_, _, h3⟩ | ⟨_, a, e, _, h3, _, h5⟩ | ⟨h1, a, c, h2, h3, h4, h5⟩
 ·cases h3
 ·exact absurd h5.symm h3
 ·have r1 := S.reads_packs h2
  have r2 := V.reads_packs h3 hl
  rw [List.length_map] at r1 r2
  have ha : a.length < 4294967296 := by
   rcases h2 with ⟨_, h, _⟩ | ⟨_, _, h, _⟩ | ⟨h0, _, h, _⟩
   ·simp [h]
   ·simp [h]
   ·rw [h, packL_length]
    have := S.allB_length (l.map (·.1))
    omega
  have hc : c.length < 4294967296 := by have := h3.small; omega
  subst h4
  exact .inr ⟨_, _, _, _, head_put l a c more hf.1 hf.2 ha hc, _, _, _, _, r1, r2, .inr ⟨rfl, rfl, (zip_maps l).symm, rfl, rfl⟩⟩
theorem readS_len (n : Nat) : ∀ L g p acc m, S.readT n L g p acc = some m → m.length = acc.length + n := by
 induction n with
 | zero =>
  intro L g p acc m h
  simp only [S.readT, Option.some.injEq] at h
  rw [h, Nat.add_zero]
 | succ n ih =>
  intro L g p acc m h
  simp only [S.readT] at h
  split at h
  ·cases hg : S.getR L 64 with
   | none => rw [hg] at h; cases h
   | some x =>
    rw [hg, Option.bind_some] at h
    have := ih _ _ _ _ _ h
    rw [List.length_append, List.length_singleton] at this
    omega
  ·cases hg : S.chgR L with
   | none => rw [hg] at h; cases h
   | some x =>
    rw [hg, Option.bind_some] at h
    have := ih _ _ _ _ _ h
    rw [List.length_append, List.length_singleton] at this
    omega
theorem readV_len (n : Nat) : ∀ L p z t acc m, V.readT n L p z t acc = some m → m.length = acc.length + n := by
 induction n with
 | zero =>
  intro L p z t acc m h
  simp only [V.readT, Option.some.injEq] at h
  rw [h, Nat.add_zero]
 | succ n ih =>
  intro L p z t acc m h
  simp only [V.readT] at h
  split at h
  ·cases hg : V.getN L 64 with
   | none => rw [hg] at h; cases h
   | some x =>
    rw [hg, Option.bind_some] at h
    have := ih _ _ _ _ _ _ h
    rw [List.length_append, List.length_singleton] at this
    omega
  ·cases hg : V.chgR z t L with
   | none => rw [hg] at h; cases h
   | some x =>
    rw [hg, Option.bind_some] at h
    have := ih _ _ _ _ _ _ h
    rw [List.length_append, List.length_singleton] at this
    omega
theorem readsS_len {a : List UInt8} {N : Nat} {t : List Int} (h : S.Reads a (N : Int) t 0) : t.length = N := by
 rcases h with ⟨_, _, h⟩ | ⟨_, _, h⟩ | ⟨_, _, ⟨_, _, h⟩ | ⟨m, hm, ⟨_, _, h⟩ | ⟨_, rfl, _⟩⟩⟩
 ·cases h
 ·cases h
 ·cases h
 ·cases h
 ·have := readS_len _ _ _ _ _ _ hm
  simpa using this
theorem readsV_len {a : List UInt8} {N : Nat} {t : List Int} (h : V.Reads a (N : Int) t 0) : t.length = N := by
 rcases h with ⟨_, _, h⟩ | ⟨_, _, h⟩ | ⟨_, _, ⟨_, _, h⟩ | ⟨m, hm, ⟨_, _, h⟩ | ⟨_, rfl, _⟩⟩⟩
 ·cases h
 ·cases h
 ·cases h
 ·cases h
 ·have := readV_len _ _ _ _ _ _ _ hm
  simpa using this
def splitF : Nat → Smps → List Smps
 | 0, _ => []
 | f + 1, l => if l = [] then [] else l.take 120 :: splitF f (l.drop 120)
def splitL (l : Smps) : List Smps := splitF l.length l
theorem splitF_nil (f : Nat) : splitF f [] = [] := by cases f <;> rfl
theorem splitF_more (f : Nat) : ∀ (g : Nat) (l : Smps), l.length ≤ f → l.length ≤ g → splitF f l = splitF g l := by
 induction f with
 | zero =>
  intro g l h _
  have : l = [] := List.length_eq_zero_iff.1 (by omega)
  rw [this, splitF_nil, splitF_nil]
 | succ f ih =>
  intro g l h hg
  cases l with
  | nil => rw [splitF_nil, splitF_nil]
  | cons p r =>
   rw [List.length_cons] at h hg
   obtain ⟨g, rfl⟩ : ∃ g', g = g' + 1 := ⟨g - 1, by omega⟩
   have hd : ((p :: r).drop 120).length ≤ r.length := by rw [List.length_drop, List.length_cons]; omega
   unfold splitF
   rw [if_neg (by simp), if_neg (by simp), ih g _ (by omega) (by omega)]
theorem splitL_nil : splitL [] = [] := rfl
theorem splitL_cons {l : Smps} (h : l ≠ []) : splitL l = l.take 120 :: splitL (l.drop 120) := by
 cases l with
 | nil => exact absurd rfl h
 | cons p r =>
  have hd : ((p :: r).drop 120).length ≤ r.length := by rw [List.length_drop, List.length_cons]; omega
  show splitF (r.length + 1) (p :: r) = _
  unfold splitF
  rw [if_neg (by simp)]
  exact congrArg _ (splitF_more _ _ _ hd (Nat.le_refl _))
theorem splitL_len (n : Nat) : ∀ l : Smps, l.length = n → (splitL l).length = (n + 119) / 120 := by
 induction n using Nat.strongRecOn with
 | ind n ih =>
  intro l hl
  by_cases h : l = []
  ·subst h
   rw [splitL_nil, ← hl]
   rfl
  ·rw [splitL_cons h, List.length_cons, ih (n - 120) (by have : l.length ≠ 0 := fun e => h (List.length_eq_zero_iff.1 e); omega) _ (by rw [List.length_drop, hl])]
   have : l.length ≠ 0 := fun e => h (List.length_eq_zero_iff.1 e)
   omega
end Go.Proofs.YtllfanlhgnkcfaaGreatDoor.C
