/-
  Bput.
-/
import Derived.Test.YtllfanlhgnkcfaaGreatDoorQ03
import Derived.Test.YtllfanlhgnkcfaaGreatDoorQ04
import Derived.BigRegion
import Derived.WalkLawsBesides
import Derived.Laws.ShiftsVarLaws
namespace Go.Proofs.YtllfanlhgnkcfaaGreatDoor
open Go.RowKit Go.Proofs.Lys
set_option linter.unusedVariables false
def uN (x : Int) : Nat := (x % 18446744073709551616).toNat
theorem uN_wrap (x : Int) : IntKind.u64.wrap x = ((uN x : Nat) : Int) := by
 unfold uN
 rw [Int.toNat_of_nonneg (Int.emod_nonneg _ (by decide))]
 simp [IntKind.wrap, IntKind.bits, IntKind.signed]
structure WrIn (w0 : World) (b : Nat) (v0 : Value) (w : World) (v : Value) (L : Nat) (lr : List Bool) : Prop where
 len : lr.length = L
 blk : Blk w b [v, .int .i64 (L : Int)] 174
 own : w.ownsRow 0 5 1 v ((L + 7) / 8) ((packL lr).map bV)
 only : Only (fun k => k = b ∨ v0.ownBlock = some k) w0 w
 new : ∀ k, v.ownBlock = some k → v0.ownBlock = some k ∨ w0.heap.size ≤ k
section
variable {w0 W : World} {b g k cap L at_ s lo U : Nat} {v0 : Value} {lr : List Bool}
theorem wr_step (hblk : Blk W b [.slice (some ⟨g, 0, none⟩) (k + 1) cap, .int .i64 (L : Int)] 174)
  (hown : W.ownsRow 0 5 1 (.slice (some ⟨g, 0, none⟩) (k + 1) cap) (k + 1) ((packK lr (k + 1)).map bV))
  (hL : lr.length = L) (hk : L = 8 * k + at_) (ha : at_ < 8) (hs : at_ + s ≤ 8) (h0 : 0 < s)
  (hon : Only (fun k => k = b ∨ v0.ownBlock = some k) w0 W) (hnew : v0.ownBlock = some g ∨ w0.heap.size ≤ g) {X : Int} (hX : X = ((L + s : Nat) : Int)) :
  WrIn w0 b v0 (((W.setCell ⟨g, k, none⟩ (.int .u8 ((byteB lr k ||| pieceN U lo s at_ : Nat) : Int))).setCell ⟨b, 1, none⟩ (.int .i64 X)).drew) (.slice (some ⟨g, 0, none⟩) (k + 1) cap) (L + s) (lr ++ bitsL (U >>> lo) s) := by
 have hgb : g ≠ b := (own_typed hown rfl).ne hblk.typed (by decide)
 subst hX
 have hst := (hown.stored k (.int .u8 ((byteB lr k ||| pieceN U lo s at_ : Nat) : Int))).1
 refine ⟨by rw [List.length_append, hL, bitsL_length], ?_, ?_, ?_, ?_⟩
 ·have h1 : Blk (W.setCell ⟨g, k, none⟩ (.int .u8 ((byteB lr k ||| pieceN U lo s at_ : Nat) : Int))) b [.slice (some ⟨g, 0, none⟩) (k + 1) cap, .int .i64 (L : Int)] 174 := hblk.other (Ne.symm hgb) _
  exact (h1.set 1 _).drew
 ·have e : (packL (lr ++ bitsL (U >>> lo) s)).map bV = ((packK lr (k + 1)).map bV).set k (.int .u8 ((byteB lr k ||| pieceN U lo s at_ : Nat) : Int)) := by
   rw [pack_step lr U lo s at_ k (by omega) ha hs h0, ← packK_set, List.map_set]
   congr 1
   unfold bV
   rw [UInt8.toNat_ofNat', Nat.mod_eq_of_lt (Nat.or_lt_two_pow (n := 8) (byteB_lt _ _) (pieceN_lt _ _ _ _))]
  rw [e, show (L + s + 7) / 8 = k + 1 by omega]
  have h2 : (((W.setCell ⟨g, k, none⟩ (.int .u8 ((byteB lr k ||| pieceN U lo s at_ : Nat) : Int))).setCell ⟨b, 1, none⟩ (.int .i64 ((L + s : Nat) : Int)))).ownsRow 0 5 1 (.slice (some ⟨g, 0, none⟩) (k + 1) cap) (k + 1) (((packK lr (k + 1)).map bV).set k (.int .u8 ((byteB lr k ||| pieceN U lo s at_ : Nat) : Int))) :=
   own_block hst (fun j hj => by
    have : g = j := by simpa [Value.ownBlock] using hj
    subst this
    exact Below.heap_setCell _ _ _ _ hgb)
  exact h2.drew
 ·refine ((hon.setCell (fun hlt => ?_) _).setCell (fun _ => .inl rfl) _).drew
  rcases hnew with h | h
  ·exact .inr h
  ·exact absurd hlt (by show ¬ g < w0.heap.size; omega)
 ·intro j hj
  have : g = j := by simpa [Value.ownBlock] using hj
  subst this
  exact hnew
end
theorem piece_int (U lo s at_ : Nat) : ((U : Int) / 2 ^ lo % 256 * 2 ^ (8 - s) % 256 / 2 ^ at_) = ((pieceN U lo s at_ : Nat) : Int) := by
 unfold pieceN
 simp only [Int.natCast_ediv, Int.natCast_emod, Int.natCast_mul, Int.natCast_pow, Int.cast_ofNat_Int]
theorem piece_int0 (U s at_ : Nat) : ((U : Int) % 256 * 2 ^ (8 - s) % 256 / 2 ^ at_) = ((pieceN U 0 s at_ : Nat) : Int) := by
 rw [← piece_int]
 simp
set_option maxRecDepth 100000 in
set_option maxHeartbeats 1600000 in
theorem put_any (w : World) (b : Nat) (v : Value) (l : List Bool) (x N : Int) (n : Nat) (hN : (N < 0 ∧ n = 0) ∨ (64 < N ∧ n = 64) ∨ (N = n ∧ n ≤ 64)) (h : WrIn w b v w v l.length l) (hl : l.length ≤ 1000000) :
  Calls Tryz.prog 117 #[.pointer (some ⟨b, 0, none⟩), .int .i64 x, .int .i64 N] w fun e w' => e = .returned (.tuple #[]) ∧ ∃ v', WrIn w b v w' v' (l.length + n) (l ++ bitsL (uN x) n) := by
 have hU := uN_wrap x
 generalize uN x = U at hU ⊢
 have HI := hid h
 clear h
 have hn : n ≤ 64 := by omega
 rcases hN with ⟨h1, h2⟩ | ⟨h1, h2⟩ | ⟨h1, h2⟩
 ·subst h2
  have hE : Hid (∃ v', WrIn w b v w v' (l.length + 0) (l ++ bitsL U 0)) := ⟨v, by rw [bitsL_zero, List.append_nil]; exact HI.out⟩
  clear HI
  go_enter Tryz.func117, Tryz.ntmps117
  go_wp2
  refine wp_loop_rounds 1 ?_
  rw [rounds_succ]
  go_wp2
  go_end0
  exact ⟨rfl, hE.out⟩
 ·subst h2
  have hn0 : (0 : Int) ≤ N := by omega
  go_enter Tryz.func117, Tryz.ntmps117
  go_wp2
  go_loopw [6] (fun t wr => ∃ (m : Nat) (vr : Value) (lr : List Bool) (L : Nat), m ≤ 64 ∧ t = .int .i64 m ∧ L + m = l.length + 64 ∧ WrIn w b v wr vr L lr ∧ lr ++ bitsL U m = l ++ bitsL U 64) (fun t _ => (intOf t).toNat)
  case atStart => exact ⟨64, v, l, l.length, hn, rfl, rfl, HI.out, rfl⟩
  case round =>
   obtain ⟨m, vr, lr, L, hm, rfl, hLm, hI, hbits⟩ := hrel
   have HB := hid hbits
   clear hbits
   by_cases h0 : m = 0
   ·subst h0
    have hE : Hid (∃ v', WrIn w b v wr v' (l.length + 64) (l ++ bitsL U 64)) := by
     have := HB.out
     rw [bitsL_zero, List.append_nil] at this
     refine ⟨vr, ?_⟩
     rw [← this, ← hLm]
     exact hI
    clear hI
    go_wp2
    go_end0
    exact ⟨rfl, hE.out⟩
   obtain ⟨k, hk⟩ : ∃ k, L / 8 = k := ⟨_, rfl⟩
   obtain ⟨at_, e1⟩ : ∃ a : Nat, (L : Int) % 8 = (a : Int) := ⟨L % 8, by omega⟩
   have a1 : at_ < 8 := by omega
   have hk1 : L = 8 * k + at_ := by omega
   have Hk := hid hk1
   have hk0 : k ≤ 1000000 := by omega
   have HLm := hid hLm
   have hL0 : L ≤ 1000064 := by omega
   have mid : ∀ (W : World) (g cap : Nat), Blk W b [.slice (some ⟨g, 0, none⟩) (k + 1) cap, .int .i64 (L : Int)] 174 → W.ownsRow 0 5 1 (.slice (some ⟨g, 0, none⟩) (k + 1) cap) (k + 1) ((packK lr (k + 1)).map bV) →
     W.cell? ⟨g, k, none⟩ = some (.int .u8 ((byteB lr k : Nat) : Int)) ∧ W.frozen? ⟨g, k, none⟩ = false ∧ g ≠ b := by
    intro W g cap h1 h2
    refine ⟨?_, h2.frozenAt k, (own_typed h2 rfl).ne h1.typed (by decide)⟩
    rw [h2.cellAt k (by omega), List.getElem?_map, packK_get _ (by omega)]
    show some (bV _) = _
    unfold bV
    rw [UInt8.toNat_ofNat', Nat.mod_eq_of_lt (byteB_lt _ _)]
   have hor : ∀ lo s a, bits .or .u8 ((byteB lr k : Nat) : Int) ((pieceN U lo s a : Nat) : Int) = ((byteB lr k ||| pieceN U lo s a : Nat) : Int) := fun lo s a => u8_or_nat _ _ (byteB_lt _ _) (pieceN_lt _ _ _ _)
   have p0 := piece_int U
   have p1 := piece_int0 U
   by_cases ha : at_ = 0
   ·have ha' : ((at_ : Int) == 0) = true := by simp; omega
    obtain ⟨hL, hblk, hown, hon, hnew⟩ := hI
    rw [show (L + 7) / 8 = k by omega] at hown
    have hne : vr.ownBlock ≠ some b := fun e => (own_typed hown e).ne hblk.typed (by decide) rfl
    obtain ⟨v', w1, hrun, hown1, hgrow, hat⟩ := append_src (P := Tryz.prog) (xv := .slice (some ⟨wr.heap.size, 0, none⟩) 1 1) (ys := [.int .u8 0]) Tryz.underlying28 Tryz.infoB rfl (by decide) (hown.alloc (.cells #[.int .u8 0] 5)) (own_src (World.ownsRow_lit wr #[.int .u8 0] 1 (Nat.zero_le _) (by decide) rfl)) (by intro u hu; simp at hu; subst hu; rfl) (by simp; omega) (Nat.zero_le _)
    rw [show (packL lr).map bV ++ [Value.int .u8 0] = (packK lr (k + 1)).map bV by rw [← packL_whole lr k (by omega), List.map_append]; rfl] at hown1
    obtain ⟨g, cap, rfl⟩ := own_some hown1 (by simp)
    have hown2 : w1.ownsRow 0 5 1 (.slice (some ⟨g, 0, none⟩) (k + 1) cap) (k + 1) ((packK lr (k + 1)).map bV) := hown1
    have hb1 : Blk w1 b [vr, .int .i64 (L : Int)] 174 := (hblk.alloc _).of_block (hgrow.block b (hblk.alloc _).lt (fun e => hne e.symm))
    have hgb : g ≠ b := (own_typed hown2 rfl).ne hb1.typed (by decide)
    have hb2 := hb1.set 0 (.slice (some ⟨g, 0, none⟩) (k + 1) cap)
    have hown3 : (w1.setCell ⟨b, 0, none⟩ (.slice (some ⟨g, 0, none⟩) (k + 1) cap)).ownsRow 0 5 1 (.slice (some ⟨g, 0, none⟩) (k + 1) cap) (k + 1) ((packK lr (k + 1)).map bV) := own_block hown2 (fun j hj => by
     have : g = j := by simpa [Value.ownBlock] using hj
     subst this
     exact Below.heap_setCell _ _ _ _ hgb)
    have hon2 : Only (fun k => k = b ∨ v.ownBlock = some k) w (w1.setCell ⟨b, 0, none⟩ (.slice (some ⟨g, 0, none⟩) (k + 1) cap)) := ((hon.alloc _).grown hgrow (fun j hj hlt => (hnew j hj).elim (fun e => .inr e) (fun e => absurd hlt (by omega)))).setCell (fun _ => .inl rfl) _
    have hnew2 : v.ownBlock = some g ∨ w.heap.size ≤ g := by
     rcases hat with e | e
     ·exact hnew g e.symm
     ·have : g = wr.heap.size + 1 := by simpa [Value.ownBlock] using e
      have := hon.size
      exact .inr (by omega)
    have m0 := (mid _ g cap hb2 hown3).1
    have m1 := (mid _ g cap hb2 hown3).2.1
    have c0 := hblk.cell 0 rfl
    have c1 := hblk.cell 1 rfl
    have d0 := hb1.cell 0 rfl
    have d1 := hb1.cell 1 rfl
    have f0 := hb1.frozen 0
    have f1 := hb1.frozen 1
    have hlb := hblk.lt
    rw [World.cell?_setCell_other _ _ _ _ (by simp)] at m0
    rw [World.frozen?_setCell] at m1
    have HS := hid (fun s lo X (hs : at_ + s ≤ 8) (hs0 : 0 < s) (hX : X = ((L + s : Nat) : Int)) => wr_step (U := U) (lo := lo) (s := s) (v0 := v) (w0 := w) hb2 hown3 hL hk1 a1 hs hs0 hon2 hnew2 hX)
    have Hr := hid hrun
    clear hk hk1 hL hblk hown hon hnew mid hLm ha hrun hown1 hown2 hown3 hb1 hb2 hon2 hnew2 hgrow hat hne
    by_cases hs : (m : Int) ≤ 8 - (at_ : Int)
    ·have hm0 : 0 < m := by omega
     go_wp2_with (at_builtin; refine wpList_append_run rfl _ _ _ rfl rfl rfl Hr ?_)
     go_region
     go_wp2
     go_roundw
     case rel => exact ⟨0, _, _, L + m, by omega, rfl, by have := HLm.out; omega, HS.out m 0 _ (by omega) (by omega) (by go_num), by rw [← HB.out, bitsL_zero, List.append_nil, Nat.shiftRight_zero]⟩
     case measure => simp [intOf]; omega
    ·go_wp2_with (at_builtin; refine wpList_append_run rfl _ _ _ rfl rfl rfl Hr ?_)
     go_region
     go_wp2
     go_roundw
     case rel => exact ⟨m - (8 - at_), _, _, L + (8 - at_), by omega, by go_num, by have := HLm.out; omega, HS.out (8 - at_) (m - (8 - at_)) _ (by omega) (by omega) (by go_num), by rw [List.append_assoc, ← bitsL_add, show (8 - at_) + (m - (8 - at_)) = m by omega]; exact HB.out⟩
     case measure => simp [intOf]; omega
   ·have ha' : ((at_ : Int) == 0) = false := by simp; omega
    obtain ⟨hL, hblk, hown, hon, hnew⟩ := hI
    rw [packL_at lr k at_ (by omega) (by omega) a1, show (L + 7) / 8 = k + 1 by omega] at hown
    obtain ⟨g, cap, rfl⟩ := own_some hown (by omega)
    obtain ⟨m0, m1, m2⟩ := mid wr g cap hblk hown
    have c0 := hblk.cell 0 rfl
    have c1 := hblk.cell 1 rfl
    have f0 := hblk.frozen 0
    have f1 := hblk.frozen 1
    have HS := hid (fun s lo X (hs : at_ + s ≤ 8) (hs0 : 0 < s) (hX : X = ((L + s : Nat) : Int)) => wr_step (U := U) (lo := lo) (s := s) (v0 := v) (w0 := w) hblk hown hL hk1 a1 hs hs0 hon (hnew g rfl) hX)
    clear hk hk1 hL hblk hown hon hnew mid hLm
    by_cases hs : (m : Int) ≤ 8 - (at_ : Int)
    ·have hm0 : 0 < m := by omega
     go_wp2
     go_region
     go_wp2
     go_roundw
     case rel => exact ⟨0, _, _, L + m, by omega, rfl, by have := HLm.out; omega, HS.out m 0 _ (by omega) (by omega) (by go_num), by rw [← HB.out, bitsL_zero, List.append_nil, Nat.shiftRight_zero]⟩
     case measure => simp [intOf]; omega
    ·go_wp2
     go_region
     go_wp2
     go_roundw
     case rel => exact ⟨m - (8 - at_), _, _, L + (8 - at_), by omega, by go_num, by have := HLm.out; omega, HS.out (8 - at_) (m - (8 - at_)) _ (by omega) (by omega) (by go_num), by rw [List.append_assoc, ← bitsL_add, show (8 - at_) + (m - (8 - at_)) = m by omega]; exact HB.out⟩
     case measure => simp [intOf]; omega
 ·subst h1
  go_enter Tryz.func117, Tryz.ntmps117
  go_wp2
  go_loopw [6] (fun t wr => ∃ (m : Nat) (vr : Value) (lr : List Bool) (L : Nat), m ≤ 64 ∧ t = .int .i64 m ∧ L + m = l.length + n ∧ WrIn w b v wr vr L lr ∧ lr ++ bitsL U m = l ++ bitsL U n) (fun t _ => (intOf t).toNat)
  case atStart => exact ⟨n, v, l, l.length, hn, rfl, rfl, HI.out, rfl⟩
  case round =>
   obtain ⟨m, vr, lr, L, hm, rfl, hLm, hI, hbits⟩ := hrel
   have HB := hid hbits
   clear hbits
   by_cases h0 : m = 0
   ·subst h0
    have hE : Hid (∃ v', WrIn w b v wr v' (l.length + n) (l ++ bitsL U n)) := by
     have := HB.out
     rw [bitsL_zero, List.append_nil] at this
     refine ⟨vr, ?_⟩
     rw [← this, ← hLm]
     exact hI
    clear hI
    go_wp2
    go_end0
    exact ⟨rfl, hE.out⟩
   obtain ⟨k, hk⟩ : ∃ k, L / 8 = k := ⟨_, rfl⟩
   obtain ⟨at_, e1⟩ : ∃ a : Nat, (L : Int) % 8 = (a : Int) := ⟨L % 8, by omega⟩
   have a1 : at_ < 8 := by omega
   have hk1 : L = 8 * k + at_ := by omega
   have Hk := hid hk1
   have hk0 : k ≤ 1000000 := by omega
   have HLm := hid hLm
   have hL0 : L ≤ 1000064 := by omega
   have mid : ∀ (W : World) (g cap : Nat), Blk W b [.slice (some ⟨g, 0, none⟩) (k + 1) cap, .int .i64 (L : Int)] 174 → W.ownsRow 0 5 1 (.slice (some ⟨g, 0, none⟩) (k + 1) cap) (k + 1) ((packK lr (k + 1)).map bV) →
     W.cell? ⟨g, k, none⟩ = some (.int .u8 ((byteB lr k : Nat) : Int)) ∧ W.frozen? ⟨g, k, none⟩ = false ∧ g ≠ b := by
    intro W g cap h1 h2
    refine ⟨?_, h2.frozenAt k, (own_typed h2 rfl).ne h1.typed (by decide)⟩
    rw [h2.cellAt k (by omega), List.getElem?_map, packK_get _ (by omega)]
    show some (bV _) = _
    unfold bV
    rw [UInt8.toNat_ofNat', Nat.mod_eq_of_lt (byteB_lt _ _)]
   have hor : ∀ lo s a, bits .or .u8 ((byteB lr k : Nat) : Int) ((pieceN U lo s a : Nat) : Int) = ((byteB lr k ||| pieceN U lo s a : Nat) : Int) := fun lo s a => u8_or_nat _ _ (byteB_lt _ _) (pieceN_lt _ _ _ _)
   have p0 := piece_int U
   have p1 := piece_int0 U
   by_cases ha : at_ = 0
   ·have ha' : ((at_ : Int) == 0) = true := by simp; omega
    obtain ⟨hL, hblk, hown, hon, hnew⟩ := hI
    rw [show (L + 7) / 8 = k by omega] at hown
    have hne : vr.ownBlock ≠ some b := fun e => (own_typed hown e).ne hblk.typed (by decide) rfl
    obtain ⟨v', w1, hrun, hown1, hgrow, hat⟩ := append_src (P := Tryz.prog) (xv := .slice (some ⟨wr.heap.size, 0, none⟩) 1 1) (ys := [.int .u8 0]) Tryz.underlying28 Tryz.infoB rfl (by decide) (hown.alloc (.cells #[.int .u8 0] 5)) (own_src (World.ownsRow_lit wr #[.int .u8 0] 1 (Nat.zero_le _) (by decide) rfl)) (by intro u hu; simp at hu; subst hu; rfl) (by simp; omega) (Nat.zero_le _)
    rw [show (packL lr).map bV ++ [Value.int .u8 0] = (packK lr (k + 1)).map bV by rw [← packL_whole lr k (by omega), List.map_append]; rfl] at hown1
    obtain ⟨g, cap, rfl⟩ := own_some hown1 (by simp)
    have hown2 : w1.ownsRow 0 5 1 (.slice (some ⟨g, 0, none⟩) (k + 1) cap) (k + 1) ((packK lr (k + 1)).map bV) := hown1
    have hb1 : Blk w1 b [vr, .int .i64 (L : Int)] 174 := (hblk.alloc _).of_block (hgrow.block b (hblk.alloc _).lt (fun e => hne e.symm))
    have hgb : g ≠ b := (own_typed hown2 rfl).ne hb1.typed (by decide)
    have hb2 := hb1.set 0 (.slice (some ⟨g, 0, none⟩) (k + 1) cap)
    have hown3 : (w1.setCell ⟨b, 0, none⟩ (.slice (some ⟨g, 0, none⟩) (k + 1) cap)).ownsRow 0 5 1 (.slice (some ⟨g, 0, none⟩) (k + 1) cap) (k + 1) ((packK lr (k + 1)).map bV) := own_block hown2 (fun j hj => by
     have : g = j := by simpa [Value.ownBlock] using hj
     subst this
     exact Below.heap_setCell _ _ _ _ hgb)
    have hon2 : Only (fun k => k = b ∨ v.ownBlock = some k) w (w1.setCell ⟨b, 0, none⟩ (.slice (some ⟨g, 0, none⟩) (k + 1) cap)) := ((hon.alloc _).grown hgrow (fun j hj hlt => (hnew j hj).elim (fun e => .inr e) (fun e => absurd hlt (by omega)))).setCell (fun _ => .inl rfl) _
    have hnew2 : v.ownBlock = some g ∨ w.heap.size ≤ g := by
     rcases hat with e | e
     ·exact hnew g e.symm
     ·have : g = wr.heap.size + 1 := by simpa [Value.ownBlock] using e
      have := hon.size
      exact .inr (by omega)
    have m0 := (mid _ g cap hb2 hown3).1
    have m1 := (mid _ g cap hb2 hown3).2.1
    have c0 := hblk.cell 0 rfl
    have c1 := hblk.cell 1 rfl
    have d0 := hb1.cell 0 rfl
    have d1 := hb1.cell 1 rfl
    have f0 := hb1.frozen 0
    have f1 := hb1.frozen 1
    have hlb := hblk.lt
    rw [World.cell?_setCell_other _ _ _ _ (by simp)] at m0
    rw [World.frozen?_setCell] at m1
    have HS := hid (fun s lo X (hs : at_ + s ≤ 8) (hs0 : 0 < s) (hX : X = ((L + s : Nat) : Int)) => wr_step (U := U) (lo := lo) (s := s) (v0 := v) (w0 := w) hb2 hown3 hL hk1 a1 hs hs0 hon2 hnew2 hX)
    have Hr := hid hrun
    clear hk hk1 hL hblk hown hon hnew mid hLm ha hrun hown1 hown2 hown3 hb1 hb2 hon2 hnew2 hgrow hat hne
    by_cases hs : (m : Int) ≤ 8 - (at_ : Int)
    ·have hm0 : 0 < m := by omega
     go_wp2_with (at_builtin; refine wpList_append_run rfl _ _ _ rfl rfl rfl Hr ?_)
     go_region
     go_wp2
     go_roundw
     case rel => exact ⟨0, _, _, L + m, by omega, rfl, by have := HLm.out; omega, HS.out m 0 _ (by omega) (by omega) (by go_num), by rw [← HB.out, bitsL_zero, List.append_nil, Nat.shiftRight_zero]⟩
     case measure => simp [intOf]; omega
    ·go_wp2_with (at_builtin; refine wpList_append_run rfl _ _ _ rfl rfl rfl Hr ?_)
     go_region
     go_wp2
     go_roundw
     case rel => exact ⟨m - (8 - at_), _, _, L + (8 - at_), by omega, by go_num, by have := HLm.out; omega, HS.out (8 - at_) (m - (8 - at_)) _ (by omega) (by omega) (by go_num), by rw [List.append_assoc, ← bitsL_add, show (8 - at_) + (m - (8 - at_)) = m by omega]; exact HB.out⟩
     case measure => simp [intOf]; omega
   ·have ha' : ((at_ : Int) == 0) = false := by simp; omega
    obtain ⟨hL, hblk, hown, hon, hnew⟩ := hI
    rw [packL_at lr k at_ (by omega) (by omega) a1, show (L + 7) / 8 = k + 1 by omega] at hown
    obtain ⟨g, cap, rfl⟩ := own_some hown (by omega)
    obtain ⟨m0, m1, m2⟩ := mid wr g cap hblk hown
    have c0 := hblk.cell 0 rfl
    have c1 := hblk.cell 1 rfl
    have f0 := hblk.frozen 0
    have f1 := hblk.frozen 1
    have HS := hid (fun s lo X (hs : at_ + s ≤ 8) (hs0 : 0 < s) (hX : X = ((L + s : Nat) : Int)) => wr_step (U := U) (lo := lo) (s := s) (v0 := v) (w0 := w) hblk hown hL hk1 a1 hs hs0 hon (hnew g rfl) hX)
    clear hk hk1 hL hblk hown hon hnew mid hLm
    by_cases hs : (m : Int) ≤ 8 - (at_ : Int)
    ·have hm0 : 0 < m := by omega
     go_wp2
     go_region
     go_wp2
     go_roundw
     case rel => exact ⟨0, _, _, L + m, by omega, rfl, by have := HLm.out; omega, HS.out m 0 _ (by omega) (by omega) (by go_num), by rw [← HB.out, bitsL_zero, List.append_nil, Nat.shiftRight_zero]⟩
     case measure => simp [intOf]; omega
    ·go_wp2
     go_region
     go_wp2
     go_roundw
     case rel => exact ⟨m - (8 - at_), _, _, L + (8 - at_), by omega, by go_num, by have := HLm.out; omega, HS.out (8 - at_) (m - (8 - at_)) _ (by omega) (by omega) (by go_num), by rw [List.append_assoc, ← bitsL_add, show (8 - at_) + (m - (8 - at_)) = m by omega]; exact HB.out⟩
     case measure => simp [intOf]; omega
end Go.Proofs.YtllfanlhgnkcfaaGreatDoor
