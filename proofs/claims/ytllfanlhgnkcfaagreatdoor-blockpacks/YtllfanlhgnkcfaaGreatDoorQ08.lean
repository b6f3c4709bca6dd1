/-
  Blaw, Wput, Wlib, Csmp, Cref, Wpk, Cu1.
-/
import Derived.Test.YtllfanlhgnkcfaaGreatDoorQ07
import Derived.Test.YtllfanlhgnkcfaaGreatDoorQ06
import Derived.Deep.RegionHeld3
namespace Go.Proofs.YtllfanlhgnkcfaaGreatDoor
open Go.RowKit Go.Proofs.Lys
set_option linter.unusedVariables false
structure WrAt (w : World) (b : Nat) (v : Value) (l : List Bool) : Prop where
 blk : Blk w b [v, .int .i64 (l.length : Int)] 174
 own : w.ownsRow 0 5 1 v ((l.length + 7) / 8) ((packL l).map bV)
theorem WrAt.only {w w' : World} {O : Nat → Prop} {b : Nat} {v : Value} {l : List Bool} (h : WrAt w b v l) (k : Only O w w') (hb : ¬ O b) (hv : ∀ j, v.ownBlock = some j → ¬ O j) : WrAt w' b v l := ⟨k.blk h.blk hb, own_only h.own k hv⟩
theorem WrAt.new (w : World) : WrAt (w.alloc (.cells #[.slice none 0 0, .int .i64 0] 174)) w.heap.size (.slice none 0 0) [] := ⟨Blk.new w [.slice none 0 0, .int .i64 0] _, World.ownsRow_nil _ _ _ _⟩
theorem WrAt.src {w : World} {b : Nat} {v : Value} {l : List Bool} (h : WrAt w b v l) : SrcOf w v ((packL l).map bV) := own_src h.own
abbrev Foot (b : Nat) (v : Value) (k : Nat) : Prop := k = b ∨ v.ownBlock = some k
theorem put_wr {w : World} {b : Nat} {v : Value} {l : List Bool} (h : WrAt w b v l) (x N : Int) (n : Nat) (hN : (N < 0 ∧ n = 0) ∨ (64 < N ∧ n = 64) ∨ (N = n ∧ n ≤ 64)) (hl : l.length ≤ 1000000) :
  Calls Tryz.prog 117 #[.pointer (some ⟨b, 0, none⟩), .int .i64 x, .int .i64 N] w fun e w' => e = .returned (.tuple #[]) ∧ ∃ v', WrAt w' b v' (l ++ bitsL (uN x) n) ∧ Only (Foot b v) w w' ∧ ∀ k, v'.ownBlock = some k → v.ownBlock = some k ∨ w.heap.size ≤ k := by
 refine (put_any w b v l x N n hN ⟨rfl, h.blk, h.own, Only.refl _ _, fun k hk => .inl hk⟩ hl).mono ?_
 rintro e w' ⟨rfl, v', hi⟩
 have e2 : (l ++ bitsL (uN x) n).length = l.length + n := by rw [List.length_append, bitsL_length]
 refine ⟨rfl, v', ⟨?_, ?_⟩, hi.only, hi.new⟩
 ·rw [e2]; exact hi.blk
 ·rw [e2]; exact hi.own
structure RwAt (w : World) (b : Nat) (v : Value) (l : List Bool) : Prop where
 blk : Blk w b [v] 115
 own : w.ownsRow 0 4 1 v l.length (l.map tV)
theorem RwAt.only {w w' : World} {O : Nat → Prop} {b : Nat} {v : Value} {l : List Bool} (h : RwAt w b v l) (k : Only O w w') (hb : ¬ O b) (hv : ∀ j, v.ownBlock = some j → ¬ O j) : RwAt w' b v l := ⟨k.blk h.blk hb, own_only h.own k hv⟩
theorem RwAt.new (w : World) : RwAt (w.alloc (.cells #[.slice none 0 0] 115)) w.heap.size (.slice none 0 0) [] := ⟨Blk.new w [.slice none 0 0] _, World.ownsRow_nil _ _ _ _⟩
theorem put_rw {w : World} {b : Nat} {v : Value} {l : List Bool} (h : RwAt w b v l) (x N : Int) (n : Nat) (hN : (N < 0 ∧ n = 0) ∨ (64 < N ∧ n = 64) ∨ (N = n ∧ n ≤ 64)) (hl : l.length ≤ 1000000) :
  Calls Tryz.prog 80 #[.pointer (some ⟨b, 0, none⟩), .int .i64 x, .int .i64 N] w fun e w' => e = .returned (.tuple #[]) ∧ ∃ v', RwAt w' b v' (l ++ bitsL (uN x) n) ∧ Only (Foot b v) w w' ∧ ∀ k, v'.ownBlock = some k → v.ownBlock = some k ∨ w.heap.size ≤ k := by
 refine (rput_any w b v l x N n hN ⟨h.blk, h.own, Only.refl _ _, fun k hk => .inl hk⟩ hl).mono ?_
 rintro e w' ⟨rfl, v', hi⟩
 exact ⟨rfl, v', ⟨hi.blk, hi.own⟩, hi.only, hi.new⟩
end Go.Proofs.YtllfanlhgnkcfaaGreatDoor
namespace Go.Proofs.YtllfanlhgnkcfaaGreatDoor.V
open Go.RowKit Go.Proofs.Lys
set_option linter.unusedVariables false
structure PkW (za zb op : Value) (w0 : World) (b : Nat) (v0 : Value) (w : World) (v : Value) (L : Nat) (lr : List Bool) : Prop where
 len : lr.length = L
 blk : Blk w b [za, zb, v, .int .i64 (L : Int), op] 180
 own : w.ownsRow 0 5 1 v ((L + 7) / 8) ((packL lr).map bV)
 only : Only (fun k => k = b ∨ v0.ownBlock = some k) w0 w
 new : ∀ k, v.ownBlock = some k → v0.ownBlock = some k ∨ w0.heap.size ≤ k
section
variable {za zb op : Value} {w0 W : World} {b g k cap L at_ s lo U : Nat} {v0 : Value} {lr : List Bool}
theorem pk_step (hblk : Blk W b [za, zb, .slice (some ⟨g, 0, none⟩) (k + 1) cap, .int .i64 (L : Int), op] 180)
  (hown : W.ownsRow 0 5 1 (.slice (some ⟨g, 0, none⟩) (k + 1) cap) (k + 1) ((packK lr (k + 1)).map bV))
  (hL : lr.length = L) (hk : L = 8 * k + at_) (ha : at_ < 8) (hs : at_ + s ≤ 8) (h0 : 0 < s)
  (hon : Only (fun k => k = b ∨ v0.ownBlock = some k) w0 W) (hnew : v0.ownBlock = some g ∨ w0.heap.size ≤ g) {X : Int} (hX : X = ((L + s : Nat) : Int)) :
  PkW za zb op w0 b v0 (((W.setCell ⟨g, k, none⟩ (.int .u8 ((byteB lr k ||| pieceN U lo s at_ : Nat) : Int))).setCell ⟨b, 3, none⟩ (.int .i64 X)).drew) (.slice (some ⟨g, 0, none⟩) (k + 1) cap) (L + s) (lr ++ bitsL (U >>> lo) s) := by
 have hgb : g ≠ b := (own_typed hown rfl).ne hblk.typed (by decide)
 subst hX
 have hst := (hown.stored k (.int .u8 ((byteB lr k ||| pieceN U lo s at_ : Nat) : Int))).1
 refine ⟨by rw [List.length_append, hL, bitsL_length], ?_, ?_, ?_, ?_⟩
 ·have h1 : Blk (W.setCell ⟨g, k, none⟩ (.int .u8 ((byteB lr k ||| pieceN U lo s at_ : Nat) : Int))) b [za, zb, .slice (some ⟨g, 0, none⟩) (k + 1) cap, .int .i64 (L : Int), op] 180 := hblk.other (Ne.symm hgb) _
  exact (h1.set 3 _).drew
 ·have e : (packL (lr ++ bitsL (U >>> lo) s)).map bV = ((packK lr (k + 1)).map bV).set k (.int .u8 ((byteB lr k ||| pieceN U lo s at_ : Nat) : Int)) := by
   rw [pack_step lr U lo s at_ k (by omega) ha hs h0, ← packK_set, List.map_set]
   congr 1
   unfold bV
   rw [UInt8.toNat_ofNat', Nat.mod_eq_of_lt (Nat.or_lt_two_pow (n := 8) (byteB_lt _ _) (pieceN_lt _ _ _ _))]
  rw [e, show (L + s + 7) / 8 = k + 1 by omega]
  have h2 : (((W.setCell ⟨g, k, none⟩ (.int .u8 ((byteB lr k ||| pieceN U lo s at_ : Nat) : Int))).setCell ⟨b, 3, none⟩ (.int .i64 ((L + s : Nat) : Int)))).ownsRow 0 5 1 (.slice (some ⟨g, 0, none⟩) (k + 1) cap) (k + 1) (((packK lr (k + 1)).map bV).set k (.int .u8 ((byteB lr k ||| pieceN U lo s at_ : Nat) : Int))) :=
   own_block hst (fun j hj => by
    have : g = j := by simpa [Value.ownBlock] using hj
    subst this
    exact Below.heap_setCell _ _ _ _ hgb)
  exact h2.drew
 ·refine ((hon.setCell (fun hlt => ?_) _).setCell (fun _ => .inl rfl) _).drew
  rcases hnew with h | h
  ·exact .inr h
  ·exact absurd hlt (by show ¬ g < w0.heap.size; omega)
 ·intro j hj
  have : g = j := by simpa [Value.ownBlock] using hj
  subst this
  exact hnew
end
set_option maxRecDepth 100000 in
set_option maxHeartbeats 1600000 in
theorem pput_any {za zb op : Value} (w : World) (b : Nat) (v : Value) (l : List Bool) (x N : Int) (n : Nat) (hN : (N < 0 ∧ n = 0) ∨ (64 < N ∧ n = 64) ∨ (N = n ∧ n ≤ 64)) (h : PkW za zb op w b v w v l.length l) (hl : l.length ≤ 1000000) :
  Calls Tryz.prog 117 #[.pointer (some ⟨b, 2, none⟩), .int .i64 x, .int .i64 N] w fun e w' => e = .returned (.tuple #[]) ∧ ∃ v', PkW za zb op w b v w' v' (l.length + n) (l ++ bitsL (uN x) n) := by
 have hU := uN_wrap x
 generalize uN x = U at hU ⊢
 have HI := hid h
 clear h
 have hn : n ≤ 64 := by omega
 rcases hN with ⟨h1, h2⟩ | ⟨h1, h2⟩ | ⟨h1, h2⟩
 ·subst h2
  have hE : Hid (∃ v', PkW za zb op w b v w v' (l.length + 0) (l ++ bitsL U 0)) := ⟨v, by rw [bitsL_zero, List.append_nil]; exact HI.out⟩
  clear HI
  go_enter Tryz.func117, Tryz.ntmps117
  go_wp2
  refine wp_loop_rounds 1 ?_
  rw [rounds_succ]
  go_wp2
  go_end0
  exact ⟨rfl, hE.out⟩
 ·subst h2
  have hn0 : (0 : Int) ≤ N := by omega
  go_enter Tryz.func117, Tryz.ntmps117
  go_wp2
  go_loopw [6] (fun t wr => ∃ (m : Nat) (vr : Value) (lr : List Bool) (L : Nat), m ≤ 64 ∧ t = .int .i64 m ∧ L + m = l.length + 64 ∧ PkW za zb op w b v wr vr L lr ∧ lr ++ bitsL U m = l ++ bitsL U 64) (fun t _ => (intOf t).toNat)
  case atStart => exact ⟨64, v, l, l.length, hn, rfl, rfl, HI.out, rfl⟩
  case round =>
   obtain ⟨m, vr, lr, L, hm, rfl, hLm, hI, hbits⟩ := hrel
   have HB := hid hbits
   clear hbits
   by_cases h0 : m = 0
   ·subst h0
    have hE : Hid (∃ v', PkW za zb op w b v wr v' (l.length + 64) (l ++ bitsL U 64)) := by
     have := HB.out
     rw [bitsL_zero, List.append_nil] at this
     refine ⟨vr, ?_⟩
     rw [← this, ← hLm]
     exact hI
    clear hI
    go_wp2
    go_end0
    exact ⟨rfl, hE.out⟩
   obtain ⟨k, hk⟩ : ∃ k, L / 8 = k := ⟨_, rfl⟩
   obtain ⟨at_, e1⟩ : ∃ a : Nat, (L : Int) % 8 = (a : Int) := ⟨L % 8, by omega⟩
   have a1 : at_ < 8 := by omega
   have hk1 : L = 8 * k + at_ := by omega
   have Hk := hid hk1
   have hk0 : k ≤ 1000000 := by omega
   have HLm := hid hLm
   have hL0 : L ≤ 1000064 := by omega
   have mid : ∀ (W : World) (g cap : Nat), Blk W b [za, zb, .slice (some ⟨g, 0, none⟩) (k + 1) cap, .int .i64 (L : Int), op] 180 → W.ownsRow 0 5 1 (.slice (some ⟨g, 0, none⟩) (k + 1) cap) (k + 1) ((packK lr (k + 1)).map bV) →
     W.cell? ⟨g, k, none⟩ = some (.int .u8 ((byteB lr k : Nat) : Int)) ∧ W.frozen? ⟨g, k, none⟩ = false ∧ g ≠ b := by
    intro W g cap h1 h2
    refine ⟨?_, h2.frozenAt k, (own_typed h2 rfl).ne h1.typed (by decide)⟩
    rw [h2.cellAt k (by omega), List.getElem?_map, packK_get _ (by omega)]
    show some (bV _) = _
    unfold bV
    rw [UInt8.toNat_ofNat', Nat.mod_eq_of_lt (byteB_lt _ _)]
   have hor : ∀ lo s a, bits .or .u8 ((byteB lr k : Nat) : Int) ((pieceN U lo s a : Nat) : Int) = ((byteB lr k ||| pieceN U lo s a : Nat) : Int) := fun lo s a => u8_or_nat _ _ (byteB_lt _ _) (pieceN_lt _ _ _ _)
   have p0 := piece_int U
   have p1 := piece_int0 U
   by_cases ha : at_ = 0
   ·have ha' : ((at_ : Int) == 0) = true := by simp; omega
    obtain ⟨hL, hblk, hown, hon, hnew⟩ := hI
    rw [show (L + 7) / 8 = k by omega] at hown
    have hne : vr.ownBlock ≠ some b := fun e => (own_typed hown e).ne hblk.typed (by decide) rfl
    obtain ⟨v', w1, hrun, hown1, hgrow, hat⟩ := append_src (P := Tryz.prog) (xv := .slice (some ⟨wr.heap.size, 0, none⟩) 1 1) (ys := [.int .u8 0]) Tryz.underlying28 Tryz.infoB rfl (by decide) (hown.alloc (.cells #[.int .u8 0] 5)) (own_src (World.ownsRow_lit wr #[.int .u8 0] 1 (Nat.zero_le _) (by decide) rfl)) (by intro u hu; simp at hu; subst hu; rfl) (by simp; omega) (Nat.zero_le _)
    rw [show (packL lr).map bV ++ [Value.int .u8 0] = (packK lr (k + 1)).map bV by rw [← packL_whole lr k (by omega), List.map_append]; rfl] at hown1
    obtain ⟨g, cap, rfl⟩ := own_some hown1 (by simp)
    have hown2 : w1.ownsRow 0 5 1 (.slice (some ⟨g, 0, none⟩) (k + 1) cap) (k + 1) ((packK lr (k + 1)).map bV) := hown1
    have hb1 : Blk w1 b [za, zb, vr, .int .i64 (L : Int), op] 180 := (hblk.alloc _).of_block (hgrow.block b (hblk.alloc _).lt (fun e => hne e.symm))
    have hgb : g ≠ b := (own_typed hown2 rfl).ne hb1.typed (by decide)
    have hb2 := hb1.set 2 (.slice (some ⟨g, 0, none⟩) (k + 1) cap)
    have hown3 : (w1.setCell ⟨b, 2, none⟩ (.slice (some ⟨g, 0, none⟩) (k + 1) cap)).ownsRow 0 5 1 (.slice (some ⟨g, 0, none⟩) (k + 1) cap) (k + 1) ((packK lr (k + 1)).map bV) := own_block hown2 (fun j hj => by
     have : g = j := by simpa [Value.ownBlock] using hj
     subst this
     exact Below.heap_setCell _ _ _ _ hgb)
    have hon2 : Only (fun k => k = b ∨ v.ownBlock = some k) w (w1.setCell ⟨b, 2, none⟩ (.slice (some ⟨g, 0, none⟩) (k + 1) cap)) := ((hon.alloc _).grown hgrow (fun j hj hlt => (hnew j hj).elim (fun e => .inr e) (fun e => absurd hlt (by omega)))).setCell (fun _ => .inl rfl) _
    have hnew2 : v.ownBlock = some g ∨ w.heap.size ≤ g := by
     rcases hat with e | e
     ·exact hnew g e.symm
     ·have : g = wr.heap.size + 1 := by simpa [Value.ownBlock] using e
      have := hon.size
      exact .inr (by omega)
    have m0 := (mid _ g cap hb2 hown3).1
    have m1 := (mid _ g cap hb2 hown3).2.1
    have c0 := hblk.cell 2 rfl
    have c1 := hblk.cell 3 rfl
    have d0 := hb1.cell 2 rfl
    have d1 := hb1.cell 3 rfl
    have f0 := hb1.frozen 2
    have f1 := hb1.frozen 3
    have hlb := hblk.lt
    rw [World.cell?_setCell_other _ _ _ _ (by simp)] at m0
    rw [World.frozen?_setCell] at m1
    have HS := hid (fun s lo X (hs : at_ + s ≤ 8) (hs0 : 0 < s) (hX : X = ((L + s : Nat) : Int)) => pk_step (U := U) (lo := lo) (s := s) (v0 := v) (w0 := w) hb2 hown3 hL hk1 a1 hs hs0 hon2 hnew2 hX)
    have Hr := hid hrun
    clear hk hk1 hL hblk hown hon hnew mid hLm ha hrun hown1 hown2 hown3 hb1 hb2 hon2 hnew2 hgrow hat hne
    by_cases hs : (m : Int) ≤ 8 - (at_ : Int)
    ·have hm0 : 0 < m := by omega
     go_wp2_with (at_builtin; refine wpList_append_run rfl _ _ _ rfl rfl rfl Hr ?_)
     go_region
     go_wp2
     go_roundw
     case rel => exact ⟨0, _, _, L + m, by omega, rfl, by have := HLm.out; omega, HS.out m 0 _ (by omega) (by omega) (by go_num), by rw [← HB.out, bitsL_zero, List.append_nil, Nat.shiftRight_zero]⟩
     case measure => simp [intOf]; omega
    ·go_wp2_with (at_builtin; refine wpList_append_run rfl _ _ _ rfl rfl rfl Hr ?_)
     go_region
     go_wp2
     go_roundw
     case rel => exact ⟨m - (8 - at_), _, _, L + (8 - at_), by omega, by go_num, by have := HLm.out; omega, HS.out (8 - at_) (m - (8 - at_)) _ (by omega) (by omega) (by go_num), by rw [List.append_assoc, ← bitsL_add, show (8 - at_) + (m - (8 - at_)) = m by omega]; exact HB.out⟩
     case measure => simp [intOf]; omega
   ·have ha' : ((at_ : Int) == 0) = false := by simp; omega
    obtain ⟨hL, hblk, hown, hon, hnew⟩ := hI
    rw [packL_at lr k at_ (by omega) (by omega) a1, show (L + 7) / 8 = k + 1 by omega] at hown
    obtain ⟨g, cap, rfl⟩ := own_some hown (by omega)
    obtain ⟨m0, m1, m2⟩ := mid wr g cap hblk hown
    have c0 := hblk.cell 2 rfl
    have c1 := hblk.cell 3 rfl
    have f0 := hblk.frozen 2
    have f1 := hblk.frozen 3
    have HS := hid (fun s lo X (hs : at_ + s ≤ 8) (hs0 : 0 < s) (hX : X = ((L + s : Nat) : Int)) => pk_step (U := U) (lo := lo) (s := s) (v0 := v) (w0 := w) hblk hown hL hk1 a1 hs hs0 hon (hnew g rfl) hX)
    clear hk hk1 hL hblk hown hon hnew mid hLm
    by_cases hs : (m : Int) ≤ 8 - (at_ : Int)
    ·have hm0 : 0 < m := by omega
     go_wp2
     go_region
     go_wp2
     go_roundw
     case rel => exact ⟨0, _, _, L + m, by omega, rfl, by have := HLm.out; omega, HS.out m 0 _ (by omega) (by omega) (by go_num), by rw [← HB.out, bitsL_zero, List.append_nil, Nat.shiftRight_zero]⟩
     case measure => simp [intOf]; omega
    ·go_wp2
     go_region
     go_wp2
     go_roundw
     case rel => exact ⟨m - (8 - at_), _, _, L + (8 - at_), by omega, by go_num, by have := HLm.out; omega, HS.out (8 - at_) (m - (8 - at_)) _ (by omega) (by omega) (by go_num), by rw [List.append_assoc, ← bitsL_add, show (8 - at_) + (m - (8 - at_)) = m by omega]; exact HB.out⟩
     case measure => simp [intOf]; omega
 ·subst h1
  go_enter Tryz.func117, Tryz.ntmps117
  go_wp2
  go_loopw [6] (fun t wr => ∃ (m : Nat) (vr : Value) (lr : List Bool) (L : Nat), m ≤ 64 ∧ t = .int .i64 m ∧ L + m = l.length + n ∧ PkW za zb op w b v wr vr L lr ∧ lr ++ bitsL U m = l ++ bitsL U n) (fun t _ => (intOf t).toNat)
  case atStart => exact ⟨n, v, l, l.length, hn, rfl, rfl, HI.out, rfl⟩
  case round =>
   obtain ⟨m, vr, lr, L, hm, rfl, hLm, hI, hbits⟩ := hrel
   have HB := hid hbits
   clear hbits
   by_cases h0 : m = 0
   ·subst h0
    have hE : Hid (∃ v', PkW za zb op w b v wr v' (l.length + n) (l ++ bitsL U n)) := by
     have := HB.out
     rw [bitsL_zero, List.append_nil] at this
     refine ⟨vr, ?_⟩
     rw [← this, ← hLm]
     exact hI
    clear hI
    go_wp2
    go_end0
    exact ⟨rfl, hE.out⟩
   obtain ⟨k, hk⟩ : ∃ k, L / 8 = k := ⟨_, rfl⟩
   obtain ⟨at_, e1⟩ : ∃ a : Nat, (L : Int) % 8 = (a : Int) := ⟨L % 8, by omega⟩
   have a1 : at_ < 8 := by omega
   have hk1 : L = 8 * k + at_ := by omega
   have Hk := hid hk1
   have hk0 : k ≤ 1000000 := by omega
   have HLm := hid hLm
   have hL0 : L ≤ 1000064 := by omega
   have mid : ∀ (W : World) (g cap : Nat), Blk W b [za, zb, .slice (some ⟨g, 0, none⟩) (k + 1) cap, .int .i64 (L : Int), op] 180 → W.ownsRow 0 5 1 (.slice (some ⟨g, 0, none⟩) (k + 1) cap) (k + 1) ((packK lr (k + 1)).map bV) →
     W.cell? ⟨g, k, none⟩ = some (.int .u8 ((byteB lr k : Nat) : Int)) ∧ W.frozen? ⟨g, k, none⟩ = false ∧ g ≠ b := by
    intro W g cap h1 h2
    refine ⟨?_, h2.frozenAt k, (own_typed h2 rfl).ne h1.typed (by decide)⟩
    rw [h2.cellAt k (by omega), List.getElem?_map, packK_get _ (by omega)]
    show some (bV _) = _
    unfold bV
    rw [UInt8.toNat_ofNat', Nat.mod_eq_of_lt (byteB_lt _ _)]
   have hor : ∀ lo s a, bits .or .u8 ((byteB lr k : Nat) : Int) ((pieceN U lo s a : Nat) : Int) = ((byteB lr k ||| pieceN U lo s a : Nat) : Int) := fun lo s a => u8_or_nat _ _ (byteB_lt _ _) (pieceN_lt _ _ _ _)
   have p0 := piece_int U
   have p1 := piece_int0 U
   by_cases ha : at_ = 0
   ·have ha' : ((at_ : Int) == 0) = true := by simp; omega
    obtain ⟨hL, hblk, hown, hon, hnew⟩ := hI
    rw [show (L + 7) / 8 = k by omega] at hown
    have hne : vr.ownBlock ≠ some b := fun e => (own_typed hown e).ne hblk.typed (by decide) rfl
    obtain ⟨v', w1, hrun, hown1, hgrow, hat⟩ := append_src (P := Tryz.prog) (xv := .slice (some ⟨wr.heap.size, 0, none⟩) 1 1) (ys := [.int .u8 0]) Tryz.underlying28 Tryz.infoB rfl (by decide) (hown.alloc (.cells #[.int .u8 0] 5)) (own_src (World.ownsRow_lit wr #[.int .u8 0] 1 (Nat.zero_le _) (by decide) rfl)) (by intro u hu; simp at hu; subst hu; rfl) (by simp; omega) (Nat.zero_le _)
    rw [show (packL lr).map bV ++ [Value.int .u8 0] = (packK lr (k + 1)).map bV by rw [← packL_whole lr k (by omega), List.map_append]; rfl] at hown1
    obtain ⟨g, cap, rfl⟩ := own_some hown1 (by simp)
    have hown2 : w1.ownsRow 0 5 1 (.slice (some ⟨g, 0, none⟩) (k + 1) cap) (k + 1) ((packK lr (k + 1)).map bV) := hown1
    have hb1 : Blk w1 b [za, zb, vr, .int .i64 (L : Int), op] 180 := (hblk.alloc _).of_block (hgrow.block b (hblk.alloc _).lt (fun e => hne e.symm))
    have hgb : g ≠ b := (own_typed hown2 rfl).ne hb1.typed (by decide)
    have hb2 := hb1.set 2 (.slice (some ⟨g, 0, none⟩) (k + 1) cap)
    have hown3 : (w1.setCell ⟨b, 2, none⟩ (.slice (some ⟨g, 0, none⟩) (k + 1) cap)).ownsRow 0 5 1 (.slice (some ⟨g, 0, none⟩) (k + 1) cap) (k + 1) ((packK lr (k + 1)).map bV) := own_block hown2 (fun j hj => by
     have : g = j := by simpa [Value.ownBlock] using hj
     subst this
     exact Below.heap_setCell _ _ _ _ hgb)
    have hon2 : Only (fun k => k = b ∨ v.ownBlock = some k) w (w1.setCell ⟨b, 2, none⟩ (.slice (some ⟨g, 0, none⟩) (k + 1) cap)) := ((hon.alloc _).grown hgrow (fun j hj hlt => (hnew j hj).elim (fun e => .inr e) (fun e => absurd hlt (by omega)))).setCell (fun _ => .inl rfl) _
    have hnew2 : v.ownBlock = some g ∨ w.heap.size ≤ g := by
     rcases hat with e | e
     ·exact hnew g e.symm
     ·have : g = wr.heap.size + 1 := by simpa [Value.ownBlock] using e
      have := hon.size
      exact .inr (by omega)
    have m0 := (mid _ g cap hb2 hown3).1
    have m1 := (mid _ g cap hb2 hown3).2.1
    have c0 := hblk.cell 2 rfl
    have c1 := hblk.cell 3 rfl
    have d0 := hb1.cell 2 rfl
    have d1 := hb1.cell 3 rfl
    have f0 := hb1.frozen 2
    have f1 := hb1.frozen 3
    have hlb := hblk.lt
    rw [World.cell?_setCell_other _ _ _ _ (by simp)] at m0
    rw [World.frozen?_setCell] at m1
    have HS := hid (fun s lo X (hs : at_ + s ≤ 8) (hs0 : 0 < s) (hX : X = ((L + s : Nat) : Int)) => pk_step (U := U) (lo := lo) (s := s) (v0 := v) (w0 := w) hb2 hown3 hL hk1 a1 hs hs0 hon2 hnew2 hX)
    have Hr := hid hrun
    clear hk hk1 hL hblk hown hon hnew mid hLm ha hrun hown1 hown2 hown3 hb1 hb2 hon2 hnew2 hgrow hat hne
    by_cases hs : (m : Int) ≤ 8 - (at_ : Int)
    ·have hm0 : 0 < m := by omega
     go_wp2_with (at_builtin; refine wpList_append_run rfl _ _ _ rfl rfl rfl Hr ?_)
     go_region
     go_wp2
     go_roundw
     case rel => exact ⟨0, _, _, L + m, by omega, rfl, by have := HLm.out; omega, HS.out m 0 _ (by omega) (by omega) (by go_num), by rw [← HB.out, bitsL_zero, List.append_nil, Nat.shiftRight_zero]⟩
     case measure => simp [intOf]; omega
    ·go_wp2_with (at_builtin; refine wpList_append_run rfl _ _ _ rfl rfl rfl Hr ?_)
     go_region
     go_wp2
     go_roundw
     case rel => exact ⟨m - (8 - at_), _, _, L + (8 - at_), by omega, by go_num, by have := HLm.out; omega, HS.out (8 - at_) (m - (8 - at_)) _ (by omega) (by omega) (by go_num), by rw [List.append_assoc, ← bitsL_add, show (8 - at_) + (m - (8 - at_)) = m by omega]; exact HB.out⟩
     case measure => simp [intOf]; omega
   ·have ha' : ((at_ : Int) == 0) = false := by simp; omega
    obtain ⟨hL, hblk, hown, hon, hnew⟩ := hI
    rw [packL_at lr k at_ (by omega) (by omega) a1, show (L + 7) / 8 = k + 1 by omega] at hown
    obtain ⟨g, cap, rfl⟩ := own_some hown (by omega)
    obtain ⟨m0, m1, m2⟩ := mid wr g cap hblk hown
    have c0 := hblk.cell 2 rfl
    have c1 := hblk.cell 3 rfl
    have f0 := hblk.frozen 2
    have f1 := hblk.frozen 3
    have HS := hid (fun s lo X (hs : at_ + s ≤ 8) (hs0 : 0 < s) (hX : X = ((L + s : Nat) : Int)) => pk_step (U := U) (lo := lo) (s := s) (v0 := v) (w0 := w) hblk hown hL hk1 a1 hs hs0 hon (hnew g rfl) hX)
    clear hk hk1 hL hblk hown hon hnew mid hLm
    by_cases hs : (m : Int) ≤ 8 - (at_ : Int)
    ·have hm0 : 0 < m := by omega
     go_wp2
     go_region
     go_wp2
     go_roundw
     case rel => exact ⟨0, _, _, L + m, by omega, rfl, by have := HLm.out; omega, HS.out m 0 _ (by omega) (by omega) (by go_num), by rw [← HB.out, bitsL_zero, List.append_nil, Nat.shiftRight_zero]⟩
     case measure => simp [intOf]; omega
    ·go_wp2
     go_region
     go_wp2
     go_roundw
     case rel => exact ⟨m - (8 - at_), _, _, L + (8 - at_), by omega, by go_num, by have := HLm.out; omega, HS.out (8 - at_) (m - (8 - at_)) _ (by omega) (by omega) (by go_num), by rw [List.append_assoc, ← bitsL_add, show (8 - at_) + (m - (8 - at_)) = m by omega]; exact HB.out⟩
     case measure => simp [intOf]; omega
end Go.Proofs.YtllfanlhgnkcfaaGreatDoor.V
namespace Go.Proofs.YtllfanlhgnkcfaaGreatDoor
open Go.RowKit Go.Proofs.Lys
set_option linter.unusedVariables false
theorem src_cells {w : World} {b o n c : Nat} {xs : List Value} (h : SrcOf w (.slice (some ⟨b, o, none⟩) n c) xs) : ∀ j u, xs[j]? = some u → w.cell? ⟨b, o + j, none⟩ = some u := by
 intro j u hu
 rcases h with ⟨h, _⟩ | ⟨a, c', h, hc⟩
 ·cases h
 ·cases h
  rw [← add_none]
  exact hc j u hu
theorem int_cells {w : World} {b o n c : Nat} {l : List Int} (h : SrcOf w (.slice (some ⟨b, o, none⟩) n c) (l.map (Value.int .i64))) : ∀ j (hj : j < l.length), w.cell? ⟨b, o + j, none⟩ = some (.int .i64 l[j]) :=
 fun j hj => src_cells h j _ (by rw [List.getElem?_map, List.getElem?_eq_getElem hj]; rfl)
theorem kept_drewN {w w' : World} (h : Kept w w') (n : Nat) : Kept w (w'.drewN n) := by
 induction n with
 | zero => exact h
 | succ n ih => exact ih.drew
theorem infoI6 : (Tryz.prog.info? 3).map (fun i => (i.zero, i.size, i.bytes)) = some (some (.int .i64 0), 1, 8) := by kernel_rfl
theorem own_num {w : World} {base : Nat} {vr : Value} {lr : List Int} (hown : w.ownsRow base 3 1 vr lr.length (lr.map (Value.int .i64))) (hb : base ≤ w.heap.size) (hl : lr.length ≤ 1000000) (X : Int) :
  ∃ g cap w1, Hid ((Builtin.append_ #[64, 64] 0 #[vr, .slice (some ⟨w.heap.size, 0, none⟩) 1 1]).run Tryz.prog (w.alloc (.cells #[.int .i64 X] 3)) = .ok (.slice (some ⟨g, 0, none⟩) (lr.length + 1) cap) w1) ∧ w1.ownsRow base 3 1 (.slice (some ⟨g, 0, none⟩) (lr.length + 1) cap) (lr ++ [X]).length ((lr ++ [X]).map (Value.int .i64)) ∧ Only (fun k => vr.ownBlock = some k) w w1 := by
 obtain ⟨v', w1, hrun, hown1, hgrow, hat⟩ := append_src (P := Tryz.prog) (xv := .slice (some ⟨w.heap.size, 0, none⟩) 1 1) (ys := [.int .i64 X]) Tryz.underlying64 infoI6 rfl (by decide) (hown.alloc (.cells #[.int .i64 X] 3)) (own_src (World.ownsRow_lit w #[.int .i64 X] 1 (Nat.zero_le _) (by decide) rfl)) (by intro u hu; simp at hu; subst hu; rfl) (by simp; omega) (by simp; omega)
 obtain ⟨g, cap, rfl⟩ := own_some hown1 (by simp)
 refine ⟨g, cap, w1, hrun, ?_, ((Only.refl _ w).alloc _).grown hgrow (fun j hj _ => hj)⟩
 have e1 : (lr ++ [X]).length = lr.length + [Value.int .i64 X].length := by simp
 have e2 : (lr ++ [X]).map (Value.int .i64) = lr.map (Value.int .i64) ++ [Value.int .i64 X] := by rw [List.map_append]; rfl
 rw [e1, e2]
 exact hown1
theorem bytes_str {w : World} {v : Value} {bs : List UInt8} (h : SrcOf w v (bs.map bV)) : (convert 28 9 v).run Tryz.prog w = .ok (.string ⟨bs.toArray⟩) w := by
 rcases h with ⟨rfl, e⟩ | ⟨a, c, rfl, hc⟩
 ·have : bs = [] := List.map_eq_nil_iff.1 e
  subst this
  exact run_convert_bytes_nil (P := Tryz.prog) w 28 5 Tryz.underlying28 Tryz.underlying5 0 0 9 Tryz.underlying9
 ·rw [List.length_map]
  refine run_convert_bytes_back (P := Tryz.prog) w 28 9 5 a c bs Tryz.underlying28 Tryz.underlying5 Tryz.underlying9 (fun j hj => ?_)
  exact hc j _ (by rw [List.getElem?_map, List.getElem?_eq_getElem hj]; rfl)
theorem str_eq (a b : List UInt8) : ((⟨a.toArray⟩ : ByteArray).toList == (⟨b.toArray⟩ : ByteArray).toList) = decide (a = b) := by
 rw [ByteArray.toList_eq, ByteArray.toList_eq]
 by_cases h : a = b <;> simp [h]
theorem equal_any {w : World} {v u : Value} {a b : List UInt8} (h : SrcOf w v (a.map bV)) (h' : SrcOf w u (b.map bV)) :
  Calls Tryz.prog 64 #[v, u] w fun e w' => w' = w ∧ ((a = b ∧ e = .returned (.bool true)) ∨ (a ≠ b ∧ e = .returned (.bool false))) := by
 have c1 := bytes_str h
 have c2 := bytes_str h'
 have hs := str_eq a b
 generalize (⟨a.toArray⟩ : ByteArray) = sa at c1 hs
 generalize (⟨b.toArray⟩ : ByteArray) = sb at c2 hs
 clear h h'
 by_cases hab : a = b
 ·have hs' : (sa.toList == sb.toList) = true := by rw [hs]; simp [hab]
  have HS := hid hab
  clear hs hab
  go_enter Tryz.func64, Tryz.ntmps64
  go_wp2
  go_ret
  exact ⟨rfl, .inl ⟨HS.out, rfl⟩⟩
 ·have hs' : (sa.toList == sb.toList) = false := by rw [hs]; simp [hab]
  have HS := hid hab
  clear hs hab
  go_enter Tryz.func64, Tryz.ntmps64
  go_wp2
  go_ret
  exact ⟨rfl, .inr ⟨HS.out, rfl⟩⟩
theorem xor_byte6 (y : UInt8) : bits .xor .u8 (y.toNat : Int) 255 = (((UInt8.ofNat (y.toNat ^^^ 255)).toNat : Nat) : Int) := by
 rw [show (255 : Int) = ((255 : Nat) : Int) from rfl, u8_xor_nat _ _ (UInt8.toNat_lt y) (by decide), UInt8.toNat_ofNat', Nat.mod_eq_of_lt (Nat.xor_lt_two_pow (n := 8) (UInt8.toNat_lt y) (by decide))]
theorem own_turn6 {w : World} {base g n cap k : Nat} {ys : List UInt8} (h : w.ownsRow base 5 1 (.slice (some ⟨g, 0, none⟩) n cap) n (ys.map bV)) (hk : k < ys.length) :
  w.cell? ⟨g, k, none⟩ = some (.int .u8 ((ys[k].toNat : Nat) : Int)) ∧ w.frozen? ⟨g, k, none⟩ = false ∧
  (w.setCell ⟨g, k, none⟩ (.int .u8 (((UInt8.ofNat (ys[k].toNat ^^^ 255)).toNat : Nat) : Int))).ownsRow base 5 1 (.slice (some ⟨g, 0, none⟩) n cap) n ((ys.set k (UInt8.ofNat (ys[k].toNat ^^^ 255))).map bV) := by
 have hn := own_len h
 rw [List.length_map] at hn
 refine ⟨?_, h.frozenAt k, ?_⟩
 ·rw [h.cellAt k (by omega), List.getElem?_map, List.getElem?_eq_getElem hk]
  rfl
 ·rw [List.map_set]
  exact (h.stored k _).1
theorem wrap_is (x : Int) : IntKind.i64.wrap x = wrap64 x := Go.IntWalk.i64_left x
end Go.Proofs.YtllfanlhgnkcfaaGreatDoor
namespace Go.Proofs.YtllfanlhgnkcfaaGreatDoor
open Go.RowKit Go.Proofs.Lys
set_option linter.unusedVariables false
theorem Tryz.infoS : (Tryz.prog.info? 53).map (fun i => (i.zero, i.size, i.bytes)) = some (some (.agg #[.int .i64 0, .int .i64 0]), 2, 16) := by kernel_rfl
def smpL : List (Int × Int) → List Value
 | [] => []
 | p :: r => .int .i64 p.1 :: .int .i64 p.2 :: smpL r
theorem smpL_len (l : List (Int × Int)) : (smpL l).length = l.length * 2 := by
 induction l with
 | nil => rfl
 | cons p r ih => rw [smpL, List.length_cons, List.length_cons, ih, List.length_cons]; omega
theorem smpL_app (l r : List (Int × Int)) : smpL (l ++ r) = smpL l ++ smpL r := by
 induction l with
 | nil => rfl
 | cons p l ih => rw [List.cons_append, smpL, ih, smpL]; rfl
theorem smpL_at (l : List (Int × Int)) (i : Nat) (h : i < l.length) : (smpL l)[i * 2]? = some (.int .i64 l[i].1) ∧ (smpL l)[i * 2 + 1]? = some (.int .i64 l[i].2) := by
 induction l generalizing i with
 | nil => simp at h
 | cons p r ih =>
  cases i with
  | zero => exact ⟨rfl, rfl⟩
  | succ i =>
   have := ih i (by simpa using h)
   rw [show (i + 1) * 2 = i * 2 + 2 by omega]
   exact this
def SmpSrc (w : World) (v : Value) (l : List (Int × Int)) : Prop :=
 (∃ a c, v = .slice a 0 c ∧ l = []) ∨
 (0 < l.length ∧ ∃ b o c, v = .slice (some ⟨b, o, none⟩) l.length c ∧ ∀ i (hi : i < l.length), w.cell? ⟨b, o + i * 2, none⟩ = some (.int .i64 l[i].1) ∧ w.cell? ⟨b, o + i * 2 + 1, none⟩ = some (.int .i64 l[i].2))
theorem SmpSrc.len {w : World} {v : Value} {l : List (Int × Int)} (h : SmpSrc w v l) : ∃ a c, v = .slice a l.length c := by
 rcases h with ⟨a, c, rfl, rfl⟩ | ⟨_, b, o, c, rfl, _⟩
 ·exact ⟨a, c, rfl⟩
 ·exact ⟨_, c, rfl⟩
theorem SmpSrc.stay {w W : World} {v : Value} {l : List (Int × Int)} (h : SmpSrc w v l) (k : Kept w W) : SmpSrc W v l := by
 have each : ∀ a u, w.cell? a = some u → W.cell? a = some u := fun a u hc => by
  rw [World.cell?_of_block (w := w) (w' := W) (a := a) (k.block a.block (World.block_lt_of_cell? w a hc) (fun f => f))]
  exact hc
 rcases h with h | ⟨h0, b, o, c, rfl, hc⟩
 ·exact .inl h
 ·exact .inr ⟨h0, b, o, c, rfl, fun i hi => ⟨each _ _ (hc i hi).1, each _ _ (hc i hi).2⟩⟩
theorem smpL_one (l : List (Int × Int)) : ∀ u ∈ smpL l, u.oneCell' = true := by
 induction l with
 | nil => intro u hu; cases hu
 | cons p r ih =>
  intro u hu
  rw [smpL] at hu
  simp only [List.mem_cons] at hu
  rcases hu with rfl | rfl | hu
  ·rfl
  ·rfl
  ·exact ih u hu
section
variable {w w' : World} {base : Nat} {e : TypeId} {z : Nat} {v : Value} {n : Nat} {xs : List Value}
theorem ownN_slice (h : w.ownsRow base e z v n xs) : ∃ a cap, v = .slice a n cap := by
 rcases h.2 with ⟨rfl, rfl⟩ | ⟨g, cap, cur, rfl, _⟩
 ·exact ⟨none, 0, rfl⟩
 ·exact ⟨_, cap, rfl⟩
theorem ownN_some (h : w.ownsRow base e z v n xs) (h0 : 0 < n) : ∃ g cap, v = .slice (some ⟨g, 0, none⟩) n cap := by
 rcases h.2 with ⟨rfl, rfl⟩ | ⟨g, cap, cur, rfl, _⟩
 ·omega
 ·exact ⟨g, cap, rfl⟩
theorem ownN_block (h : w.ownsRow base e z v n xs) (hk : ∀ k, v.ownBlock = some k → w'.heap[k]? = w.heap[k]?) : w'.ownsRow base e z v n xs := by
 rcases h with ⟨hl, hn | ⟨g, cap, cur, rfl, hb, hg, rest⟩⟩
 ·exact ⟨hl, .inl hn⟩
 ·exact ⟨hl, .inr ⟨g, cap, cur, rfl, hb, (hk g rfl).trans hg, rest⟩⟩
theorem ownN_typed (h : w.ownsRow base e z v n xs) {k : Nat} (hk : v.ownBlock = some k) : Typed w k e := by
 rcases h.2 with ⟨rfl, _⟩ | ⟨g, cap, cur, rfl, hb, hg, _⟩
 ·cases hk
 ·have : g = k := by simpa [Value.ownBlock] using hk
  subst this
  exact ⟨_, _, hg⟩
theorem ownN_lt (h : w.ownsRow base e z v n xs) {k : Nat} (hk : v.ownBlock = some k) : base ≤ k ∧ k < w.heap.size := by
 rcases h.2 with ⟨rfl, _⟩ | ⟨g, cap, cur, rfl, hb, hg, _⟩
 ·cases hk
 ·have : g = k := by simpa [Value.ownBlock] using hk
  subst this
  exact ⟨hb, (Array.getElem?_eq_some_iff.1 hg).1⟩
theorem ownN_only {O : Nat → Prop} (h : w.ownsRow base e z v n xs) (k : Only O w w') (hO : ∀ b, v.ownBlock = some b → ¬ O b) : w'.ownsRow base e z v n xs :=
 ownN_block h (fun b hb => k.block b ((ownN_lt h hb).2) (hO b hb))
theorem ownN_stay (h : w.ownsRow base e z v n xs) (k : Kept w w') : w'.ownsRow base e z v n xs := ownN_only h k (fun _ _ f => f)
theorem ownN_base (h : w.ownsRow base e z v n xs) {b' : Nat} (hb : b' ≤ base) : w.ownsRow b' e z v n xs := by
 rcases h with ⟨hl, hn | ⟨g, cap, cur, rfl, hb', hg, rest⟩⟩
 ·exact ⟨hl, .inl hn⟩
 ·exact ⟨hl, .inr ⟨g, cap, cur, rfl, Nat.le_trans hb hb', hg, rest⟩⟩
end
abbrev SmpAt (w : World) (B : Nat) (v : Value) (l : List (Int × Int)) : Prop := w.ownsRow B 53 2 v l.length (smpL l)
theorem SmpAt.src {w : World} {B : Nat} {v : Value} {l : List (Int × Int)} (h : SmpAt w B v l) : SmpSrc w v l := by
 by_cases h0 : l.length = 0
 ·have : l = [] := List.length_eq_zero_iff.1 h0
  subst this
  obtain ⟨a, c, rfl⟩ := ownN_slice h
  exact .inl ⟨a, c, rfl, rfl⟩
 ·obtain ⟨g, cap, rfl⟩ := ownN_some h (by omega)
  refine .inr ⟨by omega, g, 0, cap, rfl, fun i hi => ?_⟩
  have hx := smpL_at l i hi
  rw [Nat.zero_add]
  exact ⟨by rw [h.cellAt (i * 2) (by omega)]; exact hx.1, by rw [h.cellAt (i * 2 + 1) (by omega)]; exact hx.2⟩
theorem smp_append {w : World} {B : Nat} {v xv : Value} {l q : List (Int × Int)} (hown : SmpAt w B v l) (hsrc : SmpSrc w xv q) (hl : l.length + q.length ≤ 100000000) (hB : B ≤ w.heap.size) :
  ∃ v' w', (Builtin.append_ #[46, 46] 0 #[v, xv]).run Tryz.prog w = .ok v' w' ∧ SmpAt w' B v' (l ++ q) ∧ w.grownBy w' v.ownBlock ∧ (v'.ownBlock = v.ownBlock ∨ v'.ownBlock = some w.heap.size) := by
 obtain ⟨i0, hi0, hz0, hz1, hz2⟩ := info_parts Tryz.infoS
 have hm : l.length + q.length ≤ maxLen := by unfold maxLen; omega
 have ht := Tryz.underlying46
 have hll : (l ++ q).length = l.length + q.length := List.length_append
 have main : ∀ (a : Addr) (c : Nat), xv = .slice (some a) q.length c → (∀ j u, (smpL q)[j]? = some u → w.cell? (a.add j) = some u) → ∃ v' w', (Builtin.append_ #[46, 46] 0 #[v, xv]).run Tryz.prog w = .ok v' w' ∧ SmpAt w' B v' (l ++ q) ∧ w.grownBy w' v.ownBlock ∧ (v'.ownBlock = v.ownBlock ∨ v'.ownBlock = some w.heap.size) := by
  intro a c e hc
  subst e
  obtain ⟨v', w', hr, h2, h3, _, h5⟩ := run_append_own_at (P := Tryz.prog) w B _ 0 _ i0 _ 2 16 ht hi0 hz0 hz1 hz2 rfl (by decide) v l.length (smpL l) hown a q.length c (smpL q) (smpL_len q)
   hc (smpL_one q) hm (by omega) hB
  refine ⟨v', w', hr, ?_, h3, h5⟩
  unfold SmpAt
  rw [hll, smpL_app]
  exact h2
 rcases hsrc with ⟨a, c, rfl, rfl⟩ | ⟨h0, b, o, c, rfl, hc⟩
 ·cases a with
  | none =>
   refine ⟨v, w, ?_, by rw [List.append_nil]; exact hown, World.grownBy.refl _ _, .inl rfl⟩
   rcases hown.2 with ⟨rfl, h0⟩ | ⟨g, cap, cur, rfl, hbg, hg, hnc, hcm, hcs, htake⟩
   ·simp [Builtin.append_, run_underlying ht, sizeOf, typeInfo, hi0, Builtin.lenOf, Builtin.firstCells]
   ·simp [Builtin.append_, run_underlying ht, sizeOf, typeInfo, hi0, Builtin.lenOf, Builtin.firstCells, hnc, storeCells]
  | some a => exact main a c rfl (fun j u hu => by simp [smpL] at hu)
 ·refine main _ c rfl (fun j u hu => ?_)
  rw [add_none]
  have hj : j < (smpL q).length := (List.getElem?_eq_some_iff.1 hu).1
  rw [smpL_len] at hj
  have hx := smpL_at q (j / 2) (by omega)
  have hcc := hc (j / 2) (by omega)
  rcases Nat.mod_two_eq_zero_or_one j with hp | hp
  ·have ej : j = j / 2 * 2 := by omega
   rw [ej] at hu ⊢
   rw [hx.1] at hu
   cases hu
   exact hcc.1
  ·have ej : j = j / 2 * 2 + 1 := by omega
   rw [ej] at hu ⊢
   rw [hx.2] at hu
   cases hu
   rw [← Nat.add_assoc]
   exact hcc.2
theorem smp_lit (w : World) (p : Int × Int) : SmpSrc (w.alloc (.cells #[.int .i64 p.1, .int .i64 p.2] 53)) (.slice (some ⟨w.heap.size, 0, none⟩) 1 1) [p] := by
 have hb := Blk.new w [.int .i64 p.1, .int .i64 p.2] 53
 refine .inr ⟨by simp, w.heap.size, 0, 1, rfl, fun i hi => ?_⟩
 have : i = 0 := by simpa using hi
 subst this
 exact ⟨hb.cell 0 rfl, hb.cell 1 rfl⟩
theorem smp_step {w0 w : World} {v : Value} {l : List (Int × Int)} (hown : SmpAt w w0.heap.size v l) (hk : Kept w0 w) (p : Int × Int) (hl : l.length < 1000000) :
  ∃ g cap w', Hid ((Builtin.append_ #[46, 46] 0 #[v, .slice (some ⟨w.heap.size, 0, none⟩) 1 1]).run Tryz.prog (w.alloc (.cells #[.int .i64 p.1, .int .i64 p.2] 53)) = .ok (.slice (some ⟨g, 0, none⟩) (l.length + 1) cap) w') ∧ SmpAt w' w0.heap.size (.slice (some ⟨g, 0, none⟩) (l.length + 1) cap) (l ++ [p]) ∧ Kept w0 w' := by
 have k1 : Kept w (w.alloc (.cells #[.int .i64 p.1, .int .i64 p.2] 53)) := (Only.refl _ w).alloc _
 obtain ⟨v', w', hr, h1, h2, h3⟩ := smp_append (ownN_stay hown k1) (smp_lit w p) (by simp; omega) (Nat.le_trans hk.size k1.size)
 obtain ⟨g, cap, rfl⟩ := ownN_some h1 (by simp)
 have hn : (l ++ [p]).length = l.length + 1 := by simp
 rw [hn] at hr h1
 refine ⟨g, cap, w', hr, h1, ?_⟩
 ·exact (hk.trans k1 (fun _ _ f => f)).grown h2 (fun j hj hlt => by have := (ownN_lt hown hj).1; omega)
theorem SmpSrc.cell {w : World} {a : Option Addr} {c M : Nat} {l : List (Int × Int)} (h : SmpSrc w (.slice a M c) l) (hM : l.length = M) (k : Nat) (hk : k < M) : ∃ b o, a = some ⟨b, o, none⟩ ∧ w.cell? ⟨b, o + k * 2, none⟩ = some (Value.int .i64 (l[k]'(by omega)).1) ∧ w.cell? ⟨b, o + k * 2 + 1, none⟩ = some (.int .i64 (l[k]'(by omega)).2) := by
 rcases h with ⟨a, c, e, e2⟩ | ⟨hpos, b, o, c, e1, hc⟩
 ·subst e2
  simp at hM
  omega
 ·rw [hM] at e1
  cases e1
  exact ⟨b, o, rfl, (hc k (by omega)).1, (hc k (by omega)).2⟩
theorem smp_copy {w : World} {xv : Value} {q : List (Int × Int)} (hsrc : SmpSrc w xv q) (hl : q.length ≤ 100000) :
  ∃ a cap w', Hid ((Builtin.append_ #[46, 46] 0 #[.slice none 0 0, xv]).run Tryz.prog w = .ok (.slice a q.length cap) w') ∧ SmpAt w' w.heap.size (.slice a q.length cap) q ∧ Kept w w' := by
 obtain ⟨v', w', hr, h1, h2, h3⟩ := smp_append (w := w) (B := w.heap.size) (v := .slice none 0 0) (l := []) ⟨rfl, .inl ⟨rfl, rfl⟩⟩ hsrc (by simp; omega) (Nat.le_refl _)
 rw [List.nil_append] at h1
 obtain ⟨a, cap, rfl⟩ := ownN_slice h1
 exact ⟨a, cap, w', hr, h1, (Only.refl _ w).grown h2 (fun j hj => by cases hj)⟩
end Go.Proofs.YtllfanlhgnkcfaaGreatDoor
namespace Go.Proofs.YtllfanlhgnkcfaaGreatDoor.C
open Go.RowKit Go.Proofs.Lys
set_option linter.unusedVariables false
theorem own_num2 {w : World} {base : Nat} {vr : Value} {lr : List Int} (hown : w.ownsRow base 3 1 vr lr.length (lr.map (Value.int .i64))) (hb : base ≤ w.heap.size) (hl : lr.length ≤ 1000000) (X : Int) :
  ∃ g cap w1, Hid ((Builtin.append_ #[64, 64] 0 #[vr, .slice (some ⟨w.heap.size, 0, none⟩) 1 1]).run Tryz.prog (w.alloc (.cells #[.int .i64 X] 3)) = .ok (.slice (some ⟨g, 0, none⟩) (lr.length + 1) cap) w1) ∧ w1.ownsRow base 3 1 (.slice (some ⟨g, 0, none⟩) (lr.length + 1) cap) (lr ++ [X]).length ((lr ++ [X]).map (Value.int .i64)) ∧ Only (fun k => vr.ownBlock = some k) w w1 ∧ (vr.ownBlock = some g ∨ w.heap.size ≤ g) := by
 obtain ⟨v', w1, hrun, hown1, hgrow, hat⟩ := append_src (P := Tryz.prog) (xv := .slice (some ⟨w.heap.size, 0, none⟩) 1 1) (ys := [.int .i64 X]) Tryz.underlying64 infoI6 rfl (by decide) (hown.alloc (.cells #[.int .i64 X] 3)) (own_src (World.ownsRow_lit w #[.int .i64 X] 1 (Nat.zero_le _) (by decide) rfl)) (by intro u hu; simp at hu; subst hu; rfl) (by simp; omega) (by simp; omega)
 obtain ⟨g, cap, rfl⟩ := own_some hown1 (by simp)
 refine ⟨g, cap, w1, hrun, ?_, ((Only.refl _ w).alloc _).grown hgrow (fun j hj _ => hj), ?_⟩
 ·have e1 : (lr ++ [X]).length = lr.length + [Value.int .i64 X].length := by simp
  have e2 : (lr ++ [X]).map (Value.int .i64) = lr.map (Value.int .i64) ++ [Value.int .i64 X] := by rw [List.map_append]; rfl
  rw [e1, e2]
  exact hown1
 ·rcases hat with e | e
  ·exact .inl e.symm
  ·have : g = w.heap.size + 1 := by simpa [Value.ownBlock] using e
   exact .inr (by omega)
structure TwoN (w1 wr : World) (xs ys : List Int) (s t : Value) : Prop where
 one : wr.ownsRow w1.heap.size 3 1 s xs.length (xs.map (Value.int .i64))
 two : wr.ownsRow w1.heap.size 3 1 t ys.length (ys.map (Value.int .i64))
 kept : Kept w1 wr
 apart : ∀ j, s.ownBlock = some j → t.ownBlock ≠ some j
theorem TwoN.step {w1 wr : World} {xs ys : List Int} {s t : Value} (h : TwoN w1 wr xs ys s t) (hx : xs.length ≤ 1000) (hy : ys.length ≤ 1000) (X Y : Int) :
  ∃ g cap w2, Hid ((Builtin.append_ #[64, 64] 0 #[s, .slice (some ⟨wr.heap.size, 0, none⟩) 1 1]).run Tryz.prog (wr.alloc (.cells #[.int .i64 X] 3)) = .ok (.slice (some ⟨g, 0, none⟩) (xs.length + 1) cap) w2) ∧ Kept w1 w2 ∧
  ∃ g2 cap2 w3, Hid ((Builtin.append_ #[64, 64] 0 #[t, .slice (some ⟨w2.heap.size, 0, none⟩) 1 1]).run Tryz.prog (w2.alloc (.cells #[.int .i64 Y] 3)) = .ok (.slice (some ⟨g2, 0, none⟩) (ys.length + 1) cap2) w3) ∧
  TwoN w1 w3 (xs ++ [X]) (ys ++ [Y]) (.slice (some ⟨g, 0, none⟩) (xs.length + 1) cap) (.slice (some ⟨g2, 0, none⟩) (ys.length + 1) cap2) := by
 obtain ⟨g, cap, w2, Hr, o2, k2, n2⟩ := own_num2 h.one h.kept.size (by omega) X
 have hlow : ∀ j, s.ownBlock = some j → w1.heap.size ≤ j := fun j hj => (h.one.lt j hj).1
 have hlow2 : ∀ j, t.ownBlock = some j → w1.heap.size ≤ j ∧ j < wr.heap.size := fun j hj => h.two.lt j hj
 have kk2 : Kept w1 w2 := h.kept.trans k2 (fun j hj e => by have := hlow j e; omega)
 have ht2 := own_only h.two k2 (fun j hj e => h.apart j e hj)
 obtain ⟨g2, cap2, w3, Hr2, o3, k3, n3⟩ := own_num2 ht2 kk2.size (by omega) Y
 refine ⟨g, cap, w2, Hr, kk2, g2, cap2, w3, Hr2, ?_, o3, kk2.trans k3 (fun j hj e => by have := (hlow2 j e).1; omega), ?_⟩
 ·refine own_only o2 k3 (fun j hj e => ?_)
  have hj' : g = j := by simpa [Value.ownBlock] using hj
  subst hj'
  rcases n2 with e2 | e2
  ·exact h.apart g e2 e
  ·have := (hlow2 g e).2
   omega
 ·intro j hj hj2
  have h1 : g = j := by simpa [Value.ownBlock] using hj
  have h2 : g2 = j := by simpa [Value.ownBlock] using hj2
  have hg : g < w2.heap.size := (o2.lt g rfl).2
  have e : g = g2 := h1.trans h2.symm
  rcases n3 with e3 | e3
  ·rcases n2 with e2 | e2
   ·exact h.apart g e2 (by rw [e]; exact e3)
   ·have := (hlow2 g2 e3).2
    omega
  ·omega
set_option maxRecDepth 100000 in
set_option maxHeartbeats 1600000 in
theorem parts_any (w : World) (v : Value) (l : Smps) (hs : SmpSrc w v l) (hl : l.length ≤ 1000) :
  Calls Tryz.prog 55 #[v] w fun e w' => ∃ s t, e = .returned (.tuple #[s, t]) ∧ TwoN w w' (l.map (·.1)) (l.map (·.2)) s t := by
 obtain ⟨a0, c0, e0⟩ := hs.len
 obtain ⟨L, hL⟩ : ∃ L, l.length = L := ⟨_, rfl⟩
 rw [hL] at e0 hl
 subst e0
 have HS := hid hs
 have HL := hid hL
 clear hs hL
 go_enter Tryz.func55, Tryz.ntmps55
 go_wp2_with fail
 go_loopw [4, 5, 6] (fun s t i wr => ∃ (k : Nat), k ≤ L ∧ i = .int .i64 (k : Int) ∧ TwoN w wr ((l.take k).map (·.1)) ((l.take k).map (·.2)) s t) (fun _ _ i _ => L - (intOf i).toNat)
 case atStart => exact ⟨0, by omega, rfl, World.ownsRow_nil _ _ _ _, World.ownsRow_nil _ _ _ _, Only.refl _ _, fun j hj => by cases hj⟩
 case round =>
  obtain ⟨k, hk, rfl, hT⟩ := hrel
  by_cases hlt : k < L
  ·have hkl : k < l.length := by have := HL.out; omega
   have hlen : (l.take k).length = k := by rw [List.length_take]; omega
   obtain ⟨b, o, rfl, x0, x1⟩ := (HS.out.stay hT.kept).cell HL.out k hlt
   have eX : (l.take (k + 1)).map (·.1) = (l.take k).map (·.1) ++ [l[k].1] := by rw [List.take_succ_eq_append_getElem hkl, List.map_append]; rfl
   have eY : (l.take (k + 1)).map (·.2) = (l.take k).map (·.2) ++ [l[k].2] := by rw [List.take_succ_eq_append_getElem hkl, List.map_append]; rfl
   obtain ⟨X, hX⟩ : ∃ X, l[k].1 = X := ⟨_, rfl⟩
   obtain ⟨Y, hY⟩ : ∃ Y, l[k].2 = Y := ⟨_, rfl⟩
   rw [hX] at x0 eX
   rw [hY] at x1 eY
   obtain ⟨g, cap, w2, Hr, kk2, g2, cap2, w3, Hr2, hT3⟩ := hT.step (by rw [List.length_map, hlen]; omega) (by rw [List.length_map, hlen]; omega) X Y
   obtain ⟨b', o', e', _, y1⟩ := (HS.out.stay kk2).cell HL.out k hlt
   cases e'
   rw [hY] at y1
   rw [← eX, ← eY] at hT3
   simp only [List.length_map, hlen] at Hr Hr2 hT3
   have HT3 := hid hT3
   clear hT3 hT hX hY eX eY kk2 hlen hkl
   go_wp2_with (at_builtin; first | refine wpList_append_run rfl _ _ _ rfl rfl rfl Hr ?_ | refine wpList_append_run rfl _ _ _ rfl rfl rfl Hr2 ?_)
   go_roundw
   case rel => exact ⟨k + 1, by omega, by go_num, HT3.out⟩
   case measure => simp [intOf]; omega
  ·have e : k = L := by omega
   have HE : Hid (TwoN w wr (l.map (·.1)) (l.map (·.2)) u4 u5) := by
    have h2 := hT
    rw [List.take_of_length_le (by have := HL.out; omega)] at h2
    exact h2
   clear hT
   go_wp2_with fail
   go_ret2
   exact ⟨_, _, rfl, HE.out⟩
end Go.Proofs.YtllfanlhgnkcfaaGreatDoor.C
namespace Go.Proofs.YtllfanlhgnkcfaaGreatDoor.V
open Go.RowKit Go.Proofs.Lys
set_option linter.unusedVariables false
structure PkAt (w : World) (b : Nat) (W : Win) (v : Value) (l : List Bool) : Prop where
 blk : Blk w b [.int .i64 (W.z : Int), .int .i64 (W.t : Int), v, .int .i64 (l.length : Int), .bool W.o] 180
 own : w.ownsRow 0 5 1 v ((l.length + 7) / 8) ((packL l).map bV)
theorem PkAt.only {w w' : World} {O : Nat → Prop} {b : Nat} {W : Win} {v : Value} {l : List Bool} (h : PkAt w b W v l) (k : Only O w w') (hb : ¬ O b) (hv : ∀ j, v.ownBlock = some j → ¬ O j) : PkAt w' b W v l := ⟨k.blk h.blk hb, own_only h.own k hv⟩
theorem PkAt.new (w : World) : PkAt (w.alloc (.cells #[.int .i64 0, .int .i64 0, .slice none 0 0, .int .i64 0, .bool false] 180)) w.heap.size W0 (.slice none 0 0) [] := ⟨Blk.new w [.int .i64 0, .int .i64 0, .slice none 0 0, .int .i64 0, .bool false] _, World.ownsRow_nil _ _ _ _⟩
theorem PkAt.src {w : World} {b : Nat} {W : Win} {v : Value} {l : List Bool} (h : PkAt w b W v l) : SrcOf w v ((packL l).map bV) := own_src h.own
theorem PkAt.apart {w : World} {b : Nat} {W : Win} {v : Value} {l : List Bool} (h : PkAt w b W v l) {j : Nat} (hj : v.ownBlock = some j) : j ≠ b := (own_typed h.own hj).ne h.blk.typed (by decide)
theorem pk_put {w : World} {b : Nat} {W : Win} {v : Value} {l : List Bool} (h : PkAt w b W v l) (x N : Int) (n : Nat) (hN : (N < 0 ∧ n = 0) ∨ (64 < N ∧ n = 64) ∨ (N = n ∧ n ≤ 64)) (hl : l.length ≤ 1000000) :
  Calls Tryz.prog 117 #[.pointer (some ⟨b, 2, none⟩), .int .i64 x, .int .i64 N] w fun e w' => e = .returned (.tuple #[]) ∧ ∃ v', PkAt w' b W v' (l ++ bitsL (uN x) n) ∧ Only (Foot b v) w w' ∧ ∀ k, v'.ownBlock = some k → v.ownBlock = some k ∨ w.heap.size ≤ k := by
 refine (pput_any w b v l x N n hN ⟨rfl, h.blk, h.own, Only.refl _ _, fun k hk => .inl hk⟩ hl).mono ?_
 rintro e w' ⟨rfl, v', hi⟩
 have e2 : (l ++ bitsL (uN x) n).length = l.length + n := by rw [List.length_append, bitsL_length]
 refine ⟨rfl, v', ⟨?_, ?_⟩, hi.only, hi.new⟩
 ·rw [e2]; exact hi.blk
 ·rw [e2]; exact hi.own
theorem pbytes_any (w : World) (b : Nat) (za zb v X op : Value) (bs : List UInt8) (h : Blk w b [za, zb, v, X, op] 180) (hs : SrcOf w v (bs.map bV)) (hl : bs.length ≤ 100000000) :
  Calls Tryz.prog 119 #[.pointer (some ⟨b, 2, none⟩)] w fun e w' => ∃ v, e = .returned v ∧ w'.ownsRow w.heap.size 5 1 v bs.length (bs.map bV) ∧ Kept w w' := by
 have c1 := h.cell 2 rfl
 go_enter Tryz.func119, Tryz.ntmps119
 go_wp2_with fail
 refine (clone_any w v bs hs hl).mono ?_
 rintro e w' ⟨v', rfl, ho, hk⟩
 go_wp2_with fail
 go_ret
 exact ⟨_, rfl, ho, hk⟩
theorem foot_two {w w1 w2 w3 : World} {b : Nat} {v v1 : Value} (h0 : Kept w w1) (h1 : Only (Foot b v) w1 w2) (hn : ∀ k, v1.ownBlock = some k → v.ownBlock = some k ∨ w1.heap.size ≤ k) (h2 : Only (Foot b v1) w2 w3) : Only (Foot b v) w w3 := by
 refine ((h0.mono (fun _ _ f => f.elim)).trans h1 (fun _ _ e => e)).trans h2 (fun j hj e => ?_)
 rcases e with e | e
 ·exact .inl e
 ·rcases hn j e with e' | e'
  ·exact .inr e'
  ·have := h0.size
   omega
structure PkS (w : World) (b : Nat) (v0 : Value) (wr : World) (W : Win) (v : Value) (l : List Bool) : Prop where
 at_ : PkAt wr b W v l
 only : Only (Foot b v0) w wr
 new : ∀ k, v.ownBlock = some k → v0.ownBlock = some k ∨ w.heap.size ≤ k
theorem PkS.put {w wr w' : World} {b : Nat} {v0 v v' : Value} {W W' : Win} {l l' : List Bool} (h : PkS w b v0 wr W v l) (hw : PkAt w' b W' v' l') (ho : Only (Foot b v) wr w') (hn : ∀ k, v'.ownBlock = some k → v.ownBlock = some k ∨ wr.heap.size ≤ k) : PkS w b v0 w' W' v' l' := by
 have hs := h.only.size
 refine ⟨hw, h.only.trans ho (fun j hj e => ?_), fun j hj => ?_⟩
 ·rcases e with e | e
  ·exact .inl e
  ·rcases h.new j e with e' | e'
   ·exact .inr e'
   ·omega
 ·rcases hn j hj with e | e
  ·exact h.new j e
  ·exact .inr (by omega)
theorem PkS.stay {w wr w' : World} {b : Nat} {v0 v : Value} {W : Win} {l : List Bool} (h : PkS w b v0 wr W v l) (hk : Kept wr w') : PkS w b v0 w' W v l :=
 h.put (h.at_.only hk (fun f => f) (fun _ _ f => f)) (hk.mono (fun _ _ f => f.elim)) (fun k hk => .inl hk)
theorem PkAt.start {w : World} {b : Nat} {v : Value} {W : Win} {l : List Bool} (h : PkAt w b W v l) : PkS w b v w W v l := ⟨h, Only.refl _ _, fun k hk => .inl hk⟩
structure PkIn (w : World) (B : Nat) (wr : World) (W : Win) (vw : Value) (lw : List Bool) : Prop where
 at_ : PkAt wr B W vw lw
 kept : Kept w wr
 new : w.heap.size ≤ B
 row : ∀ j, vw.ownBlock = some j → w.heap.size ≤ j
theorem PkIn.put {w wr w' : World} {B : Nat} {W W' : Win} {vw v' : Value} {lw lw' : List Bool} (h : PkIn w B wr W vw lw) (hw : PkAt w' B W' v' lw') (ho : Only (Foot B vw) wr w') (hn : ∀ k, v'.ownBlock = some k → vw.ownBlock = some k ∨ wr.heap.size ≤ k) : PkIn w B w' W' v' lw' := by
 have hs := h.kept.size
 refine ⟨hw, h.kept.trans ho (fun j hj e => ?_), h.new, fun j hj => ?_⟩
 ·have := h.new
  rcases e with e | e
  ·omega
  ·have := h.row j e
   omega
 ·rcases hn j hj with e | e
  ·exact h.row j e
  ·omega
theorem PkIn.drew {w wr : World} {B : Nat} {W : Win} {vw : Value} {lw : List Bool} (h : PkIn w B wr W vw lw) : PkIn w B wr.drew W vw lw :=
 ⟨h.at_.only (Only.drew (Only.refl (fun _ => False) wr)) (fun f => f) (fun _ _ f => f), h.kept.drew, h.new, h.row⟩
end Go.Proofs.YtllfanlhgnkcfaaGreatDoor.V
namespace Go.Proofs.YtllfanlhgnkcfaaGreatDoor.C
open Go.RowKit Go.Proofs.Lys
set_option linter.unusedVariables false
theorem TwoN.alloc {w1 wr : World} {xs ys : List Int} {s t : Value} (h : TwoN w1 wr xs ys s t) (o : Obj) : TwoN w1 (wr.alloc o) xs ys s t :=
 ⟨h.one.alloc o, h.two.alloc o, h.kept.alloc o, h.apart⟩
theorem TwoN.beside {w1 wr : World} {xs ys : List Int} {s t : Value} (h : TwoN w1 wr xs ys s t) (hx : xs.length ≤ 1000) (hy : ys.length ≤ 1000) (X Y : Int) {b : Nat} (hb : Blk wr b [.int .i64 X, .int .i64 Y] 53) :
  ∃ g cap w2, Hid ((Builtin.append_ #[64, 64] 0 #[s, .slice (some ⟨wr.heap.size, 0, none⟩) 1 1]).run Tryz.prog (wr.alloc (.cells #[.int .i64 X] 3)) = .ok (.slice (some ⟨g, 0, none⟩) (xs.length + 1) cap) w2) ∧ w2.cell? ⟨b, 1, none⟩ = some (.int .i64 Y) ∧
  ∃ g2 cap2 w3, Hid ((Builtin.append_ #[64, 64] 0 #[t, .slice (some ⟨w2.heap.size, 0, none⟩) 1 1]).run Tryz.prog (w2.alloc (.cells #[.int .i64 Y] 3)) = .ok (.slice (some ⟨g2, 0, none⟩) (ys.length + 1) cap2) w3) ∧
  TwoN w1 w3 (xs ++ [X]) (ys ++ [Y]) (.slice (some ⟨g, 0, none⟩) (xs.length + 1) cap) (.slice (some ⟨g2, 0, none⟩) (ys.length + 1) cap2) := by
 obtain ⟨g, cap, w2, Hr, o2, k2, n2⟩ := own_num2 h.one h.kept.size (by omega) X
 have hlow : ∀ j, s.ownBlock = some j → w1.heap.size ≤ j := fun j hj => (h.one.lt j hj).1
 have hlow2 : ∀ j, t.ownBlock = some j → w1.heap.size ≤ j ∧ j < wr.heap.size := fun j hj => h.two.lt j hj
 have kk2 : Kept w1 w2 := h.kept.trans k2 (fun j hj e => by have := hlow j e; omega)
 have ht2 := own_only h.two k2 (fun j hj e => h.apart j e hj)
 have hb2 : Blk w2 b [.int .i64 X, .int .i64 Y] 53 := k2.blk hb (fun e => (own_typed h.one e).ne hb.typed (by decide) rfl)
 obtain ⟨g2, cap2, w3, Hr2, o3, k3, n3⟩ := own_num2 ht2 kk2.size (by omega) Y
 refine ⟨g, cap, w2, Hr, hb2.cell 1 rfl, g2, cap2, w3, Hr2, ?_, o3, kk2.trans k3 (fun j hj e => by have := (hlow2 j e).1; omega), ?_⟩
 ·refine own_only o2 k3 (fun j hj e => ?_)
  have hj' : g = j := by simpa [Value.ownBlock] using hj
  subst hj'
  rcases n2 with e2 | e2
  ·exact h.apart g e2 e
  ·have := (hlow2 g e).2
   omega
 ·intro j hj hj2
  have h1 : g = j := by simpa [Value.ownBlock] using hj
  have h2 : g2 = j := by simpa [Value.ownBlock] using hj2
  have hg : g < w2.heap.size := (o2.lt g rfl).2
  have e : g = g2 := h1.trans h2.symm
  rcases n3 with e3 | e3
  ·rcases n2 with e2 | e2
   ·exact h.apart g e2 (by rw [e]; exact e3)
   ·have := (hlow2 g2 e3).2
    omega
  ·omega
set_option maxRecDepth 100000 in
set_option maxHeartbeats 1600000 in
theorem apart_any (w : World) (v : Value) (l : Smps) (hs : SmpSrc w v l) (hl : l.length ≤ 1000) :
  Calls Tryz.prog 100 #[v] w fun e w' => ∃ s t, e = .returned (.tuple #[s, t]) ∧ TwoN w w' (l.map (·.1)) (l.map (·.2)) s t := by
 obtain ⟨a0, c0, e0⟩ := hs.len
 obtain ⟨L, hL⟩ : ∃ L, l.length = L := ⟨_, rfl⟩
 rw [hL] at e0 hl
 subst e0
 have HS := hid hs
 have HL := hid hL
 clear hs hL
 go_enter Tryz.func100, Tryz.ntmps100
 go_wp2_with fail
 go_loopw [2, 3, 8] (fun s t i wr => ∃ (k : Nat), k ≤ L ∧ i = .int .i64 (k : Int) ∧ TwoN w wr ((l.take k).map (·.1)) ((l.take k).map (·.2)) s t) (fun _ _ i _ => L - (intOf i).toNat)
 case atStart => exact ⟨0, by omega, rfl, World.ownsRow_nil _ _ _ _, World.ownsRow_nil _ _ _ _, Only.refl _ _, fun j hj => by cases hj⟩
 case round =>
  obtain ⟨k, hk, rfl, hT⟩ := hrel
  by_cases hlt : k < L
  ·have hkl : k < l.length := by have := HL.out; omega
   have hlen : (l.take k).length = k := by rw [List.length_take]; omega
   obtain ⟨b, o, rfl, x0, x1⟩ := (HS.out.stay hT.kept).cell HL.out k hlt
   have eX : (l.take (k + 1)).map (·.1) = (l.take k).map (·.1) ++ [l[k].1] := by rw [List.take_succ_eq_append_getElem hkl, List.map_append]; rfl
   have eY : (l.take (k + 1)).map (·.2) = (l.take k).map (·.2) ++ [l[k].2] := by rw [List.take_succ_eq_append_getElem hkl, List.map_append]; rfl
   obtain ⟨X, hX⟩ : ∃ X, l[k].1 = X := ⟨_, rfl⟩
   obtain ⟨Y, hY⟩ : ∃ Y, l[k].2 = Y := ⟨_, rfl⟩
   rw [hX] at x0 eX
   rw [hY] at x1 eY
   obtain ⟨g, cap, w2, Hr, y1, g2, cap2, w3, Hr2, hT3⟩ := (hT.alloc (.cells #[.int .i64 X, .int .i64 Y] 53)).beside (by rw [List.length_map, hlen]; omega) (by rw [List.length_map, hlen]; omega) X Y (Blk.new wr [.int .i64 X, .int .i64 Y] 53)
   rw [← eX, ← eY] at hT3
   simp only [List.length_map, hlen, World.size_alloc] at Hr Hr2 hT3
   have HT3 := hid hT3
   clear hT3 hT hX hY eX eY hlen hkl
   go_wp2_with (at_builtin; first | refine wpList_append_run rfl _ _ _ rfl rfl rfl Hr ?_ | refine wpList_append_run rfl _ _ _ rfl rfl rfl Hr2 ?_)
   go_roundw
   case rel => exact ⟨k + 1, by omega, by go_num, HT3.out⟩
   case measure => simp [intOf]; omega
  ·have e : k = L := by omega
   have HE : Hid (TwoN w wr (l.map (·.1)) (l.map (·.2)) u2 u3) := by
    have h2 := hT
    rw [List.take_of_length_le (by have := HL.out; omega)] at h2
    exact h2
   clear hT
   go_wp2_with fail
   go_ret2
   exact ⟨_, _, rfl, HE.out⟩
end Go.Proofs.YtllfanlhgnkcfaaGreatDoor.C
