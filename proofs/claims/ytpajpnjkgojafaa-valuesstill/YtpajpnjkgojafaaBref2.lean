/-
  The document's own bits: their bytes; the bits of bytes; its own reader.
-/
import Derived.Test.YtpajpnjkgojafaaBref
namespace Go.Proofs.Ytpajpnjkgojafaa
open Go.RowKit Go.Proofs.Lys
set_option linter.unusedVariables false

theorem mod_small (q : Nat) (h : q < 256) : (q : Int) % 256 = (q : Int) := by omega
theorem made_zero (K : Nat) : (madeCells #[Value.int .u8 0] K).toList = (packK [] K).map bV := by
  rw [packK_none]
  apply List.ext_getElem?
  intro i
  by_cases h : i < K
  · simp [madeCells, h, bV, Nat.mod_one]
  · rw [List.getElem?_eq_none (by simp [size_madeCells]; omega), List.getElem?_eq_none (by simp; omega)]

set_option maxRecDepth 100000 in
set_option maxHeartbeats 1600000 in
theorem rbytes_any (w : World) (b : Nat) (v : Value) (l : List Bool) (h : Blk w b [v] 52) (hown : w.ownsRow 0 4 1 v l.length (l.map tV)) (hl : l.length ≤ 1000000) :
    Calls Try.prog 18 #[.pointer (some ⟨b, 0, none⟩)] w fun e w' => ∃ v', e = .returned v' ∧ w'.ownsRow w.heap.size 5 1 v' ((l.length + 7) / 8) ((packL l).map bV) ∧ Kept w w' := by
  obtain ⟨i0, hi0, hz0, hz1, hz2⟩ := info_parts Try.infoB
  obtain ⟨L, hL⟩ : ∃ L, l.length = L := ⟨_, rfl⟩
  obtain ⟨K, hK⟩ : ∃ K, (L + 7) / 8 = K := ⟨_, rfl⟩
  have e1 : ((L : Int) + 7) / 8 = (K : Int) := by omega
  have hmk : ∀ w, (Instr.makeSlice 24 (.int .i64 (K : Int)) (.int .i64 (K : Int))).run Try.prog w = .ok (.slice (some ⟨w.heap.size, 0, none⟩) K K) (w.alloc (.cells (madeCells #[Value.int .u8 0] K) 5)) := fun w => by
    have := run_make (P := Try.prog) w 24 5 i0 (.int .u8 0) Try.underlying24 hi0 hz0 .i64 .i64 (K : Int) (K : Int) (by omega) (by omega) (by rw [hz2]; omega) (by omega)
    rw [hz1] at this
    simp only [Int.toNat_natCast, Nat.mul_one] at this
    exact this
  rw [hL] at hown hl ⊢
  rw [hK]
  obtain ⟨a, c, rfl⟩ := own_slice hown
  have c0 := h.cell 0 rfl
  have HO := hid hown
  have HP : Hid (packL l = packK l K) := by show _ = _; unfold packL; rw [hL, hK]
  have hlb := h.lt
  have HBk := hid h
  have HL := hid hL
  have hK0 : K ≤ 1000000 := by omega
  have hKL : 8 * K ≥ L := by omega
  clear hown h hL hK
  go_enter Try.func18, Try.ntmps18
  go_wp2
  go_loopw [4] (fun t wr => ∃ k : Nat, k ≤ L ∧ t = .int .i64 (k : Int) ∧ wr.ownsRow w.heap.size 5 1 (.slice (some ⟨w.heap.size, 0, none⟩) K K) K ((packK (l.take k) K).map bV) ∧ Kept w wr) (fun t _ => L - (intOf t).toNat)
  case atStart =>
    refine ⟨0, by omega, rfl, ?_, (Only.refl _ w).alloc _⟩
    rw [List.take_zero, ← made_zero]
    exact World.ownsRow_lit w _ K (Nat.le_refl _) (by unfold maxLen; omega) (by rw [size_madeCells]; omega)
  case round =>
    obtain ⟨k, hk, rfl, hro, hkept⟩ := hrel
    have hbk := hkept.blk HBk.out (fun f => f)
    have r0 := hbk.cell 0 rfl
    clear hbk
    by_cases hlt : k < L
    · have hO := own_only HO.out hkept (fun _ _ f => f)
      obtain ⟨g, cap, hg⟩ := own_some hO (by omega)
      cases hg
      have hkl : k < l.length := by have := HL.out; omega
      have hc : wr.cell? ⟨g, k, none⟩ = some (.bool l[k]) := by
        rw [hO.cellAt k (by omega), List.getElem?_map, List.getElem?_eq_getElem hkl]
        rfl
      obtain ⟨B, hB⟩ : ∃ B, l[k] = B := ⟨_, rfl⟩
      rw [hB] at hc
      have HB := hid hB
      clear hB hO
      cases B with
      | false =>
        have HR := hid hro
        have HKp := hid hkept
        clear hro hkept
        go_wp2
        go_roundw
        case rel =>
          refine ⟨k + 1, by omega, by go_num, ?_, HKp.out⟩
          rw [packK_take_no l k K hkl HB.out]
          exact HR.out
        case measure => simp [intOf]; omega
      | true =>
        obtain ⟨kk, e2⟩ : ∃ q : Nat, (k : Int) / 8 = (q : Int) := ⟨k / 8, by omega⟩
        obtain ⟨sh, e3⟩ : ∃ q : Nat, 7 - (k : Int) % 8 = (q : Int) := ⟨7 - k % 8, by omega⟩
        have sh1 : sh ≤ 7 := by omega
        have hkK : kk < K := by omega
        have hb : wr.cell? ⟨w.heap.size, kk, none⟩ = some (.int .u8 ((byteB (l.take k) kk : Nat) : Int)) := by
          rw [hro.cellAt kk (by omega), List.getElem?_map, packK_get _ hkK]
          show some (bV _) = _
          unfold bV
          rw [UInt8.toNat_ofNat', Nat.mod_eq_of_lt (byteB_lt _ _)]
        have hf := hro.frozenAt kk
        have hst := (hro.stored kk (.int .u8 ((byteB (l.take k) kk ||| 2 ^ sh : Nat) : Int))).1
        have HST := hid hst
        have hsh : 2 ^ sh < 256 := Nat.pow_lt_pow_right (by decide) (show sh < 8 by omega)
        have hor : bits .or .u8 ((byteB (l.take k) kk : Nat) : Int) (2 ^ sh % 256) = ((byteB (l.take k) kk ||| 2 ^ sh : Nat) : Int) := by
          have e4 : (2 : Int) ^ sh % 256 = ((2 ^ sh : Nat) : Int) := by
            rw [show (2 : Int) ^ sh = ((2 ^ sh : Nat) : Int) by simp]
            exact mod_small _ hsh
          rw [e4]
          exact u8_or_nat _ _ (byteB_lt _ _) hsh
        have HKp := hid hkept
        clear hst hro hkept
        go_wp2
        go_roundw
        case rel =>
          refine ⟨k + 1, by omega, by go_num, ?_, HKp.out.setCell (fun hlt => absurd hlt (by simp)) _⟩
          rw [packK_take_yes l k K kk sh hkl (by omega) HB.out (by omega) (by omega), List.map_set]
          have e : bV (UInt8.ofNat (byteB (l.take k) kk ||| 2 ^ sh)) = .int .u8 ((byteB (l.take k) kk ||| 2 ^ sh : Nat) : Int) := by
            unfold bV
            rw [UInt8.toNat_ofNat', Nat.mod_eq_of_lt (Nat.or_lt_two_pow (n := 8) (byteB_lt _ _) hsh)]
          rw [e]
          exact HST.out
        case measure => simp [intOf]; omega
    · have HE : Hid (wr.ownsRow w.heap.size 5 1 (.slice (some ⟨w.heap.size, 0, none⟩) K K) K ((packL l).map bV)) := by
        rw [HP.out]
        rw [List.take_of_length_le (by have := HL.out; omega)] at hro
        exact hro
      have HKp := hid hkept
      clear hro hkept
      go_wp2
      go_ret
      exact ⟨_, rfl, HE.out, HKp.out⟩

/-- One bit more of a row that is owned. -/
theorem own_bit {w : World} {base : Nat} {vr : Value} {lr : List Bool} (hown : w.ownsRow base 4 1 vr lr.length (lr.map tV)) (hb : base ≤ w.heap.size) (hl : lr.length ≤ 100000000) (B : Bool) :
    ∃ g cap w1, Hid ((Builtin.append_ #[50, 50] 0 #[vr, .slice (some ⟨w.heap.size, 0, none⟩) 1 1]).run Try.prog (w.alloc (.cells #[.bool B] 4)) = .ok (.slice (some ⟨g, 0, none⟩) (lr.length + 1) cap) w1) ∧ w1.ownsRow base 4 1 (.slice (some ⟨g, 0, none⟩) (lr.length + 1) cap) (lr ++ [B]).length ((lr ++ [B]).map tV) ∧ Only (fun k => vr.ownBlock = some k) w w1 := by
  obtain ⟨v', w1, hrun, hown1, hgrow, hat⟩ := append_src (P := Try.prog) (xv := .slice (some ⟨w.heap.size, 0, none⟩) 1 1) (ys := [.bool B]) Try.underlying50 Try.infoT rfl (by decide) (hown.alloc (.cells #[.bool B] 4)) (own_src (World.ownsRow_lit w #[.bool B] 1 (Nat.zero_le _) (by decide) rfl)) (by intro u hu; simp at hu; subst hu; rfl) (by simp; omega) (by simp; omega)
  obtain ⟨g, cap, rfl⟩ := own_some hown1 (by simp)
  refine ⟨g, cap, w1, hrun, ?_, ((Only.refl _ w).alloc _).grown hgrow (fun j hj _ => hj)⟩
  have e1 : (lr ++ [B]).length = lr.length + [Value.bool B].length := by simp
  have e2 : (lr ++ [B]).map tV = lr.map tV ++ [Value.bool B] := by simp [tV]
  rw [e1, e2]
  exact hown1

theorem and_one8 (U k : Nat) (hU : U < 256) : (bits .and .u8 ((U : Int) / 2 ^ k) 1 == 1) = U.testBit k := by
  have e : (U : Int) / 2 ^ k = ((U / 2 ^ k : Nat) : Int) := by simp
  have hlt : U / 2 ^ k < 256 := Nat.lt_of_le_of_lt (Nat.div_le_self _ _) hU
  have h2 := u8_and_nat (U / 2 ^ k) 1 hlt (by decide)
  rw [e, show ((1 : Int)) = ((1 : Nat) : Int) from rfl, h2, Nat.and_one_is_mod, ← Nat.shiftRight_eq_div_pow]
  have h3 : U.testBit k = (U >>> k % 2 != 0) := by
    unfold Nat.testBit
    rw [Nat.and_comm, Nat.and_one_is_mod]
  rw [h3]
  rcases Nat.mod_two_eq_zero_or_one (U >>> k) with h4 | h4 <;> rw [h4] <;> rfl

theorem of_none (w : World) (a : Option Addr) (c : Nat) :
    Calls Try.prog 21 #[.slice a 0 c] w fun e w' => e = .returned (.slice none 0 0) ∧ w' = w := by
  go_enter Try.func21, Try.ntmps21
  go_wp2
  refine wp_loop_rounds 1 ?_
  rw [rounds_succ]
  go_wp2
  go_ret
  exact ⟨rfl, rfl⟩

set_option maxRecDepth 100000 in
set_option maxHeartbeats 1600000 in
theorem of_some (w : World) (b o c : Nat) (bs : List UInt8) (hc : ∀ j u, bs[j]? = some u → w.cell? ⟨b, o + j, none⟩ = some (bV u)) (hl : bs.length ≤ 1000000) :
    Calls Try.prog 21 #[.slice (some ⟨b, o, none⟩) bs.length c] w fun e w' => ∃ v, e = .returned v ∧ w'.ownsRow w.heap.size 4 1 v (8 * bs.length) ((unpackL bs).map tV) ∧ Kept w w' := by
  obtain ⟨L, hL⟩ : ∃ L, bs.length = L := ⟨_, rfl⟩
  rw [hL] at hl ⊢
  have HL := hid hL
  have HC := hid hc
  clear hL hc
  go_enter Try.func21, Try.ntmps21
  go_wp2
  go_loopw [3, 4] (fun v t wr => ∃ j : Nat, j ≤ L ∧ t = .int .i64 (j : Int) ∧ wr.ownsRow w.heap.size 4 1 v (unpackL (bs.take j)).length ((unpackL (bs.take j)).map tV) ∧ Kept w wr) (fun _ t _ => L - (intOf t).toNat)
  case atStart => exact ⟨0, by omega, rfl, World.ownsRow_nil _ _ _ _, Only.refl _ _⟩
  case round =>
    obtain ⟨j, hj, rfl, hown, hkept⟩ := hrel
    by_cases hlt : j < L
    · have hjl : j < bs.length := by have := HL.out; omega
      obtain ⟨B, hB⟩ : ∃ B : Nat, bs[j].toNat = B := ⟨_, rfl⟩
      have hB1 : B < 256 := by rw [← hB]; exact UInt8.toNat_lt _
      have hcell := HC.out j bs[j] (List.getElem?_eq_getElem hjl)
      have hblt := World.block_lt_of_cell? w _ hcell
      have HT : Hid (unpackL (bs.take (j + 1)) = unpackL (bs.take j) ++ bitsL B 8) := by
        show _ = _
        rw [List.take_succ_eq_append_getElem hjl, unpackL_append, ← hB]
        simp [unpackL]
      have hcell' : Hid (w.cell? ⟨b, o + j, none⟩ = some (.int .u8 (B : Int))) := by
        rw [← hB]
        exact hcell
      have hll : (unpackL (bs.take j)).length = 8 * j := by rw [unpackL_length, List.length_take]; omega
      clear hB hcell
      generalize unpackL (bs.take j) = lj at hown HT hll
      have HO := hid hown
      have HKp := hid hkept
      clear hown hkept
      go_wp2
      go_loopw [3, 5] (fun v t wq => ∃ (m : Nat) (z : Int) (lr : List Bool), m ≤ 8 ∧ z = (m : Int) - 1 ∧ t = .int .i64 z ∧ lr.length + m = 8 * j + 8 ∧ wq.ownsRow w.heap.size 4 1 v lr.length (lr.map tV) ∧ Kept w wq ∧ lr ++ bitsL B m = lj ++ bitsL B 8) (fun _ t _ => (intOf t + 1).toNat)
      case atStart => exact ⟨8, _, lj, by omega, rfl, by go_num, by omega, HO.out, HKp.out, rfl⟩
      case round =>
        obtain ⟨m, z, lr, hm, hz, rfl, hLm, hown, hkept, hbits⟩ := hrel
        have HB := hid hbits
        clear hbits
        by_cases h0 : m = 0
        · subst h0
          have HR := hid hown
          have HK2 := hid hkept
          clear hown hkept
          have hz0 : z < 0 := by omega
          clear hz
          go_wp2
          go_roundw
          case rel =>
            refine ⟨j + 1, by omega, by go_num, ?_, HK2.out⟩
            have := HB.out
            rw [bitsL_zero, List.append_nil] at this
            rw [HT.out, ← this]
            exact HR.out
          case measure => simp [intOf]; omega
        · obtain ⟨k, rfl⟩ : ∃ k, m = k + 1 := ⟨m - 1, by omega⟩
          obtain rfl : z = (k : Int) := by omega
          have hbit := and_one8 B k hB1
          obtain ⟨T, hT⟩ : ∃ T, B.testBit k = T := ⟨_, rfl⟩
          have HBt := hid hT
          rw [hT] at hbit
          clear hT
          obtain ⟨g, cap, w1, Hr, hown1, hon1⟩ := own_bit hown hkept.size (by omega) T
          have cc : wr.cell? ⟨b, o + j, none⟩ = some (.int .u8 (B : Int)) := by
            rw [World.cell?_of_block (w := w) (w' := wr) (a := ⟨b, o + j, none⟩) (hkept.block b hblt (fun f => f))]
            exact hcell'.out
          have HR := hid hown1
          have HK2 : Hid (Kept w w1) := hid (hkept.trans hon1 (fun q hq e => absurd hq (by have := (hown.lt q e).1; omega)))
          have HLm := hid hLm
          clear hown hown1 hkept hon1 hz hLm
          go_wp2_with (at_builtin; refine wpList_append_run rfl _ _ _ rfl rfl rfl Hr ?_)
          go_roundw
          case rel => exact ⟨k, _, lr ++ [T], by omega, rfl, by go_num, by have := HLm.out; rw [List.length_append]; simp; omega, HR.out, HK2.out, by rw [List.append_assoc, ← HB.out, bitsL_succ, HBt.out]; rfl⟩
          case measure => simp [intOf]
    · have HE : Hid (wr.ownsRow w.heap.size 4 1 u3 (8 * L) ((unpackL bs).map tV)) := by
        rw [List.take_of_length_le (by have := HL.out; omega), unpackL_length, HL.out] at hown
        exact hown
      have HKp := hid hkept
      clear hown hkept
      go_wp2
      go_ret
      exact ⟨_, rfl, HE.out, HKp.out⟩

theorem of_any (w : World) (v : Value) (bs : List UInt8) (hs : SrcOf w v (bs.map bV)) (hl : bs.length ≤ 1000000) :
    Calls Try.prog 21 #[v] w fun e w' => ∃ v, e = .returned v ∧ w'.ownsRow w.heap.size 4 1 v (8 * bs.length) ((unpackL bs).map tV) ∧ Kept w w' := by
  rcases hs.shape with ⟨h0, a, c, rfl⟩ | ⟨_, b, o, c, rfl, hc⟩
  · have : bs = [] := by simpa using h0
    subst this
    refine (of_none w a c).mono ?_
    rintro e w' ⟨rfl, rfl⟩
    exact ⟨_, rfl, World.ownsRow_nil _ _ _ _, Only.refl _ _⟩
  · have e : (bs.map bV).length = bs.length := by simp
    rw [e]
    exact of_some w b o c bs (fun j u hu => hc j (bV u) (by rw [List.getElem?_map, hu]; rfl)) hl
end Go.Proofs.Ytpajpnjkgojafaa
