/-
  The place of the first of four signs in a text.
-/
import Derived.Test.YtbdcaikcdhfdoaaMrune
namespace Go.Proofs.Ytbdcaikcdhfdoaa.N
open Go.RowKit Go.Proofs.Lys
set_option linter.unusedVariables false
set_option linter.unusedSimpArgs false

abbrev sgL : List UInt8 := [44, 61, 33, 94]
theorem sg_high {c : UInt8} (h : 128 ≤ c.toNat) : sgL.contains c = false := by
  cases e : sgL.contains c with
  | false => rfl
  | true =>
    have := sign_lt c (by simpa using e)
    omega
set_option maxRecDepth 100000 in
set_option maxHeartbeats 4000000 in
theorem idx_short (w : World) (s : ByteArray) (h8 : s.size ≤ 8) : Calls Try.prog 44 #[.string s, .string signs] w fun e w' => e = .returned (.int .i64 (Lib.indexAny s.data.toList sgL)) ∧ Kept w w' := by
  have HU := hid (fun W => Try.strings_shouldUseASCIISet (s.size : Int) W)
  have h8z : decide ((8 : Int) < (s.size : Int)) = false := decide_eq_false (by omega)
  rw [h8z] at HU
  have HA := hid (fun W (c : UInt8) (hc : c.toNat < 128) => Try.strings_IndexRune_ascii signs (c.toNat : Int) W (by omega) (by omega))
  have hse : signs.toList.isEmpty = false := not_empty (by decide)
  go_enter Try.func44, Try.ntmps44
  go_wp2_with fail
  refine (HU.out _).mono ?_
  rintro e w1 ⟨rfl, hq⟩
  replace hq := hq.symm
  subst hq
  go_wp2_with fail
  go_loopw [9, 10] (fun _ _ wr => ∃ (pos : Nat), pos ≤ s.size ∧ wr.heap[w.heap.size]? = some (.stringIter s pos) ∧ Kept w wr ∧ Lib.NoAny s.data.toList sgL pos) (fun _ _ wr => s.size - wr.iterPos w.heap.size)
  case atStart => exact ⟨0, by omega, World.iter_heap w s 0, kept_iter _ _ _, Lib.NoAny.zero _ _⟩
  case round =>
    obtain ⟨pos, hp, hit, kr, hno⟩ := hrel
    have HN := hid hno
    have HK := hid kr
    have hsz := kr.size
    have hpm := iterPos_at hit
    clear hno
    by_cases hlt : pos < s.size
    · have hget : Hid (s.data.toList[pos]? = some (s[pos]'hlt)) := Lib.data_getElem? s pos hlt
      have hkn : ∀ m, Kept w (wr.iterAt w.heap.size s m) := fun m => by
        have hb0 : Below w.heap.size w wr := ⟨HK.out.os, HK.out.tape, HK.out.output, HK.out.size, fun q hq => HK.out.block q hq (fun f => f)⟩
        have hb := Lib.below_iterAt hb0 (Nat.le_refl w.heap.size) s m
        exact ⟨hb.os, hb.tape, hb.output, hb.size, fun q hq _ => hb.block q hq⟩
      have HKn := hid hkn
      clear hkn kr
      by_cases ha : (s[pos]'hlt).toNat < 128
      · have hnx : ∀ ty, (Instr.next (.pointer (some ⟨w.heap.size, 0, none⟩)) true ty).run Try.prog wr = _ := fun ty => Lib.run_next_ascii_at wr w.heap.size s pos ty hit hlt ha
        have hit2 := Lib.iterAt_heap wr w.heap.size s pos (pos + 1) hit
        have hpm2 := iterPos_at hit2
        have HR := hid (fun W => HA.out W (s[pos]'hlt) ha)
        have hback : (((s[pos]'hlt).toNat : Int)).toNat.toUInt8 = s[pos]'hlt := by simp
        rw [hback] at HR
        have hcon := Lib.contains_iff_indexByte sgL (s[pos]'hlt)
        have HK2 := hid (HKn.out (pos + 1))
        generalize hcc : s[pos]'hlt = c at hnx HR hcon hget
        have HIT2 := hid hit2
        generalize wr.iterAt w.heap.size s (pos + 1) = w2 at hnx HIT2 hpm2 HK2
        clear hcc ha hback hit hit2
        generalize Lib.indexByte sgL c = I at HR hcon
        cases hin : sgL.contains c with
        | false =>
          rw [hin] at hcon
          have hneg : ¬ ((0 : Int) ≤ I) := of_decide_eq_false hcon.symm
          have HNo := hid (HN.out.succ hget.out hin)
          clear hcon hin
          go_wp2_with (go_at_call 59; refine (HR.out _).mono ?_)
          exact ⟨⟨pos + 1, by omega, HIT2.out, HK2.out, HNo.out⟩, by rw [hpm, hpm2]; omega⟩
        | true =>
          rw [hin] at hcon
          have hneg : (0 : Int) ≤ I := of_decide_eq_true hcon.symm
          have HNo := hid (Lib.indexAny_hit HN.out hget.out hin)
          clear hcon hin
          go_wp2_with (go_at_call 59; refine (HR.out _).mono ?_)
          rintro e w3 ⟨rfl, hq⟩
          replace hq := hq.symm
          subst hq
          go_wp2_with fail
          go_ret
          exact ⟨by rw [HNo.out]; rfl, HK2.out⟩
      · have hdw := decode_wide s pos hlt (by omega)
        have hdh := decode_high s pos hlt (by omega)
        have hm := decode_le s pos
        have hnx : ∀ ty, (Instr.next (.pointer (some ⟨w.heap.size, 0, none⟩)) true ty).run Try.prog wr = _ := fun ty => Lib.run_next_any_at wr w.heap.size s pos ty hit hlt
        have hit2 := Lib.iterAt_heap wr w.heap.size s pos (pos + (Utf8.decode s pos).2) hit
        have hpm2 := iterPos_at hit2
        have HK2 := hid (HKn.out (pos + (Utf8.decode s pos).2))
        have HIT2 := hid hit2
        have HR := hid (fun W => rune_hi W ((Utf8.decode s pos).1 : Int) (by omega))
        have HNo : Hid (Lib.NoAny s.data.toList sgL (pos + (Utf8.decode s pos).2)) := fun j b hj hb => by
          by_cases e : j < pos
          · exact HN.out j b e hb
          · have hjs : j < s.size := by rw [Lib.size_eq]; exact (List.getElem?_eq_some_iff.1 hb).1
            have h3 := hdw.2 (j - pos) (by omega)
            rw [show pos + (j - pos) = j + 0 by omega, get_at s j hjs] at h3
            rw [Lib.data_getElem? s j hjs] at hb
            cases hb
            exact sg_high h3
        have hw1 := hdh.2
        have hw2 := hdw.1
        clear hdw hdh ha hit hit2
        generalize (Utf8.decode s pos).1 = r at hnx HR hm
        generalize (Utf8.decode s pos).2 = n at hnx HK2 HIT2 hpm2 HNo hw1 hw2
        generalize wr.iterAt w.heap.size s (pos + n) = w2 at hnx HIT2 hpm2 HK2
        go_wp2_with (go_at_call 59; refine (HR.out _).mono ?_)
        rintro e w3 ⟨rfl, k3⟩
        have hs2 : w.heap.size < w2.heap.size := (Array.getElem?_eq_some_iff.1 HIT2.out).1
        have hit3 : w3.heap[w.heap.size]? = some (.stringIter s (pos + n)) := by
          rw [k3.block w.heap.size hs2 (fun f => f)]
          exact HIT2.out
        have hpm3 := iterPos_at hit3
        have HK3 := hid (HK2.out.trans k3 (fun _ _ f => f))
        have HIT3 := hid hit3
        clear k3 hit3
        go_wp2_with fail
        go_roundw
        case rel => exact ⟨pos + n, by omega, HIT3.out, HK3.out, HNo.out⟩
        case measure => rw [hpm, hpm3]; omega
    · have e : pos = s.size := by omega
      subst e
      have hnx : ∀ ty, (Instr.next (.pointer (some ⟨w.heap.size, 0, none⟩)) true ty).run Try.prog wr = _ := fun ty => Lib.run_next_end_at wr w.heap.size s s.size ty hit (by omega)
      have hmk := hid (Lib.indexAny_none (s := s.data.toList) (chars := sgL) (by rw [← Lib.size_eq]; exact HN.out))
      go_wp2
      go_ret
      exact ⟨by rw [hmk.out]; rfl, kr⟩

theorem Try.zeroSet : (Try.prog.info? 95).map (fun i => (i.zero, i.size)) = some (some (.agg (Array.replicate 256 (.bool false))), 256) := by kernel_rfl
theorem idxany_any (w : World) (s : ByteArray) (hs : s.size ≤ 1000000) : Calls Try.prog 44 #[.string s, .string signs] w fun e w' => e = .returned (.int .i64 (Lib.indexAny s.data.toList sgL)) ∧ Kept w w' := by
  by_cases h8 : s.size ≤ 8
  · exact idx_short w s h8
  · refine (Try.strings_IndexAny_long (Go.zero_of_info Try.zeroSet).1 s signs w (by decide) (by omega) (by omega) (by decide) (fun j b hb => sign_lt b (List.mem_of_getElem? hb))).mono ?_
    rintro e w' ⟨rfl, rfl⟩
    exact ⟨rfl, ((Only.refl _ w).alloc _).alloc _⟩
end Go.Proofs.Ytbdcaikcdhfdoaa.N
