/-
  The sum of bytes: the package's and the document's own.
-/
import Derived.Test.YtjifcgphlidimaaDoorGsum
namespace Go.Proofs.YtjifcgphlidimaaDoor.G
open Go.RowKit Go.Proofs.Lys
set_option linter.unusedVariables false

set_option maxRecDepth 100000 in
set_option maxHeartbeats 1600000 in
theorem sum_any (w : World) (v : Value) (bs : List UInt8) (hs : BSrc w v bs) (hl : bs.length ≤ 10000000) (hT : Tab w) :
    Calls Tryd.prog 23 #[v] w fun e w' => e = .returned (.int .i64 (sumL bs)) ∧ Kept w w' := by
  obtain ⟨_, a, c, rfl, _⟩ := id hs
  have hk : Kept w (w.alloc (.cells #[.slice a bs.length c] 28)) := (Only.refl _ w).alloc _
  have hc := sumOf_any (w.alloc (.cells #[.slice a bs.length c] 28)) (.slice (some ⟨w.heap.size, 0, none⟩) 1 1) [.slice a bs.length c] [bs] (own_src (World.ownsRow_lit w #[.slice a bs.length c] 1 (Nat.zero_le _) (by decide) rfl)) rfl (by simp) (fun i h => by
    have : i = 0 := by simpa using h
    subst this
    exact hs.stay hk) (by simpa using hl) (hT.stay hk)
  rw [show [bs].flatten = bs by simp] at hc
  have HK := hid hk
  clear hk hs
  go_enter Tryd.func23, Tryd.ntmps23
  go_wp2_with fail
  refine hc.mono ?_
  rintro e w' ⟨rfl, rfl⟩
  go_wp2_with fail
  go_ret
  exact ⟨rfl, HK.out⟩

theorem and1 (A : Nat) (h : A < 4294967296) : bits .and .u64 (A : Int) 1 = ((A % 2 : Nat) : Int) := by
  rw [show (1 : Int) = ((1 : Nat) : Int) from rfl, u64_and_nat A 1 (by omega) (by decide)]
  have := Nat.and_two_pow_sub_one_eq_mod A 1
  congr 1
theorem xor64 (A B : Nat) (h : A < 4294967296) (h' : B < 4294967296) : bits .xor .u64 (A : Int) (B : Int) = ((A ^^^ B : Nat) : Int) := u64_xor_nat A B (by omega) (by omega)

set_option maxRecDepth 100000 in
set_option maxHeartbeats 1600000 in
theorem rsum_any (w : World) (v : Value) (bs : List UInt8) (hs : SrcOf w v (bs.map bV)) (hl : bs.length ≤ 10000000) :
    Calls Tryd.prog 41 #[v] w fun e w' => e = .returned (.int .i64 (sumL bs)) ∧ w' = w := by
  obtain ⟨a, c, e⟩ := hs.len
  rw [List.length_map] at e
  subst e
  have HS := hid hs
  obtain ⟨N, hN⟩ : ∃ N, bs.length = N := ⟨_, rfl⟩
  have HN := hid hN
  rw [hN] at hl HS ⊢
  clear hs hN
  go_enter Tryd.func41, Tryd.ntmps41
  go_wp2
  go_loopw [3, 4] (fun s i wr => ∃ j : Nat, j ≤ N ∧ i = .int .i64 (j : Int) ∧ s = .int .u64 ((crcF 4294967295 (bs.take j) : Nat) : Int) ∧ wr = w) (fun _ i _ => N - (intOf i).toNat)
  case atStart => exact ⟨0, by omega, rfl, rfl, rfl⟩
  case round =>
    obtain ⟨j, hj, rfl, rfl, rfl⟩ := hrel
    by_cases hlt : j < N
    · have hjb : j < bs.length := by have := HN.out; omega
      have hc2 : ∃ b1 o1, a = some ⟨b1, o1, none⟩ ∧ wr.cell? ⟨b1, o1 + j, none⟩ = some (.int .u8 (bs[j].toNat : Int)) := by
        rcases HS.out.shape with ⟨h0, _⟩ | ⟨_, b1, o1, c1, e1, hc1⟩
        · rw [List.map_eq_nil_iff.1 h0] at hjb; simp at hjb
        · cases e1
          exact ⟨b1, o1, rfl, hc1 j _ (by rw [List.getElem?_map, List.getElem?_eq_getElem hjb]; rfl)⟩
      obtain ⟨b1, o1, rfl, hc2⟩ := hc2
      have hsj : crcF 4294967295 (bs.take j) < 4294967296 := crcF_lt _ (by decide)
      have hnext : Hid (crcF 4294967295 (bs.take (j + 1)) = crcB (crcF 4294967295 (bs.take j)) bs[j]) := crcF_take hjb
      obtain ⟨S, hSe⟩ : ∃ S, crcF 4294967295 (bs.take j) = S := ⟨_, rfl⟩
      obtain ⟨x, hxe⟩ : ∃ x, bs[j] = x := ⟨_, rfl⟩
      rw [hSe, hxe] at hnext
      rw [hSe] at hsj ⊢
      rw [hxe] at hc2
      have hxl := byte_lt x
      obtain ⟨X, hX⟩ : ∃ X, x.toNat = X := ⟨_, rfl⟩
      have hB : Hid (crcB S x = crcN 8 (S ^^^ X)) := by show _ = _; unfold crcB; rw [hX]
      rw [hX] at hxl hc2
      have e1 := xor64 S X hsj (by omega)
      have hAl : S ^^^ X < 4294967296 := xor_lt hsj (by omega)
      obtain ⟨A, hA⟩ : ∃ A, S ^^^ X = A := ⟨_, rfl⟩
      rw [hA] at e1 hAl hB
      have hXm : (X : Int) % 18446744073709551616 = (X : Int) := by omega
      clear hSe hxe hX hjb hA
      go_wp2
      go_loopw [3, 5] (fun s i w2 => ∃ k : Nat, k ≤ 8 ∧ i = .int .i64 (k : Int) ∧ s = .int .u64 ((crcN k A : Nat) : Int) ∧ w2 = wr) (fun _ i _ => 8 - (intOf i).toNat)
      case atStart => exact ⟨0, by omega, rfl, rfl, rfl⟩
      case round =>
        obtain ⟨k, hk, rfl, rfl, hw2⟩ := hrel
        subst hw2
        by_cases hklt : k < 8
        · have hCl := crcN_lt hAl k
          have hCn : Hid (crcN (k + 1) A = crc1 (crcN k A)) := rfl
          obtain ⟨C, hC⟩ : ∃ C, crcN k A = C := ⟨_, rfl⟩
          rw [hC] at hCl hCn ⊢
          have f1 := and1 C hCl
          have f2 := xor64 (C / 2) 2197175160 (by omega) (by decide)
          obtain ⟨q, hq⟩ : ∃ q, C / 2 = q := ⟨_, rfl⟩
          obtain ⟨r, hr⟩ : ∃ r, C % 2 = r := ⟨_, rfl⟩
          have hqi : (C : Int) / 2 = (q : Int) := by omega
          rw [hr] at f1
          rw [hq] at f2
          have hrl : r = 0 ∨ r = 1 := by omega
          rcases hrl with rfl | rfl
          · have HC : Hid (crc1 C = q) := by show _ = _; unfold crc1; rw [if_neg (by omega), hq]
            clear hC hq hr f2
            go_wp2
            go_roundw
            case rel => exact ⟨k + 1, by omega, by go_num, by rw [hCn.out, HC.out], trivial⟩
            case measure => simp [intOf]; omega
          · have HC : Hid (crc1 C = q ^^^ 2197175160) := by show _ = _; unfold crc1; rw [if_pos hr, hq]
            obtain ⟨D, hD⟩ : ∃ D, q ^^^ 2197175160 = D := ⟨_, rfl⟩
            rw [hD] at f2 HC
            have f3 : bits .xor .u64 (q : Int) 2197175160 = (D : Int) := f2
            clear hC hq hr f2 hD
            go_wp2
            go_roundw
            case rel => exact ⟨k + 1, by omega, by go_num, by rw [hCn.out, HC.out], trivial⟩
            case measure => simp [intOf]; omega
        · have e : k = 8 := by omega
          subst e
          go_wp2
          go_roundw
          case rel => exact ⟨j + 1, by omega, by go_num, by rw [hnext.out, hB.out], trivial⟩
          case measure => simp [intOf]; omega
    · have e : j = N := by omega
      subst e
      have hfin : Hid (crcF 4294967295 (bs.take j) = crcF 4294967295 bs) := by
        show _ = _
        rw [List.take_of_length_le (by rw [HN.out]; exact Nat.le_refl _)]
      rw [hfin.out]
      have hlS : crcF 4294967295 bs < 4294967296 := crcF_lt _ (by decide)
      have htu : bits .xor .u64 ((crcF 4294967295 bs : Nat) : Int) 4294967295 = ((sumL bs : Nat) : Int) := xor64 _ 4294967295 hlS (by decide)
      have hsl := sumL_lt bs
      obtain ⟨R, hR⟩ : ∃ R, sumL bs = R := ⟨_, rfl⟩
      have HR := hid hR
      rw [hR] at htu hsl
      have hwR : wrap64 (R : Int) = (R : Int) := by unfold wrap64; omega
      clear hR hfin
      generalize crcF 4294967295 bs = S at *
      go_wp2
      go_ret
      refine ⟨?_, rfl⟩
      rw [HR.out, ← hwR]
      rfl
end Go.Proofs.YtjifcgphlidimaaDoor.G
