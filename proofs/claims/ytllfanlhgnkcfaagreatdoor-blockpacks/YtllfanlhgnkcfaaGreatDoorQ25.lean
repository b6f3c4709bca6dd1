/-
  Gsum, Gsum2.
-/
import Derived.Test.YtllfanlhgnkcfaaGreatDoorQ03
import Derived.Test.YtllfanlhgnkcfaaGreatDoorQ02
import Derived.Laws.BitsAllLaws
namespace Go.Proofs.YtllfanlhgnkcfaaGreatDoor.G
open Go.RowKit Go.Proofs.Lys
set_option linter.unusedVariables false
def Tab (w : World) : Prop := ∀ i, i < 16 → w.cell? ⟨2, i, none⟩ = some (.int .u32 ((stepT.getD i 0 : Nat) : Int))
theorem Tab.stay {w w' : World} (h : Tab w) (k : Kept w w') : Tab w' := fun i hi => by
 rw [World.cell?_of_block (w := w) (w' := w') (a := ⟨2, i, none⟩) (k.block _ (World.block_lt_of_cell? w _ (h i hi)) (fun f => f))]
 exact h i hi
def BSrc (w : World) (v : Value) (bs : List UInt8) : Prop := SrcOf w v (bs.map bV) ∧ ∃ a c, v = .slice a bs.length c ∧ bs.length ≤ c
theorem BSrc.stay {w w' : World} {v : Value} {bs : List UInt8} (h : BSrc w v bs) (k : Kept w w') : BSrc w' v bs := ⟨h.1.stay k, h.2⟩
theorem and15 (A : Nat) (h : A < 4294967296) : bits .and .u32 (A : Int) 15 = ((A % 16 : Nat) : Int) := by
 rw [show (15 : Int) = ((15 : Nat) : Int) from rfl, u32_and_nat A 15 h (by decide)]
 have := Nat.and_two_pow_sub_one_eq_mod A 4
 congr 1
theorem looks {w : World} (hT : Tab w) (S : Nat) (x : UInt8) (hS : S < 4294967296) : ∃ A r q t B r2 q2 t2 C : Nat,
  bits .xor .u32 (S : Int) (x.toNat : Int) = (A : Int) ∧ bits .and .u32 (A : Int) 15 = (r : Int) ∧ r < 16 ∧ (A : Int) / 16 = (q : Int) ∧ w.cell? ⟨2, r, none⟩ = some (.int .u32 (t : Int)) ∧ bits .xor .u32 (q : Int) (t : Int) = (B : Int) ∧
  bits .and .u32 (B : Int) 15 = (r2 : Int) ∧ r2 < 16 ∧ (B : Int) / 16 = (q2 : Int) ∧ w.cell? ⟨2, r2, none⟩ = some (.int .u32 (t2 : Int)) ∧ bits .xor .u32 (q2 : Int) (t2 : Int) = (C : Int) ∧ crcB S x = C := by
 have hx : x.toNat < 4294967296 := by have := byte_lt x; omega
 have hA : S ^^^ x.toNat < 4294967296 := xor_lt hS hx
 have hB := look_lt hA
 refine ⟨S ^^^ x.toNat, (S ^^^ x.toNat) % 16, (S ^^^ x.toNat) / 16, stepT.getD ((S ^^^ x.toNat) % 16) 0, look (S ^^^ x.toNat), look (S ^^^ x.toNat) % 16, look (S ^^^ x.toNat) / 16, stepT.getD (look (S ^^^ x.toNat) % 16) 0, look (look (S ^^^ x.toNat)),
  u32_xor_nat _ _ hS hx, and15 _ hA, Nat.mod_lt _ (by decide), by omega, hT _ (Nat.mod_lt _ (by decide)), u32_xor_nat _ _ (by omega) (stepT_lt _), and15 _ hB, Nat.mod_lt _ (by decide), by omega, hT _ (Nat.mod_lt _ (by decide)), u32_xor_nat _ _ (by omega) (stepT_lt _), crcB_look S x⟩
theorem turned (S : Nat) (hS : S < 4294967296) : bits .xor .u32 IntKind.u32.max (S : Int) = ((S ^^^ 4294967295 : Nat) : Int) := by
 rw [show IntKind.u32.max = ((4294967295 : Nat) : Int) from by decide, u32_xor_nat _ _ (by decide) hS, Nat.xor_comm]
set_option maxRecDepth 100000 in
set_option maxHeartbeats 1600000 in
theorem sumOf_any (w : World) (v : Value) (vs : List Value) (bss : List (List UInt8)) (hv : SrcOf w v vs) (hl : vs.length = bss.length) (hn : vs.length ≤ 10) (hp : ∀ i (h : i < vs.length), BSrc w vs[i] (bss.getD i [])) (hb : ∀ b ∈ bss, b.length ≤ 10000000) (hT : Tab w) :
  Calls Tryz.prog 103 #[v] w fun e w' => e = .returned (.int .i64 (sumL bss.flatten)) ∧ w' = w := by
 obtain ⟨a, c, rfl⟩ := hv.len
 obtain ⟨N, hN⟩ : ∃ N, vs.length = N := ⟨_, rfl⟩
 rw [hN] at hn ⊢
 have HV := hid hv
 have HN := hid hN
 have HL := hid hl
 have HP := hid hp
 have HB := hid hb
 clear hv hN hl hp hb
 go_enter Tryz.func103, Tryz.ntmps103
 go_wp2
 go_loopw [3, 10] (fun s i wr => ∃ k : Nat, k ≤ N ∧ i = .int .i64 (k : Int) ∧ s = .int .u32 ((crcF 4294967295 (bss.take k).flatten : Nat) : Int) ∧ wr = w) (fun _ i _ => N - (intOf i).toNat)
 case atStart => exact ⟨0, by omega, rfl, rfl, rfl⟩
 case round =>
  obtain ⟨k, hk, rfl, rfl, rfl⟩ := hrel
  by_cases hlt : k < N
  ·have hkv : k < vs.length := by have := HN.out; omega
   have hkb : k < bss.length := by have := HN.out; have := HL.out; omega
   have hpk := HP.out k hkv
   obtain ⟨bs, hbs⟩ : ∃ bs, bss.getD k [] = bs := ⟨_, rfl⟩
   have hbk : bss[k] = bs := by rw [← hbs, List.getD_eq_getElem?_getD, List.getElem?_eq_getElem hkb]; rfl
   have hlen : bs.length ≤ 10000000 := by rw [← hbk]; exact HB.out _ (List.getElem_mem hkb)
   have hcell : ∃ b0 o0, a = some ⟨b0, o0, none⟩ ∧ wr.cell? ⟨b0, o0 + k, none⟩ = some vs[k] := by
    rcases HV.out.shape with ⟨h0, _⟩ | ⟨_, b0, o0, c0, e0, hc0⟩
    ·rw [h0] at hkv; simp at hkv
    ·cases e0
     exact ⟨b0, o0, rfl, hc0 k _ (List.getElem?_eq_getElem hkv)⟩
   obtain ⟨b0, o0, rfl, hcell⟩ := hcell
   rw [hbs] at hpk
   obtain ⟨hsk, ak, ck, hvk, _⟩ := hpk
   rw [hvk] at hcell hsk
   have HS := hid hsk
   have HTK : Hid ((bss.take (k + 1)).flatten = (bss.take k).flatten ++ bs) := by
    show _ = _
    rw [List.take_succ_eq_append_getElem hkb, hbk, List.flatten_append]
    simp
   obtain ⟨s0, hs0⟩ : ∃ s0, crcF 4294967295 (bss.take k).flatten = s0 := ⟨_, rfl⟩
   have hs0l : s0 < 4294967296 := by rw [← hs0]; exact crcF_lt _ (by decide)
   have HS0 := hid hs0
   rw [hs0]
   obtain ⟨M, hM⟩ : ∃ M, bs.length = M := ⟨_, rfl⟩
   have HM := hid hM
   rw [hM] at hcell hlen HS
   clear hkv hkb hbs hbk hvk hs0 hM hsk
   go_wp2
   go_loopw [3, 16] (fun s i w2 => ∃ j : Nat, j ≤ M ∧ i = .int .i64 (j : Int) ∧ s = .int .u32 ((crcF s0 (bs.take j) : Nat) : Int) ∧ w2 = wr) (fun _ i _ => M - (intOf i).toNat)
   case atStart => exact ⟨0, by omega, rfl, rfl, rfl⟩
   case round =>
    obtain ⟨j, hj, rfl, rfl, hw2⟩ := hrel
    subst hw2
    by_cases hjlt : j < M
    ·have hjb : j < bs.length := by have := HM.out; omega
     have hc2 : ∃ b1 o1, ak = some ⟨b1, o1, none⟩ ∧ wr.cell? ⟨b1, o1 + j, none⟩ = some (.int .u8 (bs[j].toNat : Int)) := by
      rcases HS.out.shape with ⟨h0, _⟩ | ⟨_, b1, o1, c1, e1, hc1⟩
      ·rw [List.map_eq_nil_iff.1 h0] at hjb; simp at hjb
      ·cases e1
       exact ⟨b1, o1, rfl, hc1 j _ (by rw [List.getElem?_map, List.getElem?_eq_getElem hjb]; rfl)⟩
     obtain ⟨b1, o1, rfl, hc2⟩ := hc2
     have hsj : crcF s0 (bs.take j) < 4294967296 := crcF_lt _ hs0l
     have hnext : Hid (crcF s0 (bs.take (j + 1)) = crcB (crcF s0 (bs.take j)) bs[j]) := crcF_take hjb
     obtain ⟨S, hSe⟩ : ∃ S, crcF s0 (bs.take j) = S := ⟨_, rfl⟩
     obtain ⟨x, hxe⟩ : ∃ x, bs[j] = x := ⟨_, rfl⟩
     rw [hSe, hxe] at hnext
     rw [hSe] at hsj ⊢
     rw [hxe] at hc2
     obtain ⟨A, r, q, tt, B, r2, q2, t2, C, e1, e2, l2, e3, c3, e4, e5, l5, e6, c6, e7, e8⟩ := looks hT S x hsj
     rw [e8] at hnext
     have hxl := byte_lt x
     obtain ⟨X, hX⟩ : ∃ X, x.toNat = X := ⟨_, rfl⟩
     rw [hX] at e1 hxl hc2
     have hXm : (X : Int) % 4294967296 = (X : Int) := by omega
     clear hSe hxe hX e8 hjb hT
     go_wp2
     go_roundw
     case rel => exact ⟨j + 1, by omega, by go_num, by rw [hnext.out], trivial⟩
     case measure => simp [intOf]; omega
    ·have e : j = M := by omega
     subst e
     have hfin : Hid (crcF s0 (bs.take j) = crcF s0 bs) := by
      show _ = _
      rw [List.take_of_length_le (by rw [HM.out]; exact Nat.le_refl _)]
     go_wp2
     go_roundw
     case rel =>
      refine ⟨k + 1, by omega, by go_num, ?_, trivial⟩
      rw [hfin.out, HTK.out, crcF_app, HS0.out]
     case measure => simp [intOf]; omega
  ·have e : k = N := by omega
   subst e
   have hfin : Hid (crcF 4294967295 (bss.take k).flatten = crcF 4294967295 bss.flatten) := by
    show _ = _
    rw [List.take_of_length_le (by rw [← HL.out, HN.out]; exact Nat.le_refl _)]
   rw [hfin.out]
   have hlS : crcF 4294967295 bss.flatten < 4294967296 := crcF_lt _ (by decide)
   have htu := turned _ hlS
   have hle : Hid (crcF 4294967295 bss.flatten ^^^ 4294967295 = sumL bss.flatten) := rfl
   have hsl := sumL_lt bss.flatten
   rw [hle.out] at htu
   obtain ⟨R, hR⟩ : ∃ R, sumL bss.flatten = R := ⟨_, rfl⟩
   have HR := hid hR
   rw [hR] at htu hsl
   have hwR : wrap64 (R : Int) = (R : Int) := by unfold wrap64; omega
   clear hR hle hfin
   generalize crcF 4294967295 bss.flatten = S at *
   go_wp2
   go_ret
   refine ⟨?_, rfl⟩
   rw [HR.out, ← hwR]
   rfl
end Go.Proofs.YtllfanlhgnkcfaaGreatDoor.G
namespace Go.Proofs.YtllfanlhgnkcfaaGreatDoor.G
open Go.RowKit Go.Proofs.Lys
set_option linter.unusedVariables false
set_option maxRecDepth 100000 in
set_option maxHeartbeats 1600000 in
theorem sum_any (w : World) (v : Value) (bs : List UInt8) (hs : BSrc w v bs) (hl : bs.length ≤ 10000000) (hT : Tab w) :
  Calls Tryz.prog 79 #[v] w fun e w' => e = .returned (.int .i64 (sumL bs)) ∧ Kept w w' := by
 obtain ⟨_, a, c, rfl, _⟩ := id hs
 have hk : Kept w (w.alloc (.cells #[.slice a bs.length c] 28)) := (Only.refl _ w).alloc _
 have hc := sumOf_any (w.alloc (.cells #[.slice a bs.length c] 28)) (.slice (some ⟨w.heap.size, 0, none⟩) 1 1) [.slice a bs.length c] [bs] (own_src (World.ownsRow_lit w #[.slice a bs.length c] 1 (Nat.zero_le _) (by decide) rfl)) rfl (by simp) (fun i h => by
  have : i = 0 := by simpa using h
  subst this
  exact hs.stay hk) (by simpa using hl) (hT.stay hk)
 rw [show [bs].flatten = bs by simp] at hc
 have HK := hid hk
 clear hk hs
 go_enter Tryz.func79, Tryz.ntmps79
 go_wp2_with fail
 refine hc.mono ?_
 rintro e w' ⟨rfl, rfl⟩
 go_wp2_with fail
 go_ret
 exact ⟨rfl, HK.out⟩
theorem and1 (A : Nat) (h : A < 4294967296) : bits .and .u64 (A : Int) 1 = ((A % 2 : Nat) : Int) := by
 rw [show (1 : Int) = ((1 : Nat) : Int) from rfl, u64_and_nat A 1 (by omega) (by decide)]
 have := Nat.and_two_pow_sub_one_eq_mod A 1
 congr 1
theorem xor64 (A B : Nat) (h : A < 4294967296) (h' : B < 4294967296) : bits .xor .u64 (A : Int) (B : Int) = ((A ^^^ B : Nat) : Int) := u64_xor_nat A B (by omega) (by omega)
set_option maxRecDepth 100000 in
set_option maxHeartbeats 1600000 in
theorem rsum_any (w : World) (v : Value) (bs : List UInt8) (hs : SrcOf w v (bs.map bV)) (hl : bs.length ≤ 10000000) :
  Calls Tryz.prog 18 #[v] w fun e w' => e = .returned (.int .i64 (sumL bs)) ∧ w' = w := by
 obtain ⟨a, c, e⟩ := hs.len
 rw [List.length_map] at e
 subst e
 have HS := hid hs
 obtain ⟨N, hN⟩ : ∃ N, bs.length = N := ⟨_, rfl⟩
 have HN := hid hN
 rw [hN] at hl HS ⊢
 clear hs hN
 go_enter Tryz.func18, Tryz.ntmps18
 go_wp2
 go_loopw [3, 4] (fun s i wr => ∃ j : Nat, j ≤ N ∧ i = .int .i64 (j : Int) ∧ s = .int .u64 ((crcF 4294967295 (bs.take j) : Nat) : Int) ∧ wr = w) (fun _ i _ => N - (intOf i).toNat)
 case atStart => exact ⟨0, by omega, rfl, rfl, rfl⟩
 case round =>
  obtain ⟨j, hj, rfl, rfl, rfl⟩ := hrel
  by_cases hlt : j < N
  ·have hjb : j < bs.length := by have := HN.out; omega
   have hc2 : ∃ b1 o1, a = some ⟨b1, o1, none⟩ ∧ wr.cell? ⟨b1, o1 + j, none⟩ = some (.int .u8 (bs[j].toNat : Int)) := by
    rcases HS.out.shape with ⟨h0, _⟩ | ⟨_, b1, o1, c1, e1, hc1⟩
    ·rw [List.map_eq_nil_iff.1 h0] at hjb; simp at hjb
    ·cases e1
     exact ⟨b1, o1, rfl, hc1 j _ (by rw [List.getElem?_map, List.getElem?_eq_getElem hjb]; rfl)⟩
   obtain ⟨b1, o1, rfl, hc2⟩ := hc2
   have hsj : crcF 4294967295 (bs.take j) < 4294967296 := crcF_lt _ (by decide)
   have hnext : Hid (crcF 4294967295 (bs.take (j + 1)) = crcB (crcF 4294967295 (bs.take j)) bs[j]) := crcF_take hjb
   obtain ⟨S, hSe⟩ : ∃ S, crcF 4294967295 (bs.take j) = S := ⟨_, rfl⟩
   obtain ⟨x, hxe⟩ : ∃ x, bs[j] = x := ⟨_, rfl⟩
   rw [hSe, hxe] at hnext
   rw [hSe] at hsj ⊢
   rw [hxe] at hc2
   have hxl := byte_lt x
   obtain ⟨X, hX⟩ : ∃ X, x.toNat = X := ⟨_, rfl⟩
   have hB : Hid (crcB S x = crcN 8 (S ^^^ X)) := by show _ = _; unfold crcB; rw [hX]
   rw [hX] at hxl hc2
   have e1 := xor64 S X hsj (by omega)
   have hAl : S ^^^ X < 4294967296 := xor_lt hsj (by omega)
   obtain ⟨A, hA⟩ : ∃ A, S ^^^ X = A := ⟨_, rfl⟩
   rw [hA] at e1 hAl hB
   have hXm : (X : Int) % 18446744073709551616 = (X : Int) := by omega
   clear hSe hxe hX hjb hA
   go_wp2
   go_loopw [3, 5] (fun s i w2 => ∃ k : Nat, k ≤ 8 ∧ i = .int .i64 (k : Int) ∧ s = .int .u64 ((crcN k A : Nat) : Int) ∧ w2 = wr) (fun _ i _ => 8 - (intOf i).toNat)
   case atStart => exact ⟨0, by omega, rfl, rfl, rfl⟩
   case round =>
    obtain ⟨k, hk, rfl, rfl, hw2⟩ := hrel
    subst hw2
    by_cases hklt : k < 8
    ·have hCl := crcN_lt hAl k
     have hCn : Hid (crcN (k + 1) A = crc1 (crcN k A)) := rfl
     obtain ⟨C, hC⟩ : ∃ C, crcN k A = C := ⟨_, rfl⟩
     rw [hC] at hCl hCn ⊢
     have f1 := and1 C hCl
     have f2 := xor64 (C / 2) 2197175160 (by omega) (by decide)
     obtain ⟨q, hq⟩ : ∃ q, C / 2 = q := ⟨_, rfl⟩
     obtain ⟨r, hr⟩ : ∃ r, C % 2 = r := ⟨_, rfl⟩
     have hqi : (C : Int) / 2 = (q : Int) := by omega
     rw [hr] at f1
     rw [hq] at f2
     have hrl : r = 0 ∨ r = 1 := by omega
     rcases hrl with rfl | rfl
     ·have HC : Hid (crc1 C = q) := by show _ = _; unfold crc1; rw [if_neg (by omega), hq]
      clear hC hq hr f2
      go_wp2
      go_roundw
      case rel => exact ⟨k + 1, by omega, by go_num, by rw [hCn.out, HC.out], trivial⟩
      case measure => simp [intOf]; omega
     ·have HC : Hid (crc1 C = q ^^^ 2197175160) := by show _ = _; unfold crc1; rw [if_pos hr, hq]
      obtain ⟨D, hD⟩ : ∃ D, q ^^^ 2197175160 = D := ⟨_, rfl⟩
      rw [hD] at f2 HC
      have f3 : bits .xor .u64 (q : Int) 2197175160 = (D : Int) := f2
      clear hC hq hr f2 hD
      go_wp2
      go_roundw
      case rel => exact ⟨k + 1, by omega, by go_num, by rw [hCn.out, HC.out], trivial⟩
      case measure => simp [intOf]; omega
    ·have e : k = 8 := by omega
     subst e
     go_wp2
     go_roundw
     case rel => exact ⟨j + 1, by omega, by go_num, by rw [hnext.out, hB.out], trivial⟩
     case measure => simp [intOf]; omega
  ·have e : j = N := by omega
   subst e
   have hfin : Hid (crcF 4294967295 (bs.take j) = crcF 4294967295 bs) := by
    show _ = _
    rw [List.take_of_length_le (by rw [HN.out]; exact Nat.le_refl _)]
   rw [hfin.out]
   have hlS : crcF 4294967295 bs < 4294967296 := crcF_lt _ (by decide)
   have htu : bits .xor .u64 ((crcF 4294967295 bs : Nat) : Int) 4294967295 = ((sumL bs : Nat) : Int) := xor64 _ 4294967295 hlS (by decide)
   have hsl := sumL_lt bs
   obtain ⟨R, hR⟩ : ∃ R, sumL bs = R := ⟨_, rfl⟩
   have HR := hid hR
   rw [hR] at htu hsl
   have hwR : wrap64 (R : Int) = (R : Int) := by unfold wrap64; omega
   clear hR hfin
   generalize crcF 4294967295 bs = S at *
   go_wp2
   go_ret
   refine ⟨?_, rfl⟩
   rw [HR.out, ← hwR]
   rfl
end Go.Proofs.YtllfanlhgnkcfaaGreatDoor.G
