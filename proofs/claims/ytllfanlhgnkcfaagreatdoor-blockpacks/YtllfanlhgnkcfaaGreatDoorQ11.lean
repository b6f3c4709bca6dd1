/-
  Srise, Sput, Spack, Srref, Srpack.
-/
import Derived.Test.YtllfanlhgnkcfaaGreatDoorQ06
import Derived.Test.YtllfanlhgnkcfaaGreatDoorQ08
import Derived.BigQuiet
import Derived.Deep.WholeRow
namespace Go.Proofs.YtllfanlhgnkcfaaGreatDoor.S
open Go.RowKit Go.Proofs.Lys
set_option linter.unusedVariables false
set_option maxRecDepth 100000 in
set_option maxHeartbeats 1600000 in
theorem rising_any (w : World) (v : Value) (l : List Int) (hs : SrcOf w v (l.map (Value.int .i64))) (hl : l.length ≤ 1000) :
  Calls Tryz.prog 116 #[v] w fun e w' => w' = w ∧ ((e = .returned (.bool true) ∧ Rising l) ∨ (e = .returned (.bool false) ∧ ¬ Rising l)) := by
 rcases hs.shape with ⟨hnil, a, c, rfl⟩ | ⟨hpos, b, o, c, rfl, hc⟩
 ·have e0 : l = [] := List.map_eq_nil_iff.1 hnil
  subst e0
  go_enter Tryz.func116, Tryz.ntmps116
  go_wp2
  refine wp_loop_rounds 1 ?_
  rw [rounds_succ]
  go_wp2
  go_ret
  exact ⟨rfl, .inl ⟨rfl, fun i hi => absurd hi (Nat.not_lt_zero i)⟩⟩
 ·rw [List.length_map] at hpos ⊢
  obtain ⟨L, hL⟩ : ∃ L, l.length = L := ⟨_, rfl⟩
  rw [hL] at hpos hl ⊢
  have HC : Hid (∀ j (hj : j < l.length), w.cell? ⟨b, o + j, none⟩ = some (.int .i64 l[j])) := fun j hj => hc j _ (by rw [List.getElem?_map, List.getElem?_eq_getElem hj]; rfl)
  have HL := hid hL
  clear hL hc hs
  go_enter Tryz.func116, Tryz.ntmps116
  go_wp2
  go_loop [7] (fun s => ∃ (k : Nat), k ≤ L ∧ s = .int .i64 (k : Int) ∧ (∀ i (h : i < l.length), i < k → -9007199254740992 ≤ l[i] ∧ l[i] ≤ 9007199254740992 ∧ (0 < i → l[i - 1] < l[i]))) (fun s => L - (intOf s).toNat)
  case atStart => exact ⟨0, by omega, rfl, fun i _ h => absurd h (Nat.not_lt_zero i)⟩
  case round =>
   obtain ⟨k, hk, rfl, hr⟩ := hrel
   have HR := hid hr
   clear hr
   by_cases hlt : k < L
   ·have hkl : k < l.length := by have := HL.out; omega
    have hcell := HC.out k hkl
    obtain ⟨x, hx⟩ : ∃ x, l[k] = x := ⟨_, rfl⟩
    rw [hx] at hcell
    have HX := hid hx
    clear hx
    by_cases h1 : x < -9007199254740992
    ·go_wp2
     go_ret
     exact ⟨rfl, .inr ⟨rfl, fun hR => by have := (hR k hkl).1; rw [HX.out] at this; omega⟩⟩
    ·by_cases h2 : 9007199254740992 < x
     ·go_wp2
      go_ret
      exact ⟨rfl, .inr ⟨rfl, fun hR => by have := (hR k hkl).2.1; rw [HX.out] at this; omega⟩⟩
     ·by_cases h0 : k = 0
      ·subst h0
       simp only [Nat.add_zero] at hcell
       go_wp2
       refine ⟨⟨1, by omega, rfl, fun i hi h => ?_⟩, ?_⟩
       ·have e : i = 0 := by omega
        subst e
        rw [HX.out]
        exact ⟨by omega, by omega, fun h => absurd h (Nat.lt_irrefl 0)⟩
       ·simp [intOf]; omega
      ·obtain ⟨k', rfl⟩ : ∃ k', k = k' + 1 := ⟨k - 1, by omega⟩
       have hkl' : k' < l.length := by omega
       have hcell' := HC.out k' hkl'
       obtain ⟨y, hy⟩ : ∃ y, l[k'] = y := ⟨_, rfl⟩
       rw [hy] at hcell'
       have HY := hid hy
       clear hy
       by_cases h3 : x ≤ y
       ·go_wp2
        go_ret
        exact ⟨rfl, .inr ⟨rfl, fun hR => by
         have := (hR (k' + 1) hkl).2.2 (by omega)
         rw [HX.out] at this
         simp only [Nat.add_sub_cancel, HY.out] at this
         omega⟩⟩
       ·go_wp2
        refine ⟨⟨k' + 2, by omega, by simp; omega, fun i hi h => ?_⟩, ?_⟩
        ·by_cases e : i = k' + 1
         ·subst e
          rw [HX.out]
          exact ⟨by omega, by omega, fun _ => by simp only [Nat.add_sub_cancel, HY.out]; omega⟩
         ·exact HR.out i hi (by omega)
        ·simp [intOf]; omega
   ·have e : k = L := by omega
    subst e
    go_wp2
    go_ret
    exact ⟨rfl, .inl ⟨rfl, fun i hi => HR.out i hi (by have := HL.out; omega)⟩⟩
def tabA : Array Value := #[.int .i64 0, .int .i64 0, .int .i64 0, .int .i64 1, .int .i64 0, .int .i64 0, .int .i64 (-63), .int .i64 64, .int .i64 2, .int .i64 2, .int .i64 63, .int .i64 7, .int .i64 (-255), .int .i64 256, .int .i64 6, .int .i64 3, .int .i64 255, .int .i64 9, .int .i64 (-2047), .int .i64 2048, .int .i64 14, .int .i64 4, .int .i64 2047, .int .i64 12, .int .i64 (-9223372036854775808), .int .i64 9223372036854775807, .int .i64 15, .int .i64 4, .int .i64 0, .int .i64 64]
def tabV : Value := .agg tabA
theorem tab_size : (Tryz.prog.info? 193).map (fun i => i.size) = some tabA.size := by kernel_rfl
theorem tab_one : tabA.all (fun x => x.oneCell') = true := by decide +kernel
set_option maxRecDepth 100000 in
theorem widths_any (w : World) : Calls Tryz.prog 128 #[] w fun e w' => e = .returned tabV ∧ Kept w w' := by
 go_enter Tryz.func128, Tryz.ntmps128
 go_wp2_with (refine wpList_store_row rfl 193 _ _ rfl w.heap.size tabA rfl rfl 193 _ (heap_alloc_last w _) tab_size rfl tab_one ?_)
 rw [World.setRow_alloc_new]
 exact bodyPost_ret (v := tabV) (results_cell_row rfl _ _ w.heap.size 193 tabA (0, 0) _ rfl (heap_alloc_last w _) Tryz.underlying193 rfl tab_size) rfl ⟨rfl, (Only.refl _ w).alloc _⟩
theorem width_0 (w : World) : (Instr.index 193 tabV (.int .i64 0)).run Tryz.prog w = .ok (.agg #[.int .i64 0, .int .i64 0, .int .i64 0, .int .i64 1, .int .i64 0, .int .i64 0]) w := by kernel_rfl
theorem width_1 (w : World) : (Instr.index 193 tabV (.int .i64 1)).run Tryz.prog w = .ok (.agg #[.int .i64 (-63), .int .i64 64, .int .i64 2, .int .i64 2, .int .i64 63, .int .i64 7]) w := by kernel_rfl
theorem width_2 (w : World) : (Instr.index 193 tabV (.int .i64 2)).run Tryz.prog w = .ok (.agg #[.int .i64 (-255), .int .i64 256, .int .i64 6, .int .i64 3, .int .i64 255, .int .i64 9]) w := by kernel_rfl
theorem width_3 (w : World) : (Instr.index 193 tabV (.int .i64 3)).run Tryz.prog w = .ok (.agg #[.int .i64 (-2047), .int .i64 2048, .int .i64 14, .int .i64 4, .int .i64 2047, .int .i64 12]) w := by kernel_rfl
theorem width_4 (w : World) : (Instr.index 193 tabV (.int .i64 4)).run Tryz.prog w = .ok (.agg #[.int .i64 (-9223372036854775808), .int .i64 9223372036854775807, .int .i64 15, .int .i64 4, .int .i64 0, .int .i64 64]) w := by kernel_rfl
end Go.Proofs.YtllfanlhgnkcfaaGreatDoor.S
namespace Go.Proofs.YtllfanlhgnkcfaaGreatDoor.S
open Go.RowKit Go.Proofs.Lys
set_option linter.unusedVariables false
theorem foot_two {w w1 w2 w3 : World} {b : Nat} {v v1 : Value} (h0 : Kept w w1) (h1 : Only (Foot b v) w1 w2) (hn : ∀ k, v1.ownBlock = some k → v.ownBlock = some k ∨ w1.heap.size ≤ k) (h2 : Only (Foot b v1) w2 w3) : Only (Foot b v) w w3 := by
 refine ((h0.mono (fun _ _ f => f.elim)).trans h1 (fun _ _ e => e)).trans h2 (fun j hj e => ?_)
 rcases e with e | e
 ·exact .inl e
 ·rcases hn j e with e' | e'
  ·exact .inr e'
  ·have := h0.size
   omega
theorem encE_at {e : Int} {k : Nat} (h : wk e = k) : encE e = mkB k ++ bitsL (uN (e + ws k)) (wb k) := by rw [encE, h]
theorem two_puts {l : List Bool} {e : Int} {k m : Nat} {X : Int} (h : wk e = k) (hm : mkB k = bitsL (uN X) m) : l ++ encE e = (l ++ bitsL (uN X) m) ++ bitsL (uN (e + ws k)) (wb k) := by
 rw [encE_at h, hm, List.append_assoc]
theorem mk_0 : mkB 0 = bitsL (uN 0) 1 := by decide +kernel
theorem mk_1 : mkB 1 = bitsL (uN 2) 2 := by decide +kernel
theorem mk_2 : mkB 2 = bitsL (uN 6) 3 := by decide +kernel
theorem mk_3 : mkB 3 = bitsL (uN 14) 4 := by decide +kernel
theorem mk_4 : mkB 4 = bitsL (uN 15) 4 := by decide +kernel
theorem wk_spec (e : Int) : (wk e = 0 ∧ e = 0) ∨ (wk e = 1 ∧ e ≠ 0 ∧ -63 ≤ e ∧ e ≤ 64) ∨ (wk e = 2 ∧ e ≠ 0 ∧ ¬ (-63 ≤ e ∧ e ≤ 64) ∧ -255 ≤ e ∧ e ≤ 256) ∨ (wk e = 3 ∧ e ≠ 0 ∧ ¬ (-63 ≤ e ∧ e ≤ 64) ∧ ¬ (-255 ≤ e ∧ e ≤ 256) ∧ -2047 ≤ e ∧ e ≤ 2048) ∨
  (wk e = 4 ∧ e ≠ 0 ∧ ¬ (-63 ≤ e ∧ e ≤ 64) ∧ ¬ (-255 ≤ e ∧ e ≤ 256) ∧ ¬ (-2047 ≤ e ∧ e ≤ 2048)) := by
 unfold wk
 by_cases h0 : e = 0
 ·simp [h0]
 ·by_cases h1 : -63 ≤ e ∧ e ≤ 64
  ·simp [h0, h1]
  ·by_cases h2 : -255 ≤ e ∧ e ≤ 256
   ·simp [h0, h1, h2]
   ·by_cases h3 : -2047 ≤ e ∧ e ≤ 2048
    ·simp [h0, h1, h2, h3]
    ·simp [h0, h1, h2, h3]
set_option maxRecDepth 100000 in
set_option maxHeartbeats 1600000 in
theorem sput_any {w : World} {b : Nat} {v : Value} {l : List Bool} (h : WrAt w b v l) (e : Int) (h0 : -1000000000000000000 ≤ e) (h1 : e ≤ 1000000000000000000) (hl : l.length ≤ 900000) :
  Calls Tryz.prog 118 #[.pointer (some ⟨b, 0, none⟩), .int .i64 e] w fun e' w' => e' = .returned (.tuple #[]) ∧ ∃ v', WrAt w' b v' (l ++ encE e) ∧ Only (Foot b v) w w' ∧ ∀ k, v'.ownBlock = some k → v.ownBlock = some k ∨ w.heap.size ≤ k := by
 have hw := wk_spec e
 have HH := hid h
 clear h
 have i0 := width_0
 have i1 := width_1
 have i2 := width_2
 have i3 := width_3
 have i4 := width_4
 go_enter Tryz.func118, Tryz.ntmps118
 go_wp2_with fail
 refine (widths_any w).mono ?_
 rintro e' w1 ⟨rfl, k1⟩
 generalize tabV = T at i0 i1 i2 i3 i4 ⊢
 go_wp2_with fail
 go_loopw [7] (fun i wr => ∃ k : Nat, k ≤ wk e ∧ i = .int .i64 (k : Int) ∧ Kept w wr) (fun i _ => 5 - (intOf i).toNat)
 case atStart => exact ⟨0, Nat.zero_le _, rfl, k1⟩
 case round =>
  obtain ⟨k, hk, rfl, kr⟩ := hrel
  have hk4 : k = 0 ∨ k = 1 ∨ k = 2 ∨ k = 3 ∨ k = 4 := by omega
  have hlt : b < w.heap.size := HH.out.blk.lt
  have hvl : ∀ j, v.ownBlock = some j → j < w.heap.size := fun j hj => (HH.out.own.lt j hj).2
  have hsz := kr.size
  rcases hk4 with rfl | rfl | rfl | rfl | rfl
  ·by_cases hf : wk e = 0
   ·have f1 : 0 ≤ e := by omega
    have f2 : e ≤ 0 := by omega
    have f3 : e = 0 := by omega
    subst f3
    have HV := hid hvl
    have HF := hid hf
    clear hw hk hvl hf
    go_wp2_with fail
    refine (put_wr (HH.out.only (kr.alloc _) (fun f => f) (fun _ _ f => f)) 0 1 1 (.inr (.inr ⟨rfl, by decide⟩)) (by omega)).mono ?_
    rintro e' w2 ⟨rfl, v2, h2, k2, n2⟩
    have hone := k2.blk (Blk.new wr [.int .i64 0, .int .i64 0, .int .i64 0, .int .i64 1, .int .i64 0, .int .i64 0] 192) (fun f => by
     rcases f with f | f
     ·omega
     ·have := HV.out _ f
      omega)
    have c4 := hone.cell 4 rfl
    have c5 := hone.cell 5 rfl
    go_wp2_with fail
    refine (put_wr h2 0 0 0 (.inr (.inr ⟨rfl, by decide⟩)) (by simp [bitsL_length]; omega)).mono ?_
    rintro e' w3 ⟨rfl, v3, h3, k3, n3⟩
    go_wp2_with fail
    (try simp only [Exit.inBlock, Exit.then])
    refine bodyPost_ret (results_none rfl _ _ _) rfl ?_
    refine ⟨rfl, v3, ?_, foot_two (kr.alloc _) k2 n2 k3, ?_⟩
    ·rw [two_puts HF.out mk_0]
     exact h3
    ·intro j hj
     have h2s := k2.size
     rcases n3 j hj with h | h
     ·rcases n2 j h with h' | h'
      ·exact .inl h'
      ·right
       simp at h'
       omega
     ·right
      simp at h2s
      omega
   ·have f1 : ¬ (0 ≤ e ∧ e ≤ 0) := by omega
    have hk' : 1 ≤ wk e := by omega
    have HK := hid hk'
    clear hw hk hk' hf
    by_cases f2 : 0 ≤ e
    ·have f3 : ¬ e ≤ 0 := by omega
     go_wp2_with fail
     exact ⟨⟨1, HK.out, rfl, kr.alloc _⟩, by decide⟩
    ·go_wp2_with fail
     exact ⟨⟨1, HK.out, rfl, kr.alloc _⟩, by decide⟩
  ·by_cases hf : wk e = 1
   ·have f1 : (-63) ≤ e := by omega
    have f2 : e ≤ 64 := by omega
    have HV := hid hvl
    have HF := hid hf
    clear hw hk hvl hf
    go_wp2_with fail
    refine (put_wr (HH.out.only (kr.alloc _) (fun f => f) (fun _ _ f => f)) 2 2 2 (.inr (.inr ⟨rfl, by decide⟩)) (by omega)).mono ?_
    rintro e' w2 ⟨rfl, v2, h2, k2, n2⟩
    have hone := k2.blk (Blk.new wr [.int .i64 (-63), .int .i64 64, .int .i64 2, .int .i64 2, .int .i64 63, .int .i64 7] 192) (fun f => by
     rcases f with f | f
     ·omega
     ·have := HV.out _ f
      omega)
    have c4 := hone.cell 4 rfl
    have c5 := hone.cell 5 rfl
    go_wp2_with fail
    refine (put_wr h2 (e + 63) 7 7 (.inr (.inr ⟨rfl, by decide⟩)) (by simp [bitsL_length]; omega)).mono ?_
    rintro e' w3 ⟨rfl, v3, h3, k3, n3⟩
    go_wp2_with fail
    (try simp only [Exit.inBlock, Exit.then])
    refine bodyPost_ret (results_none rfl _ _ _) rfl ?_
    refine ⟨rfl, v3, ?_, foot_two (kr.alloc _) k2 n2 k3, ?_⟩
    ·rw [two_puts HF.out mk_1]
     exact h3
    ·intro j hj
     have h2s := k2.size
     rcases n3 j hj with h | h
     ·rcases n2 j h with h' | h'
      ·exact .inl h'
      ·right
       simp at h'
       omega
     ·right
      simp at h2s
      omega
   ·have f1 : ¬ ((-63) ≤ e ∧ e ≤ 64) := by omega
    have hk' : 2 ≤ wk e := by omega
    have HK := hid hk'
    clear hw hk hk' hf
    by_cases f2 : (-63) ≤ e
    ·have f3 : ¬ e ≤ 64 := by omega
     go_wp2_with fail
     exact ⟨⟨2, HK.out, rfl, kr.alloc _⟩, by decide⟩
    ·go_wp2_with fail
     exact ⟨⟨2, HK.out, rfl, kr.alloc _⟩, by decide⟩
  ·by_cases hf : wk e = 2
   ·have f1 : (-255) ≤ e := by omega
    have f2 : e ≤ 256 := by omega
    have HV := hid hvl
    have HF := hid hf
    clear hw hk hvl hf
    go_wp2_with fail
    refine (put_wr (HH.out.only (kr.alloc _) (fun f => f) (fun _ _ f => f)) 6 3 3 (.inr (.inr ⟨rfl, by decide⟩)) (by omega)).mono ?_
    rintro e' w2 ⟨rfl, v2, h2, k2, n2⟩
    have hone := k2.blk (Blk.new wr [.int .i64 (-255), .int .i64 256, .int .i64 6, .int .i64 3, .int .i64 255, .int .i64 9] 192) (fun f => by
     rcases f with f | f
     ·omega
     ·have := HV.out _ f
      omega)
    have c4 := hone.cell 4 rfl
    have c5 := hone.cell 5 rfl
    go_wp2_with fail
    refine (put_wr h2 (e + 255) 9 9 (.inr (.inr ⟨rfl, by decide⟩)) (by simp [bitsL_length]; omega)).mono ?_
    rintro e' w3 ⟨rfl, v3, h3, k3, n3⟩
    go_wp2_with fail
    (try simp only [Exit.inBlock, Exit.then])
    refine bodyPost_ret (results_none rfl _ _ _) rfl ?_
    refine ⟨rfl, v3, ?_, foot_two (kr.alloc _) k2 n2 k3, ?_⟩
    ·rw [two_puts HF.out mk_2]
     exact h3
    ·intro j hj
     have h2s := k2.size
     rcases n3 j hj with h | h
     ·rcases n2 j h with h' | h'
      ·exact .inl h'
      ·right
       simp at h'
       omega
     ·right
      simp at h2s
      omega
   ·have f1 : ¬ ((-255) ≤ e ∧ e ≤ 256) := by omega
    have hk' : 3 ≤ wk e := by omega
    have HK := hid hk'
    clear hw hk hk' hf
    by_cases f2 : (-255) ≤ e
    ·have f3 : ¬ e ≤ 256 := by omega
     go_wp2_with fail
     exact ⟨⟨3, HK.out, rfl, kr.alloc _⟩, by decide⟩
    ·go_wp2_with fail
     exact ⟨⟨3, HK.out, rfl, kr.alloc _⟩, by decide⟩
  ·by_cases hf : wk e = 3
   ·have f1 : (-2047) ≤ e := by omega
    have f2 : e ≤ 2048 := by omega
    have HV := hid hvl
    have HF := hid hf
    clear hw hk hvl hf
    go_wp2_with fail
    refine (put_wr (HH.out.only (kr.alloc _) (fun f => f) (fun _ _ f => f)) 14 4 4 (.inr (.inr ⟨rfl, by decide⟩)) (by omega)).mono ?_
    rintro e' w2 ⟨rfl, v2, h2, k2, n2⟩
    have hone := k2.blk (Blk.new wr [.int .i64 (-2047), .int .i64 2048, .int .i64 14, .int .i64 4, .int .i64 2047, .int .i64 12] 192) (fun f => by
     rcases f with f | f
     ·omega
     ·have := HV.out _ f
      omega)
    have c4 := hone.cell 4 rfl
    have c5 := hone.cell 5 rfl
    go_wp2_with fail
    refine (put_wr h2 (e + 2047) 12 12 (.inr (.inr ⟨rfl, by decide⟩)) (by simp [bitsL_length]; omega)).mono ?_
    rintro e' w3 ⟨rfl, v3, h3, k3, n3⟩
    go_wp2_with fail
    (try simp only [Exit.inBlock, Exit.then])
    refine bodyPost_ret (results_none rfl _ _ _) rfl ?_
    refine ⟨rfl, v3, ?_, foot_two (kr.alloc _) k2 n2 k3, ?_⟩
    ·rw [two_puts HF.out mk_3]
     exact h3
    ·intro j hj
     have h2s := k2.size
     rcases n3 j hj with h | h
     ·rcases n2 j h with h' | h'
      ·exact .inl h'
      ·right
       simp at h'
       omega
     ·right
      simp at h2s
      omega
   ·have f1 : ¬ ((-2047) ≤ e ∧ e ≤ 2048) := by omega
    have hk' : 4 ≤ wk e := by omega
    have HK := hid hk'
    clear hw hk hk' hf
    by_cases f2 : (-2047) ≤ e
    ·have f3 : ¬ e ≤ 2048 := by omega
     go_wp2_with fail
     exact ⟨⟨4, HK.out, rfl, kr.alloc _⟩, by decide⟩
    ·go_wp2_with fail
     exact ⟨⟨4, HK.out, rfl, kr.alloc _⟩, by decide⟩
  ·by_cases hf : wk e = 4
   ·have f1 : (-9223372036854775808) ≤ e := by omega
    have f2 : e ≤ 9223372036854775807 := by omega
    have HV := hid hvl
    have HF := hid hf
    clear hw hk hvl hf
    go_wp2_with fail
    refine (put_wr (HH.out.only (kr.alloc _) (fun f => f) (fun _ _ f => f)) 15 4 4 (.inr (.inr ⟨rfl, by decide⟩)) (by omega)).mono ?_
    rintro e' w2 ⟨rfl, v2, h2, k2, n2⟩
    have hone := k2.blk (Blk.new wr [.int .i64 (-9223372036854775808), .int .i64 9223372036854775807, .int .i64 15, .int .i64 4, .int .i64 0, .int .i64 64] 192) (fun f => by
     rcases f with f | f
     ·omega
     ·have := HV.out _ f
      omega)
    have c4 := hone.cell 4 rfl
    have c5 := hone.cell 5 rfl
    go_wp2_with fail
    refine (put_wr h2 e 64 64 (.inr (.inr ⟨rfl, by decide⟩)) (by simp [bitsL_length]; omega)).mono ?_
    rintro e' w3 ⟨rfl, v3, h3, k3, n3⟩
    go_wp2_with fail
    (try simp only [Exit.inBlock, Exit.then])
    refine bodyPost_ret (results_none rfl _ _ _) rfl ?_
    refine ⟨rfl, v3, ?_, foot_two (kr.alloc _) k2 n2 k3, ?_⟩
    ·rw [two_puts HF.out mk_4, show e + ws 4 = e from Int.add_zero e]
     exact h3
    ·intro j hj
     have h2s := k2.size
     rcases n3 j hj with h | h
     ·rcases n2 j h with h' | h'
      ·exact .inl h'
      ·right
       simp at h'
       omega
     ·right
      simp at h2s
      omega
   ·omega
end Go.Proofs.YtllfanlhgnkcfaaGreatDoor.S
namespace Go.Proofs.YtllfanlhgnkcfaaGreatDoor.S
open Go.RowKit Go.Proofs.Lys
set_option linter.unusedVariables false
def restB (l : List Int) (k : Nat) (g : Int) : List Bool := if k = 0 then allB l else encT (l.getD (k - 1) 0) g (l.drop k)
theorem restB_step {l : List Int} {k : Nat} (g : Int) (hk : k + 1 < l.length) : restB l (k + 1) g = encE (l[k + 1] - l[k] - g) ++ restB l (k + 2) (l[k + 1] - l[k]) := by
 unfold restB
 rw [if_neg (by omega), if_neg (by omega), List.drop_eq_getElem_cons hk]
 simp only [encT, Nat.add_sub_cancel, List.getD_eq_getElem?_getD]
 rw [List.getElem?_eq_getElem (show k < l.length by omega), List.getElem?_eq_getElem (show k + 2 - 1 < l.length by omega)]
 rfl
theorem restB_zero {l : List Int} (h : 0 < l.length) (g : Int) : restB l 0 g = bitsL (uN l[0]) 64 ++ restB l 1 0 := by
 cases l with
 | nil => simp at h
 | cons t r => simp [restB, allB]
theorem restB_end {l : List Int} {k : Nat} (g : Int) (h0 : 0 < k) (h : l.length ≤ k) : restB l k g = [] := by
 unfold restB
 rw [if_neg (by omega), List.drop_eq_nil_of_le h]
 rfl
theorem rest_few {l : List Int} {k : Nat} {g : Int} {lw : List Bool} (h : lw ++ restB l k g = allB l) (hl : l.length ≤ 120) : lw.length ≤ 10000 := by
 have h1 := allB_length l
 rw [← h, List.length_append] at h1
 omega
theorem src_cells {w : World} {b o n c : Nat} {xs : List Value} (h : SrcOf w (.slice (some ⟨b, o, none⟩) n c) xs) : ∀ j u, xs[j]? = some u → w.cell? ⟨b, o + j, none⟩ = some u := by
 intro j u hu
 rcases h with ⟨h, _⟩ | ⟨a, c', h, hc⟩
 ·cases h
 ·cases h
  rw [← add_none]
  exact hc j u hu
theorem int_cells {w : World} {b o n c : Nat} {l : List Int} (h : SrcOf w (.slice (some ⟨b, o, none⟩) n c) (l.map (Value.int .i64))) : ∀ j (hj : j < l.length), w.cell? ⟨b, o + j, none⟩ = some (.int .i64 l[j]) :=
 fun j hj => src_cells h j _ (by rw [List.getElem?_map, List.getElem?_eq_getElem hj]; rfl)
structure PkIn (w : World) (B : Nat) (wr : World) (vw : Value) (lw : List Bool) : Prop where
 at_ : WrAt wr B vw lw
 kept : Kept w wr
 new : w.heap.size ≤ B
 row : ∀ j, vw.ownBlock = some j → w.heap.size ≤ j
theorem PkIn.put {w wr w' : World} {B : Nat} {vw v' : Value} {lw lw' : List Bool} (h : PkIn w B wr vw lw) (hw : WrAt w' B v' lw') (ho : Only (Foot B vw) wr w') (hn : ∀ k, v'.ownBlock = some k → vw.ownBlock = some k ∨ wr.heap.size ≤ k) : PkIn w B w' v' lw' := by
 have hs := h.kept.size
 refine ⟨hw, h.kept.trans ho (fun j hj e => ?_), h.new, fun j hj => ?_⟩
 ·have := h.new
  rcases e with e | e
  ·omega
  ·have := h.row j e
   omega
 ·rcases hn j hj with e | e
  ·exact h.row j e
  ·omega
theorem PkIn.drew {w wr : World} {B : Nat} {vw : Value} {lw : List Bool} (h : PkIn w B wr vw lw) : PkIn w B wr.drew vw lw :=
 ⟨h.at_.only (Only.drew (Only.refl (fun _ => False) wr)) (fun f => f) (fun _ _ f => f), h.kept.drew, h.new, h.row⟩
def PackPost (w : World) (l : List Int) (e : Ending) (w' : World) : Prop :=
 Kept w w' ∧ ∃ u bs x, e = .returned (.tuple #[u, .int .i64 x]) ∧ Packs l bs x ∧ w'.ownsRow w.heap.size 5 1 u bs.length (bs.map bV)
set_option maxRecDepth 100000 in
set_option maxHeartbeats 1600000 in
theorem pack_any (w : World) (v : Value) (l : List Int) (hs : SrcOf w v (l.map (Value.int .i64))) (hl : l.length ≤ 1000) :
  Calls Tryz.prog 101 #[v] w (PackPost w l) := by
 have hnot : ∀ (x : Bool) (w : World), (Op.unary .not (.bool x)).run Tryz.prog w = .ok (.bool (!x)) w := fun _ _ => rfl
 have hr := rising_any w v l hs hl
 obtain ⟨a0, c0, e0⟩ := hs.len
 rw [List.length_map] at e0
 by_cases h120 : 120 < l.length
 ·obtain ⟨L, hL⟩ : ∃ L, l.length = L := ⟨_, rfl⟩
  rw [hL] at e0 h120
  subst e0
  go_enter Tryz.func101, Tryz.ntmps101
  go_wp2_with fail
  go_ret2
  exact ⟨Only.refl _ w, _, [], 2, rfl, .inl ⟨by omega, rfl, rfl⟩, World.ownsRow_nil _ _ _ _⟩
 ·by_cases hR : Rising l
  ·have hr' : Calls Tryz.prog 116 #[v] w fun e w' => w' = w ∧ e = .returned (.bool true) := hr.mono (by
    rintro e w' ⟨rfl, ⟨rfl, _⟩ | ⟨_, hn⟩⟩
    ·exact ⟨rfl, rfl⟩
    ·exact absurd hR hn)
   rcases hs.shape with ⟨hnil, a, c, rfl⟩ | ⟨hpos, b, o, c, rfl, hc⟩
   ·have el : l = [] := List.map_eq_nil_iff.1 hnil
    subst el
    clear e0
    go_enter Tryz.func101, Tryz.ntmps101
    go_wp2_with fail
    refine hr'.mono ?_
    rintro e w' ⟨hw, rfl⟩
    replace hw := hw.symm
    subst hw
    go_wp2_with fail
    go_ret2
    exact ⟨Only.refl _ w, _, [], 0, rfl, .inr (.inr ⟨by simp, hR, rfl, rfl⟩), World.ownsRow_nil _ _ _ _⟩
   ·rw [List.length_map] at hpos hs hr' ⊢
    clear e0 hr
    obtain ⟨L, hL⟩ : ∃ L, l.length = L := ⟨_, rfl⟩
    have HS := hid hs
    have hc0 := int_cells hs 0 hpos
    obtain ⟨x0, hx0⟩ : ∃ x, l[0] = x := ⟨_, rfl⟩
    rw [hx0] at hc0
    rw [Nat.add_zero] at hc0
    rw [hL] at hpos hr' HS h120 ⊢
    have HL := hid hL
    have HX := hid hx0
    have HR := hid hR
    clear hL hx0 hs hc hR
    go_enter Tryz.func101, Tryz.ntmps101
    go_wp2_with fail
    refine hr'.mono ?_
    rintro e w' ⟨hw, rfl⟩
    replace hw := hw.symm
    subst hw
    clear hr'
    have hA := WrAt.new w
    have kA : Kept w (w.alloc (.cells #[.slice none 0 0, .int .i64 0] 174)) := (Only.refl _ w).alloc _
    have hc0' : (w.alloc (.cells #[.slice none 0 0, .int .i64 0] 174)).cell? ⟨b, o, none⟩ = some (.int .i64 x0) := by
     have := int_cells (HS.out.stay kA) 0 (by have := HL.out; omega)
     rw [HX.out, Nat.add_zero] at this
     exact this
    go_wp2_with fail
    refine (put_wr hA x0 64 64 (.inr (.inr ⟨rfl, by decide⟩)) (by simp)).mono ?_
    rintro e w1 ⟨rfl, v1, h1, k1, n1⟩
    have hP : PkIn w w.heap.size w1 v1 ([] ++ bitsL (uN x0) 64) := PkIn.put ⟨hA, kA, Nat.le_refl _, fun j hj => by cases hj⟩ h1 k1 n1
    have hB : ([] ++ bitsL (uN x0) 64) ++ restB l 1 0 = allB l := by
     have hp : 0 < l.length := by have := HL.out; omega
     have := restB_zero hp 0
     rw [HX.out] at this
     rw [List.nil_append, ← this]
     rfl
    have HP := hid hP
    have HB := hid hB
    generalize hbk : w.heap.size = B at HP ⊢
    clear hA kA hc0' h1 k1 n1 hP hB hc0
    go_wp2_with fail
    go_loopw [5, 6] (fun g i wr => ∃ (k : Nat) (G : Int) (vw : Value) (lw : List Bool), k + 1 ≤ L ∧ g = .int .i64 G ∧ i = .int .i64 ((k : Int) + 1) ∧ -18014398509481984 ≤ G ∧ G ≤ 18014398509481984 ∧ PkIn w B wr vw lw ∧ lw ++ restB l (k + 1) G = allB l) (fun _ i _ => L - (intOf i).toNat)
    case atStart => exact ⟨0, 0, v1, _, by omega, rfl, rfl, by omega, by omega, HP.out, HB.out⟩
    case round =>
     obtain ⟨k, G, vw, lw, hk, rfl, rfl, g1, g2, hI, hb⟩ := hrel
     have HI := hid hI
     have Hb := hid hb
     clear hI hb
     by_cases hlt : k + 1 < L
     ·have hkl : k + 1 < l.length := by have := HL.out; omega
      have hcx := int_cells (HS.out.stay HI.out.kept) (k + 1) hkl
      have hcy := int_cells (HS.out.stay HI.out.kept) k (by omega)
      have bx := HR.out (k + 1) hkl
      have by_ := HR.out k (by omega)
      simp only [Nat.add_sub_cancel] at bx
      obtain ⟨x, hx⟩ : ∃ x, l[k + 1] = x := ⟨_, rfl⟩
      obtain ⟨y, hy⟩ : ∃ y, l[k] = y := ⟨_, rfl⟩
      have hst := restB_step G hkl
      rw [hx] at hcx bx hst
      rw [hy] at hcy by_ bx hst
      have hyx : y < x := bx.2.2 (by omega)
      have x1 := bx.1
      have x2 := bx.2.1
      have y1 := by_.1
      have y2 := by_.2.1
      have Hst := hid hst
      clear bx by_ hx hy hst hkl
      go_wp2_with fail
      go_region
      replace HI := hid HI.out.drew
      go_wp2_with fail
      refine (sput_any HI.out.at_ (x - y - G) (by omega) (by omega) (by have := rest_few Hb.out (by have := HL.out; omega); omega)).mono ?_
      rintro e w2 ⟨rfl, v2, h2, k2, n2⟩
      go_wp2_with fail
      go_roundw
      case rel => exact ⟨k + 1, x - y, v2, _, by omega, rfl, by go_num, by omega, by omega, HI.out.put h2 k2 n2, by rw [List.append_assoc, ← Hst.out]; exact Hb.out⟩
      case measure => simp [intOf]; omega
     ·have e : k + 1 = L := by omega
      have hw := HI.out.at_
      have hfull : lw = allB l := by
       have := Hb.out
       rw [restB_end G (by omega) (by have := HL.out; omega), List.append_nil] at this
       exact this
      have HFu := hid hfull
      clear hfull
      go_wp2_with fail
      refine (wbytes_any _ B vw _ (packL lw) hw.blk hw.src (by rw [packL_length]; have := rest_few Hb.out (by have := HL.out; omega); omega)).mono ?_
      rintro e w3 ⟨v3, rfl, h3, k3⟩
      go_wp2_with fail
      go_ret2
      have hs3 := HI.out.kept.size
      exact ⟨HI.out.kept.trans k3 (fun _ _ f => f), v3, packL lw, 0, rfl, .inr (.inr ⟨by have := HL.out; omega, HR.out, by rw [HFu.out], rfl⟩), own_base h3 hs3⟩
  ·have hr' : Calls Tryz.prog 116 #[v] w fun e w' => w' = w ∧ e = .returned (.bool false) := hr.mono (by
    rintro e w' ⟨rfl, ⟨_, hn⟩ | ⟨rfl, _⟩⟩
    ·exact absurd hn hR
    ·exact ⟨rfl, rfl⟩)
   obtain ⟨L, hL⟩ : ∃ L, l.length = L := ⟨_, rfl⟩
   rw [hL] at e0 h120
   subst e0
   go_enter Tryz.func101, Tryz.ntmps101
   go_wp2_with fail
   refine hr'.mono ?_
   rintro e w' ⟨hw, rfl⟩
   replace hw := hw.symm
   subst hw
   go_wp2_with fail
   go_ret2
   exact ⟨Only.refl _ w, _, [], 21, rfl, .inr (.inl ⟨by omega, hR, rfl, rfl⟩), World.ownsRow_nil _ _ _ _⟩
end Go.Proofs.YtllfanlhgnkcfaaGreatDoor.S
namespace Go.Proofs.YtllfanlhgnkcfaaGreatDoor.S
open Go.RowKit Go.Proofs.Lys
set_option linter.unusedVariables false
theorem kept_drewN {w w' : World} (h : Kept w w') (n : Nat) : Kept w (w'.drewN n) := by
 induction n with
 | zero => exact h
 | succ n ih => exact ih.drew
set_option maxRecDepth 100000 in
set_option maxHeartbeats 1600000 in
theorem rrising_any (w : World) (v : Value) (l : List Int) (hs : SrcOf w v (l.map (Value.int .i64))) (hl : l.length ≤ 100000) :
  Calls Tryz.prog 35 #[v] w fun e w' => Kept w w' ∧ ((e = .returned (.bool true) ∧ Rising l) ∨ (e = .returned (.bool false) ∧ ¬ Rising l)) := by
 rcases hs.shape with ⟨hnil, a, c, rfl⟩ | ⟨hpos, b, o, c, rfl, hc⟩
 ·have e0 : l = [] := List.map_eq_nil_iff.1 hnil
  subst e0
  go_enter Tryz.func35, Tryz.ntmps35
  go_wp2
  refine wp_loop_rounds 1 ?_
  rw [rounds_succ]
  go_wp2
  go_ret
  exact ⟨Only.refl _ _, .inl ⟨rfl, fun i hi => absurd hi (Nat.not_lt_zero i)⟩⟩
 ·rw [List.length_map] at hpos hs ⊢
  obtain ⟨L, hL⟩ : ∃ L, l.length = L := ⟨_, rfl⟩
  have HS := hid hs
  rw [hL] at hpos hl HS ⊢
  have HL := hid hL
  clear hL hc hs
  go_enter Tryz.func35, Tryz.ntmps35
  go_wp2
  go_loopw [3] (fun s wr => ∃ (k : Nat), k ≤ L ∧ s = .int .i64 (k : Int) ∧ Kept w wr ∧ (∀ i (h : i < l.length), i < k → -9007199254740992 ≤ l[i] ∧ l[i] ≤ 9007199254740992 ∧ (0 < i → l[i - 1] < l[i]))) (fun s _ => L - (intOf s).toNat)
  case atStart => exact ⟨0, by omega, rfl, Only.refl _ _, fun i _ h => absurd h (Nat.not_lt_zero i)⟩
  case round =>
   obtain ⟨k, hk, rfl, kr, hr⟩ := hrel
   have HR := hid hr
   clear hr
   by_cases hlt : k < L
   ·have hkl : k < l.length := by have := HL.out; omega
    have hcell := int_cells (HS.out.stay kr) k hkl
    obtain ⟨x, hx⟩ : ∃ x, l[k] = x := ⟨_, rfl⟩
    rw [hx] at hcell
    have HX := hid hx
    clear hx
    by_cases h1 : x < -9007199254740992
    ·have d1 : decide (x < -9007199254740992) = true := by simp [h1]
     clear h1
     go_wp2_with fail
     go_quiet (fail)
     go_wp2_with fail
     go_ret
     simp at d1
     exact ⟨(kept_drewN kr nq), .inr ⟨rfl, fun hR => by have := (hR k hkl).1; rw [HX.out] at this; omega⟩⟩
    ·have d1 : decide (x < -9007199254740992) = false := by simp; omega
     by_cases h2 : 9007199254740992 < x
     ·have d2 : decide (9007199254740992 < x) = true := by simp [h2]
      go_wp2_with fail
      go_quiet (fail)
      go_wp2_with fail
      go_ret
      exact ⟨(kept_drewN kr nq), .inr ⟨rfl, fun hR => by have := (hR k hkl).2.1; rw [HX.out] at this; omega⟩⟩
     ·have d2 : decide (9007199254740992 < x) = false := by simp; omega
      by_cases h0 : k = 0
      ·subst h0
       simp only [Nat.add_zero] at hcell
       go_wp2_with fail
       go_quiet (fail)
       go_wp2_with fail
       go_roundw
       case rel =>
        refine ⟨1, by omega, rfl, (kept_drewN kr nq), fun i hi h => ?_⟩
        have e : i = 0 := by omega
        subst e
        rw [HX.out]
        exact ⟨by omega, by omega, fun h => absurd h (Nat.lt_irrefl 0)⟩
       case measure => simp [intOf]; omega
      ·obtain ⟨k', rfl⟩ : ∃ k', k = k' + 1 := ⟨k - 1, by omega⟩
       have hkl' : k' < l.length := by omega
       have hcell' := int_cells (HS.out.stay kr) k' hkl'
       obtain ⟨y, hy⟩ : ∃ y, l[k'] = y := ⟨_, rfl⟩
       rw [hy] at hcell'
       have HY := hid hy
       clear hy
       have d0 : decide ((0 : Int) < (k' : Int) + 1) = true := by simp; try omega
       by_cases h3 : x ≤ y
       ·have d3 : decide (x ≤ y) = true := by simp [h3]
        go_wp2_with fail
        go_quiet (fail)
        go_wp2_with fail
        go_ret
        exact ⟨(kept_drewN kr nq), .inr ⟨rfl, fun hR => by
         have := (hR (k' + 1) hkl).2.2 (by omega)
         rw [HX.out] at this
         simp only [Nat.add_sub_cancel, HY.out] at this
         omega⟩⟩
       ·have d3 : decide (x ≤ y) = false := by simp; omega
        go_wp2_with fail
        go_quiet (fail)
        go_wp2_with fail
        go_roundw
        case rel =>
         refine ⟨k' + 2, by omega, by go_num, (kept_drewN kr nq), fun i hi h => ?_⟩
         by_cases e : i = k' + 1
         ·subst e
          rw [HX.out]
          exact ⟨by omega, by omega, fun _ => by simp only [Nat.add_sub_cancel, HY.out]; omega⟩
         ·exact HR.out i hi (by omega)
        case measure => simp [intOf]; omega
   ·have e : k = L := by omega
    subst e
    go_wp2
    go_ret
    exact ⟨kr, .inl ⟨rfl, fun i hi => HR.out i hi (by have := HL.out; omega)⟩⟩
structure RkIn (w : World) (B : Nat) (wr : World) (vw : Value) (lw : List Bool) : Prop where
 at_ : RwAt wr B vw lw
 kept : Kept w wr
 new : w.heap.size ≤ B
 row : ∀ j, vw.ownBlock = some j → w.heap.size ≤ j
theorem RkIn.put {w wr w' : World} {B : Nat} {vw v' : Value} {lw lw' : List Bool} (h : RkIn w B wr vw lw) (hw : RwAt w' B v' lw') (ho : Only (Foot B vw) wr w') (hn : ∀ k, v'.ownBlock = some k → vw.ownBlock = some k ∨ wr.heap.size ≤ k) : RkIn w B w' v' lw' := by
 have hs := h.kept.size
 refine ⟨hw, h.kept.trans ho (fun j hj e => ?_), h.new, fun j hj => ?_⟩
 ·have := h.new
  rcases e with e | e
  ·omega
  ·have := h.row j e
   omega
 ·rcases hn j hj with e | e
  ·exact h.row j e
  ·omega
theorem RkIn.drew {w wr : World} {B : Nat} {vw : Value} {lw : List Bool} (h : RkIn w B wr vw lw) : RkIn w B wr.drew vw lw :=
 ⟨h.at_.only (Only.drew (Only.refl (fun _ => False) wr)) (fun f => f) (fun _ _ f => f), h.kept.drew, h.new, h.row⟩
end Go.Proofs.YtllfanlhgnkcfaaGreatDoor.S
namespace Go.Proofs.YtllfanlhgnkcfaaGreatDoor.S
open Go.RowKit Go.Proofs.Lys
set_option linter.unusedVariables false
set_option maxRecDepth 100000 in
set_option maxHeartbeats 3200000 in
theorem rstamps_any (w : World) (v : Value) (l : List Int) (hs : SrcOf w v (l.map (Value.int .i64))) (hl : l.length ≤ 1000) :
  Calls Tryz.prog 56 #[v] w (PackPost w l) := by
 have hnot : ∀ (x : Bool) (w : World), (Op.unary .not (.bool x)).run Tryz.prog w = .ok (.bool (!x)) w := fun _ _ => rfl
 have hr := rrising_any w v l hs (by omega)
 obtain ⟨a0, c0, e0⟩ := hs.len
 rw [List.length_map] at e0
 by_cases h120 : 120 < l.length
 ·obtain ⟨L, hL⟩ : ∃ L, l.length = L := ⟨_, rfl⟩
  rw [hL] at e0 h120
  subst e0
  go_enter Tryz.func56, Tryz.ntmps56
  go_wp2_with fail
  go_ret2
  exact ⟨Only.refl _ w, _, [], 2, rfl, .inl ⟨by omega, rfl, rfl⟩, World.ownsRow_nil _ _ _ _⟩
 ·by_cases hR : Rising l
  ·have hr' : Calls Tryz.prog 35 #[v] w fun e w' => Kept w w' ∧ e = .returned (.bool true) := hr.mono (by
    rintro e w' ⟨hk, ⟨rfl, _⟩ | ⟨_, hn⟩⟩
    ·exact ⟨hk, rfl⟩
    ·exact absurd hR hn)
   obtain ⟨L, hL⟩ : ∃ L, l.length = L := ⟨_, rfl⟩
   have HS := hid hs
   rw [hL] at e0 h120
   subst e0
   have HL := hid hL
   have HR := hid hR
   clear hL hs hR hr
   go_enter Tryz.func56, Tryz.ntmps56
   go_wp2_with fail
   refine hr'.mono ?_
   rintro e w1 ⟨hk1, rfl⟩
   clear hr'
   have hA := RwAt.new w1
   have kA : Kept w (w1.alloc (.cells #[.slice none 0 0] 115)) := hk1.alloc _
   have HP : Hid (RkIn w w1.heap.size (w1.alloc (.cells #[.slice none 0 0] 115)) (.slice none 0 0) []) := ⟨hA, kA, hk1.size, fun j hj => by cases hj⟩
   generalize hbk : w1.heap.size = B at HP ⊢
   clear hA kA
   go_wp2_with fail
   go_loopw [6, 7] (fun g i wr => ∃ (k : Nat) (G : Int) (vw : Value) (lw : List Bool), k ≤ L ∧ g = .int .i64 G ∧ i = .int .i64 (k : Int) ∧ -18014398509481984 ≤ G ∧ G ≤ 18014398509481984 ∧ RkIn w B wr vw lw ∧ (0 < k → lw ++ restB l k G = allB l) ∧ (k = 0 → lw = [] ∧ G = 0)) (fun _ i _ => L - (intOf i).toNat)
   case atStart => exact ⟨0, 0, _, [], by omega, rfl, rfl, by omega, by omega, HP.out, fun h => absurd h (by omega), fun _ => ⟨rfl, rfl⟩⟩
   case round =>
    obtain ⟨k, G, vw, lw, hk, rfl, rfl, g1, g2, hI, hb, hz⟩ := hrel
    have HI := hid hI
    clear hI
    by_cases hlt : k < L
    ·have hpos : 0 < L := by omega
     obtain ⟨b, o, rfl⟩ : ∃ b o, a0 = some ⟨b, o, none⟩ := by
      rcases HS.out.shape with ⟨hn, _⟩ | ⟨_, b, o, c, hv, _⟩
      ·have := congrArg List.length hn
       rw [List.length_map, HL.out] at this
       simp at this
       omega
      ·cases hv
       exact ⟨b, o, rfl⟩
     by_cases h0 : k = 0
     ·subst h0
      obtain ⟨rfl, rfl⟩ := hz rfl
      have hcx := int_cells (HS.out.stay HI.out.kept) 0 (by have := HL.out; omega)
      obtain ⟨x, hx⟩ : ∃ x, l[0]'(by have := HL.out; omega) = x := ⟨_, rfl⟩
      rw [hx, Nat.add_zero] at hcx
      have hB : ([] ++ bitsL (uN x) 64) ++ restB l 1 0 = allB l := by
       have hp : 0 < l.length := by have := HL.out; omega
       have := restB_zero hp 0
       rw [hx] at this
       rw [List.nil_append, ← this]
       rfl
      have HB := hid hB
      clear hx hB hb hz
      go_wp2_with fail
      refine (put_rw HI.out.at_ x 64 64 (.inr (.inr ⟨rfl, by decide⟩)) (by simp)).mono ?_
      rintro e w2 ⟨rfl, v2, h2, k2, n2⟩
      go_wp2_with fail
      go_roundw
      case rel => exact ⟨1, 0, v2, _, by omega, rfl, rfl, by omega, by omega, HI.out.put h2 k2 n2, fun _ => HB.out, fun h => absurd h (by omega)⟩
      case measure => simp [intOf]; omega
     ·obtain ⟨k, rfl⟩ : ∃ k', k = k' + 1 := ⟨k - 1, by omega⟩
      have Hb := hid (hb (by omega))
      clear hb hz h0
      have hkl : k + 1 < l.length := by have := HL.out; omega
      have hcx := int_cells (HS.out.stay HI.out.kept) (k + 1) hkl
      have hcy := int_cells (HS.out.stay HI.out.kept) k (by omega)
      have bx := HR.out (k + 1) hkl
      have by_ := HR.out k (by omega)
      simp only [Nat.add_sub_cancel] at bx
      obtain ⟨x, hx⟩ : ∃ x, l[k + 1] = x := ⟨_, rfl⟩
      obtain ⟨y, hy⟩ : ∃ y, l[k] = y := ⟨_, rfl⟩
      have hst := restB_step G hkl
      rw [hx] at hcx bx hst
      rw [hy] at hcy by_ bx hst
      have hyx : y < x := bx.2.2 (by omega)
      have x1 := bx.1
      have x2 := bx.2.1
      have y1 := by_.1
      have y2 := by_.2.1
      have Hst := hid hst
      have h00 : ((k : Int) + 1 == 0) = false := by simp; omega
      clear bx by_ hx hy hst hkl
      obtain ⟨E, hE⟩ : ∃ E, x - y - G = E := ⟨_, rfl⟩
      have HE := hid hE
      rcases wk_spec E with ⟨hwk, q0⟩ | ⟨hwk, q0, q1, q2⟩ | ⟨hwk, q0, q1, q2, q3⟩ | ⟨hwk, q0, q1, q2, q3, q4⟩ | ⟨hwk, q0, q1, q2, q3⟩
      ·have HE0 : Hid (x - y - G = 0) := by have := HE.out; show _ = _; omega
       have f0 : E = 0 := by omega
       subst f0
       clear hwk
       go_wp2_with fail
       go_region
       replace HI := hid HI.out.drew
       go_wp2_with fail
       refine (put_rw HI.out.at_ 0 1 1 (.inr (.inr ⟨rfl, by decide⟩)) (by have := rest_few Hb.out (by have := HL.out; omega); omega)).mono ?_
       rintro e w2 ⟨rfl, v2, h2, k2, n2⟩
       have hI2 := HI.out.put h2 k2 n2
       have hb2 : (lw ++ bitsL (uN 0) 1) ++ restB l (k + 2) (x - y) = allB l := by
        rw [← Hb.out, Hst.out, HE0.out, List.append_assoc]
        rfl
       go_wp2_with fail
       go_roundw
       case rel => exact ⟨k + 2, x - y, v2, _, by omega, rfl, by go_num, by omega, by omega, hI2, fun _ => hb2, fun h => absurd h (by omega)⟩
       case measure => simp [intOf]; omega
      ·have f0 : (E == 0) = false := by simp; omega
       have f1 : -63 ≤ E := by omega
       have f2 : E ≤ 64 := by omega
       have HF := hid hwk
       clear hwk
       go_wp2_with fail
       go_region
       replace HI := hid HI.out.drew
       go_wp2_with fail
       refine (put_rw HI.out.at_ 2 2 2 (.inr (.inr ⟨rfl, by decide⟩)) (by have := rest_few Hb.out (by have := HL.out; omega); omega)).mono ?_
       rintro e w2 ⟨rfl, v2, h2, k2, n2⟩
       have hI1 := hid (HI.out.put h2 k2 n2)
       go_wp2_with fail
       refine (put_rw hI1.out.at_ (E + 63) 7 7 (.inr (.inr ⟨rfl, by decide⟩)) (by simp [bitsL_length]; have := rest_few Hb.out (by have := HL.out; omega); omega)).mono ?_
       rintro e w3 ⟨rfl, v3, h3, k3, n3⟩
       have hI2 := hI1.out.put h3 k3 n3
       have hb2 : ((lw ++ bitsL (uN 2) 2) ++ bitsL (uN (E + 63)) 7) ++ restB l (k + 2) (x - y) = allB l := by
        have e1 := two_puts (l := lw) HF.out mk_1
        rw [← Hb.out, Hst.out, HE.out, ← List.append_assoc, e1]
        rfl
       go_wp2_with fail
       go_roundw
       case rel => exact ⟨k + 2, x - y, v3, _, by omega, rfl, by go_num, by omega, by omega, hI2, fun _ => hb2, fun h => absurd h (by omega)⟩
       case measure => simp [intOf]; omega
      ·by_cases hn : E < 0
       ·have f0 : (E == 0) = false := by simp; omega
        have d1 : ¬ -63 ≤ E := by omega
        have f1 : -255 ≤ E := by omega
        have f2 : E ≤ 256 := by omega
        have HF := hid hwk
        clear hwk
        go_wp2_with fail
        go_region
        replace HI := hid HI.out.drew
        go_wp2_with fail
        refine (put_rw HI.out.at_ 6 3 3 (.inr (.inr ⟨rfl, by decide⟩)) (by have := rest_few Hb.out (by have := HL.out; omega); omega)).mono ?_
        rintro e w2 ⟨rfl, v2, h2, k2, n2⟩
        have hI1 := hid (HI.out.put h2 k2 n2)
        go_wp2_with fail
        refine (put_rw hI1.out.at_ (E + 255) 9 9 (.inr (.inr ⟨rfl, by decide⟩)) (by simp [bitsL_length]; have := rest_few Hb.out (by have := HL.out; omega); omega)).mono ?_
        rintro e w3 ⟨rfl, v3, h3, k3, n3⟩
        have hI2 := hI1.out.put h3 k3 n3
        have hb2 : ((lw ++ bitsL (uN 6) 3) ++ bitsL (uN (E + 255)) 9) ++ restB l (k + 2) (x - y) = allB l := by
         have e1 := two_puts (l := lw) HF.out mk_2
         rw [← Hb.out, Hst.out, HE.out, ← List.append_assoc, e1]
         rfl
        go_wp2_with fail
        go_roundw
        case rel => exact ⟨k + 2, x - y, v3, _, by omega, rfl, by go_num, by omega, by omega, hI2, fun _ => hb2, fun h => absurd h (by omega)⟩
        case measure => simp [intOf]; omega
       ·have f0 : (E == 0) = false := by simp; omega
        have d1 : -63 ≤ E := by omega
        have g1 : ¬ E ≤ 64 := by omega
        have f1 : -255 ≤ E := by omega
        have f2 : E ≤ 256 := by omega
        have HF := hid hwk
        clear hwk
        go_wp2_with fail
        go_region
        replace HI := hid HI.out.drew
        go_wp2_with fail
        refine (put_rw HI.out.at_ 6 3 3 (.inr (.inr ⟨rfl, by decide⟩)) (by have := rest_few Hb.out (by have := HL.out; omega); omega)).mono ?_
        rintro e w2 ⟨rfl, v2, h2, k2, n2⟩
        have hI1 := hid (HI.out.put h2 k2 n2)
        go_wp2_with fail
        refine (put_rw hI1.out.at_ (E + 255) 9 9 (.inr (.inr ⟨rfl, by decide⟩)) (by simp [bitsL_length]; have := rest_few Hb.out (by have := HL.out; omega); omega)).mono ?_
        rintro e w3 ⟨rfl, v3, h3, k3, n3⟩
        have hI2 := hI1.out.put h3 k3 n3
        have hb2 : ((lw ++ bitsL (uN 6) 3) ++ bitsL (uN (E + 255)) 9) ++ restB l (k + 2) (x - y) = allB l := by
         have e1 := two_puts (l := lw) HF.out mk_2
         rw [← Hb.out, Hst.out, HE.out, ← List.append_assoc, e1]
         rfl
        go_wp2_with fail
        go_roundw
        case rel => exact ⟨k + 2, x - y, v3, _, by omega, rfl, by go_num, by omega, by omega, hI2, fun _ => hb2, fun h => absurd h (by omega)⟩
        case measure => simp [intOf]; omega
      ·by_cases hn : E < 0
       ·have f0 : (E == 0) = false := by simp; omega
        have d1 : ¬ -63 ≤ E := by omega
        have d2 : ¬ -255 ≤ E := by omega
        have f1 : -2047 ≤ E := by omega
        have f2 : E ≤ 2048 := by omega
        have HF := hid hwk
        clear hwk
        go_wp2_with fail
        go_region
        replace HI := hid HI.out.drew
        go_wp2_with fail
        refine (put_rw HI.out.at_ 14 4 4 (.inr (.inr ⟨rfl, by decide⟩)) (by have := rest_few Hb.out (by have := HL.out; omega); omega)).mono ?_
        rintro e w2 ⟨rfl, v2, h2, k2, n2⟩
        have hI1 := hid (HI.out.put h2 k2 n2)
        go_wp2_with fail
        refine (put_rw hI1.out.at_ (E + 2047) 12 12 (.inr (.inr ⟨rfl, by decide⟩)) (by simp [bitsL_length]; have := rest_few Hb.out (by have := HL.out; omega); omega)).mono ?_
        rintro e w3 ⟨rfl, v3, h3, k3, n3⟩
        have hI2 := hI1.out.put h3 k3 n3
        have hb2 : ((lw ++ bitsL (uN 14) 4) ++ bitsL (uN (E + 2047)) 12) ++ restB l (k + 2) (x - y) = allB l := by
         have e1 := two_puts (l := lw) HF.out mk_3
         rw [← Hb.out, Hst.out, HE.out, ← List.append_assoc, e1]
         rfl
        go_wp2_with fail
        go_roundw
        case rel => exact ⟨k + 2, x - y, v3, _, by omega, rfl, by go_num, by omega, by omega, hI2, fun _ => hb2, fun h => absurd h (by omega)⟩
        case measure => simp [intOf]; omega
       ·have f0 : (E == 0) = false := by simp; omega
        have d1 : -63 ≤ E := by omega
        have g1 : ¬ E ≤ 64 := by omega
        have d2 : -255 ≤ E := by omega
        have g2 : ¬ E ≤ 256 := by omega
        have f1 : -2047 ≤ E := by omega
        have f2 : E ≤ 2048 := by omega
        have HF := hid hwk
        clear hwk
        go_wp2_with fail
        go_region
        replace HI := hid HI.out.drew
        go_wp2_with fail
        refine (put_rw HI.out.at_ 14 4 4 (.inr (.inr ⟨rfl, by decide⟩)) (by have := rest_few Hb.out (by have := HL.out; omega); omega)).mono ?_
        rintro e w2 ⟨rfl, v2, h2, k2, n2⟩
        have hI1 := hid (HI.out.put h2 k2 n2)
        go_wp2_with fail
        refine (put_rw hI1.out.at_ (E + 2047) 12 12 (.inr (.inr ⟨rfl, by decide⟩)) (by simp [bitsL_length]; have := rest_few Hb.out (by have := HL.out; omega); omega)).mono ?_
        rintro e w3 ⟨rfl, v3, h3, k3, n3⟩
        have hI2 := hI1.out.put h3 k3 n3
        have hb2 : ((lw ++ bitsL (uN 14) 4) ++ bitsL (uN (E + 2047)) 12) ++ restB l (k + 2) (x - y) = allB l := by
         have e1 := two_puts (l := lw) HF.out mk_3
         rw [← Hb.out, Hst.out, HE.out, ← List.append_assoc, e1]
         rfl
        go_wp2_with fail
        go_roundw
        case rel => exact ⟨k + 2, x - y, v3, _, by omega, rfl, by go_num, by omega, by omega, hI2, fun _ => hb2, fun h => absurd h (by omega)⟩
        case measure => simp [intOf]; omega
      ·by_cases hn : E < 0
       ·have f0 : (E == 0) = false := by simp; omega
        have d1 : ¬ -63 ≤ E := by omega
        have d2 : ¬ -255 ≤ E := by omega
        have d3 : ¬ -2047 ≤ E := by omega
        have HF := hid hwk
        clear hwk
        go_wp2_with fail
        go_region
        replace HI := hid HI.out.drew
        go_wp2_with fail
        refine (put_rw HI.out.at_ 15 4 4 (.inr (.inr ⟨rfl, by decide⟩)) (by have := rest_few Hb.out (by have := HL.out; omega); omega)).mono ?_
        rintro e w2 ⟨rfl, v2, h2, k2, n2⟩
        have hI1 := hid (HI.out.put h2 k2 n2)
        go_wp2_with fail
        refine (put_rw hI1.out.at_ E 64 64 (.inr (.inr ⟨rfl, by decide⟩)) (by simp [bitsL_length]; have := rest_few Hb.out (by have := HL.out; omega); omega)).mono ?_
        rintro e w3 ⟨rfl, v3, h3, k3, n3⟩
        have hI2 := hI1.out.put h3 k3 n3
        have hb2 : ((lw ++ bitsL (uN 15) 4) ++ bitsL (uN E) 64) ++ restB l (k + 2) (x - y) = allB l := by
         have e1 := two_puts (l := lw) HF.out mk_4
         rw [show E + ws 4 = E from Int.add_zero E] at e1
         rw [← Hb.out, Hst.out, HE.out, ← List.append_assoc, e1]
         rfl
        go_wp2_with fail
        go_roundw
        case rel => exact ⟨k + 2, x - y, v3, _, by omega, rfl, by go_num, by omega, by omega, hI2, fun _ => hb2, fun h => absurd h (by omega)⟩
        case measure => simp [intOf]; omega
       ·have f0 : (E == 0) = false := by simp; omega
        have d1 : -63 ≤ E := by omega
        have g1 : ¬ E ≤ 64 := by omega
        have d2 : -255 ≤ E := by omega
        have g2 : ¬ E ≤ 256 := by omega
        have d3 : -2047 ≤ E := by omega
        have g3 : ¬ E ≤ 2048 := by omega
        have HF := hid hwk
        clear hwk
        go_wp2_with fail
        go_region
        replace HI := hid HI.out.drew
        go_wp2_with fail
        refine (put_rw HI.out.at_ 15 4 4 (.inr (.inr ⟨rfl, by decide⟩)) (by have := rest_few Hb.out (by have := HL.out; omega); omega)).mono ?_
        rintro e w2 ⟨rfl, v2, h2, k2, n2⟩
        have hI1 := hid (HI.out.put h2 k2 n2)
        go_wp2_with fail
        refine (put_rw hI1.out.at_ E 64 64 (.inr (.inr ⟨rfl, by decide⟩)) (by simp [bitsL_length]; have := rest_few Hb.out (by have := HL.out; omega); omega)).mono ?_
        rintro e w3 ⟨rfl, v3, h3, k3, n3⟩
        have hI2 := hI1.out.put h3 k3 n3
        have hb2 : ((lw ++ bitsL (uN 15) 4) ++ bitsL (uN E) 64) ++ restB l (k + 2) (x - y) = allB l := by
         have e1 := two_puts (l := lw) HF.out mk_4
         rw [show E + ws 4 = E from Int.add_zero E] at e1
         rw [← Hb.out, Hst.out, HE.out, ← List.append_assoc, e1]
         rfl
        go_wp2_with fail
        go_roundw
        case rel => exact ⟨k + 2, x - y, v3, _, by omega, rfl, by go_num, by omega, by omega, hI2, fun _ => hb2, fun h => absurd h (by omega)⟩
        case measure => simp [intOf]; omega
    ·have e : k = L := by omega
     have hw := HI.out.at_
     have hfull : lw = allB l := by
      by_cases h0 : k = 0
      ·have el : l = [] := List.length_eq_zero_iff.1 (by have := HL.out; omega)
       rw [(hz h0).1, el]
       rfl
      ·have := hb (by omega)
       rw [restB_end G (by omega) (by have := HL.out; omega), List.append_nil] at this
       exact this
     have HFu := hid hfull
     have hlw : lw.length ≤ 10000 := by
      rw [hfull]
      have := allB_length l
      have := HL.out
      omega
     clear hfull hb hz
     go_wp2_with fail
     refine (rbytes_any _ B vw lw hw.blk hw.own (by omega)).mono ?_
     rintro e w3 ⟨v3, rfl, h3, k3⟩
     go_wp2_with fail
     go_ret2
     have hs3 := HI.out.kept.size
     rw [← packL_length] at h3
     exact ⟨HI.out.kept.trans k3 (fun _ _ f => f), v3, packL lw, 0, rfl, .inr (.inr ⟨by have := HL.out; omega, HR.out, by rw [HFu.out], rfl⟩), own_base h3 hs3⟩
  ·have hr' : Calls Tryz.prog 35 #[v] w fun e w' => Kept w w' ∧ e = .returned (.bool false) := hr.mono (by
    rintro e w' ⟨hk, ⟨_, hn⟩ | ⟨rfl, _⟩⟩
    ·exact absurd hn hR
    ·exact ⟨hk, rfl⟩)
   obtain ⟨L, hL⟩ : ∃ L, l.length = L := ⟨_, rfl⟩
   rw [hL] at e0 h120
   subst e0
   go_enter Tryz.func56, Tryz.ntmps56
   go_wp2_with fail
   refine hr'.mono ?_
   rintro e w1 ⟨hk1, rfl⟩
   go_wp2_with fail
   go_ret2
   exact ⟨hk1, _, [], 21, rfl, .inr (.inl ⟨by omega, hR, rfl, rfl⟩), World.ownsRow_nil _ _ _ _⟩
end Go.Proofs.YtllfanlhgnkcfaaGreatDoor.S
