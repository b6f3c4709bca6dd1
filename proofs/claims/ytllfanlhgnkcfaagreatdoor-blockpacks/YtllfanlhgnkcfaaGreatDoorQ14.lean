/-
  Wrvals.
-/
import Derived.Test.YtllfanlhgnkcfaaGreatDoorQ13
namespace Go.Proofs.YtllfanlhgnkcfaaGreatDoor.V
open Go.RowKit Go.Proofs.Lys
set_option linter.unusedVariables false
structure RkIn (w : World) (B : Nat) (wr : World) (vw : Value) (lw : List Bool) : Prop where
 at_ : RwAt wr B vw lw
 kept : Kept w wr
 new : w.heap.size ≤ B
 row : ∀ j, vw.ownBlock = some j → w.heap.size ≤ j
theorem RkIn.put {w wr w' : World} {B : Nat} {vw v' : Value} {lw lw' : List Bool} (h : RkIn w B wr vw lw) (hw : RwAt w' B v' lw') (ho : Only (Foot B vw) wr w') (hn : ∀ k, v'.ownBlock = some k → vw.ownBlock = some k ∨ wr.heap.size ≤ k) : RkIn w B w' v' lw' := by
 have hs := h.kept.size
 refine ⟨hw, h.kept.trans ho (fun j hj e => ?_), h.new, fun j hj => ?_⟩
 ·have := h.new
  rcases e with e | e
  ·omega
  ·have := h.row j e
   omega
 ·rcases hn j hj with e | e
  ·exact h.row j e
  ·omega
theorem RkIn.drew {w wr : World} {B : Nat} {vw : Value} {lw : List Bool} (h : RkIn w B wr vw lw) : RkIn w B wr.drew vw lw :=
 ⟨h.at_.only (Only.drew (Only.refl (fun _ => False) wr)) (fun f => f) (fun _ _ f => f), h.kept.drew, h.new, h.row⟩
set_option maxRecDepth 100000 in
set_option maxHeartbeats 3200000 in
theorem rvalues_any (w : World) (v : Value) (l : List Int) (hs : SrcOf w v (l.map (Value.int .i64))) (hl : l.length ≤ 1000) :
  Calls Tryz.prog 57 #[v] w (PackPost w l) := by
 obtain ⟨a0, c0, e0⟩ := hs.len
 rw [List.length_map] at e0
 obtain ⟨L, hL⟩ : ∃ L, l.length = L := ⟨_, rfl⟩
 rw [hL] at e0
 by_cases h120 : 120 < L
 ·subst e0
  go_enter Tryz.func57, Tryz.ntmps57
  go_wp2_with fail
  go_ret2
  exact ⟨Only.refl _ w, _, [], 2, rfl, .inl ⟨by omega, rfl, rfl⟩, World.ownsRow_nil _ _ _ _⟩
 ·have HS := hid hs
  subst e0
  have HL := hid hL
  clear hL hs
  have hA := RwAt.new w
  have kA : Kept w (w.alloc (.cells #[.slice none 0 0] 115)) := (Only.refl _ w).alloc _
  have HP : Hid (RkIn w w.heap.size (w.alloc (.cells #[.slice none 0 0] 115)) (.slice none 0 0) []) := ⟨hA, kA, Nat.le_refl _, fun j hj => by cases hj⟩
  clear hA kA
  go_enter Tryz.func57, Tryz.ntmps57
  go_wp2_with fail
  generalize hbk : w.heap.size = B at HP ⊢
  go_loopw [5, 6, 7] (fun wz wt i wr => ∃ (k : Nat) (W : Win) (vw : Value) (lw : List Bool), k ≤ L ∧ i = .int .i64 (k : Int) ∧ W.wf ∧ wz = .int .i64 (if W.o then (W.z : Int) else -1) ∧ wt = .int .i64 (W.t : Int) ∧ RkIn w B wr vw lw ∧ (0 < k → lw ++ restB l k W = allB l) ∧ (k = 0 → lw = [] ∧ W = W0)) (fun _ _ i _ => L - (intOf i).toNat)
  case atStart => exact ⟨0, W0, _, [], by omega, rfl, W0_wf, rfl, rfl, HP.out, fun h => absurd h (by omega), fun _ => ⟨rfl, rfl⟩⟩
  case round =>
   obtain ⟨k, W, vw, lw, hk, rfl, hW, hz, ht, hI, hb, hzz⟩ := hrel
   have HI := hid hI
   have HW := hid hW
   have Hz := hid hz
   have Ht := hid ht
   clear hI hW hz ht HP
   by_cases hlt : k < L
   ·have hpos : 0 < L := by omega
    obtain ⟨b, o, rfl⟩ : ∃ b o, a0 = some ⟨b, o, none⟩ := by
     rcases HS.out.shape with ⟨hn, _⟩ | ⟨_, b, o, c, hv, _⟩
     ·have := congrArg List.length hn
      rw [List.length_map, HL.out] at this
      simp at this
      omega
     ·cases hv
      exact ⟨b, o, rfl⟩
    by_cases h0 : k = 0
    ·subst h0
     obtain ⟨rfl, rfl⟩ := hzz rfl
     have e1 : u5 = .int .i64 (-1) := Hz.out
     have e2 : u6 = .int .i64 0 := Ht.out
     subst e1
     subst e2
     have hcx := int_cells (HS.out.stay HI.out.kept) 0 (by have := HL.out; omega)
     obtain ⟨x, hx⟩ : ∃ x, l[0]'(by have := HL.out; omega) = x := ⟨_, rfl⟩
     rw [hx, Nat.add_zero] at hcx
     have hB : ([] ++ bitsL (uN x) 64) ++ restB l 1 W0 = allB l := by
      have hp : 0 < l.length := by have := HL.out; omega
      have := restB_zero hp W0
      rw [hx] at this
      rw [List.nil_append, ← this]
      rfl
     have HB := hid hB
     clear hx hB hb hzz
     go_wp2_with fail
     refine (put_rw HI.out.at_ x 64 64 (.inr (.inr ⟨rfl, by decide⟩)) (by simp)).mono ?_
     rintro e w2 ⟨rfl, v2, h2, k2, n2⟩
     go_wp2_with fail
     go_roundw
     case rel => exact ⟨1, W0, v2, _, by omega, rfl, W0_wf, rfl, rfl, HI.out.put h2 k2 n2, fun _ => HB.out, fun h => absurd h (by omega)⟩
     case measure => simp [intOf]; omega
    ·obtain ⟨k, rfl⟩ : ∃ k', k = k' + 1 := ⟨k - 1, by omega⟩
     have Hb := hid (hb (by omega))
     clear hb hzz h0
     have hkl : k + 1 < l.length := by have := HL.out; omega
     have hcx := int_cells (HS.out.stay HI.out.kept) (k + 1) hkl
     have hcy := int_cells (HS.out.stay HI.out.kept) k (by omega)
     obtain ⟨x, hx⟩ : ∃ x, l[k + 1] = x := ⟨_, rfl⟩
     obtain ⟨y, hy⟩ : ∃ y, l[k] = y := ⟨_, rfl⟩
     have hst := restB_step W hkl
     rw [hx, hy] at hst
     rw [hx] at hcx
     rw [hy] at hcy
     have ux := uN_wrap x
     have uy := uN_wrap y
     have hxo := xor_int y x
     have hXl := hid (xr_lt y x)
     obtain ⟨X, hX⟩ : ∃ X, xr y x = X := ⟨_, rfl⟩
     rw [hX] at hxo hst hXl
     generalize uN x = UX at ux hxo
     generalize uN y = UY at uy hxo
     have Hst := hid hst
     have hlw : Hid (lw.length ≤ 900000) := by have := rest_few Hb.out (by have := HL.out; omega); show _ ≤ _; omega
     have h00 : ((k : Int) + 1 == 0) = false := by simp; omega
     have hik : (k : Int) < (L : Int) := by omega
     have hik1 : (k : Int) + 1 < (L : Int) := by omega
     clear hx hy hst hkl hX
     by_cases hX0 : X = 0
     ·have hx0 : ((X : Int) == 0) = true := by simp [hX0]
      subst hX0
      have hb2 : Hid ((lw ++ bitsL (uN 0) 1) ++ restB l (k + 2) W = allB l) := by
       show _ = _
       have h5 : encX W 0 = bitsL 0 1 := by unfold encX; rw [if_pos rfl]
       have h6 : W.next 0 = W := by unfold Win.next; rw [if_pos rfl]
       have h7 := Hst.out
       rw [h5, h6] at h7
       rw [← Hb.out, h7, uN0, List.append_assoc]
      go_wp2_with fail
      go_region
      replace HI := hid HI.out.drew
      go_wp2_with fail
      refine (put_rw HI.out.at_ 0 1 1 (.inr (.inr ⟨by omega, by omega⟩)) (by have := hlw.out; first | omega | (simp only [List.length_append, bitsL_length]; omega))).mono ?_
      rintro e w2 ⟨rfl, v2, h2, k2, n2⟩
      have HI2 := hid (HI.out.put h2 k2 n2)
      clear h2 k2 n2
      go_wp2_with fail
      go_roundw
      case rel => exact ⟨k + 2, W, v2, _, by omega, by go_num, HW.out, Hz.out, Ht.out, HI2.out, fun _ => hb2.out, fun h => absurd h (by omega)⟩
      case measure => simp [intOf]; omega
     ·have hx0 : ((X : Int) == 0) = false := by simp [hX0]
      replace hX0 := hid hX0
      have hze := zeros_any wr.drew X hXl.out hX0.out
      have hZ31 := lead_le X
      have hZT := both_lt hXl.out hX0.out
      obtain ⟨Z, hZ⟩ : ∃ Z, lead X = Z := ⟨_, rfl⟩
      obtain ⟨T, hT⟩ : ∃ T, trail X = T := ⟨_, rfl⟩
      rw [hZ, hT] at hze hZT
      rw [hZ] at hZ31
      have HZ := hid hZ
      have HT := hid hT
      clear hZ hT
      obtain ⟨o, z, t⟩ := W
      have hzt := HW.out.zt
      have hz31 := HW.out.z
      simp only at hzt hz31
      cases o with
      | false =>
       have e1 : u5 = .int .i64 (-1) := Hz.out
       have e2 : u6 = .int .i64 (t : Int) := Ht.out
       subst e1
       subst e2
       have Hfit : Hid (¬ Win.fit ⟨false, z, t⟩ X) := fun h => by
        cases h.1
       have hY := shr_int X T
       obtain ⟨Y, hYe⟩ : ∃ Y, X >>> T = Y := ⟨_, rfl⟩
       rw [hYe] at hY
       have HY : Hid (uN (wrap64 (Y : Int)) = X >>> T) := by show _ = _; rw [← hYe]; exact uN_wrap64 (shr_lt T hXl.out)
       clear hYe
       have hCN : Hid (uN ((64 : Int) - (Z : Int) - (T : Int) - 1) = 63 - Z - T) := by show _ = _; unfold uN; omega
       have hb2 : Hid (((((lw ++ bitsL (uN 3) 2) ++ bitsL (uN (Z : Int)) 5) ++ bitsL (uN ((64 : Int) - (Z : Int) - (T : Int) - 1)) 6) ++ bitsL (uN (wrap64 (Y : Int))) (64 - Z - T)) ++ restB l (k + 2) ⟨true, Z, T⟩ = allB l) := by
        show _ = _
        have h5 : encX ⟨false, z, t⟩ X = ((bitsL 3 2 ++ bitsL Z 5) ++ bitsL (63 - Z - T) 6) ++ bodyB Z T X := by unfold encX; rw [if_neg hX0.out, if_neg Hfit.out, HZ.out, HT.out]
        have h6 : Win.next ⟨false, z, t⟩ X = ⟨true, Z, T⟩ := by unfold Win.next; rw [if_neg hX0.out, if_neg Hfit.out, HZ.out, HT.out]
        have h7 := Hst.out
        rw [h5, h6] at h7
        rw [← Hb.out, h7, uN3, HY.out, hCN.out, uN_nat (n := Z) (by omega)]
        unfold bodyB
        simp only [List.append_assoc]
       have HWn : Hid (Win.wf ⟨true, Z, T⟩) := ⟨hZ31, hZT, fun h => by cases h⟩
       go_wp2_with fail
       go_region
       replace HI := hid HI.out.drew
       go_wp2_with fail
       refine hze.mono ?_
       rintro e w2 ⟨rfl, hw2⟩
       replace hw2 := hw2.symm
       subst hw2
       clear hze
       go_wp2_with fail
       refine (put_rw HI.out.at_ 3 2 2 (.inr (.inr ⟨by omega, by omega⟩)) (by have := hlw.out; first | omega | (simp only [List.length_append, bitsL_length]; omega))).mono ?_
       rintro e w3 ⟨rfl, v3, h3, k3, n3⟩
       have HI3 := hid (HI.out.put h3 k3 n3)
       clear h3 k3 n3
       go_wp2_with fail
       refine (put_rw HI3.out.at_ (Z : Int) 5 5 (.inr (.inr ⟨by omega, by omega⟩)) (by have := hlw.out; first | omega | (simp only [List.length_append, bitsL_length]; omega))).mono ?_
       rintro e w4 ⟨rfl, v4, h4, k4, n4⟩
       have HI4 := hid (HI3.out.put h4 k4 n4)
       clear h4 k4 n4
       go_wp2_with fail
       refine (put_rw HI4.out.at_ ((64 : Int) - (Z : Int) - (T : Int) - 1) 6 6 (.inr (.inr ⟨by omega, by omega⟩)) (by have := hlw.out; first | omega | (simp only [List.length_append, bitsL_length]; omega))).mono ?_
       rintro e w5 ⟨rfl, v5, h5, k5, n5⟩
       have HI5 := hid (HI4.out.put h5 k5 n5)
       clear h5 k5 n5
       go_wp2_with fail
       refine (put_rw HI5.out.at_ (wrap64 (Y : Int)) _ (64 - Z - T) (.inr (.inr ⟨by omega, by omega⟩)) (by have := hlw.out; first | omega | (simp only [List.length_append, bitsL_length]; omega))).mono ?_
       rintro e w6 ⟨rfl, v6, h6, k6, n6⟩
       have HI6 := hid (HI5.out.put h6 k6 n6)
       clear h6 k6 n6
       go_wp2_with fail
       go_roundw
       case rel => exact ⟨k + 2, ⟨true, Z, T⟩, v6, _, by omega, by go_num, HWn.out, rfl, rfl, HI6.out, fun _ => hb2.out, fun h => absurd h (by omega)⟩
       case measure => simp [intOf]; omega
      | true =>
       have e1 : u5 = .int .i64 (z : Int) := Hz.out
       have e2 : u6 = .int .i64 (t : Int) := Ht.out
       subst e1
       subst e2
       by_cases hfz : z ≤ Z
       ·by_cases hft : t ≤ T
        ·have Hfit : Hid (Win.fit ⟨true, z, t⟩ X) := ⟨rfl, by rw [HZ.out]; exact hfz, by rw [HT.out]; exact hft⟩
         have hY := shr_int X t
         obtain ⟨Y, hYe⟩ : ∃ Y, X >>> t = Y := ⟨_, rfl⟩
         rw [hYe] at hY
         have HY : Hid (uN (wrap64 (Y : Int)) = X >>> t) := by show _ = _; rw [← hYe]; exact uN_wrap64 (shr_lt t hXl.out)
         clear hYe
         have hb2 : Hid (((lw ++ bitsL (uN 2) 2) ++ bitsL (uN (wrap64 (Y : Int))) (64 - z - t)) ++ restB l (k + 2) ⟨true, z, t⟩ = allB l) := by
          show _ = _
          have h5 : encX ⟨true, z, t⟩ X = bitsL 2 2 ++ bodyB z t X := by unfold encX; rw [if_neg hX0.out, if_pos Hfit.out]
          have h6 : Win.next ⟨true, z, t⟩ X = ⟨true, z, t⟩ := by unfold Win.next; rw [if_neg hX0.out, if_pos Hfit.out]
          have h7 := Hst.out
          rw [h5, h6] at h7
          rw [← Hb.out, h7, uN2, HY.out]
          unfold bodyB
          simp only [List.append_assoc]
         go_wp2_with fail
         go_region
         replace HI := hid HI.out.drew
         go_wp2_with fail
         refine hze.mono ?_
         rintro e w2 ⟨rfl, hw2⟩
         replace hw2 := hw2.symm
         subst hw2
         clear hze
         go_wp2_with fail
         refine (put_rw HI.out.at_ 2 2 2 (.inr (.inr ⟨by omega, by omega⟩)) (by have := hlw.out; first | omega | (simp only [List.length_append, bitsL_length]; omega))).mono ?_
         rintro e w3 ⟨rfl, v3, h3, k3, n3⟩
         have HI3 := hid (HI.out.put h3 k3 n3)
         clear h3 k3 n3
         go_wp2_with fail
         refine (put_rw HI3.out.at_ (wrap64 (Y : Int)) _ (64 - z - t) (.inr (.inr ⟨by omega, by omega⟩)) (by have := hlw.out; first | omega | (simp only [List.length_append, bitsL_length]; omega))).mono ?_
         rintro e w4 ⟨rfl, v4, h4, k4, n4⟩
         have HI4 := hid (HI3.out.put h4 k4 n4)
         clear h4 k4 n4
         go_wp2_with fail
         go_roundw
         case rel => exact ⟨k + 2, ⟨true, z, t⟩, v4, _, by omega, by go_num, HW.out, rfl, rfl, HI4.out, fun _ => hb2.out, fun h => absurd h (by omega)⟩
         case measure => simp [intOf]; omega
        ·have Hfit : Hid (¬ Win.fit ⟨true, z, t⟩ X) := fun h => by
          have h1 : t ≤ trail X := h.2.2
          rw [HT.out] at h1
          exact hft h1
         have hY := shr_int X T
         obtain ⟨Y, hYe⟩ : ∃ Y, X >>> T = Y := ⟨_, rfl⟩
         rw [hYe] at hY
         have HY : Hid (uN (wrap64 (Y : Int)) = X >>> T) := by show _ = _; rw [← hYe]; exact uN_wrap64 (shr_lt T hXl.out)
         clear hYe
         have hCN : Hid (uN ((64 : Int) - (Z : Int) - (T : Int) - 1) = 63 - Z - T) := by show _ = _; unfold uN; omega
         have hb2 : Hid (((((lw ++ bitsL (uN 3) 2) ++ bitsL (uN (Z : Int)) 5) ++ bitsL (uN ((64 : Int) - (Z : Int) - (T : Int) - 1)) 6) ++ bitsL (uN (wrap64 (Y : Int))) (64 - Z - T)) ++ restB l (k + 2) ⟨true, Z, T⟩ = allB l) := by
          show _ = _
          have h5 : encX ⟨true, z, t⟩ X = ((bitsL 3 2 ++ bitsL Z 5) ++ bitsL (63 - Z - T) 6) ++ bodyB Z T X := by unfold encX; rw [if_neg hX0.out, if_neg Hfit.out, HZ.out, HT.out]
          have h6 : Win.next ⟨true, z, t⟩ X = ⟨true, Z, T⟩ := by unfold Win.next; rw [if_neg hX0.out, if_neg Hfit.out, HZ.out, HT.out]
          have h7 := Hst.out
          rw [h5, h6] at h7
          rw [← Hb.out, h7, uN3, HY.out, hCN.out, uN_nat (n := Z) (by omega)]
          unfold bodyB
          simp only [List.append_assoc]
         have HWn : Hid (Win.wf ⟨true, Z, T⟩) := ⟨hZ31, hZT, fun h => by cases h⟩
         go_wp2_with fail
         go_region
         replace HI := hid HI.out.drew
         go_wp2_with fail
         refine hze.mono ?_
         rintro e w2 ⟨rfl, hw2⟩
         replace hw2 := hw2.symm
         subst hw2
         clear hze
         go_wp2_with fail
         refine (put_rw HI.out.at_ 3 2 2 (.inr (.inr ⟨by omega, by omega⟩)) (by have := hlw.out; first | omega | (simp only [List.length_append, bitsL_length]; omega))).mono ?_
         rintro e w3 ⟨rfl, v3, h3, k3, n3⟩
         have HI3 := hid (HI.out.put h3 k3 n3)
         clear h3 k3 n3
         go_wp2_with fail
         refine (put_rw HI3.out.at_ (Z : Int) 5 5 (.inr (.inr ⟨by omega, by omega⟩)) (by have := hlw.out; first | omega | (simp only [List.length_append, bitsL_length]; omega))).mono ?_
         rintro e w4 ⟨rfl, v4, h4, k4, n4⟩
         have HI4 := hid (HI3.out.put h4 k4 n4)
         clear h4 k4 n4
         go_wp2_with fail
         refine (put_rw HI4.out.at_ ((64 : Int) - (Z : Int) - (T : Int) - 1) 6 6 (.inr (.inr ⟨by omega, by omega⟩)) (by have := hlw.out; first | omega | (simp only [List.length_append, bitsL_length]; omega))).mono ?_
         rintro e w5 ⟨rfl, v5, h5, k5, n5⟩
         have HI5 := hid (HI4.out.put h5 k5 n5)
         clear h5 k5 n5
         go_wp2_with fail
         refine (put_rw HI5.out.at_ (wrap64 (Y : Int)) _ (64 - Z - T) (.inr (.inr ⟨by omega, by omega⟩)) (by have := hlw.out; first | omega | (simp only [List.length_append, bitsL_length]; omega))).mono ?_
         rintro e w6 ⟨rfl, v6, h6, k6, n6⟩
         have HI6 := hid (HI5.out.put h6 k6 n6)
         clear h6 k6 n6
         go_wp2_with fail
         go_roundw
         case rel => exact ⟨k + 2, ⟨true, Z, T⟩, v6, _, by omega, by go_num, HWn.out, rfl, rfl, HI6.out, fun _ => hb2.out, fun h => absurd h (by omega)⟩
         case measure => simp [intOf]; omega
       ·have Hfit : Hid (¬ Win.fit ⟨true, z, t⟩ X) := fun h => by
         have h1 : z ≤ lead X := h.2.1
         rw [HZ.out] at h1
         exact hfz h1
        have hY := shr_int X T
        obtain ⟨Y, hYe⟩ : ∃ Y, X >>> T = Y := ⟨_, rfl⟩
        rw [hYe] at hY
        have HY : Hid (uN (wrap64 (Y : Int)) = X >>> T) := by show _ = _; rw [← hYe]; exact uN_wrap64 (shr_lt T hXl.out)
        clear hYe
        have hCN : Hid (uN ((64 : Int) - (Z : Int) - (T : Int) - 1) = 63 - Z - T) := by show _ = _; unfold uN; omega
        have hb2 : Hid (((((lw ++ bitsL (uN 3) 2) ++ bitsL (uN (Z : Int)) 5) ++ bitsL (uN ((64 : Int) - (Z : Int) - (T : Int) - 1)) 6) ++ bitsL (uN (wrap64 (Y : Int))) (64 - Z - T)) ++ restB l (k + 2) ⟨true, Z, T⟩ = allB l) := by
         show _ = _
         have h5 : encX ⟨true, z, t⟩ X = ((bitsL 3 2 ++ bitsL Z 5) ++ bitsL (63 - Z - T) 6) ++ bodyB Z T X := by unfold encX; rw [if_neg hX0.out, if_neg Hfit.out, HZ.out, HT.out]
         have h6 : Win.next ⟨true, z, t⟩ X = ⟨true, Z, T⟩ := by unfold Win.next; rw [if_neg hX0.out, if_neg Hfit.out, HZ.out, HT.out]
         have h7 := Hst.out
         rw [h5, h6] at h7
         rw [← Hb.out, h7, uN3, HY.out, hCN.out, uN_nat (n := Z) (by omega)]
         unfold bodyB
         simp only [List.append_assoc]
        have HWn : Hid (Win.wf ⟨true, Z, T⟩) := ⟨hZ31, hZT, fun h => by cases h⟩
        go_wp2_with fail
        go_region
        replace HI := hid HI.out.drew
        go_wp2_with fail
        refine hze.mono ?_
        rintro e w2 ⟨rfl, hw2⟩
        replace hw2 := hw2.symm
        subst hw2
        clear hze
        go_wp2_with fail
        refine (put_rw HI.out.at_ 3 2 2 (.inr (.inr ⟨by omega, by omega⟩)) (by have := hlw.out; first | omega | (simp only [List.length_append, bitsL_length]; omega))).mono ?_
        rintro e w3 ⟨rfl, v3, h3, k3, n3⟩
        have HI3 := hid (HI.out.put h3 k3 n3)
        clear h3 k3 n3
        go_wp2_with fail
        refine (put_rw HI3.out.at_ (Z : Int) 5 5 (.inr (.inr ⟨by omega, by omega⟩)) (by have := hlw.out; first | omega | (simp only [List.length_append, bitsL_length]; omega))).mono ?_
        rintro e w4 ⟨rfl, v4, h4, k4, n4⟩
        have HI4 := hid (HI3.out.put h4 k4 n4)
        clear h4 k4 n4
        go_wp2_with fail
        refine (put_rw HI4.out.at_ ((64 : Int) - (Z : Int) - (T : Int) - 1) 6 6 (.inr (.inr ⟨by omega, by omega⟩)) (by have := hlw.out; first | omega | (simp only [List.length_append, bitsL_length]; omega))).mono ?_
        rintro e w5 ⟨rfl, v5, h5, k5, n5⟩
        have HI5 := hid (HI4.out.put h5 k5 n5)
        clear h5 k5 n5
        go_wp2_with fail
        refine (put_rw HI5.out.at_ (wrap64 (Y : Int)) _ (64 - Z - T) (.inr (.inr ⟨by omega, by omega⟩)) (by have := hlw.out; first | omega | (simp only [List.length_append, bitsL_length]; omega))).mono ?_
        rintro e w6 ⟨rfl, v6, h6, k6, n6⟩
        have HI6 := hid (HI5.out.put h6 k6 n6)
        clear h6 k6 n6
        go_wp2_with fail
        go_roundw
        case rel => exact ⟨k + 2, ⟨true, Z, T⟩, v6, _, by omega, by go_num, HWn.out, rfl, rfl, HI6.out, fun _ => hb2.out, fun h => absurd h (by omega)⟩
        case measure => simp [intOf]; omega
   ·have e : k = L := by omega
    have hw := HI.out.at_
    have hfull : lw = allB l := by
     by_cases h0 : k = 0
     ·have el : l = [] := List.length_eq_zero_iff.1 (by have := HL.out; omega)
      rw [(hzz h0).1, el]
      rfl
     ·have := hb (by omega)
      rw [restB_end W (by omega) (by have := HL.out; omega), List.append_nil] at this
      exact this
    have HFu := hid hfull
    have hlw : lw.length ≤ 10000 := by
     rw [hfull]
     have := allB_length l
     have := HL.out
     omega
    clear hfull hb hzz
    go_wp2_with fail
    refine (rbytes_any _ B vw lw hw.blk hw.own (by omega)).mono ?_
    rintro e w3 ⟨v3, rfl, h3, k3⟩
    go_wp2_with fail
    go_ret2
    have hs3 := HI.out.kept.size
    rw [← packL_length] at h3
    exact ⟨HI.out.kept.trans k3 (fun _ _ f => f), v3, packL lw, 0, rfl, .inr ⟨by have := HL.out; omega, by rw [HFu.out], rfl⟩, own_base h3 hs3⟩
end Go.Proofs.YtllfanlhgnkcfaaGreatDoor.V
