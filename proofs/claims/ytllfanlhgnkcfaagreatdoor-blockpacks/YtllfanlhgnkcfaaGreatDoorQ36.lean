/-
  Cu7, Cup.
-/
import Derived.Test.YtllfanlhgnkcfaaGreatDoorQ33
import Derived.Test.YtllfanlhgnkcfaaGreatDoorQ15
import Derived.Test.YtllfanlhgnkcfaaGreatDoorQ34
import Derived.Test.YtllfanlhgnkcfaaGreatDoorQ35
namespace Go.Proofs.YtllfanlhgnkcfaaGreatDoor.C
open Go.RowKit Go.Proofs.Lys
set_option linter.unusedVariables false
set_option maxRecDepth 100000 in
set_option maxHeartbeats 1600000 in
theorem together_any (w : World) (s t : Value) (tl vl : List Int) (N : Nat) (B1 B2 : Nat) (hs : w.ownsRow B1 3 1 s tl.length (tl.map (Value.int .i64))) (ht : w.ownsRow B2 3 1 t vl.length (vl.map (Value.int .i64))) (h1 : tl.length = N) (h2 : vl.length = N) (hN : 1 ≤ N) (hN2 : N ≤ 1000) :
  Calls Tryz.prog 125 #[s, t] w fun e w' => ∃ u, e = .returned u ∧ SmpAt w' w.heap.size u (tl.zip vl) ∧ Kept w w' := by
 obtain ⟨i0, hi0, hz0, hz1, hz2⟩ := info_parts Tryz.infoS
 obtain ⟨w5, Hmk, hown5, hgrow5⟩ := run_make_own (P := Tryz.prog) w w.heap.size 46 53 i0 (.agg #[.int .i64 0, .int .i64 0]) 2 Tryz.underlying46 hi0 hz0 hz1 .i64 .i64 N (by rw [hz2]; omega) (by unfold maxLen; omega) (Nat.le_refl _)
 have hk5 : Kept w w5 := (Only.refl _ w).grown hgrow5 (fun j hj => by cases hj)
 have HTr := hid hs
 have HVr := hid ht
 have HTl := hid h1
 have HVl := hid h2
 obtain ⟨tb, tc, e1⟩ := own_some hs (by omega)
 obtain ⟨vb, vc, e2⟩ := own_some ht (by omega)
 rw [h1] at e1
 rw [h2] at e2
 subst e1
 subst e2
 have hz5 := hk5.size
 have HK5 := hid hk5
 have HO5 := hid hown5
 clear hs ht h1 h2 hk5 hown5 hgrow5 hi0 hz0 hz1 hz2
 go_enter Tryz.func125, Tryz.ntmps125
 go_wp2_with fail
 go_loopw [5, 13] (fun sv i wr => ∃ k : Nat, k ≤ N ∧ i = .int .i64 (k : Int) ∧ SmpAt wr w.heap.size sv ((tl.zip vl).take k) ∧ Kept w wr) (fun _ i _ => N - (intOf i).toNat)
 case atStart => exact ⟨0, by omega, rfl, HO5.out, HK5.out⟩
 case round =>
  obtain ⟨k, hk, rfl, hrow, hk5⟩ := hrel
  have hzl : (tl.zip vl).length = N := by rw [List.length_zip, HTl.out, HVl.out, Nat.min_self]
  have hlen : ((tl.zip vl).take k).length = k := by rw [List.length_take]; omega
  by_cases hlt : k < N
  ·have hkt : k < tl.length := by have := HTl.out; omega
   have hkv : k < vl.length := by have := HVl.out; omega
   obtain ⟨X, hX⟩ : ∃ X, tl[k] = X := ⟨_, rfl⟩
   obtain ⟨Y, hY⟩ : ∃ Y, vl[k] = Y := ⟨_, rfl⟩
   have cT : wr.cell? ⟨tb, k, none⟩ = some (.int .i64 X) := by
    have h1 := int_cells_at (own_src (own_only HTr.out hk5 (fun _ _ f => f))) hX
    rw [Nat.zero_add] at h1
    exact h1
   have cV : wr.cell? ⟨vb, k, none⟩ = some (.int .i64 Y) := by
    have h1 := int_cells_at (own_src (own_only HVr.out hk5 (fun _ _ f => f))) hY
    rw [Nat.zero_add] at h1
    exact h1
   obtain ⟨g, cap, w6, Hr, ho6, hk6⟩ := smp_step hrow hk5 (X, Y) (by rw [hlen]; omega)
   have ez : (tl.zip vl).take (k + 1) = (tl.zip vl).take k ++ [(X, Y)] := by
    rw [List.take_succ_eq_append_getElem (by omega), List.getElem_zip, hX, hY]
   rw [← ez] at ho6
   rw [hlen] at Hr ho6
   have HF : Hid (SmpAt w6 w.heap.size (.slice (some ⟨g, 0, none⟩) (k + 1) cap) ((tl.zip vl).take (k + 1)) ∧ Kept w w6) := ⟨ho6, hk6⟩
   clear hrow hX hY ez ho6 hk6 hkt hkv
   go_wp2_with (at_builtin; refine wpList_append_run rfl _ _ _ rfl rfl rfl Hr ?_)
   go_roundw
   case rel => exact ⟨k + 1, by omega, by go_num, HF.out.1, HF.out.2⟩
   case measure => simp [intOf]; omega
  ·have HE : Hid (SmpAt wr w.heap.size u5 (tl.zip vl)) := by
    have h2 := hrow
    rw [List.take_of_length_le (by omega)] at h2
    exact h2
   have HK := hid hk5
   clear hrow hk5
   go_wp2_with fail
   go_ret
   exact ⟨_, rfl, HE.out, HK.out⟩
theorem vreads_some (c : List UInt8) (N : Nat) (h : N ≤ 120) : ∃ v f, V.Reads c (N : Int) v f := by
 cases hr : V.readT (N : Int).toNat (unpackL c) 0 0 0 [] with
 | none => exact ⟨_, _, .inr (.inr ⟨by omega, by omega, .inl ⟨hr, rfl, rfl⟩⟩)⟩
 | some m =>
  by_cases hp : V.Packs m c 0
  ·exact ⟨_, _, .inr (.inr ⟨by omega, by omega, .inr ⟨m, hr, .inr ⟨hp, rfl, rfl⟩⟩⟩)⟩
  ·exact ⟨_, _, .inr (.inr ⟨by omega, by omega, .inr ⟨m, hr, .inl ⟨hp, rfl, rfl⟩⟩⟩)⟩
theorem sreads_long {c : List UInt8} {n x : Int} {t : List Int} (h : S.Reads c n t x) (hn : 120 < n) : x ≠ 0 := by
 rcases h with ⟨_, _, h⟩ | ⟨h, _⟩ | ⟨_, h, _⟩
 ·omega
 ·omega
 ·omega
set_option maxRecDepth 100000 in
set_option maxHeartbeats 6400000 in
theorem unpack_any (w : World) (v : Value) (bs : List UInt8) (hs : BSrc w v bs) (hl : bs.length ≤ 10000000) : Calls Tryz.prog 105 #[v] w (UnpackPost w bs) := by
 have hg := U.get_any w _ bs hs.1 (by omega)
 have hle := getA_le bs 0 0
 rw [Nat.zero_add] at hle
 obtain ⟨⟨u, k, er⟩, hG⟩ : ∃ x, getA bs 0 0 = x := ⟨_, rfl⟩
 rw [hG] at hg hle
 simp only at hle
 unfold U.got at hg
 simp only at hg
 obtain ⟨Z, hZ⟩ : ∃ Z, wrap64 (u : Int) = Z := ⟨_, rfl⟩
 rw [hZ] at hg
 have HHC : Hid (headC bs = if er ≠ 0 ∨ Z < 1 ∨ 120 < Z then none else (cutR (bs.drop k)).bind fun a => (cutR a.2).map fun c => (Z.toNat, a.1, c.1, bs.length - c.2.length)) := by
  show _ = _
  unfold headC
  rw [hG]
  simp only
  rw [hZ]
 have HB := hid hs
 obtain ⟨a1, c1, hr1, hb1⟩ := hs.tail hle
 have hbo := both_any w _ (bs.drop k) hb1 (by rw [List.length_drop]; omega)
 obtain ⟨va, vc0, hv⟩ : ∃ a c, v = .slice a bs.length c := by obtain ⟨_, a, c, h, _⟩ := hs; exact ⟨a, c, h⟩
 obtain ⟨L, hL⟩ : ∃ L, bs.length = L := ⟨_, rfl⟩
 have HL := hid hL
 rw [hL] at hle hl hv hr1 hbo
 subst hv
 clear hs hG hZ hL hb1
 by_cases he : er = 0
 ·subst he
  by_cases hz0 : Z < 1
  ·rw [if_pos (.inr (.inl hz0))] at HHC
   go_enter Tryz.func105, Tryz.ntmps105
   go_wp2_with fail
   refine hg.mono ?_
   rintro e w' ⟨rfl, hw⟩
   replace hw := hw.symm
   subst hw
   go_wp2_with fail
   go_ret3
   exact ⟨Only.refl _ _, [], 0, _, 5, rfl, .inl ⟨HHC.out, rfl, rfl, rfl⟩, ⟨rfl, .inl ⟨rfl, rfl⟩⟩⟩
  ·have hd1 : decide (Z < 1) = false := by simp; omega
   have hHN : (∀ a1 R1, cutR (bs.drop k) = some (a1, R1) → cutR R1 = none) → headC bs = none := by
    intro h
    rw [HHC.out]
    split
    ·rfl
    ·cases hc : cutR (bs.drop k) with
     | none => rfl
     | some p =>
      rw [Option.bind_some, h p.1 p.2 hc]
      rfl
   have hHL : 120 < Z → headC bs = none := fun h => by rw [HHC.out, if_pos (.inr (.inr h))]
   have hHS : ∀ a1 R1 a2 R2, cutR (bs.drop k) = some (a1, R1) → cutR R1 = some (a2, R2) → Z ≤ 120 → headC bs = some (Z.toNat, a1, a2, bs.length - R2.length) := by
    intro a1 R1 a2 R2 h1 h2 h3
    rw [HHC.out, if_neg (by omega), h1, Option.bind_some, h2]
    rfl
   have HHN := hid hHN
   have HHL := hid hHL
   have HHS := hid hHS
   clear hHN hHL hHS HHC
   go_enter Tryz.func105, Tryz.ntmps105
   go_wp2_with fail
   refine hg.mono ?_
   rintro e w' ⟨rfl, hw⟩
   replace hw := hw.symm
   subst hw
   clear hg
   go_wp2_with fail
   refine hbo.mono ?_
   rintro e w2 ⟨k2, pa, pn, pc, t, rfl, ⟨hpn, hno⟩ | ⟨a1', R1, a2', R2, g, v1, v2, hc1, hc2, hR2, hl1, hl2, rfl, rfl, x1, x2, hb1, hb2, rfl⟩⟩
   ·have hpn' : (pn : Int) < 2 := by omega
    have HN : Hid (headC bs = none) := HHN.out hno
    clear hbo
    go_wp2_with fail
    go_ret3
    exact ⟨k2, [], 0, _, 5, rfl, .inl ⟨HN.out, rfl, rfl, rfl⟩, ⟨rfl, .inl ⟨rfl, rfl⟩⟩⟩
   ·clear hbo
    obtain ⟨T, hT⟩ : ∃ T, (bs.drop k).length - R2.length = T := ⟨_, rfl⟩
    rw [hT]
    obtain ⟨E, hE⟩ : ∃ E, bs.length - R2.length = E := ⟨_, rfl⟩
    have hkT : (k : Int) + (T : Int) = (E : Int) := by rw [List.length_drop] at hT hR2; have := HL.out; omega
    have HE := hid hE
    rw [List.length_drop, HL.out] at hl1 hl2
    have hrs := S.unpack_any w2 v1 a1' Z hb1.1 (by omega)
    have HB1 := hid hb1
    have HB2 := hid hb2
    have HC : Hid (cutR (bs.drop k) = some (a1', R1) ∧ cutR R1 = some (a2', R2)) := ⟨hc1, hc2⟩
    have HK2 := hid k2
    obtain ⟨_, x1a, x1c, hv1, _⟩ := hb1
    obtain ⟨_, x2a, x2c, hv2, _⟩ := hb2
    have HX : Hid (∀ W, Kept w2 W → W.cell? ⟨g, 1, none⟩ = some v2) := fun W hW => by
     rw [World.cell?_of_block (w := w2) (w' := W) (a := ⟨g, 1, none⟩) (hW.block g (World.block_lt_of_cell? w2 _ x2) (fun f => f))]
     exact x2
    subst hv1
    subst hv2
    clear hT hE hc1 hc2 hR2 k2
    go_wp2_with fail
    refine hrs.mono ?_
    rintro e w3 ⟨k3, tl, u3, x3, rfl, hRs, ho3⟩
    clear hrs
    have HRs := hid hRs
    have HO3 := hid ho3
    have HK3 : Hid (Kept w w3) := HK2.out.trans k3 (fun _ _ f => f)
    have y2 := HX.out w3 k3
    have hrv := V.unpack_any w3 _ a2' Z (HB2.out.1.stay k3) (by omega)
    clear hRs ho3 k3 x1 x2
    by_cases hx3 : x3 = 0
    ·subst hx3
     have hZ2 : Z ≤ 120 := by
      by_cases h : 120 < Z
      ·exact absurd rfl (sreads_long HRs.out h)
      ·omega
     obtain ⟨N, rfl⟩ : ∃ N : Nat, Z = (N : Int) := ⟨Z.toNat, by omega⟩
     have HH := hid (HHS.out a1' R1 a2' R2 HC.out.1 HC.out.2 hZ2)
     rw [Int.toNat_natCast, HE.out] at HH
     go_wp2_with fail
     refine hrv.mono ?_
     rintro e w4 ⟨k4, vl, u4, x4, rfl, hRv, ho4⟩
     clear hrv y2
     have HRv := hid hRv
     have HO4 := hid ho4
     have HO34 := hid (own_only HO3.out k4 (fun _ _ f => f))
     have HK4 : Hid (Kept w w4) := HK3.out.trans k4 (fun _ _ f => f)
     clear hRv ho4 k4
     by_cases hx4 : x4 = 0
     ·subst hx4
      have hto := together_any w4 u3 u4 tl vl N _ _ HO34.out HO4.out (readsS_len HRs.out) (readsV_len HRv.out) (by omega) (by omega)
      go_wp2_with fail
      refine hto.mono ?_
      rintro e w5 ⟨u5, rfl, ho5, k5⟩
      have HF : Hid (SmpAt w5 w.heap.size u5 (tl.zip vl) ∧ Kept w w5) := ⟨ownN_base ho5 HK4.out.size, HK4.out.trans k5 (fun _ _ f => f)⟩
      clear hto ho5 k5
      have hWE : wrap64 (E : Int) = (E : Int) := by have := HE.out; have := HL.out; unfold wrap64; omega
      go_wp2_with fail
      go_ret3
      exact ⟨HF.out.2, tl.zip vl, E, _, 0, (by show Ending.returned (Value.tuple #[u5, .int .i64 (wrap64 (E : Int)), .int .i64 0]) = _; rw [hWE]), .inr ⟨N, a1', a2', E, HH.out, tl, 0, vl, 0, HRs.out, HRv.out, .inr ⟨rfl, rfl, rfl, rfl, rfl⟩⟩, HF.out.1⟩
     ·have hx' : (x4 == 0) = false := by simp [hx4]
      have HX4 := hid hx4
      clear hx4
      go_wp2_with fail
      go_ret3
      exact ⟨HK4.out, [], 0, _, 5, rfl, .inr ⟨N, a1', a2', E, HH.out, tl, 0, vl, x4, HRs.out, HRv.out, .inl ⟨.inr HX4.out, rfl, rfl, rfl⟩⟩, ⟨rfl, .inl ⟨rfl, rfl⟩⟩⟩
    ·have hx' : (x3 == 0) = false := by simp [hx3]
     have HR : Hid (Reads bs [] 0 5) := by
      by_cases h : 120 < Z
      ·exact .inl ⟨HHL.out h, rfl, rfl, rfl⟩
      ·obtain ⟨N, hN⟩ : ∃ N : Nat, Z = (N : Int) := ⟨Z.toNat, by omega⟩
       have hh := HHS.out a1' R1 a2' R2 HC.out.1 HC.out.2 (by omega)
       obtain ⟨vl, f, hv⟩ := vreads_some a2' N (by omega)
       rw [hN, Int.toNat_natCast] at hh
       have hrs := HRs.out
       rw [hN] at hrs
       exact .inr ⟨N, a1', a2', _, hh, tl, x3, vl, f, hrs, hv, .inl ⟨.inl hx3, rfl, rfl, rfl⟩⟩
     clear hx3 hrv
     go_wp2_with fail
     go_ret3
     exact ⟨HK3.out, [], 0, _, 5, rfl, HR.out, ⟨rfl, .inl ⟨rfl, rfl⟩⟩⟩
 ·rw [if_pos (.inl he)] at HHC
  have he' : ((er : Int) == 0) = false := by simp [he]
  have he2 : ((er : Int) != 0) = true := by simp [he]
  go_enter Tryz.func105, Tryz.ntmps105
  go_wp2_with fail
  refine hg.mono ?_
  rintro e w' ⟨rfl, hw⟩
  replace hw := hw.symm
  subst hw
  go_wp2_with fail
  go_ret3
  exact ⟨Only.refl _ _, [], 0, _, 5, rfl, .inl ⟨HHC.out, rfl, rfl, rfl⟩, ⟨rfl, .inl ⟨rfl, rfl⟩⟩⟩
end Go.Proofs.YtllfanlhgnkcfaaGreatDoor.C
namespace Go.Proofs.YtllfanlhgnkcfaaGreatDoor.C
open Go.RowKit Go.Proofs.Lys
end Go.Proofs.YtllfanlhgnkcfaaGreatDoor.C
