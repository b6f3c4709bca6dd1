/-
  Cread, Csame, Csplit, Claw, Csplits.
-/
import Derived.Test.YthpkkhmplkmdnaaGreatDoorQ14
import Derived.Test.YthpkkhmplkmdnaaGreatDoorQ15
import Derived.Test.YthpkkhmplkmdnaaGreatDoorQ17
import Derived.Test.YthpkkhmplkmdnaaGreatDoorQ11
namespace Go.Proofs.YthpkkhmplkmdnaaGreatDoor.C
open Go.RowKit Go.Proofs.Lys
set_option linter.unusedVariables false
theorem oper_append_run {P : Program} {w : World} {o : Oper} {a : Act} {K : Act → World → Prop} {Q : Exit → Act → World → Prop} (s x : Operand) (t : TypeId)
  (ho : o.op = .call { callee := .builtin .append, args := #[s, x], argTypes := #[t, t] }) {sv xv : Value} (hs : a.eval s = sv) (hx : a.eval x = xv) {v : Value} {w' : World}
  (hrun : Hid ((Builtin.append_ #[t, t] 0 #[sv, xv]).run P w = .ok v w')) (h : K (a.put o.dst v) w') : Oper.wp P o a w K Q := by
 have hr : (Builtin.append_ #[t, t] o.type #[sv, xv]).run P w = .ok v w' := hrun.out
 unfold Oper.wp execOp
 simp only [ho, resolve, invoke, builtin, Sem.run_bind, Sem.run_pure, Result.andThen_ok, List.map_toArray, List.map_cons, List.map_nil, hs, hx, hr]
 exact h
theorem int_cells_at {w : World} {b o n c j : Nat} {l : List Int} {x : Int} {hj : j < l.length} (h : SrcOf w (.slice (some ⟨b, o, none⟩) n c) (l.map (Value.int .i64))) (hx : l[j] = x) : w.cell? ⟨b, o + j, none⟩ = some (.int .i64 x) := by
 have := int_cells h j hj
 rw [hx] at this
 exact this
theorem cutR_len {bs a R : List UInt8} (h : cutR bs = some (a, R)) : a.length ≤ bs.length := by
 unfold cutR at h
 split at h
 ·cases h
 ·simp only [Option.some.injEq, Prod.mk.injEq] at h
  rw [← h.1, List.length_take, List.length_drop]
  omega
def UnpackPost (w : World) (bs : List UInt8) (e : Ending) (w' : World) : Prop :=
 Kept w w' ∧ ∃ (l : Smps) (n : Nat) (u : Value) (x : Int), e = .returned (.tuple #[u, .int .i64 (n : Int), .int .i64 x]) ∧ Reads bs l n x ∧ SmpAt w' w.heap.size u l
set_option maxRecDepth 100000 in
set_option maxHeartbeats 6400000 in
theorem rreadchunk_any (w : World) (v : Value) (bs : List UInt8) (hs : BSrc w v bs) (hl : bs.length ≤ 100000) : Calls Tryz.prog 46 #[v] w (UnpackPost w bs) := by
 have hnot : ∀ (x : Bool) (w : World), (Op.unary .not (.bool x)).run Tryz.prog w = .ok (.bool (!x)) w := fun _ _ => rfl
 have hg := U.rget_any w _ bs hs.1 (by omega)
 have hle := getA_le bs 0 0
 rw [Nat.zero_add] at hle
 obtain ⟨⟨u, k, er⟩, hG⟩ : ∃ x, getA bs 0 0 = x := ⟨_, rfl⟩
 rw [hG] at hg hle
 simp only at hle
 unfold U.got at hg
 simp only at hg
 obtain ⟨Z, hZ⟩ : ∃ Z, wrap64 (u : Int) = Z := ⟨_, rfl⟩
 rw [hZ] at hg
 have HHC : Hid (headC bs = if er ≠ 0 ∨ Z < 1 ∨ 120 < Z then none else (cutR (bs.drop k)).bind fun a => (cutR a.2).map fun c => (Z.toNat, a.1, c.1, bs.length - c.2.length)) := by
  show _ = _
  unfold headC
  rw [hG]
  simp only
  rw [hZ]
 have HB := hid hs
 have hcut1 := rcut_any w v bs k hs hl hle
 obtain ⟨va, vc0, hv⟩ : ∃ a c, v = .slice a bs.length c := by obtain ⟨_, a, c, h, _⟩ := hs; exact ⟨a, c, h⟩
 obtain ⟨L, hL⟩ : ∃ L, bs.length = L := ⟨_, rfl⟩
 have HL := hid hL
 rw [hL] at hle hl hv
 subst hv
 clear hs hG hZ hL
 by_cases he : er = 0
 ·subst he
  by_cases hz0 : Z < 1
  ·rw [if_pos (.inr (.inl hz0))] at HHC
   go_enter Tryz.func46, Tryz.ntmps46
   go_wp2_with fail
   refine hg.mono ?_
   rintro e w' ⟨rfl, hw⟩
   replace hw := hw.symm
   subst hw
   go_wp2_with fail
   go_ret3
   exact ⟨Only.refl _ _, [], 0, _, 5, rfl, .inl ⟨HHC.out, rfl, rfl, rfl⟩, ⟨rfl, .inl ⟨rfl, rfl⟩⟩⟩
  ·by_cases hz1 : 120 < Z
   ·rw [if_pos (.inr (.inr hz1))] at HHC
    go_enter Tryz.func46, Tryz.ntmps46
    go_wp2_with fail
    refine hg.mono ?_
    rintro e w' ⟨rfl, hw⟩
    replace hw := hw.symm
    subst hw
    go_wp2_with fail
    go_ret3
    exact ⟨Only.refl _ _, [], 0, _, 5, rfl, .inl ⟨HHC.out, rfl, rfl, rfl⟩, ⟨rfl, .inl ⟨rfl, rfl⟩⟩⟩
   ·rw [if_neg (fun h => h.elim (fun h => h rfl) (fun h => h.elim hz0 hz1))] at HHC
    obtain ⟨N, rfl⟩ : ∃ N : Nat, Z = (N : Int) := ⟨Z.toNat, by omega⟩
    rw [Int.toNat_natCast] at HHC
    have hN1 : 1 ≤ N := by omega
    have hN2 : N ≤ 120 := by omega
    clear hz0 hz1
    have hd1 : decide ((N : Int) < 1) = false := by simp; omega
    have hd2 : decide ((120 : Int) < (N : Int)) = false := by simp; omega
    go_enter Tryz.func46, Tryz.ntmps46
    go_wp2_with fail
    refine hg.mono ?_
    rintro e w' ⟨rfl, hw⟩
    replace hw := hw.symm
    subst hw
    clear hg
    go_wp2_with fail
    refine hcut1.mono ?_
    rintro e w' ⟨hw, ⟨hc1, rfl⟩ | ⟨a1, R1, v1, hc1, hR1, hR1d, rfl, hb1⟩⟩
    ·replace hw := hw.symm
     subst hw
     have HHN : Hid (headC bs = none) := by show _ = _; rw [HHC.out, hc1]; rfl
     clear hcut1
     go_wp2_with fail
     go_ret3
     exact ⟨Only.refl _ _, [], 0, _, 5, rfl, .inl ⟨HHN.out, rfl, rfl, rfl⟩, ⟨rfl, .inl ⟨rfl, rfl⟩⟩⟩
    ·replace hw := hw.symm
     subst hw
     clear hcut1
     obtain ⟨E1, hE1⟩ : ∃ E, bs.length - R1.length = E := ⟨_, rfl⟩
     have hE1l : E1 ≤ bs.length := by omega
     rw [hE1] at hR1d ⊢
     have hcut2 := rcut_any w _ bs E1 HB.out (by have := HL.out; omega) hE1l
     have HC1 := hid hc1
     have HD1 := hid hR1d
     have HB1 := hid hb1
     have hal : a1.length ≤ bs.length := by have := cutR_len hc1; rw [List.length_drop] at this; omega
     clear hc1 hb1 hR1 hR1d hE1
     go_wp2_with fail
     refine hcut2.mono ?_
     rintro e w' ⟨hw, ⟨hc2, rfl⟩ | ⟨a2, R2, v2, hc2, hR2, hR2d, rfl, hb2⟩⟩
     ·replace hw := hw.symm
      subst hw
      rw [HD1.out] at hc2
      have HHN : Hid (headC bs = none) := by show _ = _; rw [HHC.out, HC1.out, Option.bind_some, hc2]; rfl
      clear hcut2
      go_wp2_with fail
      go_ret3
      exact ⟨Only.refl _ _, [], 0, _, 5, rfl, .inl ⟨HHN.out, rfl, rfl, rfl⟩, ⟨rfl, .inl ⟨rfl, rfl⟩⟩⟩
     ·replace hw := hw.symm
      subst hw
      clear hcut2
      have hR2r : (bs.drop E1).length ≤ bs.length := by rw [List.length_drop]; omega
      rw [HD1.out] at hc2 hR2r
      have HHS : Hid (headC bs = some (N, a1, a2, bs.length - R2.length)) := by show _ = _; rw [HHC.out, HC1.out, Option.bind_some, hc2]; rfl
      have HB2 := hid hb2
      have hal2 : a2.length ≤ bs.length := by have := cutR_len hc2; have := hR2r; omega
      obtain ⟨E2, hE2⟩ : ∃ E, bs.length - R2.length = E := ⟨_, rfl⟩
      rw [hE2] at HHS ⊢
      have hrs := S.rread_any w v1 a1 (N : Int) HB1.out.1 (by have := HL.out; omega)
      obtain ⟨_, x1a, x1c, hv1, _⟩ := HB1.out
      obtain ⟨_, x2a, x2c, hv2, _⟩ := HB2.out
      subst hv1
      subst hv2
      clear hc2 hb2 hR2 hR2d hE2
      go_wp2_with fail
      refine hrs.mono ?_
      rintro e w4 ⟨k4, tl, u4, x4, rfl, hRs, ho4⟩
      clear hrs
      have hrv := V.rread_any w4 _ a2 (N : Int) (HB2.out.1.stay k4) (by have := HL.out; omega)
      have HRs := hid hRs
      have HO4 := hid ho4
      have HK4 := hid k4
      clear hRs ho4 k4
      go_wp2_with fail
      refine hrv.mono ?_
      rintro e w5 ⟨k5, vl, u5, x5, rfl, hRv, ho5⟩
      clear hrv
      have HRv := hid hRv
      have HK5 : Hid (Kept w w5) := HK4.out.trans k5 (fun _ _ f => f)
      have HTr := hid (own_only HO4.out k5 (fun _ _ f => f))
      have HVr := hid ho5
      have HRD : Hid (x4 = 0 → x5 = 0 → Reads bs (tl.zip vl) E2 0) := fun e1 e2 => .inr ⟨N, a1, a2, E2, HHS.out, tl, x4, vl, x5, HRs.out, HRv.out, .inr ⟨e1, e2, rfl, rfl, rfl⟩⟩
      have HRB : Hid (x4 ≠ 0 ∨ x5 ≠ 0 → Reads bs [] 0 5) := fun e1 => .inr ⟨N, a1, a2, E2, HHS.out, tl, x4, vl, x5, HRs.out, HRv.out, .inl ⟨e1, rfl, rfl, rfl⟩⟩
      clear hRv ho5 k5
      by_cases hx4 : x4 = 0
      ·by_cases hx5 : x5 = 0
       ·subst hx4
        subst hx5
        have HTl : Hid (tl.length = N) := readsS_len HRs.out
        have HVl : Hid (vl.length = N) := readsV_len HRv.out
        go_wp2_with fail
        go_loopw [15, 16] (fun sv i wr => ∃ k : Nat, k ≤ N ∧ i = .int .i64 (k : Int) ∧ SmpAt wr w5.heap.size sv ((tl.zip vl).take k) ∧ Kept w5 wr) (fun _ i _ => N - (intOf i).toNat)
        case atStart => exact ⟨0, by omega, rfl, ⟨rfl, .inl ⟨rfl, rfl⟩⟩, Only.refl _ _⟩
        case round =>
         obtain ⟨k, hk, rfl, hrow, hk5⟩ := hrel
         have hzl : (tl.zip vl).length = N := by rw [List.length_zip, HTl.out, HVl.out, Nat.min_self]
         have hlen : ((tl.zip vl).take k).length = k := by rw [List.length_take]; omega
         by_cases hlt : k < N
         ·have hkt : k < tl.length := by have := HTl.out; omega
          have hkv : k < vl.length := by have := HVl.out; omega
          have hT := own_only HTr.out hk5 (fun _ _ f => f)
          have hV := own_only HVr.out hk5 (fun _ _ f => f)
          obtain ⟨tb, tc, e1⟩ := own_some hT (by omega)
          obtain ⟨vb, vc, e2⟩ := own_some hV (by omega)
          rw [HTl.out] at e1
          rw [HVl.out] at e2
          obtain ⟨X, hX⟩ : ∃ X, tl[k] = X := ⟨_, rfl⟩
          obtain ⟨Y, hY⟩ : ∃ Y, vl[k] = Y := ⟨_, rfl⟩
          subst e1
          subst e2
          have HcT : Hid (∀ W, Kept w5 W → W.cell? ⟨tb, k, none⟩ = some (.int .i64 X)) := fun W hW => by
           have h1 := int_cells_at (own_src (own_only HTr.out hW (fun _ _ f => f))) hX
           rw [Nat.zero_add] at h1
           exact h1
          have HcV : Hid (∀ W, Kept w5 W → W.cell? ⟨vb, k, none⟩ = some (.int .i64 Y)) := fun W hW => by
           have h1 := int_cells_at (own_src (own_only HVr.out hW (fun _ _ f => f))) hY
           rw [Nat.zero_add] at h1
           exact h1
          obtain ⟨g, cap, w6, Hr, ho6, hk6⟩ := smp_step (w0 := w5) (w := wr.drew) (ownN_stay hrow (Only.refl _ wr).drew) hk5.drew (X, Y) (by rw [hlen]; omega)
          have ez : (tl.zip vl).take (k + 1) = (tl.zip vl).take k ++ [(X, Y)] := by
           rw [List.take_succ_eq_append_getElem (by omega), List.getElem_zip, hX, hY]
          rw [← ez] at ho6
          rw [hlen] at Hr ho6
          have hk56 : Kept w5 w6 := hk6
          have tx := HcT.out wr hk5
          have vx := HcV.out wr hk5
          have ax := HcT.out _ (hk5.drew.alloc (.cells #[.int .i64 X, .int .i64 Y] 56))
          have ay := HcV.out _ (hk5.drew.alloc (.cells #[.int .i64 X, .int .i64 Y] 56))
          have bx := HcT.out _ hk56
          have by_ := HcV.out _ hk56
          have HF : Hid (SmpAt w6 w5.heap.size (.slice (some ⟨g, 0, none⟩) (k + 1) cap) ((tl.zip vl).take (k + 1)) ∧ Kept w5 w6) := ⟨ho6, hk56⟩
          clear hrow hT hV hX hY ez ho6 hk6 hk56 hkt hkv
          go_wp2_with fail
          refine wp_region_noPanic ?_
          refine wp_region_last (L := 1000) (S := fun w' => w'.cell? ⟨tb, k, none⟩ = some (.int .i64 X) ∧ w'.cell? ⟨vb, k, none⟩ = some (.int .i64 Y)) (by kernel_rfl) ?_
          have hS : (fun w' : World => w'.cell? ⟨tb, k, none⟩ = some (.int .i64 X) ∧ w'.cell? ⟨vb, k, none⟩ = some (.int .i64 Y)) wr.drew := ⟨tx, vx⟩
          refine wpAnyN_take (i := 0) (v := u15) rfl (by kernel_rfl) (by kernel_rfl) (by kernel_rfl) (by decide) (by kernel_rfl) (fun _ _ _ h => h) (Or.inl ⟨by rfl, ?_⟩) hS ?_
          ·(intro w' hSw; go_simp)
          go_frame
          refine wpAnyN_take (i := 1) (v := .slice (some ⟨tb, 0, none⟩) N tc) rfl (by kernel_rfl) (by kernel_rfl) (by kernel_rfl) (by decide) (by kernel_rfl) (fun _ _ _ h => h) (Or.inl ⟨by rfl, ?_⟩) hS ?_
          ·(intro w' hSw; go_simp)
          go_frame
          refine wpAnyN_take (i := 2) (v := .int .i64 (k : Int)) rfl (by kernel_rfl) (by kernel_rfl) (by kernel_rfl) (by decide) (by kernel_rfl) (fun _ _ _ h => h) (Or.inl ⟨by rfl, ?_⟩) hS ?_
          ·(intro w' hSw; go_simp)
          go_frame
          refine wpAnyN_take (i := 3) (v := .pointer (some ⟨tb, k, none⟩)) rfl (by kernel_rfl) (by kernel_rfl) (by kernel_rfl) (by decide) (by kernel_rfl) (fun _ _ _ h => h) (Or.inl ⟨by rfl, ?_⟩) hS ?_
          ·(intro w' hSw; go_simp)
          go_frame
          refine wpAnyN_take (i := 4) (v := .int .i64 X) rfl (by kernel_rfl) (by kernel_rfl) (by kernel_rfl) (by decide) (by kernel_rfl) (fun _ _ _ h => h) (Or.inl ⟨by rfl, ?_⟩) hS ?_
          ·(intro w' hSw; go_simp)
          go_frame
          refine wpAnyN_take (i := 5) (v := .slice (some ⟨vb, 0, none⟩) N vc) rfl (by kernel_rfl) (by kernel_rfl) (by kernel_rfl) (by decide) (by kernel_rfl) (fun _ _ _ h => h) (Or.inl ⟨by rfl, ?_⟩) hS ?_
          ·(intro w' hSw; go_simp)
          go_frame
          refine wpAnyN_take (i := 6) (v := .int .i64 (k : Int)) rfl (by kernel_rfl) (by kernel_rfl) (by kernel_rfl) (by decide) (by kernel_rfl) (fun _ _ _ h => h) (Or.inl ⟨by rfl, ?_⟩) hS ?_
          ·(intro w' hSw; go_simp)
          go_frame
          refine wpAnyN_take (i := 7) (v := .pointer (some ⟨vb, k, none⟩)) rfl (by kernel_rfl) (by kernel_rfl) (by kernel_rfl) (by decide) (by kernel_rfl) (fun _ _ _ h => h) (Or.inl ⟨by rfl, ?_⟩) hS ?_
          ·(intro w' hSw; go_simp)
          go_frame
          refine wpAnyN_take (i := 8) (v := .int .i64 Y) rfl (by kernel_rfl) (by kernel_rfl) (by kernel_rfl) (by decide) (by kernel_rfl) (fun _ _ _ h => h) (Or.inl ⟨by rfl, ?_⟩) hS ?_
          ·(intro w' hSw; go_simp)
          go_frame
          refine wpAnyN_take (i := 9) (v := .agg #[.int .i64 X, .int .i64 Y]) rfl (by kernel_rfl) (by kernel_rfl) (by kernel_rfl) (by decide) (by kernel_rfl) (fun _ _ _ h => h) (Or.inl ⟨by rfl, ?_⟩) hS ?_
          ·(intro w' hSw; go_simp)
          go_frame
          refine wpAnyL_one (i := 10) (by kernel_rfl) rfl rfl ?_
          go_simp
          refine ⟨⟨ax, ay⟩, ?_⟩
          refine wpAnyL_one (i := 11) (by kernel_rfl) rfl rfl (oper_append_run _ _ _ rfl rfl rfl Hr ?_)
          refine ⟨⟨bx, by_⟩, ?_⟩
          go_frame
          refine wpAnyL_one (i := 12) (by kernel_rfl) rfl rfl ?_
          go_simp
          refine wpAnyN_done (by kernel_rfl) ?_
          refine NoPanic.normal ?_
          clear hS
          go_wp2_with fail
          go_roundw
          case rel => exact ⟨k + 1, by omega, by go_num, HF.out.1, HF.out.2⟩
          case measure => simp [intOf]; omega
         ·have e : k = N := by omega
          have HF : Hid (SmpAt wr w5.heap.size u15 (tl.zip vl)) := by
           have h2 := hrow
           rw [List.take_of_length_le (by omega)] at h2
           exact h2
          clear hrow
          go_wp2_with fail
          go_ret3
          exact ⟨HK5.out.trans hk5 (fun _ _ f => f), tl.zip vl, _, _, 0, rfl, HRD.out trivial trivial, ownN_base HF.out HK5.out.size⟩
       ·subst hx4
        have hx' : (x5 == 0) = false := by simp [hx5]
        have hx2 : (x5 != 0) = true := by simp [hx5]
        have HE := hid (HRB.out (.inr hx5))
        clear hx5
        go_wp2_with fail
        go_ret3
        exact ⟨HK5.out, [], 0, _, 5, rfl, HE.out, ⟨rfl, .inl ⟨rfl, rfl⟩⟩⟩
      ·have hx' : (x4 == 0) = false := by simp [hx4]
       have hx2 : (x4 != 0) = true := by simp [hx4]
       have HE := hid (HRB.out (.inl hx4))
       clear hx4
       go_wp2_with fail
       go_ret3
       exact ⟨HK5.out, [], 0, _, 5, rfl, HE.out, ⟨rfl, .inl ⟨rfl, rfl⟩⟩⟩
 ·rw [if_pos (.inl he)] at HHC
  have he' : ((er : Int) == 0) = false := by simp [he]
  have he2 : ((er : Int) != 0) = true := by simp [he]
  go_enter Tryz.func46, Tryz.ntmps46
  go_wp2_with fail
  refine hg.mono ?_
  rintro e w' ⟨rfl, hw⟩
  replace hw := hw.symm
  subst hw
  go_wp2_with fail
  go_ret3
  exact ⟨Only.refl _ _, [], 0, _, 5, rfl, .inl ⟨HHC.out, rfl, rfl, rfl⟩, ⟨rfl, .inl ⟨rfl, rfl⟩⟩⟩
end Go.Proofs.YthpkkhmplkmdnaaGreatDoor.C
namespace Go.Proofs.YthpkkhmplkmdnaaGreatDoor.C
open Go.RowKit Go.Proofs.Lys
set_option linter.unusedVariables false
set_option maxRecDepth 100000 in
set_option maxHeartbeats 1600000 in
theorem same_any (w : World) (va vb : Value) (l : Smps) (ha : SmpSrc w va l) (hb : SmpSrc w vb l) (hl : l.length ≤ 1000000) :
  Calls Tryz.prog 40 #[va, vb] w fun e w' => e = .returned (.bool true) ∧ Kept w w' := by
 obtain ⟨a1, c1, rfl⟩ := ha.len
 obtain ⟨a2, c2, rfl⟩ := hb.len
 obtain ⟨L, hL⟩ : ∃ L, l.length = L := ⟨_, rfl⟩
 rw [hL] at ha hb hl ⊢
 have HA := hid ha
 have HB := hid hb
 have HL := hid hL
 clear ha hb hL
 go_enter Tryz.func40, Tryz.ntmps40
 go_wp2
 go_loopw [5] (fun s wr => ∃ (k : Nat), k ≤ L ∧ s = .int .i64 (k : Int) ∧ Kept w wr) (fun s _ => L - (intOf s).toNat)
 case atStart => exact ⟨0, by omega, rfl, Only.refl _ _⟩
 case round =>
  obtain ⟨k, hk, rfl, kr⟩ := hrel
  by_cases hlt : k < L
  ·obtain ⟨b1, o1, rfl, x1, y1⟩ := (HA.out.stay kr).cell HL.out k hlt
   obtain ⟨b2, o2, rfl, x2, y2⟩ := (HB.out.stay kr).cell HL.out k hlt
   generalize (l[k]'(by have := HL.out; omega)).1 = X at x1 x2
   generalize (l[k]'(by have := HL.out; omega)).2 = Y at y1 y2
   go_wp2_with fail
   go_quiet (fail)
   go_wp2_with fail
   go_roundw
   case rel => exact ⟨k + 1, by omega, by go_num, kept_drewN kr nq⟩
   case measure => simp [intOf]; omega
  ·have e : k = L := by omega
   subst e
   go_wp2
   go_ret
   exact ⟨rfl, kr⟩
end Go.Proofs.YthpkkhmplkmdnaaGreatDoor.C
namespace Go.Proofs.YthpkkhmplkmdnaaGreatDoor.C
open Go.RowKit Go.Proofs.Lys
set_option linter.unusedVariables false
def SSrc (w : World) (v : Value) (l : Smps) : Prop := SmpSrc w v l ∧ ∃ a c, v = .slice a l.length c ∧ l.length ≤ c
theorem SSrc.stay {w w' : World} {v : Value} {l : Smps} (h : SSrc w v l) (k : Kept w w') : SSrc w' v l := ⟨h.1.stay k, h.2⟩
theorem SSrc.sub {w : World} {v : Value} {l : Smps} (h : SSrc w v l) {lo hi : Nat} (h1 : lo ≤ hi) (h2 : hi ≤ l.length) :
  ∃ a' c', (∀ W, (Instr.sliceAt 50 v (some (.int .i64 (lo : Int))) (some (.int .i64 (hi : Int))) none).run Tryz.prog W = .ok (.slice a' (hi - lo) c') W) ∧ SmpSrc w (.slice a' (hi - lo) c') ((l.take hi).drop lo) := by
 obtain ⟨hs, a, c, rfl, hc⟩ := h
 have hlen : ((l.take hi).drop lo).length = hi - lo := by rw [List.length_drop, List.length_take]; omega
 have hz : ∀ W, (sizeOf 56).run Tryz.prog W = .ok 2 W := fun W => by kernel_rfl
 have e2 : hi ≤ c := by omega
 refine ⟨if c = lo then a else a.map (·.add (lo * 2)), c - lo, fun W => ?_, ?_⟩
 ·simp [Instr.sliceAt, Instr.slice, Instr.sliceBounds, Instr.sliceBound, run_underlying Tryz.underlying50, asIntOf, h1, e2, hz, Result.andThen]
 ·by_cases h0 : hi - lo = 0
  ·have hn : (l.take hi).drop lo = [] := List.length_eq_zero_iff.1 (by rw [hlen]; exact h0)
   rw [hn, h0]
   exact .inl ⟨_, _, rfl, rfl⟩
  ·rcases hs with ⟨x, y, hv, hn⟩ | ⟨hp, b, o, c2, hv, hcell⟩
   ·rw [hn] at h2
    simp at h2
    omega
   ·simp only [Value.slice.injEq] at hv
    obtain ⟨rfl, _, rfl⟩ := hv
    rw [if_neg (by omega)]
    refine .inr ⟨by rw [hlen]; omega, b, o + lo * 2, c - lo, by rw [hlen, Option.map_some, add_none], fun i hi' => ?_⟩
    rw [hlen] at hi'
    have := hcell (lo + i) (by omega)
    have e5 : ((l.take hi).drop lo)[i]'(by rw [hlen]; exact hi') = l[lo + i]'(by omega) := by
     rw [List.getElem_drop, List.getElem_take]
    rw [e5, show o + lo * 2 + i * 2 = o + (lo + i) * 2 by omega]
    exact this
theorem Tryz.infoL : (Tryz.prog.info? 50).map (fun i => (i.zero, i.size, i.bytes)) = some (some (.slice none 0 0), 1, 24) := by kernel_rfl
structure OutAt (w : World) (base : Nat) (v : Value) (ls : List Smps) (vs : List Value) : Prop where
 len : vs.length = ls.length
 row : w.ownsRow base 50 1 v vs.length vs
 each : ∀ i (h : i < ls.length) (h' : i < vs.length), SmpAt w base vs[i] ls[i]
 apart : ∀ i j (h : i < vs.length) (h' : j < vs.length), i ≠ j → ∀ q, vs[i].ownBlock = some q → vs[j].ownBlock ≠ some q
 plain : ∀ u ∈ vs, ∃ a n c, u = .slice a n c
theorem OutAt.step {w0 w1 w2 : World} {v u : Value} {ls : List Smps} {vs : List Value} {q : Smps} (h : OutAt w1 w0.heap.size v ls vs) (hk : Kept w0 w1) (k2 : Kept w1 w2) (hu : SmpAt w2 w1.heap.size u q) (hl : ls.length ≤ 100000) :
  ∃ g cap w3, Hid ((Builtin.append_ #[58, 58] 0 #[v, .slice (some ⟨w2.heap.size, 0, none⟩) 1 1]).run Tryz.prog (w2.alloc (.cells #[u] 50)) = .ok (.slice (some ⟨g, 0, none⟩) (ls.length + 1) cap) w3) ∧ OutAt w3 w0.heap.size (.slice (some ⟨g, 0, none⟩) (ls.length + 1) cap) (ls ++ [q]) (vs ++ [u]) ∧ Kept w0 w3 := by
 have hs1 := hk.size
 have hs2 := k2.size
 have hrow2 := own_only h.row k2 (fun _ _ f => f)
 obtain ⟨ua, uc, rfl⟩ := ownN_slice hu
 obtain ⟨v', w3, hrun, hown1, hgrow, hat⟩ := append_src (P := Tryz.prog) (xv := .slice (some ⟨w2.heap.size, 0, none⟩) 1 1) (ys := [.slice ua q.length uc]) Tryz.underlying58 Tryz.infoL rfl (by decide) (hrow2.alloc (.cells #[.slice ua q.length uc] 50)) (own_src (World.ownsRow_lit w2 #[.slice ua q.length uc] 1 (Nat.zero_le _) (by decide) rfl)) (by intro u hu; simp at hu; subst hu; rfl) (by have := h.len; simp; omega) (by simp; omega)
 obtain ⟨g, cap, rfl⟩ := own_some hown1 (by simp)
 have hk3 : Kept w0 w3 := ((hk.trans k2 (fun _ _ f => f)).alloc _).grown hgrow (fun j hj hlt => by have := (h.row.lt j hj).1; omega)
 have hO : Only (fun j => v.ownBlock = some j) w2 w3 := ((Only.refl _ w2).alloc _).grown hgrow (fun j hj _ => hj)
 refine ⟨g, cap, w3, ?_, ⟨by simp [h.len], ?_, ?_, ?_, ?_⟩, hk3⟩
 ·have e : vs.length + [Value.slice ua q.length uc].length = ls.length + 1 := by simp [h.len]
  rw [← e]
  exact hrun
 ·have e : (vs ++ [Value.slice ua q.length uc]).length = ls.length + 1 := by simp [h.len]
  have e2 : vs.length + [Value.slice ua q.length uc].length = ls.length + 1 := by simp [h.len]
  rw [e, ← e2]
  exact hown1
 ·intro i hi hi'
  rw [List.length_append, List.length_singleton] at hi hi'
  by_cases e : i < ls.length
  ·have hv : i < vs.length := by have := h.len; omega
   rw [List.getElem_append_left hv, List.getElem_append_left e]
   have h1 := h.each i e hv
   refine ownN_only (ownN_stay h1 k2) hO (fun b hb hvb => ?_)
   exact (ownN_typed h1 hb).ne (own_typed h.row hvb) (by decide) rfl
  ·have e1 : i = ls.length := by omega
   subst e1
   have e2 : ls.length = vs.length := h.len.symm
   rw [List.getElem_append_right (by omega), List.getElem_append_right (Nat.le_refl _)]
   simp only [e2, Nat.sub_self, List.getElem_singleton]
   refine ownN_base (ownN_only hu hO (fun b hb hvb => ?_)) hs1
   have h1 := (ownN_lt hu hb).1
   have h2 := (h.row.lt b hvb).2
   omega
 ·intro i j hi hj hne p hp hq
  rw [List.length_append, List.length_singleton] at hi hj
  have low : ∀ k (hk : k < vs.length) b, vs[k].ownBlock = some b → b < w1.heap.size := fun k hk b hb => (ownN_lt (h.each k (by have := h.len; omega) hk) hb).2
  by_cases ei : i < vs.length
  ·by_cases ej : j < vs.length
   ·rw [List.getElem_append_left ei] at hp
    rw [List.getElem_append_left ej] at hq
    exact h.apart i j ei ej hne p hp hq
   ·have e1 : j = vs.length := by omega
    subst e1
    rw [List.getElem_append_left ei] at hp
    rw [List.getElem_append_right (Nat.le_refl _)] at hq
    simp only [Nat.sub_self, List.getElem_singleton] at hq
    have h1 := low i ei p hp
    have h2 := (ownN_lt hu hq).1
    omega
  ·have e1 : i = vs.length := by omega
   subst e1
   have ej : j < vs.length := by omega
   rw [List.getElem_append_left ej] at hq
   rw [List.getElem_append_right (Nat.le_refl _)] at hp
   simp only [Nat.sub_self, List.getElem_singleton] at hp
   have h1 := low j ej p hq
   have h2 := (ownN_lt hu hp).1
   omega
 ·intro x hx
  rcases List.mem_append.1 hx with hx | hx
  ·exact h.plain x hx
  ·exact ⟨_, _, _, List.mem_singleton.1 hx⟩
set_option maxRecDepth 100000 in
set_option maxHeartbeats 1600000 in
theorem rchunks_any (w : World) (v : Value) (l : Smps) (hs : SSrc w v l) (hl : l.length ≤ 100000) :
  Calls Tryz.prog 32 #[v] w fun e w' => ∃ u vs, e = .returned u ∧ OutAt w' w.heap.size u (splitL l) vs ∧ Kept w w' := by
 obtain ⟨a0, c0, e0⟩ := hs.1.len
 obtain ⟨L, hL⟩ : ∃ L, l.length = L := ⟨_, rfl⟩
 rw [hL] at e0 hl
 subst e0
 have HS := hid hs
 have HL := hid hL
 clear hs hL
 go_enter Tryz.func32, Tryz.ntmps32
 go_wp2_with fail
 go_loopw [3, 4, 5] (fun o i _ wr => ∃ (k : Nat) (ls : List Smps) (vs : List Value), k ≤ L + 119 ∧ i = .int .i64 (k : Int) ∧ OutAt wr w.heap.size o ls vs ∧ Kept w wr ∧ ls.length ≤ k ∧ ls ++ splitL (l.drop k) = splitL l) (fun _ i _ _ => L + 120 - (intOf i).toNat)
 case atStart => exact ⟨0, [], [], by omega, rfl, ⟨rfl, World.ownsRow_nil _ _ _ _, fun i h => absurd h (Nat.not_lt_zero _), fun i j h => absurd h (Nat.not_lt_zero _), fun u hu => by cases hu⟩, Only.refl _ _, by simp, by simp⟩
 case round =>
  obtain ⟨k, ls, vs, hk, rfl, hO, hkr, hlk, hsp⟩ := hrel
  by_cases hlt : k < L
  ·have hne : l.drop k ≠ [] := fun e => by
    have := congrArg List.length e
    rw [List.length_drop, HL.out] at this
    simp at this
    omega
   have hsp2 := hsp
   rw [splitL_cons hne, List.drop_drop] at hsp2
   by_cases hend : L < k + 120
   ·obtain ⟨a', c', hsl, hsub⟩ := (HS.out.stay hkr).sub (lo := k) (hi := L) (by omega) (by have := HL.out; omega)
    obtain ⟨a2, c2, w2, Hr, ho2, hk2⟩ := smp_copy hsub (by rw [List.length_drop, List.length_take]; have := HL.out; omega)
    have hq : (l.take L).drop k = (l.drop k).take 120 := by
     rw [List.take_of_length_le (by have := HL.out; omega)]
     exact (List.take_of_length_le (by rw [List.length_drop]; have := HL.out; omega)).symm
    rw [hq] at ho2 Hr
    have hql : ((l.drop k).take 120).length = L - k := by rw [List.length_take, List.length_drop]; have := HL.out; omega
    obtain ⟨g, cap, w3, Hr3, hO3, hk3⟩ := hO.step hkr hk2 ho2 (by omega)
    have HO3 := hid hO3
    have HK3 := hid hk3
    have HSP := hid hsp2
    have HLS : Hid ((ls ++ [(l.drop k).take 120]).length = ls.length + 1) := by show _ = _; simp
    rw [hql] at Hr Hr3 HO3
    clear hO hsub ho2 hO3 hk3 hsp hsp2 hq hk2
    go_wp2_with (at_builtin; first | refine wpList_append_run rfl _ _ _ rfl rfl rfl Hr ?_ | refine wpList_append_run rfl _ _ _ rfl rfl rfl Hr3 ?_)
    go_roundw
    case rel => exact ⟨k + 120, _, _, by omega, by go_num, HO3.out, HK3.out, by rw [HLS.out]; omega, by rw [List.append_assoc]; exact HSP.out⟩
    case measure => simp [intOf]; omega
   ·obtain ⟨a', c', hsl, hsub⟩ := (HS.out.stay hkr).sub (lo := k) (hi := k + 120) (by omega) (by have := HL.out; omega)
    obtain ⟨a2, c2, w2, Hr, ho2, hk2⟩ := smp_copy hsub (by rw [List.length_drop, List.length_take]; omega)
    have hq : (l.take (k + 120)).drop k = (l.drop k).take 120 := by rw [List.drop_take, show k + 120 - k = 120 by omega]
    rw [hq] at ho2 Hr
    have hql : ((l.drop k).take 120).length = 120 := by rw [List.length_take, List.length_drop]; have := HL.out; omega
    obtain ⟨g, cap, w3, Hr3, hO3, hk3⟩ := hO.step hkr hk2 ho2 (by omega)
    have HO3 := hid hO3
    have HK3 := hid hk3
    have HSP := hid hsp2
    have HLS : Hid ((ls ++ [(l.drop k).take 120]).length = ls.length + 1) := by show _ = _; simp
    rw [hql] at Hr Hr3 HO3
    rw [show k + 120 - k = 120 by omega, show ((k + 120 : Nat) : Int) = (k : Int) + 120 by omega] at hsl
    rw [show k + 120 - k = 120 by omega] at Hr
    have hend' : ¬ (L : Int) < (k : Int) + 120 := by omega
    clear hO hsub ho2 hO3 hk3 hsp hsp2 hq hk2
    go_wp2_with (at_builtin; first | refine wpList_append_run rfl _ _ _ rfl rfl rfl Hr ?_ | refine wpList_append_run rfl _ _ _ rfl rfl rfl Hr3 ?_)
    go_roundw
    case rel => exact ⟨k + 120, _, _, by omega, by go_num, HO3.out, HK3.out, by rw [HLS.out]; omega, by rw [List.append_assoc]; exact HSP.out⟩
    case measure => simp [intOf]; omega
  ·have HE : Hid (OutAt wr w.heap.size u3 (splitL l) vs) := by
    rw [List.drop_of_length_le (by have := HL.out; omega), splitL_nil, List.append_nil] at hsp
    rw [← hsp]
    exact hO
   have HKr := hid hkr
   clear hO hsp hkr
   go_wp2_with fail
   go_ret
   exact ⟨_, _, rfl, HE.out, HKr.out⟩
end Go.Proofs.YthpkkhmplkmdnaaGreatDoor.C
namespace Go.Proofs.YthpkkhmplkmdnaaGreatDoor.C
open Go.RowKit Go.Proofs.Lys
set_option linter.unusedVariables false
theorem Packs.small {l : Smps} {bs : List UInt8} {x : Int} (h : Packs l bs x) : bs.length ≤ 10000 := by
 rcases h with ⟨_, h, _⟩ | ⟨_, a, e, _, _, h, _⟩ | ⟨h1, a, c, h2, h3, h, _⟩
 ·simp [h]
 ·simp [h]
 ·have ha := SPacks.small h2
  have hc := h3.small
  have hl : l.length ≤ 120 := by
   rcases h3 with ⟨_, _, h⟩ | ⟨h, _⟩
   ·cases h
   ·rwa [List.length_map] at h
  have l1 := putN_ten (n := l.length) (by omega)
  have l2 := putN_ten (n := a.length) (by omega)
  have l3 := putN_ten (n := c.length) (by omega)
  rw [h]
  unfold chunkB
  simp only [List.length_append]
  omega
end Go.Proofs.YthpkkhmplkmdnaaGreatDoor.C
namespace Go.Proofs.YthpkkhmplkmdnaaGreatDoor.C
open Go.RowKit Go.Proofs.Lys
set_option linter.unusedVariables false
end Go.Proofs.YthpkkhmplkmdnaaGreatDoor.C
