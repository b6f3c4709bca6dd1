/-
  Nrmake.
-/
import Derived.Test.YtllfanlhgnkcfaaGreatDoorQ27
import Derived.Test.YtllfanlhgnkcfaaGreatDoorQ12
namespace Go.Proofs.YtllfanlhgnkcfaaGreatDoor.N
open Go.RowKit Go.Proofs.Lys
set_option linter.unusedVariables false
set_option linter.unusedSimpArgs false
theorem oper_append {P : Program} {w : World} {o : Oper} {a : Act} {K : Act → World → Prop} {Q : Exit → Act → World → Prop} (s x : Operand) (t : TypeId)
  (ho : o.op = .call { callee := .builtin .append, args := #[s, x], argTypes := #[t, t] }) {sv xv : Value} (hs : a.eval s = sv) (hx : a.eval x = xv) {v : Value} {w' : World}
  (hrun : Hid ((Builtin.append_ #[t, t] 0 #[sv, xv]).run P w = .ok v w')) (h : K (a.put o.dst v) w') : Oper.wp P o a w K Q := by
 have hr : (Builtin.append_ #[t, t] o.type #[sv, xv]).run P w = .ok v w' := hrun.out
 unfold Oper.wp execOp
 simp only [ho, resolve, invoke, builtin, Sem.run_bind, Sem.run_pure, Result.andThen_ok, List.map_toArray, List.map_cons, List.map_nil, hs, hx, hr]
 exact h
theorem kept_cell {w W : World} (k : Kept w W) {a : Addr} {u : Value} (h : w.cell? a = some u) : W.cell? a = some u := by
 rw [World.cell?_of_block (w := w) (w' := W) (a := a) (k.block a.block (World.block_lt_of_cell? w a h) (fun f => f))]
 exact h
def RMakeA (w : World) (B : Nat) (u : Value) (n : Int) : Option Labs → Prop
 | some m => n = 0 ∧ LabAt w B u m
 | none => n = 20 ∧ u = .slice none 0 0
set_option maxRecDepth 100000 in
set_option maxHeartbeats 40000000 in
theorem rmake_any (w : World) (v : Value) (l : Labs) (hs : LabSrc w v l) (hl : l.length ≤ 100000) (hB : Small l) :
  Calls Tryz.prog 32 #[v] w fun e w' => (∃ u n, e = .returned (.tuple #[u, .int .i64 n]) ∧ RMakeA w' w.heap.size u n (makeL l)) ∧ Kept w w' := by
 obtain ⟨a1, c1, rfl⟩ := hs.len
 obtain ⟨L, hL⟩ : ∃ L, l.length = L := ⟨_, rfl⟩
 rw [hL] at hs hl ⊢
 have HS := hid hs
 have HL := hid hL
 have HB := hid hB
 have H0 : Hid (¬ (0 < L ∧ L ≤ 16) → makeL l = none) := fun h => by
  unfold makeL
  rw [if_pos (by omega)]
 have H1 : Hid (∀ k (hk : k < l.length), labOk l[k] = false → makeL l = none) := fun k hk h => makeL_bad hk h
 have H2 : Hid (0 < L → L ≤ 16 → (∀ k (hk : k < l.length), labOk l[k] = true) → makeL l = insAll [] l) := fun h1 h2 h3 => makeL_good (by omega) (by omega) h3
 have HN : Hid (∀ k acc, ∀ hk : k < l.length, insAll [] (l.take k) = some acc → ins (l[k]'hk) acc = none → makeL l = none) := fun k acc hk h1 h2 => by
  have := insAll_none hk h1 h2
  unfold makeL
  split
  ·rfl
  ·split
   ·exact this
   ·rfl
 have HP : Hid (∀ k acc m, ∀ hk : k < l.length, insAll [] (l.take k) = some acc → ins (l[k]'hk) acc = some m → insAll [] (l.take (k + 1)) = some m) := fun k acc m hk h1 h2 => (insAll_step hk h1).trans h2
 clear hs hL hB
 by_cases hr : 0 < L ∧ L ≤ 16
 ·obtain ⟨h0, h16⟩ := hr
  go_enter Tryz.func32, Tryz.ntmps32
  go_wp2
  all_goals try (exfalso; simp_all; omega)
  rename_i hq1 hq2 _ _
  clear hq1 hq2
  go_loopw [4, 5] (fun o s wr => ∃ (k : Nat) (acc : Labs), k ≤ L ∧ s = .int .i64 (k : Int) ∧ (∀ i (hi : i < l.length), i < k → labOk l[i] = true) ∧ acc.length = k ∧ insAll [] (l.take k) = some acc ∧ LabAt wr w.heap.size o acc ∧ Kept w wr) (fun _ s _ => L - (intOf s).toNat)
  case atStart => exact ⟨0, [], by omega, rfl, fun i _ h => absurd h (by omega), rfl, rfl, ⟨rfl, .inl ⟨rfl, rfl⟩⟩, Only.refl _ _⟩
  case round =>
   rename_i o4 _ _
   obtain ⟨k, acc, hk, rfl, hok, hacc, hins, hat, kr⟩ := hrel
   obtain ⟨oa, oc, rfl⟩ := ownN_slice hat
   have HO := hid hok
   have HI := hid hins
   have HA := hid hat
   have HK := hid kr
   by_cases hlt : k < L
   ·have hkl : k < l.length := by have := HL.out; omega
    obtain ⟨b1, o1, rfl, x1, y1⟩ := (HS.out.stay kr).cell HL.out k hlt
    have hbd := HB.out _ (List.getElem_mem hkl)
    have HF := hid (fun h => H1.out k hkl h)
    have HN2 := hid (fun h => HN.out k acc hkl HI.out h)
    have HP2 := hid (fun m h => HP.out k acc m hkl HI.out h)
    have HT : Hid (labOk (l[k]'hkl) = true → ∀ i (hi : i < l.length), i < k + 1 → labOk l[i] = true) := fun h i hi hik => by
     by_cases e : i < k
     ·exact HO.out i hi e
     ·have : i = k := by omega
      subst this
      exact h
    clear hok kr hat hins
    generalize l[k]'hkl = x at x1 y1 HF HT hbd HN2 HP2
    obtain ⟨X, Y⟩ := x
    simp only at x1 y1 hbd
    have Hn := hid (fun W => rname_any W X (by omega))
    have e : labOk (X, Y) = (nameOk X && valOk Y) := rfl
    rw [e] at HF HT
    go_wp2_with (go_at_call 58; refine (Hn.out _).mono ?_)
    rintro e1 w1 ⟨rfl, hw⟩
    replace hw := hw.symm
    subst hw
    cases hn : nameOk X with
    | false =>
     rw [hn] at HF
     have hmk := hid (HF.out rfl)
     go_wp2
     go_ret2
     refine ⟨⟨_, _, rfl, ?_⟩, HK.out⟩
     rw [hmk.out]
     exact ⟨rfl, rfl⟩
    | true =>
     rw [hn] at HF HT
     by_cases y0 : Y.size = 0
     ·have ey : Y = ⟨#[]⟩ := bytes_inj (List.length_eq_zero_iff.1 (by rw [← Lib.size_eq]; exact y0))
      subst ey
      have hmk := hid (HF.out rfl)
      go_wp2
      go_ret2
      refine ⟨⟨_, _, rfl, ?_⟩, HK.out⟩
      rw [hmk.out]
      exact ⟨rfl, rfl⟩
     have hne := not_empty y0
     by_cases y64 : 64 < Y.size
     ·have hv : valOk Y = false := by
       unfold valOk
       rw [show decide (Y.size ≤ 64) = false by simp; omega]
       simp
      rw [hv] at HF
      have hmk := hid (HF.out rfl)
      have y64' : (64 : Int) < (Y.size : Int) := by omega
      clear hv
      go_wp2
      all_goals try (exfalso; omega)
      all_goals go_ret2
      all_goals refine ⟨⟨_, _, rfl, ?_⟩, HK.out⟩
      all_goals rw [hmk.out]
      all_goals exact ⟨rfl, rfl⟩
     have hv : valOk Y = true := by
      unfold valOk
      rw [decide_eq_true (by omega), decide_eq_true (by omega)]
      rfl
     rw [hv] at HT
     have HT2 := hid (HT.out rfl)
     have y64' : (Y.size : Int) ≤ 64 := by omega
     clear hv
     go_wp2
     all_goals try (exfalso; omega)
     go_loopw [7] (fun s w2 => ∃ (j : Nat), j ≤ k ∧ s = .int .i64 (j : Int) ∧ Past (X, Y) acc j ∧ Kept wr w2) (fun s _ => k - (intOf s).toNat)
     case atStart => exact ⟨0, by omega, rfl, past_start _ _, Only.refl _ _⟩
     case round =>
      obtain ⟨j, hj, rfl, hp, k2⟩ := hrel
      have HP3 := hid hp
      have HK2 := hid k2
      have x2 := kept_cell k2 x1
      have y2 := kept_cell k2 y1
      have HA2 := hid (ownN_stay HA.out k2)
      clear hp k2
      by_cases hlt2 : j < k
      ·obtain ⟨b2, o2, rfl, p1, p2⟩ := (LabAt.src HA2.out).cell rfl j (by omega)
       have hja : j < acc.length := by omega
       have hLt := lt_str (acc[j]'hja).1 X
       have hEq := eq_str (acc[j]'hja).1 X
       have hAn := cmpB_good.anti (acc[j]'hja).1 X
       have hRg := cmpB_good.rng (acc[j]'hja).1 X
       have G1 := hid (fun h => past_eq HP3.out hja (show cmpB X (acc[j]'hja).1 = 0 from h))
       have G2 := hid (fun h => past_lt HP3.out hja (show cmpB X (acc[j]'hja).1 = -1 from h))
       have G3 := hid (fun h h' => past_step HP3.out hja (show cmpB X (acc[j]'hja).1 ≠ 0 from h) (show cmpB X (acc[j]'hja).1 ≠ -1 from h'))
       generalize acc[j]'hja = q at p1 p2 hLt hEq hAn hRg G1 G2 G3
       obtain ⟨Q1, Q2⟩ := q
       simp only at p1 p2 hLt hEq hAn hRg G1 G2 G3
       rw [hAn] at G1 G2 G3
       generalize cmpB Q1 X = D at hLt hEq hRg G1 G2 G3
       try rw [hacc] at HA2
       try rw [hacc]
       clear hAn
       have hjk : (j : Int) < (k : Int) := by omega
       by_cases c1 : D = -1
       ·rw [decide_eq_true c1] at hLt
        have G := hid (G3.out (by omega) (by omega))
        clear hEq hRg G1 G2 G3
        go_wp2_with fail
        go_quiet (fail)
        go_wp2_with fail
        refine ⟨⟨j + 1, by omega, by go_num, G.out, kept_drewN HK2.out nq⟩, ?_⟩
        simp [intOf]
        omega
       ·rw [decide_eq_false c1] at hLt
        go_wp2_with fail
        go_quiet (fail)
        have HK3 := hid (kept_drewN HK2.out nq)
        have HA3 := hid (ownN_stay HA2.out (kept_drewN (Only.refl _ wr) nq))
        have x3 : (wr.drewN nq).cell? ⟨b1, o1 + k * 2, none⟩ = some (.string X) := x2
        have y3 : (wr.drewN nq).cell? ⟨b1, o1 + k * 2 + 1, none⟩ = some (.string Y) := y2
        have q3 : (wr.drewN nq).cell? ⟨b2, o2 + j * 2, none⟩ = some (.string Q1) := p1
        generalize wr.drewN nq = w4 at HK3 HA3 x3 y3 q3 ⊢
        have x1o := x1
        have y1o := y1
        clear x1 y1 x2 y2 p1 p2
        have HXo := hid x1o
        have HYo := hid y1o
        clear x1o y1o
        by_cases c0 : D = 0
        ·rw [decide_eq_true c0] at hEq
         have hmk := hid (HN2.out (G1.out (by omega)))
         clear G1 G2 G3 hRg c0 c1
         go_wp2_with fail
         go_quiet (fail)
         go_wp2_with fail
         go_ret2
         refine ⟨⟨_, _, rfl, ?_⟩, HK.out.trans (kept_drewN HK3.out _) (fun _ _ f => f)⟩
         rw [hmk.out]
         exact ⟨rfl, rfl⟩
        ·rw [decide_eq_false c0] at hEq
         have hm := hid (HP2.out _ (G2.out (by omega)))
         clear G1 G2 G3 hRg c0 c1
         go_wp2_with fail
         go_quiet (fail)
         have HZ5 := hid (kept_drewN HK3.out nq)
         have HK5 := hid (HK.out.trans HZ5.out (fun _ _ f => f))
         have HA5 : Hid (LabAt (w4.drewN nq) w.heap.size (.slice (some ⟨b2, o2, none⟩) acc.length oc) acc) := by
          refine hid ?_
          rw [hacc]
          have := ownN_stay HA3.out (kept_drewN (Only.refl _ w4) nq)
          unfold LabAt
          rw [hacc]
          exact this
         have x5 : (w4.drewN nq).cell? ⟨b1, o1 + k * 2, none⟩ = some (.string X) := x3
         have y5 : (w4.drewN nq).cell? ⟨b1, o1 + k * 2 + 1, none⟩ = some (.string Y) := y3
         generalize w4.drewN nq = w5 at HZ5 HK5 HA5 x5 y5 ⊢
         clear x3 y3 q3 hLt hEq
         obtain ⟨ra1, ra2, rc2, ra3, rc3, w6, g4, c4, w7, g5, c5, w8, S1, S2, R3, R4, R5, RE, RK, RK2, RK3⟩ := put_rows HA5.out (by omega) j (by omega) (X, Y)
         have s1 := S1.out
         have s2 := S2.out
         rw [hacc] at s1 s2 R3 R5 RE
         simp only at R4
         clear S1 S2
         have x6 := kept_cell RK2.out x5
         have y6 := kept_cell RK2.out y5
         have x6d : w6.drew.cell? ⟨b1, o1 + k * 2, none⟩ = some (.string X) := x6
         have y6d : w6.drew.cell? ⟨b1, o1 + k * 2 + 1, none⟩ = some (.string Y) := y6
         have x7 := kept_cell (((Only.refl _ w6).drew).alloc (.cells #[.string X, .string Y] 71)) x6
         have y7 := kept_cell (((Only.refl _ w6).drew).alloc (.cells #[.string X, .string Y] 71)) y6
         have x8 := kept_cell RK3.out x6
         have y8 := kept_cell RK3.out y6
         have HZ8 := hid (HZ5.out.trans RK.out (fun _ _ f => f))
         have HX8 := hid (show Kept w w8 from HK5.out.trans RK.out (fun _ _ f => f))
         have HE8 := hid (show LabAt w8 w.heap.size (.slice (some ⟨g5, 0, none⟩) (k + 1) c5) (acc.take j ++ (X, Y) :: acc.drop j) from ownN_base RE.out HK5.out.size)
         go_wp2_with (at_builtin; refine wpList_append_run rfl _ _ _ rfl rfl rfl R3 ?_)
         refine wp_region_noPanic ?_
         refine wp_region_last (L := 1000) (S := fun w' => w'.cell? ⟨b1, o1 + k * 2, none⟩ = some (.string X) ∧ w'.cell? ⟨b1, o1 + k * 2 + 1, none⟩ = some (.string Y)) (by kernel_rfl) ?_
         have hS : (fun w' : World => w'.cell? ⟨b1, o1 + k * 2, none⟩ = some (.string X) ∧ w'.cell? ⟨b1, o1 + k * 2 + 1, none⟩ = some (.string Y)) w6.drew := ⟨x6d, y6d⟩
         clear x5 y5 x6 y6 s2 x6d y6d
         refine wpAnyN_take (i := 0) (v := .slice (some ⟨b2, o2, none⟩) k oc) rfl (by kernel_rfl) (by kernel_rfl) (by kernel_rfl) (by decide) (by kernel_rfl) (fun _ _ _ h => h) (Or.inl ⟨by rfl, ?_⟩) hS ?_
         ·(intro w' hSw; obtain ⟨q1, q2⟩ := hSw; go_simp)
         go_frame
         refine wpAnyN_take (i := 1) (v := .int .i64 (j : Int)) rfl (by kernel_rfl) (by kernel_rfl) (by kernel_rfl) (by decide) (by kernel_rfl) (fun _ _ _ h => h) (Or.inl ⟨by rfl, ?_⟩) hS ?_
         ·(intro w' hSw; obtain ⟨q1, q2⟩ := hSw; go_simp)
         go_frame
         refine wpAnyN_take (i := 2) (v := .int .i64 (j : Int)) rfl (by kernel_rfl) (by kernel_rfl) (by kernel_rfl) (by decide) (by kernel_rfl) (fun _ _ _ h => h) (Or.inl ⟨by rfl, ?_⟩) hS ?_
         ·(intro w' hSw; obtain ⟨q1, q2⟩ := hSw; go_simp)
         go_frame
         refine wpAnyN_take (i := 3) (v := .slice ra1 j j) rfl (by kernel_rfl) (by kernel_rfl) (by kernel_rfl) (by decide) (by kernel_rfl) (fun _ _ _ h => h) (Or.inl ⟨by rfl, ?_⟩) hS ?_
         ·(intro w' hSw; obtain ⟨q1, q2⟩ := hSw; go_simp)
         go_frame
         refine wpAnyN_take (i := 4) (v := .slice (some ⟨b1, o1, none⟩) L c1) rfl (by kernel_rfl) (by kernel_rfl) (by kernel_rfl) (by decide) (by kernel_rfl) (fun _ _ _ h => h) (Or.inl ⟨by rfl, ?_⟩) hS ?_
         ·(intro w' hSw; obtain ⟨q1, q2⟩ := hSw; go_simp)
         go_frame
         refine wpAnyN_take (i := 5) (v := .int .i64 (k : Int)) rfl (by kernel_rfl) (by kernel_rfl) (by kernel_rfl) (by decide) (by kernel_rfl) (fun _ _ _ h => h) (Or.inl ⟨by rfl, ?_⟩) hS ?_
         ·(intro w' hSw; obtain ⟨q1, q2⟩ := hSw; go_simp)
         go_frame
         refine wpAnyN_take (i := 6) (v := .pointer (some ⟨b1, o1 + k * 2, none⟩)) rfl (by kernel_rfl) (by kernel_rfl) (by kernel_rfl) (by decide) (by kernel_rfl) (fun _ _ _ h => h) (Or.inl ⟨by rfl, ?_⟩) hS ?_
         ·(intro w' hSw; obtain ⟨q1, q2⟩ := hSw; go_simp)
         go_frame
         refine wpAnyN_take (i := 7) (v := .agg #[.string X, .string Y]) rfl (by kernel_rfl) (by kernel_rfl) (by kernel_rfl) (by decide) (by kernel_rfl) (fun _ _ _ h => h) (Or.inl ⟨by rfl, ?_⟩) hS ?_
         ·(intro w' hSw; obtain ⟨q1, q2⟩ := hSw; go_simp)
         go_frame
         refine wpAnyN_take (i := 10) (v := .slice ra3 (k - j) rc3) rfl (by kernel_rfl) (by kernel_rfl) (by kernel_rfl) (by decide) (by kernel_rfl) (fun _ _ _ h => h) (Or.inl ⟨by rfl, ?_⟩) hS ?_
         ·(intro w' hSw; obtain ⟨q1, q2⟩ := hSw; go_simp)
         go_frame
         refine wpAnyL_one (i := 8) (by kernel_rfl) rfl rfl ?_
         go_simp
         refine ⟨⟨x7, y7⟩, ?_⟩
         refine wpAnyL_one (i := 9) (by kernel_rfl) rfl rfl (oper_append _ _ _ rfl rfl rfl R4 ?_)
         refine ⟨⟨x8, y8⟩, ?_⟩
         go_frame
         refine wpAnyL_one (i := 11) (by kernel_rfl) rfl rfl (oper_append _ _ _ rfl rfl rfl R5 ?_)
         refine ⟨⟨kept_cell HZ8.out HXo.out, kept_cell HZ8.out HYo.out⟩, ?_⟩
         go_frame
         refine wpAnyL_one (i := 12) (by kernel_rfl) rfl rfl ?_
         go_simp
         refine ⟨⟨kept_cell HZ8.out HXo.out, kept_cell HZ8.out HYo.out⟩, ?_⟩
         refine wpAnyN_done (by kernel_rfl) ?_
         refine NoPanic.normal ?_
         clear hS
         go_wp2_with fail
         go_roundw
         case rel => exact ⟨k + 1, _, by omega, by go_num, HT2.out, by simp; omega, hm.out, HE8.out, HX8.out⟩
         case measure => simp [intOf]; omega
      ·have ej : j = k := by omega
       have hm := hid (HP2.out (acc.take j ++ (X, Y) :: acc.drop j) ((past_end HP3.out (by omega)).trans (by rw [List.take_of_length_le (by omega), List.drop_of_length_le (by omega)])))
       have HXo := hid x1
       have HYo := hid y1
       have HJ := hid ej
       clear ej hlt2 hj
       go_wp2_with fail
       generalize hJ : (j : Int) = J
       have HNJ : Hid (¬ J < (k : Int)) := by refine hid ?_; have := HJ.out; omega
       have HJJ := hid hJ
       clear hJ
       refine wp_region_quiet_lit (by kernel_rfl) (by kernel_rfl) ?_
       iterate 5 (quiet_step (fail))
       iterate 11
        refine wpQuiet_step (fun K hK => ?_)
        go_simp
        rw [if_neg (by have := HNJ.out; omega)]
        refine hK _ ?_
        clear hK K
       quiet_step (fail)
       refine wpQuiet_nil ?_
       intro _ hw'
       obtain ⟨nq, hw''⟩ := hw'
       subst hw''
       have HK3 := hid (kept_drewN HK2.out nq)
       have HA3 := hid (ownN_stay HA2.out (kept_drewN (Only.refl _ wr) nq))
       have x3 : (wr.drewN nq).cell? ⟨b1, o1 + k * 2, none⟩ = some (.string X) := x2
       have y3 : (wr.drewN nq).cell? ⟨b1, o1 + k * 2 + 1, none⟩ = some (.string Y) := y2
       generalize wr.drewN nq = w4 at HK3 HA3 x3 y3 ⊢
       clear x1 y1 x2 y2
       rw [if_neg (by have := HNJ.out; omega)]
       go_wp2_with fail
       refine wp_region_quiet_lit (by kernel_rfl) (by kernel_rfl) ?_
       iterate 5 (quiet_step (fail))
       iterate 11
        refine wpQuiet_step (fun K hK => ?_)
        go_simp
        rw [if_neg (by have := HNJ.out; omega)]
        refine hK _ ?_
        clear hK K
       quiet_step (fail)
       refine wpQuiet_nil ?_
       intro _ hw'
       obtain ⟨nq, hw''⟩ := hw'
       subst hw''
       have HZ5 := hid (kept_drewN HK3.out nq)
       have HK5 := hid (HK.out.trans HZ5.out (fun _ _ f => f))
       have HA5 : Hid (LabAt (w4.drewN nq) w.heap.size (.slice oa acc.length oc) acc) := by
        refine hid ?_
        exact ownN_stay HA3.out (kept_drewN (Only.refl _ w4) nq)
       have x5 : (w4.drewN nq).cell? ⟨b1, o1 + k * 2, none⟩ = some (.string X) := x3
       have y5 : (w4.drewN nq).cell? ⟨b1, o1 + k * 2 + 1, none⟩ = some (.string Y) := y3
       generalize w4.drewN nq = w5 at HZ5 HK5 HA5 x5 y5 ⊢
       have hj : j ≤ k := by have := HJ.out; omega
       have hJ := HJJ.out
       subst hJ
       have hnj : ¬ ((j : Int) < (k : Int)) := by have := HNJ.out; omega
       clear x3 y3
       obtain ⟨ra1, ra2, rc2, ra3, rc3, w6, g4, c4, w7, g5, c5, w8, S1, S2, R3, R4, R5, RE, RK, RK2, RK3⟩ := put_rows HA5.out (by omega) j (by omega) (X, Y)
       have s1 := S1.out
       have s2 := S2.out
       rw [hacc] at s1 s2 R3 R5 RE
       simp only at R4
       clear S1 S2
       have x6 := kept_cell RK2.out x5
       have y6 := kept_cell RK2.out y5
       have x6d : w6.drew.cell? ⟨b1, o1 + k * 2, none⟩ = some (.string X) := x6
       have y6d : w6.drew.cell? ⟨b1, o1 + k * 2 + 1, none⟩ = some (.string Y) := y6
       have x7 := kept_cell (((Only.refl _ w6).drew).alloc (.cells #[.string X, .string Y] 71)) x6
       have y7 := kept_cell (((Only.refl _ w6).drew).alloc (.cells #[.string X, .string Y] 71)) y6
       have x8 := kept_cell RK3.out x6
       have y8 := kept_cell RK3.out y6
       have HZ8 := hid (HZ5.out.trans RK.out (fun _ _ f => f))
       have HX8 := hid (show Kept w w8 from HK5.out.trans RK.out (fun _ _ f => f))
       have HE8 := hid (show LabAt w8 w.heap.size (.slice (some ⟨g5, 0, none⟩) (k + 1) c5) (acc.take j ++ (X, Y) :: acc.drop j) from ownN_base RE.out HK5.out.size)
       go_wp2_with (at_builtin; refine wpList_append_run rfl _ _ _ rfl rfl rfl R3 ?_)
       refine wp_region_noPanic ?_
       refine wp_region_last (L := 1000) (S := fun w' => w'.cell? ⟨b1, o1 + k * 2, none⟩ = some (.string X) ∧ w'.cell? ⟨b1, o1 + k * 2 + 1, none⟩ = some (.string Y)) (by kernel_rfl) ?_
       have hS : (fun w' : World => w'.cell? ⟨b1, o1 + k * 2, none⟩ = some (.string X) ∧ w'.cell? ⟨b1, o1 + k * 2 + 1, none⟩ = some (.string Y)) w6.drew := ⟨x6d, y6d⟩
       clear x5 y5 x6 y6 s2 x6d y6d
       refine wpAnyN_take (i := 0) (v := .slice oa k oc) rfl (by kernel_rfl) (by kernel_rfl) (by kernel_rfl) (by decide) (by kernel_rfl) (fun _ _ _ h => h) (Or.inl ⟨by rfl, ?_⟩) hS ?_
       ·(intro w' hSw; obtain ⟨q1, q2⟩ := hSw; go_simp)
       go_frame
       refine wpAnyN_take (i := 1) (v := .int .i64 (j : Int)) rfl (by kernel_rfl) (by kernel_rfl) (by kernel_rfl) (by decide) (by kernel_rfl) (fun _ _ _ h => h) (Or.inl ⟨by rfl, ?_⟩) hS ?_
       ·(intro w' hSw; obtain ⟨q1, q2⟩ := hSw; go_simp)
       go_frame
       refine wpAnyN_take (i := 2) (v := .int .i64 (j : Int)) rfl (by kernel_rfl) (by kernel_rfl) (by kernel_rfl) (by decide) (by kernel_rfl) (fun _ _ _ h => h) (Or.inl ⟨by rfl, ?_⟩) hS ?_
       ·(intro w' hSw; obtain ⟨q1, q2⟩ := hSw; go_simp)
       go_frame
       refine wpAnyN_take (i := 3) (v := .slice ra1 j j) rfl (by kernel_rfl) (by kernel_rfl) (by kernel_rfl) (by decide) (by kernel_rfl) (fun _ _ _ h => h) (Or.inl ⟨by rfl, ?_⟩) hS ?_
       ·(intro w' hSw; obtain ⟨q1, q2⟩ := hSw; go_simp)
       go_frame
       refine wpAnyN_take (i := 4) (v := .slice (some ⟨b1, o1, none⟩) L c1) rfl (by kernel_rfl) (by kernel_rfl) (by kernel_rfl) (by decide) (by kernel_rfl) (fun _ _ _ h => h) (Or.inl ⟨by rfl, ?_⟩) hS ?_
       ·(intro w' hSw; obtain ⟨q1, q2⟩ := hSw; go_simp)
       go_frame
       refine wpAnyN_take (i := 5) (v := .int .i64 (k : Int)) rfl (by kernel_rfl) (by kernel_rfl) (by kernel_rfl) (by decide) (by kernel_rfl) (fun _ _ _ h => h) (Or.inl ⟨by rfl, ?_⟩) hS ?_
       ·(intro w' hSw; obtain ⟨q1, q2⟩ := hSw; go_simp)
       go_frame
       refine wpAnyN_take (i := 6) (v := .pointer (some ⟨b1, o1 + k * 2, none⟩)) rfl (by kernel_rfl) (by kernel_rfl) (by kernel_rfl) (by decide) (by kernel_rfl) (fun _ _ _ h => h) (Or.inl ⟨by rfl, ?_⟩) hS ?_
       ·(intro w' hSw; obtain ⟨q1, q2⟩ := hSw; go_simp)
       go_frame
       refine wpAnyN_take (i := 7) (v := .agg #[.string X, .string Y]) rfl (by kernel_rfl) (by kernel_rfl) (by kernel_rfl) (by decide) (by kernel_rfl) (fun _ _ _ h => h) (Or.inl ⟨by rfl, ?_⟩) hS ?_
       ·(intro w' hSw; obtain ⟨q1, q2⟩ := hSw; go_simp)
       go_frame
       refine wpAnyN_take (i := 10) (v := .slice ra3 (k - j) rc3) rfl (by kernel_rfl) (by kernel_rfl) (by kernel_rfl) (by decide) (by kernel_rfl) (fun _ _ _ h => h) (Or.inl ⟨by rfl, ?_⟩) hS ?_
       ·(intro w' hSw; obtain ⟨q1, q2⟩ := hSw; go_simp)
       go_frame
       refine wpAnyL_one (i := 8) (by kernel_rfl) rfl rfl ?_
       go_simp
       refine ⟨⟨x7, y7⟩, ?_⟩
       refine wpAnyL_one (i := 9) (by kernel_rfl) rfl rfl (oper_append _ _ _ rfl rfl rfl R4 ?_)
       refine ⟨⟨x8, y8⟩, ?_⟩
       go_frame
       refine wpAnyL_one (i := 11) (by kernel_rfl) rfl rfl (oper_append _ _ _ rfl rfl rfl R5 ?_)
       refine ⟨⟨kept_cell HZ8.out HXo.out, kept_cell HZ8.out HYo.out⟩, ?_⟩
       go_frame
       refine wpAnyL_one (i := 12) (by kernel_rfl) rfl rfl ?_
       go_simp
       refine ⟨⟨kept_cell HZ8.out HXo.out, kept_cell HZ8.out HYo.out⟩, ?_⟩
       refine wpAnyN_done (by kernel_rfl) ?_
       refine NoPanic.normal ?_
       clear hS
       go_wp2_with fail
       go_roundw
       case rel => exact ⟨k + 1, _, by omega, by go_num, HT2.out, by simp; omega, hm.out, HE8.out, HX8.out⟩
       case measure => simp [intOf]; omega
   ·have e : k = L := by omega
    subst e
    have hmk := hid (H2.out h0 h16 (fun i hi => HO.out i hi (by have := HL.out; omega)))
    have hfin := hid (show insAll [] l = some acc by have := HI.out; rw [List.take_of_length_le (by have := HL.out; omega)] at this; exact this)
    go_wp2
    go_ret2
    refine ⟨⟨_, _, rfl, ?_⟩, HK.out⟩
    rw [hmk.out, hfin.out]
    exact ⟨rfl, HA.out⟩
 ·have hmk := hid (H0.out hr)
  go_enter Tryz.func32, Tryz.ntmps32
  go_wp2
  all_goals try (exfalso; simp_all; omega)
  all_goals go_ret2
  all_goals refine ⟨⟨_, _, rfl, ?_⟩, Only.refl _ _⟩
  all_goals rw [hmk.out]
  all_goals exact ⟨rfl, rfl⟩
end Go.Proofs.YtllfanlhgnkcfaaGreatDoor.N
