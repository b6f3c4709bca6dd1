/-
  Opick, Orset.
-/
import Derived.Test.YteknpfldemgmnaaGreatQ16
import Derived.Shelf.Abstract
import Derived.Handy
import Derived.WalkMore

/-
  pick: what a set takes of two lists.
-/
namespace Go.Proofs.YteknpfldemgmnaaGreat.Po
open Go.RowKit Go.Proofs.Lys
set_option linter.unusedVariables false

def slen : Value → Nat
  | .slice _ n _ => n
  | _ => 0
theorem ISrc.head {w : World} {v : Value} {x : Int} {t : List Int} (h : ISrc w v (x :: t)) :
    ∃ b o c, v = .slice (some ⟨b, o, none⟩) (t.length + 1) c ∧ w.cell? ⟨b, o, none⟩ = some (.int .i64 x) ∧ ∃ a' c', (∀ W, (Instr.sliceAt 45 v (some (.int .i64 1)) none none).run Tryz.prog W = .ok (.slice a' t.length c') W) ∧ ISrc w (.slice a' t.length c') t := by
  obtain ⟨a', c', hr, ht⟩ := h.tail (lo := 1) (by simp)
  rcases h.1.shape with ⟨hn, _⟩ | ⟨hp, b, o, c, rfl, hc⟩
  · cases hn
  · refine ⟨b, o, c, by simp, by simpa using hc 0 _ rfl, a', c', fun W => ?_, by simpa using ht⟩
    simpa using hr W
theorem ISrc.nil {w : World} {v : Value} (h : ISrc w v []) : ∃ a c, v = .slice a 0 c := by
  obtain ⟨_, a, c, rfl, _⟩ := h
  exact ⟨a, c, rfl⟩
theorem ISrc.len {w : World} {v : Value} {l : List Int} (h : ISrc w v l) : ∃ a c, v = .slice a l.length c := by
  obtain ⟨_, a, c, rfl, _⟩ := h
  exact ⟨a, c, rfl⟩

theorem cell_kept {w w' : World} {a : Addr} {v : Value} (k : Kept w w') (h : w.cell? a = some v) : w'.cell? a = some v := by
  rw [World.cell?_of_block (w := w) (w' := w') (k.block _ (World.block_lt_of_cell? w _ h) (fun f => f))]
  exact h

/-- What the function F tells of two Booleans. -/
def Tells (F : Nat) (f : Bool → Bool → Bool) : Prop :=
  (∀ args w, (callFunc F args).run Tryz.prog w = .ok (.enter F args) w) ∧ ∀ (W : World) (x y : Bool), Calls Tryz.prog F #[.bool x, .bool y] W fun e w' => e = .returned (.bool (f x y)) ∧ w' = W

theorem tells_and : Tells 70 (fW 0) := by
  refine ⟨enters_of Tryz.func70 (by kernel_rfl) rfl, fun W x y => ?_⟩
  cases x <;> cases y <;>
  · go_enter Tryz.func70, Tryz.ntmps70
    go_wp2
    go_ret
    exact ⟨rfl, rfl⟩
theorem tells_sub : Tells 106 (fW 2) := by
  refine ⟨enters_of Tryz.func106 (by kernel_rfl) rfl, fun W x y => ?_⟩
  cases x <;> cases y <;>
  · go_enter Tryz.func106, Tryz.ntmps106
    go_wp2
    go_ret
    exact ⟨rfl, rfl⟩

set_option maxRecDepth 100000 in
set_option maxHeartbeats 3200000 in
theorem pick_any (w : World) (va vb : Value) (la lb : List Int) (F : Nat) (f : Bool → Bool → Bool) (hF : Tells F f) (ha : ISrc w va la) (hb : ISrc w vb lb) (hl : la.length ≤ 100000) (hl2 : lb.length ≤ 100000) (hu : upB (-1) la = true) (hv : upB (-1) lb = true) :
    Calls Tryz.prog 69 #[va, vb, .func (.func F) #[] #[]] w fun e w' => ∃ v, e = .returned v ∧ w'.ownsRow w.heap.size 3 1 v (pickL f la lb).length ((pickL f la lb).map (Value.int .i64)) ∧ Kept w w' := by
  have C1 := hid (check_any w va la ha.1 (by omega))
  have C2 := hid (check_any w vb lb hb.1 (by omega))
  rw [hu] at C1
  rw [hv] at C2
  have HA := hid ha
  have HB := hid hb
  have HLen := hid (pick_len f la lb)
  obtain ⟨R, hR⟩ : ∃ R, pickL f la lb = R := ⟨_, rfl⟩
  rw [hR] at HLen ⊢
  have HR := hid hR
  obtain ⟨a1, c1, rfl⟩ := ha.len
  obtain ⟨a2, c2, rfl⟩ := hb.len
  have eg := hF.1
  have HT := hid hF.2
  have HL := hid hl
  have HL2 := hid hl2
  clear hR hF hu hv ha hb hl hl2
  go_enter Tryz.func69, Tryz.ntmps69
  go_wp2_with fail
  go_step3
  go_wp2_with fail
  refine C1.out.mono ?_
  rintro e w1 ⟨rfl, hw⟩
  replace hw := hw.symm
  subst hw
  go_wp2_with fail
  refine C2.out.mono ?_
  rintro e w1 ⟨rfl, hw⟩
  replace hw := hw.symm
  subst hw
  go_wp2_with fail
  go_step3
  go_wp2_with fail
  go_loopw [0, 1, 7, 8, 9, 10] (fun p q s _ _ _ wr => ∃ xs ys out : List Int, ISrc w p xs ∧ ISrc w q ys ∧ wr.ownsRow w.heap.size 3 1 s out.length (out.map (Value.int .i64)) ∧ Kept w wr ∧ out ++ pickL f xs ys = R) (fun p q _ _ _ _ _ => slen p + slen q)
  case atStart => exact ⟨la, lb, [], HA.out, HB.out, World.ownsRow_nil _ _ _ _, Only.refl _ _, HR.out⟩
  case round =>
    obtain ⟨xs, ys, out, hx, hy, ho, kr, hP⟩ := hrel
    have HLo : Hid (out.length ≤ 200000) := by
      have h1 := congrArg List.length hP
      rw [List.length_append] at h1
      have := HLen.out
      have := HL.out
      have := HL2.out
      show _ ≤ _
      omega
    have HO := hid ho
    have HK := hid kr
    cases xs with
    | nil =>
      obtain ⟨a3, c3, rfl⟩ := hx.nil
      cases ys with
      | nil =>
        obtain ⟨a4, c4, rfl⟩ := hy.nil
        rw [pick_nn, List.append_nil] at hP
        subst hP
        clear hx hy ho kr
        go_wp2_with fail
        rw [Exit.noGoto_ret]
        go_ret
        exact ⟨_, rfl, HO.out, HK.out⟩
      | cons b bs =>
        have HX := hid hx
        obtain ⟨b4, o4, c4, rfl, y4, a4', d4', hr4, ht4⟩ := hy.head
        have HT4 := hid ht4
        have y4 := cell_kept kr y4
        obtain ⟨N4, hN4⟩ : ∃ N, bs.length = N := ⟨_, rfl⟩
        rw [hN4] at hr4 HT4 ⊢
        clear hy ht4 hN4
        clear hx ho kr
        rw [pick_nb] at hP
        have HTk := hid (fun W => HT.out W false true)
        cases hfv : f false true with
        | false =>
          rw [hfv] at hP HTk
          have HP := hid hP
          clear hP hfv
          go_wp2_with fail
          go_quiet (fail)
          have K0 : Kept wr (wr.drewN nq) := kept_drewN (Only.refl _ _) nq
          generalize wr.drewN nq = wq0 at K0 ⊢
          clear nq
          have y4 := cell_kept K0 y4
          go_wp2_with fail
          have KQ := hid K0
          have HOq := hid (own_only HO.out K0 (fun _ _ f => f))
          clear K0
          refine (HTk.out _).mono ?_
          rintro e wc ⟨rfl, hq⟩
          replace hq := hq.symm
          subst hq
          go_wp2_with fail
          go_roundw
          case rel => exact ⟨[], bs, out, HX.out, HT4.out, HOq.out, HK.out.trans KQ.out (fun _ _ f => f), HP.out⟩
          case measure => simp [slen]; try omega
        | true =>
          rw [hfv] at hP HTk
          have HP := hid hP
          clear hP hfv
          go_wp2_with fail
          go_quiet (fail)
          have K0 : Kept wr (wr.drewN nq) := kept_drewN (Only.refl _ _) nq
          generalize wr.drewN nq = wq0 at K0 ⊢
          clear nq
          have y4 := cell_kept K0 y4
          go_wp2_with fail
          have KQ := hid K0
          have HOq := hid (own_only HO.out K0 (fun _ _ f => f))
          clear K0
          refine (HTk.out _).mono ?_
          rintro e wc ⟨rfl, hq⟩
          replace hq := hq.symm
          subst hq
          obtain ⟨g, cap, w1, Hr, hown1, hon1⟩ := own_num HOq.out (Nat.le_trans HK.out.size KQ.out.size) (Nat.le_trans HLo.out (by decide)) b
          have HE := hid hown1
          have HF := hid hon1
          clear hown1 hon1
          go_wp2_with (at_builtin; refine wpList_append_run rfl _ _ _ rfl rfl rfl Hr ?_)
          go_roundw
          case rel =>
            have hk : Kept w w1 := (HK.out.trans KQ.out (fun _ _ f => f)).trans HF.out (fun q hq e => absurd hq (by have := (HOq.out.lt q e).1; omega))
            exact ⟨[], bs, out ++ [b], HX.out, HT4.out, HE.out, hk, by rw [List.append_assoc]; exact HP.out⟩
          case measure => simp [slen]; try omega
    | cons a az =>
      cases ys with
      | nil =>
        obtain ⟨a4, c4, rfl⟩ := hy.nil
        have HY := hid hy
        obtain ⟨b3, o3, c3, rfl, y3, a3', d3', hr3, ht3⟩ := hx.head
        have HT3 := hid ht3
        have y3 := cell_kept kr y3
        obtain ⟨N3, hN3⟩ : ∃ N, az.length = N := ⟨_, rfl⟩
        rw [hN3] at hr3 HT3 ⊢
        clear hx ht3 hN3
        clear hy ho kr
        rw [pick_an] at hP
        have HTk := hid (fun W => HT.out W true false)
        cases hfv : f true false with
        | false =>
          rw [hfv] at hP HTk
          have HP := hid hP
          clear hP hfv
          go_wp2_with fail
          go_quiet (fail)
          have K0 : Kept wr (wr.drewN nq) := kept_drewN (Only.refl _ _) nq
          generalize wr.drewN nq = wq0 at K0 ⊢
          clear nq
          have y3 := cell_kept K0 y3
          go_wp2_with fail
          have KQ := hid K0
          have HOq := hid (own_only HO.out K0 (fun _ _ f => f))
          clear K0
          refine (HTk.out _).mono ?_
          rintro e wc ⟨rfl, hq⟩
          replace hq := hq.symm
          subst hq
          go_wp2_with fail
          go_roundw
          case rel => exact ⟨az, [], out, HT3.out, HY.out, HOq.out, HK.out.trans KQ.out (fun _ _ f => f), HP.out⟩
          case measure => simp [slen]; try omega
        | true =>
          rw [hfv] at hP HTk
          have HP := hid hP
          clear hP hfv
          go_wp2_with fail
          go_quiet (fail)
          have K0 : Kept wr (wr.drewN nq) := kept_drewN (Only.refl _ _) nq
          generalize wr.drewN nq = wq0 at K0 ⊢
          clear nq
          have y3 := cell_kept K0 y3
          go_wp2_with fail
          have KQ := hid K0
          have HOq := hid (own_only HO.out K0 (fun _ _ f => f))
          clear K0
          refine (HTk.out _).mono ?_
          rintro e wc ⟨rfl, hq⟩
          replace hq := hq.symm
          subst hq
          obtain ⟨g, cap, w1, Hr, hown1, hon1⟩ := own_num HOq.out (Nat.le_trans HK.out.size KQ.out.size) (Nat.le_trans HLo.out (by decide)) a
          have HE := hid hown1
          have HF := hid hon1
          clear hown1 hon1
          go_wp2_with (at_builtin; refine wpList_append_run rfl _ _ _ rfl rfl rfl Hr ?_)
          go_roundw
          case rel =>
            have hk : Kept w w1 := (HK.out.trans KQ.out (fun _ _ f => f)).trans HF.out (fun q hq e => absurd hq (by have := (HOq.out.lt q e).1; omega))
            exact ⟨az, [], out ++ [a], HT3.out, HY.out, HE.out, hk, by rw [List.append_assoc]; exact HP.out⟩
          case measure => simp [slen]; try omega
      | cons b bs =>
        have HX := hid hx
        have HY := hid hy
        obtain ⟨b3, o3, c3, rfl, y3, a3', d3', hr3, ht3⟩ := hx.head
        have HT3 := hid ht3
        have y3 := cell_kept kr y3
        obtain ⟨N3, hN3⟩ : ∃ N, az.length = N := ⟨_, rfl⟩
        rw [hN3] at hr3 HT3 HX ⊢
        clear hx ht3 hN3
        obtain ⟨b4, o4, c4, rfl, y4, a4', d4', hr4, ht4⟩ := hy.head
        have HT4 := hid ht4
        have y4 := cell_kept kr y4
        obtain ⟨N4, hN4⟩ : ∃ N, bs.length = N := ⟨_, rfl⟩
        rw [hN4] at hr4 HT4 HY ⊢
        clear hy ht4 hN4
        clear ho kr
        rcases Int.lt_trichotomy a b with h | h | h
        · have d1 : decide (a ≤ b) = true := by simp; omega
          have d2 : decide (b ≤ a) = false := by simp; omega
          rw [pick_lt h] at hP
          have HTk := hid (fun W => HT.out W true false)
          cases hfv : f true false with
          | false =>
            rw [hfv] at hP HTk
            have HP := hid hP
            clear hP hfv
            go_wp2_with fail
            go_quiet (fail)
            have K0 : Kept wr (wr.drewN nq) := kept_drewN (Only.refl _ _) nq
            generalize wr.drewN nq = wq0 at K0 ⊢
            clear nq
            have y3 := cell_kept K0 y3
            have y4 := cell_kept K0 y4
            go_wp2_with fail
            go_quiet (fail)
            have K1 : Kept wq0 (wq0.drewN nq) := kept_drewN (Only.refl _ _) nq
            generalize wq0.drewN nq = wq1 at K1 ⊢
            clear nq
            have y3 := cell_kept K1 y3
            have y4 := cell_kept K1 y4
            go_wp2_with fail
            have KQ := hid (K0.trans K1 (fun _ _ f => f))
            have HOq := hid (own_only HO.out (K0.trans K1 (fun _ _ f => f)) (fun _ _ f => f))
            clear K0 K1
            refine (HTk.out _).mono ?_
            rintro e wc ⟨rfl, hq⟩
            replace hq := hq.symm
            subst hq
            go_wp2_with fail
            go_roundw
            case rel => exact ⟨az, b :: bs, out, HT3.out, HY.out, HOq.out, HK.out.trans KQ.out (fun _ _ f => f), HP.out⟩
            case measure => simp [slen]; try omega
          | true =>
            rw [hfv] at hP HTk
            have HP := hid hP
            clear hP hfv
            go_wp2_with fail
            go_quiet (fail)
            have K0 : Kept wr (wr.drewN nq) := kept_drewN (Only.refl _ _) nq
            generalize wr.drewN nq = wq0 at K0 ⊢
            clear nq
            have y3 := cell_kept K0 y3
            have y4 := cell_kept K0 y4
            go_wp2_with fail
            go_quiet (fail)
            have K1 : Kept wq0 (wq0.drewN nq) := kept_drewN (Only.refl _ _) nq
            generalize wq0.drewN nq = wq1 at K1 ⊢
            clear nq
            have y3 := cell_kept K1 y3
            have y4 := cell_kept K1 y4
            go_wp2_with fail
            have KQ := hid (K0.trans K1 (fun _ _ f => f))
            have HOq := hid (own_only HO.out (K0.trans K1 (fun _ _ f => f)) (fun _ _ f => f))
            clear K0 K1
            refine (HTk.out _).mono ?_
            rintro e wc ⟨rfl, hq⟩
            replace hq := hq.symm
            subst hq
            obtain ⟨g, cap, w1, Hr, hown1, hon1⟩ := own_num HOq.out (Nat.le_trans HK.out.size KQ.out.size) (Nat.le_trans HLo.out (by decide)) a
            have HE := hid hown1
            have HF := hid hon1
            clear hown1 hon1
            go_wp2_with (at_builtin; refine wpList_append_run rfl _ _ _ rfl rfl rfl Hr ?_)
            go_roundw
            case rel =>
              have hk : Kept w w1 := (HK.out.trans KQ.out (fun _ _ f => f)).trans HF.out (fun q hq e => absurd hq (by have := (HOq.out.lt q e).1; omega))
              exact ⟨az, b :: bs, out ++ [a], HT3.out, HY.out, HE.out, hk, by rw [List.append_assoc]; exact HP.out⟩
            case measure => simp [slen]; try omega
        · subst h
          have d1 : decide (a ≤ a) = true := by simp
          rw [pick_eq] at hP
          have HTk := hid (fun W => HT.out W true true)
          cases hfv : f true true with
          | false =>
            rw [hfv] at hP HTk
            have HP := hid hP
            clear hP hfv
            go_wp2_with fail
            go_quiet (fail)
            have K0 : Kept wr (wr.drewN nq) := kept_drewN (Only.refl _ _) nq
            generalize wr.drewN nq = wq0 at K0 ⊢
            clear nq
            have y3 := cell_kept K0 y3
            have y4 := cell_kept K0 y4
            go_wp2_with fail
            go_quiet (fail)
            have K1 : Kept wq0 (wq0.drewN nq) := kept_drewN (Only.refl _ _) nq
            generalize wq0.drewN nq = wq1 at K1 ⊢
            clear nq
            have y3 := cell_kept K1 y3
            have y4 := cell_kept K1 y4
            go_wp2_with fail
            go_quiet (fail)
            have K2 : Kept wq1 (wq1.drewN nq) := kept_drewN (Only.refl _ _) nq
            generalize wq1.drewN nq = wq2 at K2 ⊢
            clear nq
            have y3 := cell_kept K2 y3
            have y4 := cell_kept K2 y4
            go_wp2_with fail
            have KQ := hid ((K0.trans K1 (fun _ _ f => f)).trans K2 (fun _ _ f => f))
            have HOq := hid (own_only HO.out ((K0.trans K1 (fun _ _ f => f)).trans K2 (fun _ _ f => f)) (fun _ _ f => f))
            clear K0 K1 K2
            refine (HTk.out _).mono ?_
            rintro e wc ⟨rfl, hq⟩
            replace hq := hq.symm
            subst hq
            go_wp2_with fail
            go_roundw
            case rel => exact ⟨az, bs, out, HT3.out, HT4.out, HOq.out, HK.out.trans KQ.out (fun _ _ f => f), HP.out⟩
            case measure => simp [slen]; try omega
          | true =>
            rw [hfv] at hP HTk
            have HP := hid hP
            clear hP hfv
            go_wp2_with fail
            go_quiet (fail)
            have K0 : Kept wr (wr.drewN nq) := kept_drewN (Only.refl _ _) nq
            generalize wr.drewN nq = wq0 at K0 ⊢
            clear nq
            have y3 := cell_kept K0 y3
            have y4 := cell_kept K0 y4
            go_wp2_with fail
            go_quiet (fail)
            have K1 : Kept wq0 (wq0.drewN nq) := kept_drewN (Only.refl _ _) nq
            generalize wq0.drewN nq = wq1 at K1 ⊢
            clear nq
            have y3 := cell_kept K1 y3
            have y4 := cell_kept K1 y4
            go_wp2_with fail
            go_quiet (fail)
            have K2 : Kept wq1 (wq1.drewN nq) := kept_drewN (Only.refl _ _) nq
            generalize wq1.drewN nq = wq2 at K2 ⊢
            clear nq
            have y3 := cell_kept K2 y3
            have y4 := cell_kept K2 y4
            go_wp2_with fail
            have KQ := hid ((K0.trans K1 (fun _ _ f => f)).trans K2 (fun _ _ f => f))
            have HOq := hid (own_only HO.out ((K0.trans K1 (fun _ _ f => f)).trans K2 (fun _ _ f => f)) (fun _ _ f => f))
            clear K0 K1 K2
            refine (HTk.out _).mono ?_
            rintro e wc ⟨rfl, hq⟩
            replace hq := hq.symm
            subst hq
            obtain ⟨g, cap, w1, Hr, hown1, hon1⟩ := own_num HOq.out (Nat.le_trans HK.out.size KQ.out.size) (Nat.le_trans HLo.out (by decide)) a
            have HE := hid hown1
            have HF := hid hon1
            clear hown1 hon1
            go_wp2_with (at_builtin; refine wpList_append_run rfl _ _ _ rfl rfl rfl Hr ?_)
            go_roundw
            case rel =>
              have hk : Kept w w1 := (HK.out.trans KQ.out (fun _ _ f => f)).trans HF.out (fun q hq e => absurd hq (by have := (HOq.out.lt q e).1; omega))
              exact ⟨az, bs, out ++ [a], HT3.out, HT4.out, HE.out, hk, by rw [List.append_assoc]; exact HP.out⟩
            case measure => simp [slen]; try omega
        · have d1 : decide (a ≤ b) = false := by simp; omega
          have d2 : decide (b ≤ a) = true := by simp; omega
          rw [pick_gt h] at hP
          have HTk := hid (fun W => HT.out W false true)
          cases hfv : f false true with
          | false =>
            rw [hfv] at hP HTk
            have HP := hid hP
            clear hP hfv
            go_wp2_with fail
            go_quiet (fail)
            have K0 : Kept wr (wr.drewN nq) := kept_drewN (Only.refl _ _) nq
            generalize wr.drewN nq = wq0 at K0 ⊢
            clear nq
            have y3 := cell_kept K0 y3
            have y4 := cell_kept K0 y4
            go_wp2_with fail
            go_quiet (fail)
            have K1 : Kept wq0 (wq0.drewN nq) := kept_drewN (Only.refl _ _) nq
            generalize wq0.drewN nq = wq1 at K1 ⊢
            clear nq
            have y3 := cell_kept K1 y3
            have y4 := cell_kept K1 y4
            go_wp2_with fail
            have KQ := hid (K0.trans K1 (fun _ _ f => f))
            have HOq := hid (own_only HO.out (K0.trans K1 (fun _ _ f => f)) (fun _ _ f => f))
            clear K0 K1
            refine (HTk.out _).mono ?_
            rintro e wc ⟨rfl, hq⟩
            replace hq := hq.symm
            subst hq
            go_wp2_with fail
            go_roundw
            case rel => exact ⟨a :: az, bs, out, HX.out, HT4.out, HOq.out, HK.out.trans KQ.out (fun _ _ f => f), HP.out⟩
            case measure => simp [slen]; try omega
          | true =>
            rw [hfv] at hP HTk
            have HP := hid hP
            clear hP hfv
            go_wp2_with fail
            go_quiet (fail)
            have K0 : Kept wr (wr.drewN nq) := kept_drewN (Only.refl _ _) nq
            generalize wr.drewN nq = wq0 at K0 ⊢
            clear nq
            have y3 := cell_kept K0 y3
            have y4 := cell_kept K0 y4
            go_wp2_with fail
            go_quiet (fail)
            have K1 : Kept wq0 (wq0.drewN nq) := kept_drewN (Only.refl _ _) nq
            generalize wq0.drewN nq = wq1 at K1 ⊢
            clear nq
            have y3 := cell_kept K1 y3
            have y4 := cell_kept K1 y4
            go_wp2_with fail
            have KQ := hid (K0.trans K1 (fun _ _ f => f))
            have HOq := hid (own_only HO.out (K0.trans K1 (fun _ _ f => f)) (fun _ _ f => f))
            clear K0 K1
            refine (HTk.out _).mono ?_
            rintro e wc ⟨rfl, hq⟩
            replace hq := hq.symm
            subst hq
            obtain ⟨g, cap, w1, Hr, hown1, hon1⟩ := own_num HOq.out (Nat.le_trans HK.out.size KQ.out.size) (Nat.le_trans HLo.out (by decide)) b
            have HE := hid hown1
            have HF := hid hon1
            clear hown1 hon1
            go_wp2_with (at_builtin; refine wpList_append_run rfl _ _ _ rfl rfl rfl Hr ?_)
            go_roundw
            case rel =>
              have hk : Kept w w1 := (HK.out.trans KQ.out (fun _ _ f => f)).trans HF.out (fun q hq e => absurd hq (by have := (HOq.out.lt q e).1; omega))
              exact ⟨a :: az, bs, out ++ [b], HX.out, HT4.out, HE.out, hk, by rw [List.append_assoc]; exact HP.out⟩
            case measure => simp [slen]; try omega

set_option maxRecDepth 100000 in
theorem pick_none (w : World) (va vb : Value) (la lb : List Int) (F : Nat) (ha : ISrc w va la) (hb : ISrc w vb lb) (hl : la.length ≤ 100000) (hl2 : lb.length ≤ 100000) (hu : upB (-1) la = false ∨ upB (-1) lb = false) :
    Calls Tryz.prog 69 #[va, vb, .func (.func F) #[] #[]] w fun e w' => e = .returned (.slice none 0 0) ∧ w' = w := by
  have C1 := hid (check_any w va la ha.1 (by omega))
  have C2 := hid (check_any w vb lb hb.1 (by omega))
  have hu2 : upB (-1) la = false ∨ (upB (-1) la = true ∧ upB (-1) lb = false) := by
    cases h : upB (-1) la with
    | false => exact .inl rfl
    | true =>
      rcases hu with h2 | h2
      · rw [h] at h2; cases h2
      · exact .inr ⟨rfl, h2⟩
  obtain ⟨a1, c1, rfl⟩ := ha.len
  obtain ⟨a2, c2, rfl⟩ := hb.len
  clear ha hb
  rcases hu2 with h1 | ⟨h1, h2⟩
  · rw [h1] at C1
    clear hu h1
    go_enter Tryz.func69, Tryz.ntmps69
    go_wp2_with fail
    go_step3
    go_wp2_with fail
    refine C1.out.mono ?_
    rintro e w1 ⟨rfl, hw⟩
    replace hw := hw.symm
    subst hw
    go_wp2_with fail
    rw [Exit.noGoto_ret]
    go_ret
    exact ⟨rfl, rfl⟩
  · rw [h1] at C1
    rw [h2] at C2
    clear hu h1 h2
    go_enter Tryz.func69, Tryz.ntmps69
    go_wp2_with fail
    go_step3
    go_wp2_with fail
    refine C1.out.mono ?_
    rintro e w1 ⟨rfl, hw⟩
    replace hw := hw.symm
    subst hw
    go_wp2_with fail
    refine C2.out.mono ?_
    rintro e w1 ⟨rfl, hw⟩
    replace hw := hw.symm
    subst hw
    go_wp2_with fail
    rw [Exit.noGoto_ret]
    go_ret
    exact ⟨rfl, rfl⟩

/-- What And, Or and Sub answer: a list of its own. -/
def SetPost (w : World) (n : Nat) (la lb : List Int) (e : Ending) (w' : World) : Prop :=
  ∃ v, e = .returned v ∧ w'.ownsRow w.heap.size 3 1 v (setL n la lb).length ((setL n la lb).map (Value.int .i64)) ∧ Kept w w'
theorem pick_set (w : World) (va vb : Value) (la lb : List Int) (F n : Nat) (hF : Tells F (fW n)) (ha : ISrc w va la) (hb : ISrc w vb lb) (hl : la.length ≤ 100000) (hl2 : lb.length ≤ 100000) :
    Calls Tryz.prog 69 #[va, vb, .func (.func F) #[] #[]] w (SetPost w n la lb) := by
  by_cases h : upB (-1) la = true ∧ upB (-1) lb = true
  · refine (pick_any w va vb la lb F _ hF ha hb hl hl2 h.1 h.2).mono ?_
    rintro e w' ⟨v, rfl, ho, k⟩
    refine ⟨v, rfl, ?_, k⟩
    rw [set_yes h.1 h.2]
    exact ho
  · have h2 : upB (-1) la = false ∨ upB (-1) lb = false := by
      cases h1 : upB (-1) la with
      | false => exact .inl rfl
      | true =>
        cases h3 : upB (-1) lb with
        | false => exact .inr rfl
        | true => exact absurd ⟨h1, h3⟩ h
    refine (pick_none w va vb la lb F ha hb hl hl2 h2).mono ?_
    rintro e w' ⟨rfl, rfl⟩
    refine ⟨_, rfl, ?_, Only.refl _ _⟩
    rw [set_no h2]
    exact World.ownsRow_nil _ _ _ _
theorem and_any (w : World) (va vb : Value) (la lb : List Int) (ha : ISrc w va la) (hb : ISrc w vb lb) (hl : la.length ≤ 100000) (hl2 : lb.length ≤ 100000) :
    Calls Tryz.prog 44 #[va, vb] w (SetPost w 0 la lb) := by
  have hp := pick_set w va vb la lb _ _ tells_and ha hb hl hl2
  go_enter Tryz.func44, Tryz.ntmps44
  go_wp2_with fail
  refine hp.mono ?_
  rintro e w1 ⟨v, rfl, ho, k⟩
  go_wp2_with fail
  go_ret
  exact ⟨_, rfl, ho, k⟩
theorem sub_any (w : World) (va vb : Value) (la lb : List Int) (ha : ISrc w va la) (hb : ISrc w vb lb) (hl : la.length ≤ 100000) (hl2 : lb.length ≤ 100000) :
    Calls Tryz.prog 88 #[va, vb] w (SetPost w 2 la lb) := by
  have hp := pick_set w va vb la lb _ _ tells_sub ha hb hl hl2
  go_enter Tryz.func88, Tryz.ntmps88
  go_wp2_with fail
  refine hp.mono ?_
  rintro e w1 ⟨v, rfl, ho, k⟩
  go_wp2_with fail
  go_ret
  exact ⟨_, rfl, ho, k⟩
end Go.Proofs.YteknpfldemgmnaaGreat.Po

/-
  The document's own Set.
-/
namespace Go.Proofs.YteknpfldemgmnaaGreat.Po
open Go.RowKit Go.Proofs.Lys
set_option linter.unusedVariables false

theorem src_at {w : World} {av : Option Addr} {L c : Nat} {l : List Int} (h : SrcOf w (.slice av L c) (l.map (Value.int .i64))) (hL : l.length = L) (i : Nat) (hi : i < L) :
    ∃ b o, av = some ⟨b, o, none⟩ ∧ w.cell? ⟨b, o + i, none⟩ = some (.int .i64 (l[i]'(by omega))) := by
  rcases h.shape with ⟨hn, _⟩ | ⟨_, b, o, c', hv, hc⟩
  · have : l = [] := List.map_eq_nil_iff.1 hn
    subst this
    simp at hL
    omega
  · simp only [Value.slice.injEq] at hv
    exact ⟨b, o, hv.1, hc i _ (by rw [List.getElem?_map, List.getElem?_eq_getElem (by omega)]; rfl)⟩

end Go.Proofs.YteknpfldemgmnaaGreat.Po
