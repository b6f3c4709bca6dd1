/-
  The law ManifestGrows.
-/
import Derived.Test.YtmpkafmkkkpdeaaJgrow
import Derived.Test.YtmpkafmkkkpdeaaLturns17
namespace Go.Proofs.Ytmpkafmkkkpdeaa.J
open Go.RowKit Go.Proofs.Lys
set_option linter.unusedVariables false
set_option linter.unusedSimpArgs false

/-- The law's manifest. -/
def GrowW (w : World) (mb : Nat) (l : List Rf) (N : Int) (w' : World) : Prop :=
  ∃ a c, Blk w' mb [.slice a l.length c, .int .i64 N, .int .i64 1, .int .i64 0] 24 ∧ RfAt w' 0 (.slice a l.length c) l ∧ Kept w w'
def lenAt (mb : Nat) (w' : World) : Nat := match w'.cell? ⟨mb, 0, none⟩ with | some (.slice _ n _) => n | _ => 0
theorem lenAt_of {mb : Nat} {w' : World} {a : Option Addr} {n c : Nat} (h : w'.cell? ⟨mb, 0, none⟩ = some (.slice a n c)) : lenAt mb w' = n := by unfold lenAt; rw [h]
theorem set4_man {w w' : World} {mb : Nat} {v0 v1 v2 v3 : Value} {a : Option Addr} {n c : Nat} {l : List Rf} {N : Int} {B : Nat} (hB : Blk w' mb [v0, v1, v2, v3] 24) (hn : l.length = n) (hR : RfAt w' B (.slice a n c) l) (hk : Kept w w') (hm : w.heap.size ≤ mb) :
    GrowW w mb l N ((((w'.setCell ⟨mb, 0, none⟩ (.slice a n c)).setCell ⟨mb, 1, none⟩ (.int .i64 N)).setCell ⟨mb, 2, none⟩ (.int .i64 1)).setCell ⟨mb, 3, none⟩ (.int .i64 0)) := by
  subst hn
  refine ⟨a, c, (((hB.set 0 _).set 1 _).set 2 _).set 3 _, ?_, set4 _ _ _ _ _ _ hk hm⟩
  refine ownN_base (ownN_block hR (fun q hq => ?_)) (Nat.zero_le _)
  have hne : ∀ p : Addr, p.block = mb → q ≠ p.block := fun p hp => by rw [hp]; exact Typed.ne (ownN_typed hR hq) hB.typed (by decide)
  rw [Below.heap_setCell _ _ _ q (hne _ rfl), Below.heap_setCell _ _ _ q (hne _ rfl), Below.heap_setCell _ _ _ q (hne _ rfl), Below.heap_setCell _ _ _ q (hne _ rfl)]

theorem GrowW.keep {w : World} {mb : Nat} {l : List Rf} {N : Int} {w' w'' : World} (h : GrowW w mb l N w') (k : Kept w' w'') : GrowW w mb l N w'' := by
  obtain ⟨a, c, hB, hR, hk⟩ := h
  exact ⟨a, c, Only.blk k hB (fun f => f), ownN_stay hR k, hk.trans k (fun _ _ f => f)⟩
theorem add_any2 {W : World} {a : Option Addr} {c L : Nat} {l : List Rf} {N lv f t : Int} {q : Man × Int × Int} (hL : l.length = L) (h : RfAt W 0 (.slice a L c) l) (hq : addQ ⟨l, N, 1, 0⟩ lv f t = q) :
    Calls Try.prog 7 #[.agg #[.slice a L c, .int .i64 N, .int .i64 1, .int .i64 0], .int .i64 lv, .int .i64 f, .int .i64 t] W (TurnP W q) := by
  subst hL hq
  exact add_any W a c ⟨l, N, 1, 0⟩ lv f t h.src
theorem swap_any2 {W : World} {a : Option Addr} {c L : Nat} {l : List Rf} {N lv f t : Int} {q : Man × Int × Int} {v : Value} {ids : List Int} (hL : l.length = L) (h : RfAt W 0 (.slice a L c) l) (hi : SrcOf W v (ids.map (Value.int .i64))) (hm : ids.length ≤ 100000) (hq : swapQ ⟨l, N, 1, 0⟩ ids lv f t = q) :
    Calls Try.prog 9 #[.agg #[.slice a L c, .int .i64 N, .int .i64 1, .int .i64 0], v, .int .i64 lv, .int .i64 f, .int .i64 t] W (TurnP W q) := by
  subst hL hq
  exact swap_any W a c ⟨l, N, 1, 0⟩ v ids lv f t h.src hi hm
theorem pick_any2 {W : World} {a : Option Addr} {c L : Nat} {l : List Rf} {N : Int} {q : List Int} (hL : l.length = L) (h : RfAt W 0 (.slice a L c) l) (hq : pickO ⟨l, N, 1, 0⟩ = q) :
    Calls Try.prog 15 #[.agg #[.slice a L c, .int .i64 N, .int .i64 1, .int .i64 0]] W (PickP W q) := by
  subst hL hq
  exact pick_any W a c ⟨l, N, 1, 0⟩ h.src

set_option maxRecDepth 100000 in
set_option maxHeartbeats 6400000 in
theorem grows_walk (w : World) (n : Int) : Calls Try.prog 5 #[.int .i64 n] w fun e w' => e = .returned (.bool true) ∧ Kept w w' := by
  have HA := hid (alive17_any w)
  by_cases h1 : n < 0
  · go_enter Try.func5, Try.ntmps5
    go_wp2_with fail
    refine HA.out.mono ?_
    rintro e w1 ⟨rfl, k1⟩
    have K1 := hid k1
    clear HA k1
    go_wp2
    go_ret
    exact ⟨rfl, K1.out⟩
  by_cases h2 : 300 < n
  · go_enter Try.func5, Try.ntmps5
    go_wp2_with fail
    refine HA.out.mono ?_
    rintro e w1 ⟨rfl, k1⟩
    have K1 := hid k1
    clear HA k1
    go_wp2
    go_ret
    exact ⟨rfl, K1.out⟩
  obtain ⟨T, rfl⟩ : ∃ T : Nat, n = (T : Int) := ⟨n.toNat, by omega⟩
  have hT : T ≤ 300 := by omega
  have g1 : decide ((T : Int) < 0) = false := by simp; try omega
  have g2 : decide ((300 : Int) < (T : Int)) = false := by simp; omega
  go_enter Try.func5, Try.ntmps5
  go_wp2_with fail
  refine HA.out.mono ?_
  rintro e w1 ⟨rfl, k1⟩
  have K1 := hid k1
  have HOF := hid (of_any w1 (.slice none 0 0) [] ⟨.inl ⟨rfl, rfl⟩, none, 0, rfl, Nat.le_refl _⟩ (by decide))
  unfold OfP at HOF
  simp only [List.length_nil] at HOF
  clear HA k1
  go_wp2_with fail
  refine HOF.out.mono ?_
  rintro e w2 ⟨a2, c2, rfl, h2', k2⟩
  have K2 := hid (K1.out.trans k2 (fun _ _ f => f))
  obtain ⟨w3, hw3⟩ : ∃ W, w2.alloc (manO a2 0 c2 1 1 0) = W := ⟨_, rfl⟩
  have HW3 := hid hw3
  obtain ⟨mb, hmb⟩ : ∃ mb, w2.heap.size = mb := ⟨_, rfl⟩
  have HMB := hid hmb
  have HMW : Hid (w.heap.size ≤ mb) := hid (by rw [← hmb]; exact K2.out.size)
  have HG : Hid (GrowW w mb [] 1 w3) := hid (by
    have kn : Kept w2 w3 := by rw [← hw3]; exact (Only.refl _ w2).alloc _
    refine ⟨a2, c2, ?_, ownN_base (ownN_stay h2' kn) (Nat.zero_le _), K2.out.trans kn (fun _ _ f => f)⟩
    rw [← hw3, ← hmb]
    exact Blk.new w2 [.slice a2 0 c2, .int .i64 1, .int .i64 1, .int .i64 0] 24)
  clear HOF h2' k2 hw3 hmb
  go_wp2
  rw [HW3.out, HMB.out]
  go_loopw [5] (fun s w' => ∃ (i : Nat) (l : List Rf) (N : Int), i ≤ T ∧ s = .int .i64 (i : Int) ∧ Hid (GrowI i l N) ∧ Hid (GrowW w mb l N w')) (fun s _ => T - (intOf s).toNat)
  case atStart => exact ⟨0, [], 1, Nat.zero_le _, rfl, hid grow_start, HG⟩
  case round =>
    clear HW3 HMB HG K1 K2
    obtain ⟨i, l, N, hi, rfl, HI, HW⟩ := hrel
    obtain ⟨a, c, hB, hR, hk⟩ := HW.out
    by_cases hlt : i < T
    · have hga := grow_add HI.out (by omega)
      obtain ⟨q, hq⟩ : ∃ q, addQ ⟨l, N, 1, 0⟩ 0 (i : Int) ((i : Int) + 1) = q := ⟨_, rfl⟩
      have HAD := hid (add_any wr a c ⟨l, N, 1, 0⟩ 0 (i : Int) ((i : Int) + 1) hR.src)
      rw [hga.1] at HAD
      have HM0 := hid hga.2
      unfold TurnP manV at HAD
      simp only at HAD
      obtain ⟨L, hL⟩ : ∃ L, l.length = L := ⟨_, rfl⟩
      obtain ⟨l1, hl1⟩ : ∃ l1, l ++ [(N, 0, (i : Int), (i : Int) + 1)] = l1 := ⟨_, rfl⟩
      obtain ⟨L1, hL1⟩ : ∃ L1, l1.length = L1 := ⟨_, rfl⟩
      have HL1 := hid hL1
      rw [hl1] at HAD HM0
      rw [hL] at HAD hB
      have b0 := hB.cell 0 rfl
      have b1 := hB.cell 1 rfl
      have b2 := hB.cell 2 rfl
      have b3 := hB.cell 3 rfl
      have hltb := hB.lt
      have HB := hid hB
      have HK := hid hk
      clear hga hq hL hl1 hL1 hB hR hk HW HI
      go_wp2_with fail
      refine HAD.out.mono ?_
      rintro e w4 ⟨v4, rfl, h4, k4⟩
      have h4' := h4
      unfold RfAt at h4'
      rw [HL1.out] at h4'
      obtain ⟨a4, c4, rfl⟩ := ownN_slice h4'
      have hB4 := Only.blk k4 HB.out (fun f => f)
      have b1 := hB4.cell 1 rfl
      have f0 := hB4.frozen 0
      have f1 := hB4.frozen 1
      have f2 := hB4.frozen 2
      have f3 := hB4.frozen 3
      have hlt4 := hB4.lt
      have HGS := hid ((set4_man (N := N + 1) hB4 HL1.out h4 (HK.out.trans k4 (fun _ _ f => f)) HMW.out).keep ((Only.refl _ _).alloc (manO a4 L1 c4 (N + 1) 1 0)))
      have b0 := hB4.cell 0 rfl
      have b2 := hB4.cell 2 rfl
      have b3 := hB4.cell 3 rfl
      clear HAD k4 h4 h4' hB4
      go_wp2_with (go_at_call 12; refine (num17_any _ _).mono ?_; rintro e w' ⟨rfl, hw⟩; replace hw := hw.symm; subst hw)
      generalize w4.heap.size = xb
      generalize (((((w4.setCell ⟨mb, 0, none⟩ (.slice a4 L1 c4)).setCell ⟨mb, 1, none⟩ (.int .i64 (N + 1))).setCell ⟨mb, 2, none⟩ (.int .i64 1)).setCell ⟨mb, 3, none⟩ (.int .i64 0)).alloc (manO a4 L1 c4 (N + 1) 1 0)) = w5 at HGS ⊢
      clear b0 b1 b2 b3 f0 f1 f2 f3 hltb hlt4
      go_loopw [10] (fun s w' => ∃ (ca : Nat) (l : List Rf) (N : Int), Hid (MidI (i + 1) ca l N) ∧ Hid (GrowW w mb l N w')) (fun _ w' => lenAt mb w')
      case atStart => exact ⟨0, l1, N + 1, HM0, HGS⟩
      case round =>
        clear HGS HM0 HL1 HB HK
        obtain ⟨ca, l, N, HI, HW⟩ := hrel
        obtain ⟨a, c, hB, hR, hk⟩ := HW.out
        obtain ⟨L, hL⟩ : ∃ L, l.length = L := ⟨_, rfl⟩
        have HL := hid hL
        rw [hL] at hB hR
        have b0 := hB.cell 0 rfl
        have b1 := hB.cell 1 rfl
        have b2 := hB.cell 2 rfl
        have b3 := hB.cell 3 rfl
        have hltb := hB.lt
        have HB := hid hB
        have HK := hid hk
        have HR := hid hR
        have HLEN := hid (lenAt_of b0)
        by_cases hc : cntK ca l < 4
        · have hme := mid_end HI.out (by omega) (by omega) hc
          have HP := hid (pick_any2 hL hR hme.1)
          have HI2 := hid hme.2
          clear hme hc hB hR hk hL
          go_wp2_with fail
          refine HP.out.mono ?_
          rintro e w6 ⟨v6, rfl, h6, k6⟩
          obtain ⟨a6, c6, rfl⟩ := own_slice h6
          have HG6 := hid (HW.out.keep k6)
          clear HP h6 k6 b0 b1 b2 b3 hltb HW
          go_wp2
          go_roundw
          case rel => exact ⟨i + 1, l, N, by omega, by go_num, HI2, HG6⟩
          case measure => simp [intOf]; omega
        · have hmp := mid_pick HI.out (by omega) (by omega) hc
          obtain ⟨P, hP⟩ : ∃ P, lvl (ca : Int) l = P := ⟨_, rfl⟩
          have HPE := hid hP
          have HP := hid (pick_any2 hL hR (hmp.1.trans hP))
          have HP4 : Hid (P.length = 4) := hid (by rw [← hP]; exact hmp.2.1)
          have HCA := hid hmp.2.2.1
          have HL84 : Hid (L ≤ 84) := hid (by rw [← hL]; exact hmp.2.2.2)
          have HC := hid hc
          clear hmp hc hB hR hk hL hP
          go_wp2_with fail
          refine HP.out.mono ?_
          rintro e w6 ⟨v6, rfl, h6, k6⟩
          rw [HP4.out] at h6
          obtain ⟨g6, c6, rfl⟩ := own_some h6 (by decide)
          have HG6 := hid (HW.out.keep k6)
          have HS6 := hid (own_src h6)
          have HB6 := hid (Only.blk k6 HB.out (fun f => f))
          have HR6 := hid (ownN_stay HR.out k6)
          have KR6 := hid k6
          clear HP h6 k6 b0 b1 b2 b3 hltb HW
          go_wp2
          have hL84 := HL84.out
          go_loopw [10, 11, 12, 13] (fun s10 s11 s12 s13 w' => ∃ (k : Nat) (lev fr to : Int), k ≤ L ∧ s10 = .int .i64 lev ∧ s11 = .int .i64 fr ∧ s12 = .int .i64 to ∧ s13 = .int .i64 (k : Int) ∧ Hid (ScanP (i + 1) ca l k lev fr to) ∧ Kept w6 w') (fun _ _ _ s _ => L - (intOf s).toNat)
          case atStart => exact ⟨0, 0, 1099511627776, 0, by omega, rfl, rfl, rfl, rfl, hid (scan_start _ _ _), Only.refl _ _⟩
          case round =>
            obtain ⟨k, lev, fr, to, hk, rfl, rfl, rfl, rfl, HSC, kr⟩ := hrel
            have KR := hid kr
            have hB := Only.blk kr HB6.out (fun f => f)
            have b0 := hB.cell 0 rfl
            have hltb := hB.lt
            by_cases hkl : k < L
            · have hkl2 : k < l.length := by have := HL.out; omega
              obtain ⟨x, hx⟩ : ∃ x, l[k] = x := ⟨_, rfl⟩
              have HX := hid hx
              obtain ⟨x1, x2, f, t⟩ := x
              have HSJ0 := hid (scanj_start (id := x1) HSC.out)
              clear hB kr hx HSC
              go_wp2
              go_loopw [10, 11, 12, 14] (fun s10 s11 s12 s14 w' => ∃ (j : Nat) (lev fr to : Int), j ≤ 4 ∧ s10 = .int .i64 lev ∧ s11 = .int .i64 fr ∧ s12 = .int .i64 to ∧ s14 = .int .i64 (j : Int) ∧ Hid (ScanJ (i + 1) ca l k j x1 lev fr to) ∧ Kept w6 w') (fun _ _ _ s _ => 4 - (intOf s).toNat)
              case atStart => exact ⟨0, lev, fr, to, by omega, rfl, rfl, rfl, rfl, HSJ0, KR.out⟩
              case round =>
                clear HSJ0 b0 hltb
                obtain ⟨j, lev, fr, to, hj, rfl, rfl, rfl, rfl, HJ, kr⟩ := hrel
                have KE := hid kr
                have hB := Only.blk kr HB6.out (fun f => f)
                have b0 := hB.cell 0 rfl
                have hltb := hB.lt
                by_cases hj4 : j < 4
                · have hjl : j < P.length := by have := HP4.out; omega
                  obtain ⟨b, o, e0, p0, p1, p2, p3⟩ := (RfAt.src (ownN_stay HR6.out kr)).cell HL.out k hkl
                  subst e0
                  rw [HX.out] at p0 p1 p2 p3
                  simp only at p0 p1 p2 p3
                  obtain ⟨y, hy⟩ : ∃ y, P[j] = y := ⟨_, rfl⟩
                  have HY := hid hy
                  have y0 : wr.cell? ⟨g6, j, none⟩ = some (.int .i64 y) := by
                    have := src_at (HS6.out.stay kr) j hjl
                    rw [Nat.zero_add, hy] at this
                    exact this
                  have hb : b < wr.heap.size := World.block_lt_of_cell? wr _ p0
                  have hb2 : g6 < wr.heap.size := World.block_lt_of_cell? wr _ y0
                  clear hB kr hy
                  by_cases hxe : x1 = y
                  · have hxb : (x1 == y) = true := by simpa using hxe
                    have hje : P[j]'hjl = x1 := by rw [HY.out]; exact hxe.symm
                    have HSJ0 : ScanJ (i + 1) ca l k (j + 1) x1 x2 (if f < fr then f else fr) (if to < t then t else to) := by
                      have := scanj_yes HI.out (by omega) hkl2 (j := j) (by rw [HPE.out]; exact hjl) (lev := lev) (fr := fr) (to := to) (by simp only [HPE.out]; rw [HX.out]; exact hje.symm) (by rw [HX.out]; exact HJ.out)
                      rw [HX.out] at this
                      exact this
                    by_cases f1 : f < fr
                    · rw [if_pos f1] at HSJ0
                      by_cases f2 : to < t
                      · rw [if_pos f2] at HSJ0
                        have HSJ := hid HSJ0
                        clear HSJ0
                        go_wp2_with fail
                        go_quiet (fail)
                        have kq := kept_drewN (Only.refl (fun _ => False) wr) nq
                        have b0q := each_cell kq _ _ b0
                        have q0 := each_cell kq _ _ p0
                        have q1 := each_cell kq _ _ p1
                        have q2 := each_cell kq _ _ p2
                        have q3 := each_cell kq _ _ p3
                        have hltq := Nat.lt_of_lt_of_le hltb kq.size
                        have hbq := Nat.lt_of_lt_of_le hb kq.size
                        have KQ := hid (KE.out.trans kq (fun _ _ f => f))
                        generalize wr.drewN nq = wq at b0q q0 q1 q2 q3 hltq hbq KQ ⊢
                        clear b0 p0 p1 p2 p3 hltb hb hb2 y0 kq
                        go_wp2
                        go_roundw
                        case rel => exact ⟨j + 1, x2, f, t, by omega, rfl, rfl, rfl, by go_num, HSJ, KQ.out⟩
                        case measure => simp [intOf]; omega
                      · rw [if_neg f2] at HSJ0
                        have HSJ := hid HSJ0
                        clear HSJ0
                        go_wp2_with fail
                        go_quiet (fail)
                        have kq := kept_drewN (Only.refl (fun _ => False) wr) nq
                        have b0q := each_cell kq _ _ b0
                        have q0 := each_cell kq _ _ p0
                        have q1 := each_cell kq _ _ p1
                        have q2 := each_cell kq _ _ p2
                        have q3 := each_cell kq _ _ p3
                        have hltq := Nat.lt_of_lt_of_le hltb kq.size
                        have hbq := Nat.lt_of_lt_of_le hb kq.size
                        have KQ := hid (KE.out.trans kq (fun _ _ f => f))
                        generalize wr.drewN nq = wq at b0q q0 q1 q2 q3 hltq hbq KQ ⊢
                        clear b0 p0 p1 p2 p3 hltb hb hb2 y0 kq
                        go_wp2
                        go_roundw
                        case rel => exact ⟨j + 1, x2, f, to, by omega, rfl, rfl, rfl, by go_num, HSJ, KQ.out⟩
                        case measure => simp [intOf]; omega
                    · rw [if_neg f1] at HSJ0
                      by_cases f2 : to < t
                      · rw [if_pos f2] at HSJ0
                        have HSJ := hid HSJ0
                        clear HSJ0
                        go_wp2_with fail
                        go_quiet (fail)
                        have kq := kept_drewN (Only.refl (fun _ => False) wr) nq
                        have b0q := each_cell kq _ _ b0
                        have q0 := each_cell kq _ _ p0
                        have q1 := each_cell kq _ _ p1
                        have q2 := each_cell kq _ _ p2
                        have q3 := each_cell kq _ _ p3
                        have hltq := Nat.lt_of_lt_of_le hltb kq.size
                        have hbq := Nat.lt_of_lt_of_le hb kq.size
                        have KQ := hid (KE.out.trans kq (fun _ _ f => f))
                        generalize wr.drewN nq = wq at b0q q0 q1 q2 q3 hltq hbq KQ ⊢
                        clear b0 p0 p1 p2 p3 hltb hb hb2 y0 kq
                        go_wp2
                        go_roundw
                        case rel => exact ⟨j + 1, x2, fr, t, by omega, rfl, rfl, rfl, by go_num, HSJ, KQ.out⟩
                        case measure => simp [intOf]; omega
                      · rw [if_neg f2] at HSJ0
                        have HSJ := hid HSJ0
                        clear HSJ0
                        go_wp2_with fail
                        go_quiet (fail)
                        have kq := kept_drewN (Only.refl (fun _ => False) wr) nq
                        have b0q := each_cell kq _ _ b0
                        have q0 := each_cell kq _ _ p0
                        have q1 := each_cell kq _ _ p1
                        have q2 := each_cell kq _ _ p2
                        have q3 := each_cell kq _ _ p3
                        have hltq := Nat.lt_of_lt_of_le hltb kq.size
                        have hbq := Nat.lt_of_lt_of_le hb kq.size
                        have KQ := hid (KE.out.trans kq (fun _ _ f => f))
                        generalize wr.drewN nq = wq at b0q q0 q1 q2 q3 hltq hbq KQ ⊢
                        clear b0 p0 p1 p2 p3 hltb hb hb2 y0 kq
                        go_wp2
                        go_roundw
                        case rel => exact ⟨j + 1, x2, fr, to, by omega, rfl, rfl, rfl, by go_num, HSJ, KQ.out⟩
                        case measure => simp [intOf]; omega
                  · have hxb : (x1 == y) = false := by simpa using hxe
                    have HSJ := hid (scanj_no (j := j) (by rw [HPE.out]; exact hjl) (by simp only [HPE.out]; rw [HY.out]; exact hxe) HJ.out)
                    clear p1 p2 p3 hxe
                    go_wp2_with fail
                    go_quiet (fail)
                    go_wp2_with fail
                    go_roundw
                    case rel => exact ⟨j + 1, lev, fr, to, by omega, rfl, rfl, rfl, by go_num, HSJ, kept_drewN KE.out nq⟩
                    case measure => simp [intOf]; omega
                · have hje : j = 4 := by omega
                  subst hje
                  have HSC := hid (scanj_end HI.out hkl2 (j := 4) (by rw [HPE.out, HP4.out]; exact Nat.le_refl _) (by rw [HX.out]; exact HJ.out))
                  clear hB kr HJ
                  go_wp2
                  go_roundw
                  case rel => exact ⟨k + 1, lev, fr, to, by omega, rfl, rfl, rfl, by go_num, HSC, KE.out⟩
                  case measure => simp [intOf]; omega
            · have hke : k = L := by omega
              obtain ⟨e1, e2, e3, e4⟩ := scan_end (by rw [HPE.out]; exact HP4.out) (by rw [HL.out]; omega) HSC.out
              subst e1
              obtain ⟨l', hq, hI', hl'⟩ := mid_swap HI.out (by omega) (by omega) HC.out e2 e3 e4
              rw [HPE.out] at hq
              have HSW := hid (swap_any2 HL.out (ownN_stay HR6.out kr) (HS6.out.stay kr) (by rw [HP4.out]; decide) hq)
              have HI' := hid hI'
              obtain ⟨L8, hL8⟩ : ∃ L8, l'.length = L8 := ⟨_, rfl⟩
              have HL8 := hid hL8
              have hle : L8 + 3 = L := by rw [← hL8, ← HL.out]; exact hl'
              have hxx : ((L8 : Int) == (L : Int) - 3) = true := by simp; omega
              have HLE8 := hid hle
              have b1 := hB.cell 1 rfl
              have b2 := hB.cell 2 rfl
              have b3 := hB.cell 3 rfl
              have hca := HCA.out
              have HB9 := hid hB
              unfold TurnP manV at HSW
              simp only at HSW
              clear hB kr HSC hq hI' hl' hL8 hle e2 e3 e4
              go_wp2_with fail
              refine HSW.out.mono ?_
              rintro e w8 ⟨v8, rfl, h8, k8⟩
              have h8' := h8
              unfold RfAt at h8'
              rw [HL8.out] at h8'
              obtain ⟨a8, c8, rfl⟩ := ownN_slice h8'
              have hB8 := Only.blk k8 HB9.out (fun f => f)
              have HGS := hid ((set4_man (w := w) (N := N + 1) hB8 HL8.out h8 (((HK.out.trans (by exact KR6.out) (fun _ _ f => f)).trans KR.out (fun _ _ f => f)).trans k8 (fun _ _ f => f)) HMW.out).keep ((Only.refl _ _).alloc (manO a8 L8 c8 (N + 1) 1 0)))
              have b0 := hB8.cell 0 rfl
              have b1 := hB8.cell 1 rfl
              have b2 := hB8.cell 2 rfl
              have b3 := hB8.cell 3 rfl
              have f0 := hB8.frozen 0
              have f1 := hB8.frozen 1
              have f2 := hB8.frozen 2
              have f3 := hB8.frozen 3
              have hlt8 := hB8.lt
              clear HSW k8 h8 h8' hB8
              go_wp2_with (go_at_call 12; refine (num17_any _ _).mono ?_; rintro e w' ⟨rfl, hw⟩; replace hw := hw.symm; subst hw)
              go_roundw
              case rel => exact ⟨ca + 1, l', N + 1, HI', HGS⟩
              case measure =>
                obtain ⟨a', c', hB', _, _⟩ := HGS.out
                rw [HLEN.out, lenAt_of (hB'.cell 0 rfl), HL8.out]
                have := HLE8.out
                omega
    · have hie : i = T := by omega
      subst hie
      obtain ⟨L, hL⟩ : ∃ L, l.length = L := ⟨_, rfl⟩
      have HL := hid hL
      rw [hL] at hB hR
      have HB := hid hB
      have HR := hid hR
      have HK := hid hk
      have hL2 : L ≤ 200 := by rw [← hL]; exact chk_len HI.out.chk
      have HL2 := hid hL2
      clear hB hR hk hL HW
      obtain ⟨wz, hwz⟩ : ∃ W, W = wr := ⟨_, rfl⟩
      subst hwz
      go_wp2
      go_loopw [18, 19] (fun s18 s19 w' => ∃ (k : Nat), k ≤ 21 ∧ s18 = .int .i64 ((i / 4 ^ k : Nat) : Int) ∧ s19 = .int .i64 (k : Int) ∧ Kept wz w') (fun _ s _ => 21 - (intOf s).toNat)
      case atStart => exact ⟨0, by omega, by simp, rfl, Only.refl _ _⟩
      case round =>
        obtain ⟨k, hk, rfl, rfl, kr⟩ := hrel
        have KR := hid kr
        obtain ⟨q, hq⟩ : ∃ q, i / 4 ^ k = q := ⟨_, rfl⟩
        have HQ := hid hq
        have hqi : q ≤ 300 := by rw [← hq]; exact Nat.le_trans (Nat.div_le_self _ _) (by omega)
        rw [hq]
        clear kr hq
        by_cases hk2 : k < 21
        · have HD : Hid (cntK k l = q % 4) := hid (by rw [HI.out.dig k hk2]; unfold dig; rw [HQ.out])
          go_wp2
          go_loopw [20, 21] (fun s20 s21 w' => ∃ (j : Nat), j ≤ L ∧ s20 = .int .i64 ((cntT k l j : Nat) : Int) ∧ s21 = .int .i64 (j : Int) ∧ Kept wz w') (fun _ s _ => L - (intOf s).toNat)
          case atStart => exact ⟨0, by omega, by unfold cntT; rw [List.take_zero]; rfl, rfl, KR.out⟩
          case round =>
            obtain ⟨j, hj, rfl, rfl, kr⟩ := hrel
            have KE := hid kr
            have hB := Only.blk kr HB.out (fun f => f)
            have b0 := hB.cell 0 rfl
            have hltb := hB.lt
            obtain ⟨C, hC⟩ : ∃ C, cntT k l j = C := ⟨_, rfl⟩
            have HC := hid hC
            have hCl : C ≤ 200 := by
              rw [← hC]
              unfold cntT cntK
              have h1 := lvl_le (k : Int) (l.take j)
              rw [List.length_take] at h1
              have := HL.out
              omega
            rw [hC]
            clear hB hC
            by_cases hjl : j < L
            · have hjl2 : j < l.length := by have := HL.out; omega
              obtain ⟨b, o, e0, p0, p1, p2, p3⟩ := (RfAt.src (ownN_stay HR.out kr)).cell HL.out j hjl
              subst e0
              obtain ⟨x, hx⟩ : ∃ x, l[j] = x := ⟨_, rfl⟩
              have HX := hid hx
              rw [hx] at p0 p1 p2 p3
              obtain ⟨x1, x2, f, t⟩ := x
              simp only at p0 p1 p2 p3
              have hb : b < wr.heap.size := World.block_lt_of_cell? wr _ p0
              clear hx kr
              by_cases hxe : x2 = (k : Int)
              · have HS : Hid (cntT k l (j + 1) = C + 1) := hid (by rw [cntT_step hjl2, HX.out, HC.out, if_pos hxe])
                subst hxe
                go_wp2
                go_roundw
                case rel => exact ⟨j + 1, by omega, by rw [HS.out]; go_num, by go_num, KE.out⟩
                case measure => simp [intOf]; omega
              · have HS : Hid (cntT k l (j + 1) = C) := hid (by rw [cntT_step hjl2, HX.out, HC.out, if_neg hxe, Nat.add_zero])
                have hxb : (x2 == (k : Int)) = false := by simpa using hxe
                clear hxe
                go_wp2
                go_roundw
                case rel => exact ⟨j + 1, by omega, by rw [HS.out], by go_num, KE.out⟩
                case measure => simp [intOf]; omega
            · have hje : j = L := by omega
              have HCQ : Hid (C = q % 4) := hid (by rw [← HC.out, ← HD.out]; unfold cntT; rw [List.take_of_length_le (by have := HL.out; omega)])
              have hcq := HCQ.out
              have HQN : Hid (i / 4 ^ (k + 1) = q / 4) := hid (by rw [← dig_next, HQ.out])
              obtain ⟨D, hD⟩ : ∃ D, q / 4 = D := ⟨_, rfl⟩
              have HDD := hid hD
              have m1 : (q : Int).tmod 4 = (C : Int) := by rw [Int.tmod_eq_emod_of_nonneg (by omega)]; omega
              have m2 : (q : Int) % 4 = (C : Int) := by omega
              have d1 : (q : Int).tdiv 4 = (D : Int) := by rw [Int.tdiv_eq_ediv_of_nonneg (by omega)]; omega
              have d2 : (q : Int) / 4 = (D : Int) := by omega
              subst hje
              clear kr hcq hD
              go_wp2
              go_roundw
              case rel => exact ⟨k + 1, by omega, by rw [HQN.out, HDD.out], by go_num, KE.out⟩
              case measure => simp [intOf]; omega
        · have hke : k = 21 := by omega
          subst hke
          go_wp2
          go_ret
          exact ⟨rfl, HK.out.trans KR.out (fun _ _ f => f)⟩
end Go.Proofs.Ytmpkafmkkkpdeaa.J
