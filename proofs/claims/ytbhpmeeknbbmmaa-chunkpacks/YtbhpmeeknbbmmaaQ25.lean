/-
  Cpacks.
-/
import Derived.Test.YtbhpmeeknbbmmaaQ24

/-
  The walk of the law ChunkPacks, given what Pack and Unpack must give.
-/
namespace Go.Proofs.Ytbhpmeeknbbmmaa.C
open Go.RowKit Go.Proofs.Lys
set_option linter.unusedVariables false

set_option maxRecDepth 100000 in
set_option maxHeartbeats 6400000 in
theorem packs8_walk (hP : PackC) (hU : UnpackC) (w : World) (v0 v1 v2 : Value) (l o : Smps) (more : List UInt8) (h0 : SSrc w v0 l) (h1 : SSrc w v1 o) (h2 : BSrc w v2 more) (hin : V.In64 (l.map (·.2))) :
    Calls Try.prog 3 #[v0, v1, v2] w fun e w' => e = .returned (.bool true) ∧ Kept w w' := by
  have hnot : ∀ (x : Bool) (w : World), (Op.unary .not (.bool x)).run Try.prog w = .ok (.bool (!x)) w := fun _ _ => rfl
  obtain ⟨a0, c0, e0⟩ := h0.1.len
  obtain ⟨a1, c1, e1⟩ := h1.1.len
  obtain ⟨a2, c2, e2⟩ := h2.1.len
  rw [List.length_map] at e2
  obtain ⟨L, hL⟩ : ∃ L, l.length = L := ⟨_, rfl⟩
  obtain ⟨M, hM⟩ : ∃ M, o.length = M := ⟨_, rfl⟩
  obtain ⟨R, hR⟩ : ∃ R, more.length = R := ⟨_, rfl⟩
  rw [hL] at e0
  rw [hM] at e1
  rw [hR] at e2
  subst e0
  subst e1
  subst e2
  by_cases hb0 : 300 < L
  · go_enter Try.func3, Try.ntmps3
    go_wp2_with (go_at_call 6; refine (alive8_any hP _).mono ?_; rintro e w1 ⟨rfl, hk⟩)
    go_ret
    exact ⟨rfl, hk⟩
  by_cases hb1 : 300 < M
  · go_enter Try.func3, Try.ntmps3
    go_wp2_with (go_at_call 6; refine (alive8_any hP _).mono ?_; rintro e w1 ⟨rfl, hk⟩)
    go_ret
    exact ⟨rfl, hk⟩
  by_cases hb2 : 1000 < R
  · go_enter Try.func3, Try.ntmps3
    go_wp2_with (go_at_call 6; refine (alive8_any hP _).mono ?_; rintro e w1 ⟨rfl, hk⟩)
    go_ret
    exact ⟨rfl, hk⟩
  have d0 : decide ((300 : Int) < (L : Int)) = false := by simp; omega
  have d1 : decide ((300 : Int) < (M : Int)) = false := by simp; omega
  have d2 : decide ((1000 : Int) < (R : Int)) = false := by simp; omega
  have HL := hid hL
  have HM := hid hM
  have HR := hid hR
  have H0 := hid h0
  have H1 := hid h1
  have H2 := hid h2
  clear hL hM hR h0 h1 h2
  go_enter Try.func3, Try.ntmps3
  go_wp2_with fail
  refine (alive8_any hP _).mono ?_
  rintro e w1 ⟨rfl, hk1⟩
  have hlent := lent_any w1 _ l (H0.out.stay hk1).1 (by have := HL.out; omega)
  go_wp2_with fail
  refine hlent.mono ?_
  rintro e w3 ⟨g, cap, rfl, hown3, hk3⟩
  clear hlent
  have hpre := smp_pre hown3
  have hcut := hpre.1
  have hsrc : SSrc w3 (.slice (some ⟨g, 0, none⟩) l.length cap) l := by
    obtain ⟨_, a, c, e, hc⟩ := SmpAt.ssrc hown3
    simp only [Value.slice.injEq] at e
    obtain ⟨_, _, rfl⟩ := e
    rw [List.length_append] at hc
    exact ⟨hpre.2.1, _, _, rfl, by omega⟩
  have hp := hP w3 _ l hsrc (by have := HL.out; omega)
  have HO3 := hid hown3
  have HK3 : Hid (Kept w w3) := hk1.trans hk3 (fun _ _ f => f)
  rw [HL.out] at hcut hp ⊢
  clear hown3 hpre hsrc hk1 hk3
  go_wp2_with fail
  refine hp.mono ?_
  rintro e w4 ⟨k4, u4, bs, x, rfl, hPk, ho4⟩
  clear hp
  have HP := hid hPk
  have HO4 := hid ho4
  have HK4 : Hid (Kept w3 w4) := k4
  have hp2 := hP w4 _ o (H1.out.stay (HK3.out.trans k4 (fun _ _ f => f))) (by have := HM.out; omega)
  clear hPk ho4 k4
  go_wp2_with fail
  refine hp2.mono ?_
  rintro e w5 ⟨k5, u5, cs, x5, rfl, hP5, ho5⟩
  have hCb := hP5.small
  clear hp2 hP5
  obtain ⟨C, hC⟩ : ∃ C, cs.length = C := ⟨_, rfl⟩
  rw [hC] at hCb
  rw [hC] at ho5
  obtain ⟨a5, c5, hu5⟩ := own_slice ho5
  subst hu5
  have HO5 := hid ho5
  have HK5 := hid k5
  clear ho5 k5
  go_wp2_with fail
  go_loopw [13] (fun i wr => ∃ (k : Nat) (ys : List UInt8), k ≤ C ∧ ys.length = C ∧ i = .int .i64 (k : Int) ∧ wr.ownsRow w4.heap.size 5 1 (.slice a5 C c5) C (ys.map bV) ∧ Kept w4 wr) (fun i _ => C - (intOf i).toNat)
  case atStart => exact ⟨0, cs, by omega, hC, rfl, HO5.out, HK5.out⟩
  case round =>
    obtain ⟨k, ys, hk, hyl, rfl, hown, hon⟩ := hrel
    by_cases hlt : k < C
    · obtain ⟨gg, capp, hg⟩ := own_some hown (by omega)
      cases hg
      have hky : k < ys.length := by omega
      obtain ⟨t1, t2, t3⟩ := own_turn6 hown hky
      have hx := xor_byte6 ys[k]
      obtain ⟨y, hy⟩ : ∃ y : Nat, ys[k].toNat = y := ⟨_, rfl⟩
      obtain ⟨z, hz⟩ : ∃ z : Nat, (UInt8.ofNat (ys[k].toNat ^^^ 255)).toNat = z := ⟨_, rfl⟩
      have hge := (hown.lt gg rfl).1
      have HY : Hid ((ys.set k (UInt8.ofNat (ys[k].toNat ^^^ 255))).length = C) := by show _ = _; rw [List.length_set]; exact hyl
      rw [hz] at t3
      have HT := hid t3
      rw [hy] at t1 hx
      rw [hy] at hz
      rw [hz] at hx
      have HN := hid hon
      clear hown hon t3 hz hy hyl
      go_wp2_with fail
      go_roundw
      case rel => exact ⟨k + 1, _, by omega, HY.out, by go_num, HT.out, HN.out.setCell (fun h => absurd h (by simp; omega)) _⟩
      case measure => simp [intOf]; omega
    · have hkr : Kept w3 wr := HK4.out.trans hon (fun _ _ f => f)
      have hkw : Kept w wr := HK3.out.trans hkr (fun _ _ f => f)
      have hp := rchunk_any wr _ l (H0.out.stay hkw).1 (by have := HL.out; omega)
      have HKR := hid hkr
      have HON := hid hon
      clear hown hon hyl hkr hkw
      go_wp2_with fail
      refine hp.mono ?_
      rintro e w6 ⟨k6, u6, bs', x', rfl, hP', ho6⟩
      clear hp
      obtain ⟨rfl, rfl⟩ := hP'.inj HP.out
      have hk36 : Kept w3 w6 := HKR.out.trans k6 (fun _ _ f => f)
      have hk46 : Kept w4 w6 := HON.out.trans k6 (fun _ _ f => f)
      have HKW : Hid (Kept w w6) := HK3.out.trans hk36 (fun _ _ f => f)
      have hO46 := own_only HO4.out hk46 (fun _ _ f => f)
      have q1 := bytes_str (own_src hO46)
      have q2 := bytes_str (own_src ho6)
      obtain ⟨b4, d4, hu4⟩ := own_slice hO46
      obtain ⟨b6, d6, hu6⟩ := own_slice ho6
      have HS4 := hid hO46
      generalize (⟨bs'.toArray⟩ : ByteArray) = s1 at q1 q2
      have hstay := stay_any w6 g cap _ l _ (ownN_stay HO3.out hk36) (H0.out.stay HKW.out).1 (by have := HL.out; omega)
      rw [HL.out] at hstay
      obtain ⟨Bl, hBl⟩ : ∃ Bl, bs'.length = Bl := ⟨_, rfl⟩
      have hBs := hP'.small
      rw [hBl] at hu4 hu6 hBs
      have HBl := hid hBl
      subst hu4
      subst hu6
      clear hO46 ho6 hk36 hk46 hP' hBl
      go_wp2_with (go_at_call 10; refine (num8_any _ _).mono ?_; rintro e w' ⟨rfl, hw⟩; replace hw := hw.symm; subst hw)
      refine hstay.mono ?_
      rintro e w7 ⟨rfl, k7⟩
      clear hstay
      have HKW7 : Hid (Kept w w7) := HKW.out.trans k7 (fun _ _ f => f)
      by_cases hx0 : x' = 0
      · subst hx0
        have hS7 := own_only HS4.out k7 (fun _ _ f => f)
        obtain ⟨a8, c8, w8, Hr8, ho8, hon8⟩ := row_app (w := w7) (base := w7.heap.size) (v := .slice none 0 0) (xs := []) (World.ownsRow_nil _ _ _ _) (Nat.le_refl _) (own_src hS7) (by have := HBl.out; simp; omega)
        rw [List.nil_append, List.length_nil, Nat.zero_add] at ho8
        rw [List.length_nil, Nat.zero_add] at Hr8
        have hk78 : Kept w7 w8 := hon8.mono (fun j _ e => by cases e)
        have hm8 := (H2.out.stay (HKW7.out.trans hk78 (fun _ _ f => f))).1
        obtain ⟨a9, c9, w9, Hr9, ho9, hon9⟩ := row_app (w := w8) (base := w7.heap.size) ho8 hk78.size hm8 (by have := HBl.out; have := HR.out; omega)
        have hk79 : Kept w7 w9 := hk78.trans hon9 (fun j hj e => by have := (ho8.lt j e).1; omega)
        have hun := hU w9 _ (bs' ++ more) (own_bsrc (by rw [List.length_append]; rw [List.length_append] at ho9; exact ho9)) (by rw [List.length_append]; have := HBl.out; have := HR.out; omega)
        have HRd : Hid (Reads (bs' ++ more) l bs'.length 0) := reads_packs HP.out hin more
        have HK9 : Hid (Kept w w9) := HKW7.out.trans hk79 (fun _ _ f => f)
        rw [HBl.out] at Hr8
        rw [HBl.out, HR.out] at Hr9
        simp only [HBl.out, HR.out] at hun
        clear k7 hS7 ho8 hon8 hk78 hm8 ho9 hon9 hk79
        go_wp2_with (at_builtin; first | refine wpList_append_run rfl _ _ _ rfl rfl rfl Hr8 ?_ | refine wpList_append_run rfl _ _ _ rfl rfl rfl Hr9 ?_)
        refine hun.mono ?_
        rintro e w10 ⟨k10, m, n, u10, y, rfl, hRd, ho10⟩
        obtain ⟨rfl, hnn, rfl⟩ := hRd.inj HRd.out
        have HK10 : Hid (Kept w w10) := HK9.out.trans k10 (fun _ _ f => f)
        have hsame := same_any w10 _ _ m (SmpAt.src ho10) (H0.out.stay HK10.out).1 (by have := HL.out; omega)
        have hn2 : n = Bl := by rw [hnn]; exact HBl.out
        subst hn2
        clear hun hRd ho10 k10 hnn
        go_wp2_with (go_at_call 10; refine (num8_any _ _).mono ?_; rintro e w' ⟨rfl, hw⟩; replace hw := hw.symm; subst hw)
        refine hsame.mono ?_
        rintro e w11 ⟨rfl, k11⟩
        go_wp2_with fail
        go_ret
        exact ⟨rfl, HK10.out.trans k11 (fun _ _ f => f)⟩
      · have hx1 : (x' == 0) = false := by simp [hx0]
        clear k7
        go_wp2_with fail
        go_ret
        exact ⟨rfl, HKW7.out⟩
end Go.Proofs.Ytbhpmeeknbbmmaa.C
