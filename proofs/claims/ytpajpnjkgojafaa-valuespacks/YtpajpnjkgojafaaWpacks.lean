/-
  The walk of the law ValuesPacks.
-/
import Derived.Test.YtpajpnjkgojafaaWlaw
namespace Go.Proofs.Ytpajpnjkgojafaa.V
open Go.RowKit Go.Proofs.Lys
set_option linter.unusedVariables false

set_option maxRecDepth 100000 in
set_option maxHeartbeats 6400000 in
theorem packs_walk (w : World) (v0 v1 : Value) (l o : List Int) (h0 : SrcOf w v0 (l.map (Value.int .i64))) (h1 : SrcOf w v1 (o.map (Value.int .i64))) (hin : In64 l) :
    Calls Try.prog 3 #[v0, v1] w fun e w' => e = .returned (.bool true) ∧ Kept w w' := by
  have hnot : ∀ (x : Bool) (w : World), (Op.unary .not (.bool x)).run Try.prog w = .ok (.bool (!x)) w := fun _ _ => rfl
  obtain ⟨a0, c0, e0⟩ := h0.len
  obtain ⟨a1, c1, e1⟩ := h1.len
  rw [List.length_map] at e0 e1
  obtain ⟨L, hL⟩ : ∃ L, l.length = L := ⟨_, rfl⟩
  obtain ⟨M, hM⟩ : ∃ M, o.length = M := ⟨_, rfl⟩
  rw [hL] at e0
  rw [hM] at e1
  subst e0
  subst e1
  by_cases hb0 : 300 < L
  · go_enter Try.func3, Try.ntmps3
    go_wp2_with (go_at_call 6; refine (alive7_any _).mono ?_; rintro e w1 ⟨rfl, hk⟩)
    go_ret
    exact ⟨rfl, hk⟩
  by_cases hb1 : 300 < M
  · go_enter Try.func3, Try.ntmps3
    go_wp2_with (go_at_call 6; refine (alive7_any _).mono ?_; rintro e w1 ⟨rfl, hk⟩)
    go_ret
    exact ⟨rfl, hk⟩
  have d0 : decide ((300 : Int) < (L : Int)) = false := by simp; omega
  have d1 : decide ((300 : Int) < (M : Int)) = false := by simp; omega
  have HL := hid hL
  have HM := hid hM
  have H0 := hid h0
  have H1 := hid h1
  clear hL hM h0 h1
  go_enter Try.func3, Try.ntmps3
  go_wp2_with fail
  refine (alive7_any _).mono ?_
  rintro e w1 ⟨rfl, hk1⟩
  have hs0 := H0.out.stay hk1
  obtain ⟨v2, w2, hrun, hown2, hgrow, _⟩ := append_src (P := Try.prog) Try.underlying22 infoI6 rfl (by decide) (World.ownsRow_nil w1 w1.heap.size 3 1) hs0 (ints_one l) (by have := HL.out; simp; omega) (Nat.le_refl _)
  rw [List.length_map, Nat.zero_add, List.nil_append] at hown2
  have hk2 : Kept w1 w2 := (Only.refl _ w1).grown hgrow (fun k hk _ => by cases hk)
  obtain ⟨g, cap, w3, Hr3, hown3, hon3⟩ := own_num hown2 hk2.size (by have := HL.out; omega) (-71)
  have hk3 : Kept w1 w3 := hk2.trans hon3 (fun q hq e => absurd hq (by have := (hown2.lt q e).1; omega))
  have Hr := hid hrun
  have hcut := cut_one hown3
  have hsrc3 := cut_src hown3
  rw [HL.out] at hcut Hr3
  have HO3 := hid hown3
  have HK3 : Hid (Kept w w3) := hk1.trans hk3 (fun _ _ f => f)
  have hp := pack_any w3 _ l hsrc3.1 (by have := HL.out; omega)
  rw [HL.out] at hp
  clear hrun hgrow hs0 hown2 hown3 hon3 hk2 hk3 hsrc3 hk1
  go_wp2_with (at_builtin; first | refine wpList_append_run rfl _ _ _ rfl rfl rfl Hr ?_ | refine wpList_append_run rfl _ _ _ rfl rfl rfl Hr3 ?_)
  refine hp.mono ?_
  rintro e w4 ⟨k4, u4, bs, x, rfl, hP, ho4⟩
  clear hp
  have HP := hid hP
  have HO4 := hid ho4
  have HK4 : Hid (Kept w3 w4) := k4
  have hp2 := pack_any w4 _ o (H1.out.stay (HK3.out.trans k4 (fun _ _ f => f))) (by have := HM.out; omega)
  clear hP ho4 k4
  go_wp2_with fail
  refine hp2.mono ?_
  rintro e w5 ⟨k5, u5, cs, x5, rfl, hP5, ho5⟩
  have hCb := hP5.small
  clear hp2 hP5
  obtain ⟨C, hC⟩ : ∃ C, cs.length = C := ⟨_, rfl⟩
  rw [hC] at hCb
  rw [hC] at ho5
  obtain ⟨a5, c5, hu5⟩ := own_slice ho5
  subst hu5
  have HO5 := hid ho5
  have HK5 := hid k5
  clear ho5 k5
  go_wp2_with fail
  go_loopw [11] (fun i wr => ∃ (k : Nat) (ys : List UInt8), k ≤ C ∧ ys.length = C ∧ i = .int .i64 (k : Int) ∧ wr.ownsRow w4.heap.size 5 1 (.slice a5 C c5) C (ys.map bV) ∧ Kept w4 wr) (fun i _ => C - (intOf i).toNat)
  case atStart => exact ⟨0, cs, by omega, hC, rfl, HO5.out, HK5.out⟩
  case round =>
    obtain ⟨k, ys, hk, hyl, rfl, hown, hon⟩ := hrel
    by_cases hlt : k < C
    · obtain ⟨gg, capp, hg⟩ := own_some hown (by omega)
      cases hg
      have hky : k < ys.length := by omega
      obtain ⟨t1, t2, t3⟩ := own_turn6 hown hky
      have hx := xor_byte6 ys[k]
      obtain ⟨y, hy⟩ : ∃ y : Nat, ys[k].toNat = y := ⟨_, rfl⟩
      obtain ⟨z, hz⟩ : ∃ z : Nat, (UInt8.ofNat (ys[k].toNat ^^^ 255)).toNat = z := ⟨_, rfl⟩
      have hge := (hown.lt gg rfl).1
      have HY : Hid ((ys.set k (UInt8.ofNat (ys[k].toNat ^^^ 255))).length = C) := by show _ = _; rw [List.length_set]; exact hyl
      rw [hz] at t3
      have HT := hid t3
      rw [hy] at t1 hx
      rw [hy] at hz
      rw [hz] at hx
      have HN := hid hon
      clear hown hon t3 hz hy hyl
      go_wp2_with fail
      go_roundw
      case rel => exact ⟨k + 1, _, by omega, HY.out, by go_num, HT.out, HN.out.setCell (fun h => absurd h (by simp; omega)) _⟩
      case measure => simp [intOf]; omega
    · have hkr : Kept w3 wr := HK4.out.trans hon (fun _ _ f => f)
      have hkw : Kept w wr := HK3.out.trans hkr (fun _ _ f => f)
      have hp := rvalues_any wr _ l (H0.out.stay hkw) (by have := HL.out; omega)
      have HKR := hid hkr
      have HON := hid hon
      clear hown hon hyl hkr hkw
      go_wp2_with fail
      refine hp.mono ?_
      rintro e w6 ⟨k6, u6, bs', x', rfl, hP', ho6⟩
      clear hp
      obtain ⟨rfl, rfl⟩ := hP'.inj HP.out
      have hk36 : Kept w3 w6 := HKR.out.trans k6 (fun _ _ f => f)
      have hk46 : Kept w4 w6 := HON.out.trans k6 (fun _ _ f => f)
      have HKW : Hid (Kept w w6) := HK3.out.trans hk36 (fun _ _ f => f)
      have hO46 := own_only HO4.out hk46 (fun _ _ f => f)
      have q1 := bytes_str (own_src hO46)
      have q2 := bytes_str (own_src ho6)
      obtain ⟨b4, d4, hu4⟩ := own_slice hO46
      obtain ⟨b6, d6, hu6⟩ := own_slice ho6
      have hsrc4 := own_src hO46
      generalize (⟨bs'.toArray⟩ : ByteArray) = s1 at q1 q2
      have hO36 := own_only HO3.out hk36 (fun _ _ f => f)
      have hs36 := cut_src hO36
      have hsame := same_any w6 _ _ l hs36.1 (H0.out.stay HKW.out) (by have := HL.out; omega)
      rw [HL.out] at hsame
      have HS4 := hid hsrc4
      have HO36 := hid hO36
      subst hu4
      subst hu6
      clear hO46 ho6 hk36 hk46 hs36 hP' hO36 hsrc4
      go_wp2_with (go_at_call 9; refine (num7_any _ _).mono ?_; rintro e w' ⟨rfl, hw⟩; replace hw := hw.symm; subst hw)
      refine hsame.mono ?_
      rintro e w7 ⟨rfl, k7⟩
      clear hsame
      have hc7 := (cut_src (own_only HO36.out k7 (fun _ _ f => f))).2
      rw [HL.out] at hc7
      have HKW7 : Hid (Kept w w7) := HKW.out.trans k7 (fun _ _ f => f)
      by_cases hx0 : x' = 0
      · subst hx0
        have hun := unpack_any w7 _ bs' (L : Int) (HS4.out.stay k7) (by have := HP.out.small; omega)
        have HRd : Hid (Reads bs' (L : Int) l 0) := by
          have := reads_packs HP.out hin
          rw [HL.out] at this
          exact this
        clear k7
        go_wp2_with fail
        refine hun.mono ?_
        rintro e w8 ⟨k8, m, u8, y, rfl, hRd, ho8⟩
        obtain ⟨rfl, rfl⟩ := hRd.inj HRd.out
        have HKW8 : Hid (Kept w w8) := HKW7.out.trans k8 (fun _ _ f => f)
        have hsame := same_any w8 _ _ m (own_src ho8) (H0.out.stay HKW8.out) (by have := HL.out; omega)
        clear hun hRd ho8 k8
        go_wp2_with (go_at_call 9; refine (num7_any _ _).mono ?_; rintro e w' ⟨rfl, hw⟩; replace hw := hw.symm; subst hw)
        refine hsame.mono ?_
        rintro e w9 ⟨rfl, k9⟩
        go_wp2_with fail
        go_ret
        exact ⟨rfl, HKW8.out.trans k9 (fun _ _ f => f)⟩
      · have hx1 : (x' == 0) = false := by simp [hx0]
        clear k7
        go_wp2_with fail
        go_ret
        exact ⟨rfl, HKW7.out⟩
end Go.Proofs.Ytpajpnjkgojafaa.V
