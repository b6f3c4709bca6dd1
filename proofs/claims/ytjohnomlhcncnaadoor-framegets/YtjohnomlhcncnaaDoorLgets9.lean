/-
  The law FrameGets.
-/
import Derived.Test.YtjohnomlhcncnaaDoorLtorn9
namespace Go.Proofs.YtjohnomlhcncnaaDoor.G
open Go.RowKit Go.Proofs.Lys
set_option linter.unusedVariables false

set_option maxRecDepth 100000 in
set_option maxHeartbeats 3200000 in
theorem gets9_walk (w : World) (v : Value) (bs : List UInt8) (hs : BSrc w v bs) (hT : Tab w) :
    Calls Tryd.prog 5 #[v] w fun e w' => e = .returned (.bool true) ∧ Kept w w' := by
  obtain ⟨a, c, rfl⟩ := hs.len
  have ha := alive9_any w hT
  have hnot : ∀ (x : Bool) (w : World), (Op.unary .not (.bool x)).run Tryd.prog w = .ok (.bool (!x)) w := fun _ _ => rfl
  obtain ⟨L, hL⟩ : ∃ L, bs.length = L := ⟨_, rfl⟩
  have HL := hid hL
  have HS := hid hs
  have HT := hid hT
  rw [hL] at HS ⊢
  clear hL hs hT
  by_cases hlt : 10000 < L
  · go_enter Tryd.func5, Tryd.ntmps5
    go_wp2_with fail
    refine ha.mono ?_
    rintro e w1 ⟨rfl, hk⟩
    have HK := hid hk
    clear ha hk
    go_wp2_with fail
    go_ret
    exact ⟨rfl, HK.out⟩
  · go_enter Tryd.func5, Tryd.ntmps5
    go_wp2_with fail
    refine ha.mono ?_
    rintro e w1 ⟨rfl, hk⟩
    clear ha
    have hget := get_any w1 _ bs (HS.out.stay hk) (by rw [HL.out]; omega) (HT.out.stay hk)
    have HK1 := hid hk
    clear hk
    go_wp2_with fail
    refine hget.mono ?_
    rintro e w2 ⟨k2, kk, u2, p, n, x, rfl, hG, ho2⟩
    have HK2 : Hid (Kept w w2) := HK1.out.trans k2 (fun _ _ f => f)
    have hrd := rreadframe_any w2 _ bs (HS.out.stay HK2.out) (by rw [HL.out]; omega)
    have HG := hid hG
    have HO2 := hid ho2
    have HZ1 : Hid (w.heap.size ≤ w1.heap.size) := HK1.out.size
    clear hget hG ho2 k2
    go_wp2_with fail
    refine hrd.mono ?_
    rintro e w3 ⟨k3, kk', u3, p', n', x', rfl, hG', ho3⟩
    obtain ⟨rfl, rfl, rfl, rfl⟩ := hG'.inj HG.out
    have HK3 : Hid (Kept w w3) := HK2.out.trans k3 (fun _ _ f => f)
    have ho23 := own_only HO2.out k3 (fun _ _ f => f)
    have cv1 := bytes_str (own_src ho23)
    have cv2 := bytes_str (own_src ho3)
    obtain ⟨P, hP⟩ : ∃ P, p'.length = P := ⟨_, rfl⟩
    have hPl : P ≤ 10000 := by
      rcases HG.out with ⟨_, _, h, _⟩ | ⟨_, q, _, h, _, h', _⟩
      · rw [← hP, h]; simp
      · have := readF_len h
        rw [← hP, h']
        have := HL.out
        omega
    obtain ⟨b2, d2, hu2⟩ := own_slice ho23
    obtain ⟨b3, d3, hu3⟩ := own_slice ho3
    rw [hP] at hu2 hu3
    subst hu2
    subst hu3
    have HP := hid hP
    have HO23 := hid ho23
    generalize (⟨p'.toArray⟩ : ByteArray) = s1 at cv1 cv2
    clear hrd hG' ho3 ho23 k3 hP
    go_wp2_with (go_at_call 13; refine (num9_any _ _).mono ?_; rintro e w' ⟨rfl, hw⟩; replace hw := hw.symm; subst hw)
    go_loopw [12] (fun s wr => ∃ (k : Nat) (ys : List UInt8), k ≤ P ∧ ys.length = P ∧ s = .int .i64 (k : Int) ∧ wr.ownsRow w1.heap.size 5 1 (.slice b2 P d2) P (ys.map bV) ∧ Kept w wr) (fun s _ => P - (intOf s).toNat)
    case atStart => exact ⟨0, p', by omega, HP.out, rfl, by have := HO23.out; rw [HP.out] at this; exact this, HK3.out⟩
    case round =>
      obtain ⟨k, ys, hk, hyl, rfl, hown, hon⟩ := hrel
      by_cases hlt : k < P
      · obtain ⟨gg, capp, hg⟩ := own_some hown (by omega)
        cases hg
        obtain ⟨y, z, hy, hyl', t1, t2, t3, hz, t4⟩ := own_xor hown (k := k) (by omega) 255 (by decide)
        have hge := (hown.lt gg rfl).1
        have HY : Hid ((ys.set k (UInt8.ofNat (y ^^^ 255))).length = P) := by show _ = _; rw [List.length_set]; exact hyl
        have HTt := hid t4
        have HN : Hid (Kept w (wr.setCell ⟨gg, k, none⟩ (.int .u8 (z : Int)))) := hon.setCell (fun h => absurd h (by show ¬ gg < w.heap.size; have := HZ1.out; omega)) _
        have t3' : bits .xor .u8 (y : Int) 255 = (z : Int) := t3
        clear hown hon t4 hy hz hyl t3
        go_wp2_with fail
        go_roundw
        case rel => exact ⟨k + 1, _, by omega, HY.out, by go_num, HTt.out, HN.out⟩
        case measure => simp [intOf]; omega
      · have hall := all_any wr _ bs (HS.out.stay hon) (by rw [HL.out]; omega) (HT.out.stay hon)
        have HKr := hid hon
        clear hown hon hyl
        go_wp2_with fail
        refine hall.mono ?_
        rintro e w4 ⟨k4, u4, l, n4, rfl, hA, hR4⟩
        have HK4 : Hid (Kept w w4) := HKr.out.trans k4 (fun _ _ f => f)
        have hfr := rframes_any w4 _ bs (HS.out.stay HK4.out) (by rw [HL.out]; omega)
        have HA := hid hA
        have HR4 := hid hR4
        clear hall hA hR4 k4
        go_wp2_with fail
        refine hfr.mono ?_
        rintro e w5 ⟨k5, u5, l', n5, rfl, hA', hR5⟩
        obtain ⟨rfl, rfl⟩ := hA'.inj HA.out
        have HK5 : Hid (Kept w w5) := HK4.out.trans k5 (fun _ _ f => f)
        have hR45 := HR4.out.stay k5
        obtain ⟨a4, d4, e4⟩ := hR45.slice
        obtain ⟨a5, d5, e5⟩ := hR5.slice
        obtain ⟨N, hN⟩ : ∃ N, l'.length = N := ⟨_, rfl⟩
        rw [hN] at e4 e5
        subst e4
        subst e5
        have HN := hid hN
        have HR45 := hid hR45
        have HR5 := hid hR5
        have hNl : N ≤ 100000 := by
          have h1 := chain_end l' 0 (Nat.zero_le _) HA.out.1
          have := HL.out
          omega
        clear hfr hA' hR45 hR5 k5 hN
        go_wp2_with fail
        go_loopw [17] (fun s wr2 => ∃ i : Nat, i ≤ N ∧ s = .int .i64 (i : Int) ∧ Kept w5 wr2) (fun s _ => N - (intOf s).toNat)
        case atStart => exact ⟨0, by omega, rfl, Only.refl _ _⟩
        case round =>
          obtain ⟨i, hi, rfl, kr⟩ := hrel
          by_cases hil : i < N
          · have hil' : i < l'.length := by rw [HN.out]; exact hil
            have kd : ∀ n, Kept w5 (wr.drewN n) := fun n => kept_drewN kr n
            obtain ⟨g4, v4, e4, c40, c41, o4⟩ := HR45.out.cell i hil'
            obtain ⟨g5, v5, e5, c50, c51, o5⟩ := HR5.out.cell i hil'
            cases e4
            cases e5
            obtain ⟨KK, hKK⟩ : ∃ KK, l'[i].1 = KK := ⟨_, rfl⟩
            obtain ⟨B, hB⟩ : ∃ B, l'[i].2 = B := ⟨_, rfl⟩
            rw [hKK] at c40 c50
            rw [hB] at o4 o5
            have f40 : ∀ n, (wr.drewN n).cell? ⟨g4, i * 2, none⟩ = some (.int .i64 (KK : Int)) := fun n => kept_cell (kd n) c40
            have f41 : ∀ n, (wr.drewN n).cell? ⟨g4, i * 2 + 1, none⟩ = some v4 := fun n => kept_cell (kd n) c41
            have f50 : ∀ n, (wr.drewN n).cell? ⟨g5, i * 2, none⟩ = some (.int .i64 (KK : Int)) := fun n => kept_cell (kd n) c50
            have f51 : ∀ n, (wr.drewN n).cell? ⟨g5, i * 2 + 1, none⟩ = some v5 := fun n => kept_cell (kd n) c51
            have q4 : ∀ n, (convert 22 9 v4).run Tryd.prog (wr.drewN n) = .ok (.string ⟨B.toArray⟩) (wr.drewN n) := fun n => bytes_str (own_src (own_only o4 (kd n) (fun _ _ f => f)))
            have q5 : ∀ n, (convert 22 9 v5).run Tryd.prog (wr.drewN n) = .ok (.string ⟨B.toArray⟩) (wr.drewN n) := fun n => bytes_str (own_src (own_only o5 (kd n) (fun _ _ f => f)))
            generalize (⟨B.toArray⟩ : ByteArray) = sB at q4 q5
            obtain ⟨x4, y4, ev4⟩ := own_slice o4
            obtain ⟨x5, y5, ev5⟩ := own_slice o5
            generalize B.length = Bl at ev4 ev5
            subst ev4
            subst ev5
            have KD := hid kd
            clear c40 c41 c50 c51 o4 o5 hKK hB hil' kd kr
            go_wp2_with fail
            go_quiet (fail)
            go_wp2_with fail
            go_roundw
            case rel => exact ⟨i + 1, by omega, by go_num, KD.out nq⟩
            case measure => simp [intOf]; omega
          · have HF : Hid (Kept w wr) := HK5.out.trans kr (fun _ _ f => f)
            clear kr
            go_wp2_with fail
            go_ret
            exact ⟨rfl, HF.out⟩
end Go.Proofs.YtjohnomlhcncnaaDoor.G
