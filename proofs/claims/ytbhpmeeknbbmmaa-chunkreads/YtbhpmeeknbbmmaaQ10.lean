/-
  Srpack.
-/
import Derived.Test.YtbhpmeeknbbmmaaQ09

/-
  The document's own: the bytes of times.
-/
namespace Go.Proofs.Ytbhpmeeknbbmmaa.S
open Go.RowKit Go.Proofs.Lys
set_option linter.unusedVariables false

set_option maxRecDepth 100000 in
set_option maxHeartbeats 3200000 in
theorem rstamps_any (w : World) (v : Value) (l : List Int) (hs : SrcOf w v (l.map (Value.int .i64))) (hl : l.length ≤ 1000) :
    Calls Try.prog 22 #[v] w (PackPost w l) := by
  have hnot : ∀ (x : Bool) (w : World), (Op.unary .not (.bool x)).run Try.prog w = .ok (.bool (!x)) w := fun _ _ => rfl
  have hr := rrising_any w v l hs hl
  obtain ⟨a0, c0, e0⟩ := hs.len
  rw [List.length_map] at e0
  by_cases h120 : 120 < l.length
  · obtain ⟨L, hL⟩ : ∃ L, l.length = L := ⟨_, rfl⟩
    rw [hL] at e0 h120
    subst e0
    go_enter Try.func22, Try.ntmps22
    go_wp2_with fail
    go_ret2
    exact ⟨Only.refl _ w, _, [], 2, rfl, .inl ⟨by omega, rfl, rfl⟩, World.ownsRow_nil _ _ _ _⟩
  · by_cases hR : Rising l
    · have hr' : Calls Try.prog 41 #[v] w fun e w' => Kept w w' ∧ e = .returned (.bool true) := hr.mono (by
        rintro e w' ⟨hk, ⟨rfl, _⟩ | ⟨_, hn⟩⟩
        · exact ⟨hk, rfl⟩
        · exact absurd hR hn)
      obtain ⟨L, hL⟩ : ∃ L, l.length = L := ⟨_, rfl⟩
      have HS := hid hs
      rw [hL] at e0 h120
      subst e0
      have HL := hid hL
      have HR := hid hR
      clear hL hs hR hr
      go_enter Try.func22, Try.ntmps22
      go_wp2_with fail
      refine hr'.mono ?_
      rintro e w1 ⟨hk1, rfl⟩
      clear hr'
      have hA := RwAt.new w1
      have kA : Kept w (w1.alloc (.cells #[.slice none 0 0] 85)) := hk1.alloc _
      have HP : Hid (RkIn w w1.heap.size (w1.alloc (.cells #[.slice none 0 0] 85)) (.slice none 0 0) []) := ⟨hA, kA, hk1.size, fun j hj => by cases hj⟩
      generalize hbk : w1.heap.size = B at HP ⊢
      clear hA kA
      go_wp2_with fail
      go_loopw [6, 7] (fun g i wr => ∃ (k : Nat) (G : Int) (vw : Value) (lw : List Bool), k ≤ L ∧ g = .int .i64 G ∧ i = .int .i64 (k : Int) ∧ -18014398509481984 ≤ G ∧ G ≤ 18014398509481984 ∧ RkIn w B wr vw lw ∧ (0 < k → lw ++ restB l k G = allB l) ∧ (k = 0 → lw = [] ∧ G = 0)) (fun _ i _ => L - (intOf i).toNat)
      case atStart => exact ⟨0, 0, _, [], by omega, rfl, rfl, by omega, by omega, HP.out, fun h => absurd h (by omega), fun _ => ⟨rfl, rfl⟩⟩
      case round =>
        obtain ⟨k, G, vw, lw, hk, rfl, rfl, g1, g2, hI, hb, hz⟩ := hrel
        have HI := hid hI
        clear hI
        by_cases hlt : k < L
        · have hpos : 0 < L := by omega
          obtain ⟨b, o, rfl⟩ : ∃ b o, a0 = some ⟨b, o, none⟩ := by
            rcases HS.out.shape with ⟨hn, _⟩ | ⟨_, b, o, c, hv, _⟩
            · have := congrArg List.length hn
              rw [List.length_map, HL.out] at this
              simp at this
              omega
            · cases hv
              exact ⟨b, o, rfl⟩
          by_cases h0 : k = 0
          · subst h0
            obtain ⟨rfl, rfl⟩ := hz rfl
            have hcx := int_cells (HS.out.stay HI.out.kept) 0 (by have := HL.out; omega)
            obtain ⟨x, hx⟩ : ∃ x, l[0]'(by have := HL.out; omega) = x := ⟨_, rfl⟩
            rw [hx, Nat.add_zero] at hcx
            have hB : ([] ++ bitsL (uN x) 64) ++ restB l 1 0 = allB l := by
              have hp : 0 < l.length := by have := HL.out; omega
              have := restB_zero hp 0
              rw [hx] at this
              rw [List.nil_append, ← this]
              rfl
            have HB := hid hB
            clear hx hB hb hz
            go_wp2_with fail
            refine (put_rw HI.out.at_ x 64 64 (.inr (.inr ⟨rfl, by decide⟩)) (by simp)).mono ?_
            rintro e w2 ⟨rfl, v2, h2, k2, n2⟩
            go_wp2_with fail
            go_roundw
            case rel => exact ⟨1, 0, v2, _, by omega, rfl, rfl, by omega, by omega, HI.out.put h2 k2 n2, fun _ => HB.out, fun h => absurd h (by omega)⟩
            case measure => simp [intOf]; omega
          · obtain ⟨k, rfl⟩ : ∃ k', k = k' + 1 := ⟨k - 1, by omega⟩
            have Hb := hid (hb (by omega))
            clear hb hz h0
            have hkl : k + 1 < l.length := by have := HL.out; omega
            have hcx := int_cells (HS.out.stay HI.out.kept) (k + 1) hkl
            have hcy := int_cells (HS.out.stay HI.out.kept) k (by omega)
            have bx := HR.out (k + 1) hkl
            have by_ := HR.out k (by omega)
            simp only [Nat.add_sub_cancel] at bx
            obtain ⟨x, hx⟩ : ∃ x, l[k + 1] = x := ⟨_, rfl⟩
            obtain ⟨y, hy⟩ : ∃ y, l[k] = y := ⟨_, rfl⟩
            have hst := restB_step G hkl
            rw [hx] at hcx bx hst
            rw [hy] at hcy by_ bx hst
            have hyx : y < x := bx.2.2 (by omega)
            have x1 := bx.1
            have x2 := bx.2.1
            have y1 := by_.1
            have y2 := by_.2.1
            have Hst := hid hst
            have h00 : ((k : Int) + 1 == 0) = false := by simp; omega
            clear bx by_ hx hy hst hkl
            obtain ⟨E, hE⟩ : ∃ E, x - y - G = E := ⟨_, rfl⟩
            have HE := hid hE
            rcases wk_spec E with ⟨hwk, q0⟩ | ⟨hwk, q0, q1, q2⟩ | ⟨hwk, q0, q1, q2, q3⟩ | ⟨hwk, q0, q1, q2, q3, q4⟩ | ⟨hwk, q0, q1, q2, q3⟩
            · have HE0 : Hid (x - y - G = 0) := by have := HE.out; show _ = _; omega
              have f0 : E = 0 := by omega
              subst f0
              clear hwk
              go_wp2_with fail
              go_region
              replace HI := hid HI.out.drew
              go_wp2_with fail
              refine (put_rw HI.out.at_ 0 1 1 (.inr (.inr ⟨rfl, by decide⟩)) (by have := rest_few Hb.out (by have := HL.out; omega); omega)).mono ?_
              rintro e w2 ⟨rfl, v2, h2, k2, n2⟩
              have hI2 := HI.out.put h2 k2 n2
              have hb2 : (lw ++ bitsL (uN 0) 1) ++ restB l (k + 2) (x - y) = allB l := by
                rw [← Hb.out, Hst.out, HE0.out, List.append_assoc]
                rfl
              go_wp2_with fail
              go_roundw
              case rel => exact ⟨k + 2, x - y, v2, _, by omega, rfl, by go_num, by omega, by omega, hI2, fun _ => hb2, fun h => absurd h (by omega)⟩
              case measure => simp [intOf]; omega
            · have f0 : (E == 0) = false := by simp; omega
              have f1 : -63 ≤ E := by omega
              have f2 : E ≤ 64 := by omega
              have HF := hid hwk
              clear hwk
              go_wp2_with fail
              go_region
              replace HI := hid HI.out.drew
              go_wp2_with fail
              refine (put_rw HI.out.at_ 2 2 2 (.inr (.inr ⟨rfl, by decide⟩)) (by have := rest_few Hb.out (by have := HL.out; omega); omega)).mono ?_
              rintro e w2 ⟨rfl, v2, h2, k2, n2⟩
              have hI1 := hid (HI.out.put h2 k2 n2)
              go_wp2_with fail
              refine (put_rw hI1.out.at_ (E + 63) 7 7 (.inr (.inr ⟨rfl, by decide⟩)) (by simp [bitsL_length]; have := rest_few Hb.out (by have := HL.out; omega); omega)).mono ?_
              rintro e w3 ⟨rfl, v3, h3, k3, n3⟩
              have hI2 := hI1.out.put h3 k3 n3
              have hb2 : ((lw ++ bitsL (uN 2) 2) ++ bitsL (uN (E + 63)) 7) ++ restB l (k + 2) (x - y) = allB l := by
                have e1 := two_puts (l := lw) HF.out mk_1
                rw [← Hb.out, Hst.out, HE.out, ← List.append_assoc, e1]
                rfl
              go_wp2_with fail
              go_roundw
              case rel => exact ⟨k + 2, x - y, v3, _, by omega, rfl, by go_num, by omega, by omega, hI2, fun _ => hb2, fun h => absurd h (by omega)⟩
              case measure => simp [intOf]; omega
            · by_cases hn : E < 0
              · have f0 : (E == 0) = false := by simp; omega
                have d1 : ¬ -63 ≤ E := by omega
                have f1 : -255 ≤ E := by omega
                have f2 : E ≤ 256 := by omega
                have HF := hid hwk
                clear hwk
                go_wp2_with fail
                go_region
                replace HI := hid HI.out.drew
                go_wp2_with fail
                refine (put_rw HI.out.at_ 6 3 3 (.inr (.inr ⟨rfl, by decide⟩)) (by have := rest_few Hb.out (by have := HL.out; omega); omega)).mono ?_
                rintro e w2 ⟨rfl, v2, h2, k2, n2⟩
                have hI1 := hid (HI.out.put h2 k2 n2)
                go_wp2_with fail
                refine (put_rw hI1.out.at_ (E + 255) 9 9 (.inr (.inr ⟨rfl, by decide⟩)) (by simp [bitsL_length]; have := rest_few Hb.out (by have := HL.out; omega); omega)).mono ?_
                rintro e w3 ⟨rfl, v3, h3, k3, n3⟩
                have hI2 := hI1.out.put h3 k3 n3
                have hb2 : ((lw ++ bitsL (uN 6) 3) ++ bitsL (uN (E + 255)) 9) ++ restB l (k + 2) (x - y) = allB l := by
                  have e1 := two_puts (l := lw) HF.out mk_2
                  rw [← Hb.out, Hst.out, HE.out, ← List.append_assoc, e1]
                  rfl
                go_wp2_with fail
                go_roundw
                case rel => exact ⟨k + 2, x - y, v3, _, by omega, rfl, by go_num, by omega, by omega, hI2, fun _ => hb2, fun h => absurd h (by omega)⟩
                case measure => simp [intOf]; omega
              · have f0 : (E == 0) = false := by simp; omega
                have d1 : -63 ≤ E := by omega
                have g1 : ¬ E ≤ 64 := by omega
                have f1 : -255 ≤ E := by omega
                have f2 : E ≤ 256 := by omega
                have HF := hid hwk
                clear hwk
                go_wp2_with fail
                go_region
                replace HI := hid HI.out.drew
                go_wp2_with fail
                refine (put_rw HI.out.at_ 6 3 3 (.inr (.inr ⟨rfl, by decide⟩)) (by have := rest_few Hb.out (by have := HL.out; omega); omega)).mono ?_
                rintro e w2 ⟨rfl, v2, h2, k2, n2⟩
                have hI1 := hid (HI.out.put h2 k2 n2)
                go_wp2_with fail
                refine (put_rw hI1.out.at_ (E + 255) 9 9 (.inr (.inr ⟨rfl, by decide⟩)) (by simp [bitsL_length]; have := rest_few Hb.out (by have := HL.out; omega); omega)).mono ?_
                rintro e w3 ⟨rfl, v3, h3, k3, n3⟩
                have hI2 := hI1.out.put h3 k3 n3
                have hb2 : ((lw ++ bitsL (uN 6) 3) ++ bitsL (uN (E + 255)) 9) ++ restB l (k + 2) (x - y) = allB l := by
                  have e1 := two_puts (l := lw) HF.out mk_2
                  rw [← Hb.out, Hst.out, HE.out, ← List.append_assoc, e1]
                  rfl
                go_wp2_with fail
                go_roundw
                case rel => exact ⟨k + 2, x - y, v3, _, by omega, rfl, by go_num, by omega, by omega, hI2, fun _ => hb2, fun h => absurd h (by omega)⟩
                case measure => simp [intOf]; omega
            · by_cases hn : E < 0
              · have f0 : (E == 0) = false := by simp; omega
                have d1 : ¬ -63 ≤ E := by omega
                have d2 : ¬ -255 ≤ E := by omega
                have f1 : -2047 ≤ E := by omega
                have f2 : E ≤ 2048 := by omega
                have HF := hid hwk
                clear hwk
                go_wp2_with fail
                go_region
                replace HI := hid HI.out.drew
                go_wp2_with fail
                refine (put_rw HI.out.at_ 14 4 4 (.inr (.inr ⟨rfl, by decide⟩)) (by have := rest_few Hb.out (by have := HL.out; omega); omega)).mono ?_
                rintro e w2 ⟨rfl, v2, h2, k2, n2⟩
                have hI1 := hid (HI.out.put h2 k2 n2)
                go_wp2_with fail
                refine (put_rw hI1.out.at_ (E + 2047) 12 12 (.inr (.inr ⟨rfl, by decide⟩)) (by simp [bitsL_length]; have := rest_few Hb.out (by have := HL.out; omega); omega)).mono ?_
                rintro e w3 ⟨rfl, v3, h3, k3, n3⟩
                have hI2 := hI1.out.put h3 k3 n3
                have hb2 : ((lw ++ bitsL (uN 14) 4) ++ bitsL (uN (E + 2047)) 12) ++ restB l (k + 2) (x - y) = allB l := by
                  have e1 := two_puts (l := lw) HF.out mk_3
                  rw [← Hb.out, Hst.out, HE.out, ← List.append_assoc, e1]
                  rfl
                go_wp2_with fail
                go_roundw
                case rel => exact ⟨k + 2, x - y, v3, _, by omega, rfl, by go_num, by omega, by omega, hI2, fun _ => hb2, fun h => absurd h (by omega)⟩
                case measure => simp [intOf]; omega
              · have f0 : (E == 0) = false := by simp; omega
                have d1 : -63 ≤ E := by omega
                have g1 : ¬ E ≤ 64 := by omega
                have d2 : -255 ≤ E := by omega
                have g2 : ¬ E ≤ 256 := by omega
                have f1 : -2047 ≤ E := by omega
                have f2 : E ≤ 2048 := by omega
                have HF := hid hwk
                clear hwk
                go_wp2_with fail
                go_region
                replace HI := hid HI.out.drew
                go_wp2_with fail
                refine (put_rw HI.out.at_ 14 4 4 (.inr (.inr ⟨rfl, by decide⟩)) (by have := rest_few Hb.out (by have := HL.out; omega); omega)).mono ?_
                rintro e w2 ⟨rfl, v2, h2, k2, n2⟩
                have hI1 := hid (HI.out.put h2 k2 n2)
                go_wp2_with fail
                refine (put_rw hI1.out.at_ (E + 2047) 12 12 (.inr (.inr ⟨rfl, by decide⟩)) (by simp [bitsL_length]; have := rest_few Hb.out (by have := HL.out; omega); omega)).mono ?_
                rintro e w3 ⟨rfl, v3, h3, k3, n3⟩
                have hI2 := hI1.out.put h3 k3 n3
                have hb2 : ((lw ++ bitsL (uN 14) 4) ++ bitsL (uN (E + 2047)) 12) ++ restB l (k + 2) (x - y) = allB l := by
                  have e1 := two_puts (l := lw) HF.out mk_3
                  rw [← Hb.out, Hst.out, HE.out, ← List.append_assoc, e1]
                  rfl
                go_wp2_with fail
                go_roundw
                case rel => exact ⟨k + 2, x - y, v3, _, by omega, rfl, by go_num, by omega, by omega, hI2, fun _ => hb2, fun h => absurd h (by omega)⟩
                case measure => simp [intOf]; omega
            · by_cases hn : E < 0
              · have f0 : (E == 0) = false := by simp; omega
                have d1 : ¬ -63 ≤ E := by omega
                have d2 : ¬ -255 ≤ E := by omega
                have d3 : ¬ -2047 ≤ E := by omega
                have HF := hid hwk
                clear hwk
                go_wp2_with fail
                go_region
                replace HI := hid HI.out.drew
                go_wp2_with fail
                refine (put_rw HI.out.at_ 15 4 4 (.inr (.inr ⟨rfl, by decide⟩)) (by have := rest_few Hb.out (by have := HL.out; omega); omega)).mono ?_
                rintro e w2 ⟨rfl, v2, h2, k2, n2⟩
                have hI1 := hid (HI.out.put h2 k2 n2)
                go_wp2_with fail
                refine (put_rw hI1.out.at_ E 64 64 (.inr (.inr ⟨rfl, by decide⟩)) (by simp [bitsL_length]; have := rest_few Hb.out (by have := HL.out; omega); omega)).mono ?_
                rintro e w3 ⟨rfl, v3, h3, k3, n3⟩
                have hI2 := hI1.out.put h3 k3 n3
                have hb2 : ((lw ++ bitsL (uN 15) 4) ++ bitsL (uN E) 64) ++ restB l (k + 2) (x - y) = allB l := by
                  have e1 := two_puts (l := lw) HF.out mk_4
                  rw [show E + ws 4 = E from Int.add_zero E] at e1
                  rw [← Hb.out, Hst.out, HE.out, ← List.append_assoc, e1]
                  rfl
                go_wp2_with fail
                go_roundw
                case rel => exact ⟨k + 2, x - y, v3, _, by omega, rfl, by go_num, by omega, by omega, hI2, fun _ => hb2, fun h => absurd h (by omega)⟩
                case measure => simp [intOf]; omega
              · have f0 : (E == 0) = false := by simp; omega
                have d1 : -63 ≤ E := by omega
                have g1 : ¬ E ≤ 64 := by omega
                have d2 : -255 ≤ E := by omega
                have g2 : ¬ E ≤ 256 := by omega
                have d3 : -2047 ≤ E := by omega
                have g3 : ¬ E ≤ 2048 := by omega
                have HF := hid hwk
                clear hwk
                go_wp2_with fail
                go_region
                replace HI := hid HI.out.drew
                go_wp2_with fail
                refine (put_rw HI.out.at_ 15 4 4 (.inr (.inr ⟨rfl, by decide⟩)) (by have := rest_few Hb.out (by have := HL.out; omega); omega)).mono ?_
                rintro e w2 ⟨rfl, v2, h2, k2, n2⟩
                have hI1 := hid (HI.out.put h2 k2 n2)
                go_wp2_with fail
                refine (put_rw hI1.out.at_ E 64 64 (.inr (.inr ⟨rfl, by decide⟩)) (by simp [bitsL_length]; have := rest_few Hb.out (by have := HL.out; omega); omega)).mono ?_
                rintro e w3 ⟨rfl, v3, h3, k3, n3⟩
                have hI2 := hI1.out.put h3 k3 n3
                have hb2 : ((lw ++ bitsL (uN 15) 4) ++ bitsL (uN E) 64) ++ restB l (k + 2) (x - y) = allB l := by
                  have e1 := two_puts (l := lw) HF.out mk_4
                  rw [show E + ws 4 = E from Int.add_zero E] at e1
                  rw [← Hb.out, Hst.out, HE.out, ← List.append_assoc, e1]
                  rfl
                go_wp2_with fail
                go_roundw
                case rel => exact ⟨k + 2, x - y, v3, _, by omega, rfl, by go_num, by omega, by omega, hI2, fun _ => hb2, fun h => absurd h (by omega)⟩
                case measure => simp [intOf]; omega
        · have e : k = L := by omega
          have hw := HI.out.at_
          have hfull : lw = allB l := by
            by_cases h0 : k = 0
            · have el : l = [] := List.length_eq_zero_iff.1 (by have := HL.out; omega)
              rw [(hz h0).1, el]
              rfl
            · have := hb (by omega)
              rw [restB_end G (by omega) (by have := HL.out; omega), List.append_nil] at this
              exact this
          have HFu := hid hfull
          have hlw : lw.length ≤ 10000 := by
            rw [hfull]
            have := allB_length l
            have := HL.out
            omega
          clear hfull hb hz
          go_wp2_with fail
          refine (rbytes_any _ B vw lw hw.blk hw.own (by omega)).mono ?_
          rintro e w3 ⟨v3, rfl, h3, k3⟩
          go_wp2_with fail
          go_ret2
          have hs3 := HI.out.kept.size
          rw [← packL_length] at h3
          exact ⟨HI.out.kept.trans k3 (fun _ _ f => f), v3, packL lw, 0, rfl, .inr (.inr ⟨by have := HL.out; omega, HR.out, by rw [HFu.out], rfl⟩), own_base h3 hs3⟩
    · have hr' : Calls Try.prog 41 #[v] w fun e w' => Kept w w' ∧ e = .returned (.bool false) := hr.mono (by
        rintro e w' ⟨hk, ⟨_, hn⟩ | ⟨rfl, _⟩⟩
        · exact absurd hn hR
        · exact ⟨hk, rfl⟩)
      obtain ⟨L, hL⟩ : ∃ L, l.length = L := ⟨_, rfl⟩
      rw [hL] at e0 h120
      subst e0
      go_enter Try.func22, Try.ntmps22
      go_wp2_with fail
      refine hr'.mono ?_
      rintro e w1 ⟨hk1, rfl⟩
      go_wp2_with fail
      go_ret2
      exact ⟨hk1, _, [], 21, rfl, .inr (.inl ⟨by omega, hR, rfl, rfl⟩), World.ownsRow_nil _ _ _ _⟩
end Go.Proofs.Ytbhpmeeknbbmmaa.S
