/-
  Package resample: the document's own Points, walked.
-/
import Derived.Test.YtjjmidooikgaaaaPtrp0
namespace Go.Proofs.Ytjjmidooikgaaaa.Rs
open Go Go.RowKit Go.Proofs.Lys
open Ru (In64 one okT T0 Rising infoI6)
set_option linter.unusedVariables false
set_option linter.unusedSimpArgs false

/-- The two rows. -/
structure RowsA (W : World) (B hb n : Nat) (C : Nat → Option Int) : Prop where
  has : W.ownsRow B 4 1 (.slice (some ⟨hb, 0, none⟩) n n) n (hasL C n)
  val : W.ownsRow B 3 1 (.slice (some ⟨hb + 1, 0, none⟩) n n) n ((valL C n).map (Value.int .i64))
theorem RowsA.stay {W W' : World} {B hb n : Nat} {C : Nat → Option Int} (h : RowsA W B hb n C) (k : Kept W W') : RowsA W' B hb n C := ⟨ownN_stay h.has k, ownN_stay h.val k⟩
theorem RowsA.ext {W : World} {B hb n : Nat} {C D : Nat → Option Int} (h : RowsA W B hb n C) (e : ∀ k, k < n → C k = D k) : RowsA W B hb n D :=
  ⟨by rw [← hasL_ext e]; exact h.has, by rw [← valL_ext e]; exact h.val⟩
theorem RowsA.hit {W : World} {B hb n : Nat} {C D : Nat → Option Int} (h : RowsA W B hb n C) {k : Nat} {v : Int} (hk : k < n) (h1 : D k = some v) (h2 : ∀ j, j ≠ k → C j = D j) :
    RowsA ((W.setCell ⟨hb, k, none⟩ (.bool true)).setCell ⟨hb + 1, k, none⟩ (.int .i64 v)) B hb n D := by
  have g1 := (h.has.stored k (.bool true)).1
  rw [hasL_set h1 h2] at g1
  have o1 : Only (fun j => j = hb) W (W.setCell ⟨hb, k, none⟩ (.bool true)) := (Only.refl (fun j => j = hb) W).setCell (fun _ => rfl) _
  have v1 := ownN_only h.val o1 (fun b e => by have : hb + 1 = b := by simpa [Value.ownBlock] using e
                                               show ¬ b = hb
                                               omega)
  have g2 := (v1.stored k (.int .i64 v)).1
  rw [← List.map_set, valL_set h1 h2] at g2
  have o2 : Only (fun j => j = hb + 1) (W.setCell ⟨hb, k, none⟩ (.bool true)) ((W.setCell ⟨hb, k, none⟩ (.bool true)).setCell ⟨hb + 1, k, none⟩ (.int .i64 v)) := (Only.refl (fun j => j = hb + 1) _).setCell (fun _ => rfl) _
  exact ⟨ownN_only g1 o2 (fun b e => by have : hb = b := by simpa [Value.ownBlock] using e
                                        show ¬ b = hb + 1
                                        omega), g2⟩

set_option maxRecDepth 100000 in
set_option maxHeartbeats 6400000 in
theorem rpoints_any (w : World) (a : Option Addr) (L c : Nat) (l : Smps) (f s n : Int) (hs : SSrc w (.slice a L c) l) (hL : l.length = L) (hl : L ≤ 90000) :
    Calls Try.prog 9 #[.slice a L c, .int .i64 f, .int .i64 s, .int .i64 n] w (RPtsP w l f s n) := by
  obtain ⟨R, hR⟩ : ∃ R, RPtsP w l f s n = R := ⟨_, rfl⟩
  rw [hR]
  have HRR := hid hR
  by_cases hb : n < 0 ∨ 10000 < n ∨ f < -9007199254740992 ∨ 9007199254740992 < f ∨ s < 1 ∨ 9007199254740992 < s
  · have HF : Hid (R (.returned (.tuple #[.slice none 0 0, .int .i64 0, .int .i64 1])) w) := hid (by
      rw [← HRR.out]
      exact ⟨Only.refl _ _, 1, .inl ⟨hb, rfl⟩, .inl ⟨by decide, rfl⟩⟩)
    exact rpts_bad w _ f s n R HF hb
  have HT := hid (Ru.rtimes_any w a c L l hs.1 hL (by omega))
  have h1 : ¬ s < 1 := by omega
  have h2 : ¬ 9007199254740992 < s := by omega
  have h3 : ¬ n < 0 := by omega
  have h4 : ¬ 10000 < n := by omega
  have h5 : ¬ f < -9007199254740992 := by omega
  have h6 : ¬ 9007199254740992 < f := by omega
  have HB := hid hb
  have HS := hid hs
  have HL := hid hL
  clear hb hs hL hR
  go_enter Try.func9, Try.ntmps9
  go_wp2_with fail
  refine HT.out.mono ?_
  rintro e w2 ⟨v, rfl, hv, k2⟩
  have HRI := hid (Ru.rrising_any w2 v (l.map (·.1)) hv (by rw [List.length_map]; have := HL.out; omega))
  have K2 := hid k2
  obtain ⟨va, vc, hve⟩ := hv.len
  rw [List.length_map, List.length_map, HL.out] at hve
  subst hve
  clear hv k2 HT
  go_wp2_with fail
  refine HRI.out.mono ?_
  rintro e w3 ⟨k3, ⟨rfl, hri⟩ | ⟨rfl, hri⟩⟩
  · have HOK : Hid (okT T0 (l.map one)) := hid ((Ru.rising_okT _ l rfl).1 hri)
    have K3 := hid (K2.out.trans k3 (fun _ _ f => f))
    have HM := hid (mono_ok HOK.out)
    obtain ⟨N, hN⟩ : ∃ N : Nat, n = (N : Int) := ⟨n.toNat, by omega⟩
    subst hN
    clear hri k3 HRI
    obtain ⟨C, hC⟩ : ∃ C, cell f s l = C := ⟨_, rfl⟩
    have HC := hid hC
    have HNN : Hid (((N : Int)).toNat = N) := hid (Int.toNat_natCast N)
    have HN5 : Hid (N ≤ 10000) := hid (by omega)
    obtain ⟨i0, hi0, hz0, hz1, hz2⟩ := info_parts infoI6
    obtain ⟨i1, hi1, hy0, hy1, hy2⟩ := info_parts infoB21
    have hmk : ∀ w, (Instr.makeSlice 24 (.int .i64 (N : Int)) (.int .i64 (N : Int))).run Try.prog w = .ok (.slice (some ⟨w.heap.size, 0, none⟩) N N) (w.alloc (.cells (madeCells #[Value.int .i64 0] N) 3)) := fun w => by
      have := run_make (P := Try.prog) w 24 3 i0 (.int .i64 0) Try.underlying24 hi0 hz0 .i64 .i64 (N : Int) (N : Int) (by omega) (by omega) (by rw [hz2]; omega) (by omega)
      rw [hz1] at this
      simp only [Int.toNat_natCast, Nat.mul_one] at this
      exact this
    have hmb : ∀ w, (Instr.makeSlice 43 (.int .i64 (N : Int)) (.int .i64 (N : Int))).run Try.prog w = .ok (.slice (some ⟨w.heap.size, 0, none⟩) N N) (w.alloc (.cells (madeCells #[Value.bool false] N) 4)) := fun w => by
      have := run_make (P := Try.prog) w 43 4 i1 (.bool false) Try.underlying43 hi1 hy0 .i64 .i64 (N : Int) (N : Int) (by omega) (by omega) (by rw [hy2]; omega) (by omega)
      rw [hy1] at this
      simp only [Int.toNat_natCast, Nat.mul_one] at this
      exact this
    obtain ⟨hb, hhb⟩ : ∃ hb, w3.heap.size = hb := ⟨_, rfl⟩
    have hmb3 := hmb w3
    obtain ⟨w4, hw4⟩ : ∃ w4, w3.alloc (.cells (madeCells #[Value.bool false] N) 4) = w4 := ⟨_, rfl⟩
    have hsz4 : w4.heap.size = hb + 1 := by rw [← hw4, ← hhb]; simp
    rw [hw4, hhb] at hmb3
    have hmk4 := hmk w4
    obtain ⟨w5, hw5⟩ : ∃ w5, w4.alloc (.cells (madeCells #[Value.int .i64 0] N) 3) = w5 := ⟨_, rfl⟩
    rw [hw5, hsz4] at hmk4
    have hk4 : Kept w3 w4 := by rw [← hw4]; exact (Only.refl _ w3).alloc _
    have hk5 : Kept w4 w5 := by rw [← hw5]; exact (Only.refl _ w4).alloc _
    have HROWS : Hid (RowsA w5 hb hb N (fun _ => none)) := hid (by
      constructor
      · have h : w4.ownsRow hb 4 1 (.slice (some ⟨hb, 0, none⟩) N N) N (hasL (fun _ => none) N) := by
          rw [← made_false, ← hw4, ← hhb]
          exact World.ownsRow_lit w3 _ N (Nat.le_refl _) (by unfold maxLen; omega) (by rw [size_madeCells]; omega)
        exact ownN_stay h hk5
      · have h0 : valL (fun _ => none) N = rowF (fun _ => 0) N := rfl
        have h : w5.ownsRow (hb + 1) 3 1 (.slice (some ⟨hb + 1, 0, none⟩) N N) N ((valL (fun _ => none) N).map (Value.int .i64)) := by
          rw [h0, ← made_zeros, ← hw5, ← hsz4]
          exact World.ownsRow_lit w4 _ N (Nat.le_refl _) (by unfold maxLen; omega) (by rw [size_madeCells]; omega)
        exact ownN_base h (by omega))
    have K5 := hid (K3.out.trans (hk4.trans hk5 (fun _ _ f => f)) (fun _ _ f => f))
    have HBW : Hid (w.heap.size ≤ hb) := hid (by rw [← hhb]; exact K3.out.size)
    clear hmk hmb hi0 hz0 hz1 hz2 i0 hi1 hy0 hy1 hy2 i1 hw4 hw5 hk4 hk5 hhb hsz4 hC
    go_wp2_with fail
    go_loopw [14] (fun s14 W => ∃ i : Nat, i ≤ L ∧ s14 = .int .i64 (i : Int) ∧ Hid (RowsA W hb hb N (cell f s (l.take i))) ∧ Kept w W) (fun s14 _ => L - (intOf s14).toNat)
    case atStart => exact ⟨0, by omega, rfl, HROWS, K5.out⟩
    case round =>
      obtain ⟨i, hi, rfl, HR3, kr⟩ := hrel
      have KR := hid kr
      by_cases hlt : i < L
      · have hil : i < l.length := by have := HL.out; omega
        obtain ⟨b, o, e0, c0, c1⟩ := ((HS.out.stay kr).1).cell HL.out i hlt
        obtain ⟨⟨T, V⟩, hx⟩ : ∃ x, l[i] = x := ⟨_, rfl⟩
        rw [hx] at c0 c1
        simp only at c0 c1
        have HX := hid hx
        subst e0
        have hbT := HM.out.2 l[i] (List.getElem_mem hil)
        rw [hx] at hbT
        simp only at hbT
        have hbw : b < w.heap.size := by
          obtain ⟨b', o', e', c0', _⟩ := (HS.out.1).cell HL.out i hlt
          simp only [Option.some.injEq, Addr.mk.injEq, and_true] at e'
          obtain ⟨rfl, rfl⟩ := e'
          exact World.block_lt_of_cell? w _ c0'
        have hbne : ¬ b = hb := by have := HBW.out; omega
        have hbne2 : ¬ hb = b := fun e => hbne e.symm
        clear hx kr hbw
        by_cases hTf : T < f
        · have HR4 : Hid (RowsA wr hb hb N (cell f s (l.take (i + 1)))) := hid (by
            rw [cell_low hil (by omega) (by rw [HX.out]; exact hTf)]
            exact HR3.out)
          clear HR3
          go_wp2_with fail
          go_roundw
          case rel => exact ⟨i + 1, by omega, by go_num, HR4, KR.out⟩
          case measure => simp [intOf]; omega
        · have hq0 : 0 ≤ (T - f) / s := Int.ediv_nonneg (by omega) (by omega)
          obtain ⟨K, hK⟩ : ∃ K : Nat, (T - f) / s = (K : Int) := ⟨((T - f) / s).toNat, by omega⟩
          have hKt : (T - f).tdiv s = (K : Int) := by rw [Int.tdiv_eq_ediv_of_nonneg (by omega)]; exact hK
          have hKb : (K : Int) ≤ 18014398509481984 := by
            rw [← hK]
            have := Int.ediv_le_self s (show 0 ≤ T - f by omega)
            omega
          have hs0 : s ≠ 0 := by omega
          have hH := cell_hit hil (show 1 ≤ s by omega) (show f ≤ l[i].1 by rw [HX.out]; show f ≤ T; omega) (by rw [HX.out]; exact hK)
          rw [HX.out] at hH
          have HH := hid hH
          clear hH hK hq0
          by_cases hKN : K < N
          · have hHas := HR3.out.has
            have hVal := HR3.out.val
            have y0 : wr.cell? ⟨hb, K, none⟩ = some (.bool (cell f s (l.take i) K).isSome) := by
              rw [hHas.cellAt K (by omega)]
              exact hasL_at _ _ _ hKN
            have g0 : wr.frozen? ⟨hb, K, none⟩ = false := hHas.frozenAt K
            have y1 : wr.cell? ⟨hb + 1, K, none⟩ = some (.int .i64 ((cell f s (l.take i) K).getD 0)) := by
              rw [hVal.cellAt K (by omega)]
              exact valL_at _ _ _ hKN
            have g1 : wr.frozen? ⟨hb + 1, K, none⟩ = false := hVal.frozenAt K
            have HR4 : Hid (RowsA ((wr.setCell ⟨hb, K, none⟩ (.bool true)).setCell ⟨hb + 1, K, none⟩ (.int .i64 V)) hb hb N (cell f s (l.take (i + 1)))) := hid (HR3.out.hit hKN HH.out.1 HH.out.2)
            have K6 : Hid (Kept w ((wr.setCell ⟨hb, K, none⟩ (.bool true)).setCell ⟨hb + 1, K, none⟩ (.int .i64 V))) := hid ((KR.out.setCell (fun h => by have := HBW.out; simp at h; omega) _).setCell (fun h => by have := HBW.out; simp at h; omega) _)
            clear HR3 hHas hVal
            generalize (cell f s (l.take i) K).isSome = u0 at y0
            generalize (cell f s (l.take i) K).getD 0 = u1 at y1
            have c2 : (wr.setCell ⟨hb, K, none⟩ (.bool true)).cell? ⟨b, o + i * 2 + 1, none⟩ = some (.int .i64 V) := by
              rw [World.cell?_of_block (w := wr) (w' := wr.setCell ⟨hb, K, none⟩ (.bool true)) (a := ⟨b, o + i * 2 + 1, none⟩) (Below.heap_setCell wr _ _ b (fun e => hbne e))]
              exact c1
            go_wp2_with fail
            go_roundw
            case rel => exact ⟨i + 1, by omega, by go_num, HR4, K6.out⟩
            case measure => simp [intOf]; omega
          · have HR4 : Hid (RowsA wr hb hb N (cell f s (l.take (i + 1)))) := hid (HR3.out.ext (fun j hj => HH.out.2 j (by omega)))
            clear HR3
            go_wp2_with fail
            go_roundw
            case rel => exact ⟨i + 1, by omega, by go_num, HR4, KR.out⟩
            case measure => simp [intOf]; omega
      · have e : i = L := by omega
        subst e
        have HR5 : Hid (RowsA wr hb hb N C) := hid (by
          have h := HR3.out
          rw [List.take_of_length_le (by have := HL.out; omega), HC.out] at h
          exact h)
        clear HR3 kr
        have HA : Hid (wr.ownsRow hb 4 1 (.slice (some ⟨hb, 0, none⟩) N N) N (hasL C N)) := hid HR5.out.has
        have HV : Hid (wr.ownsRow hb 3 1 (.slice (some ⟨hb + 1, 0, none⟩) N N) N ((rowF (fil1 C 0 0) N).map (Value.int .i64))) := hid (by
          have h : valL C N = rowF (fil1 C 0 0) N := rowF_ext (fun j hj => by unfold fil1; rw [if_neg (by omega)])
          rw [← h]
          exact HR5.out.val)
        clear HR5
        have hn5 := HN5.out
        go_wp2_with fail
        go_loopw [18, 16, 17] (fun s18 s16 s17 W => ∃ (k G F : Nat) (z : Int), k ≤ N ∧ G ≤ k ∧ s18 = .int .i64 (k : Int) ∧ s16 = .int .i64 (G : Int) ∧ s17 = .int .i64 z ∧ W = wr ∧ Hid (G = gapC C k ∧ Fst C N k F ∧ z = zF N F)) (fun s18 _ _ _ => N - (intOf s18).toNat)
        case atStart => exact ⟨0, 0, N, -1, by omega, by omega, rfl, rfl, rfl, rfl, hid ⟨rfl, .inl ⟨rfl, fun j hj => absurd hj (Nat.not_lt_zero j)⟩, by unfold zF; rw [if_neg (by omega)]⟩⟩
        case round =>
          obtain ⟨k, G, F, z, hk, hG, rfl, rfl, rfl, hW, HE⟩ := hrel
          subst hW
          by_cases hkN : k < N
          · have y0 : wr.cell? ⟨hb, k, none⟩ = some (.bool (C k).isSome) := by
              rw [HA.out.cellAt k (by omega)]
              exact hasL_at _ _ _ hkN
            cases hck : C k with
            | none =>
              rw [hck] at y0
              have HE2 : Hid (G + 1 = gapC C (k + 1) ∧ Fst C N (k + 1) F ∧ z = zF N F) := hid ⟨by rw [gap_none hck, HE.out.1], HE.out.2.1.none hck, HE.out.2.2⟩
              clear hck HE
              simp only [Option.isSome_none] at y0
              go_wp2_with fail
              go_roundw
              case rel => exact ⟨k + 1, G + 1, F, z, by omega, by omega, by go_num, by go_num, rfl, by trivial, HE2⟩
              case measure => simp [intOf]; omega
            | some v =>
              rw [hck] at y0
              simp only [Option.isSome_some] at y0
              have hE1 : G = gapC C (k + 1) := by rw [gap_some hck, HE.out.1]
              have hE2 := HE.out.2.1.some hkN hck
              have hz := HE.out.2.2
              have hFle := HE.out.2.1
              by_cases hFN : F < N
              · have hzF : z = (F : Int) := by rw [hz]; unfold zF; rw [if_pos hFN]
                have hkF : ¬ k < F := by
                  rcases hFle with ⟨h, _⟩ | ⟨h, _⟩ <;> omega
                rw [if_neg hkF] at hE2
                have HE2 : Hid (G = gapC C (k + 1) ∧ Fst C N (k + 1) F ∧ z = zF N F) := hid ⟨hE1, hE2, hz⟩
                have hz0 : ¬ z < 0 := by omega
                clear hck HE hE1 hE2 hz hFle hkF hzF hFN
                go_wp2_with fail
                go_roundw
                case rel => exact ⟨k + 1, G, F, z, by omega, by omega, by go_num, rfl, rfl, by trivial, HE2⟩
                case measure => simp [intOf]; omega
              · have hzF : z = -1 := by rw [hz]; unfold zF; rw [if_neg hFN]
                have hkF : k < F := by
                  rcases hFle with ⟨h, _⟩ | ⟨h, _⟩ <;> omega
                rw [if_pos hkF] at hE2
                have HE2 : Hid (G = gapC C (k + 1) ∧ Fst C N (k + 1) k ∧ (k : Int) = zF N k) := hid ⟨hE1, hE2, by unfold zF; rw [if_pos hkN]⟩
                have hz0 : z < 0 := by omega
                clear hck HE hE1 hE2 hz hFle hkF hzF hFN
                go_wp2_with fail
                go_roundw
                case rel => exact ⟨k + 1, G, k, (k : Int), by omega, by omega, by go_num, rfl, rfl, by trivial, HE2⟩
                case measure => simp [intOf]; omega
          · have hkn : N = k := by omega
            subst hkn
            have hEk := HE.out
            have HG := hid hEk.1
            have HFS := hid hEk.2.1
            have hz := hEk.2.2
            clear hEk HE
            by_cases hFN : F < N
            · have hzF : z = (F : Int) := by rw [hz]; unfold zF; rw [if_pos hFN]
              subst hzF
              have hF0 : ¬ (F : Int) < 0 := by omega
              obtain ⟨P, hP⟩ : ∃ P, nowC C (F + 1) = P := ⟨_, rfl⟩
              have HP := hid hP
              have hCF : Hid (∃ v, C F = some v) := hid (by
                rcases HFS.out with ⟨h, _⟩ | ⟨_, h, _⟩
                · omega
                · exact Option.isSome_iff_exists.1 h)
              have HV0 : Hid (wr.ownsRow hb 3 1 (.slice (some ⟨hb + 1, 0, none⟩) N N) N ((rowF (fil1 C F 0) N).map (Value.int .i64))) := hid (by
                have h : rowF (fil1 C F 0) N = rowF (fil1 C 0 0) N := rowF_ext (fun j hj => by unfold fil1; rw [if_neg (by omega), if_neg (by omega)])
                rw [h]
                exact HV.out)
              clear hP hz HV hkN
              go_wp2_with fail
              go_loopw [19] (fun s19 W => ∃ q : Nat, q ≤ F ∧ s19 = .int .i64 (q : Int) ∧ Hid (W.ownsRow hb 4 1 (.slice (some ⟨hb, 0, none⟩) N N) N (hasL C N)) ∧ Hid (W.ownsRow hb 3 1 (.slice (some ⟨hb + 1, 0, none⟩) N N) N ((rowF (fil1 C F q) N).map (Value.int .i64))) ∧ Kept w W) (fun s19 _ => F - (intOf s19).toNat)
              case atStart => exact ⟨0, by omega, rfl, HA, HV0, KR.out⟩
              case round =>
                clear HA HV0
                obtain ⟨q, hq, rfl, HA, HV, kr3⟩ := hrel
                have KR3 := hid kr3
                clear kr3
                by_cases hqF : q < F
                · have y0 : wr.cell? ⟨hb + 1, F, none⟩ = some (.int .i64 P) := by
                    have hCv := hCF.out
                    obtain ⟨v, hv⟩ := hCv
                    rw [HV.out.cellAt F (by omega), List.getElem?_map, List.getElem?_eq_getElem (by rw [rowF_len]; exact hFN), rowF_get]
                    show some (Value.int .i64 (fil1 C F q F)) = _
                    unfold fil1
                    rw [if_neg (by omega), hv, ← HP.out, now_some hv]
                    rfl
                  have y1 : wr.cell? ⟨hb + 1, q, none⟩ = some (.int .i64 (fil1 C F q q)) := by
                    rw [HV.out.cellAt q (by omega), List.getElem?_map, List.getElem?_eq_getElem (by rw [rowF_len]; omega), rowF_get]
                    rfl
                  have g0 : wr.frozen? ⟨hb + 1, q, none⟩ = false := HV.out.frozenAt q
                  have HV2 : Hid ((wr.setCell ⟨hb + 1, q, none⟩ (.int .i64 P)).ownsRow hb 3 1 (.slice (some ⟨hb + 1, 0, none⟩) N N) N ((rowF (fil1 C F (q + 1)) N).map (Value.int .i64))) := hid (by
                    have h1 := (HV.out.stored q (.int .i64 P)).1
                    rw [← List.map_set, ← HP.out, fil1_step C N F q, HP.out] at h1
                    exact h1)
                  have HA2 : Hid ((wr.setCell ⟨hb + 1, q, none⟩ (.int .i64 P)).ownsRow hb 4 1 (.slice (some ⟨hb, 0, none⟩) N N) N (hasL C N)) := hid (ownN_only HA.out ((Only.refl (fun j => j = hb + 1) _).setCell (fun _ => rfl) _) (fun b e => by
                    have : hb = b := by simpa [Value.ownBlock] using e
                    show ¬ b = hb + 1
                    omega))
                  have K6 : Hid (Kept w (wr.setCell ⟨hb + 1, q, none⟩ (.int .i64 P))) := hid (KR3.out.setCell (fun h => by have := HBW.out; simp at h; omega) _)
                  generalize fil1 C F q q = u1 at y1
                  clear HV HA
                  go_wp2_with fail
                  go_roundw
                  case rel => exact ⟨q + 1, by omega, by go_num, HA2, HV2, K6.out⟩
                  case measure => simp [intOf]; omega
                · have hqF2 : q = F := by omega
                  have HV3 : Hid (wr.ownsRow hb 3 1 (.slice (some ⟨hb + 1, 0, none⟩) N N) N ((rowF (fil2 C F (F + 1)) N).map (Value.int .i64))) := hid (by
                    have hCv := hCF.out
                    obtain ⟨v, hv⟩ := hCv
                    rw [← fil12 hv]
                    have h := HV.out
                    rw [hqF2] at h
                    exact h)
                  subst hqF2
                  clear HV
                  go_wp2_with fail
                  go_loopw [20] (fun s20 W => ∃ i : Nat, q + 1 ≤ i ∧ i ≤ N ∧ s20 = .int .i64 (i : Int) ∧ Hid (W.ownsRow hb 4 1 (.slice (some ⟨hb, 0, none⟩) N N) N (hasL C N)) ∧ Hid (W.ownsRow hb 3 1 (.slice (some ⟨hb + 1, 0, none⟩) N N) N ((rowF (fil2 C q i) N).map (Value.int .i64))) ∧ Kept w W) (fun s20 _ => N - (intOf s20).toNat)
                  case atStart => exact ⟨q + 1, by omega, by omega, by go_num, HA, HV3, KR3.out⟩
                  case round =>
                    clear HA HV3
                    obtain ⟨i, hqi, hiN, rfl, HA, HV, kr4⟩ := hrel
                    have KR4 := hid kr4
                    clear kr4
                    by_cases hlt : i < N
                    · have y0 : wr.cell? ⟨hb, i, none⟩ = some (.bool (C i).isSome) := by
                        rw [HA.out.cellAt i (by omega)]
                        exact hasL_at _ _ _ hlt
                      cases hci : C i with
                      | some v =>
                        rw [hci] at y0
                        simp only [Option.isSome_some] at y0
                        have HV2 : Hid (wr.ownsRow hb 3 1 (.slice (some ⟨hb + 1, 0, none⟩) N N) N ((rowF (fil2 C q (i + 1)) N).map (Value.int .i64))) := hid (by
                          rw [← fil2_some hci (by omega)]
                          exact HV.out)
                        clear hci HV
                        go_wp2_with fail
                        go_roundw
                        case rel => exact ⟨i + 1, by omega, by omega, by go_num, HA, HV2, KR4.out⟩
                        case measure => simp [intOf]; omega
                      | none =>
                        rw [hci] at y0
                        simp only [Option.isSome_none] at y0
                        obtain ⟨i1, hi1⟩ : ∃ i1, i - 1 = i1 := ⟨_, rfl⟩
                        have hii : (i : Int) - 1 = (i1 : Int) := by omega
                        have hi1N : i1 < N := by omega
                        obtain ⟨U, hU⟩ : ∃ U, outC C q i1 = U := ⟨_, rfl⟩
                        have z0 : wr.cell? ⟨hb + 1, i1, none⟩ = some (.int .i64 U) := by
                          rw [HV.out.cellAt i1 (by omega), List.getElem?_map, List.getElem?_eq_getElem (by rw [rowF_len]; exact hi1N), rowF_get]
                          show some (Value.int .i64 (fil2 C q i i1)) = _
                          unfold fil2
                          rw [if_pos (by omega), hU]
                        have y1 : wr.cell? ⟨hb + 1, i, none⟩ = some (.int .i64 (fil2 C q i i)) := by
                          rw [HV.out.cellAt i (by omega), List.getElem?_map, List.getElem?_eq_getElem (by rw [rowF_len]; omega), rowF_get]
                          rfl
                        have g0 : wr.frozen? ⟨hb + 1, i, none⟩ = false := HV.out.frozenAt i
                        have HV2 : Hid ((wr.setCell ⟨hb + 1, i, none⟩ (.int .i64 U)).ownsRow hb 3 1 (.slice (some ⟨hb + 1, 0, none⟩) N N) N ((rowF (fil2 C q (i + 1)) N).map (Value.int .i64))) := hid (by
                          have h1 := (HV.out.stored i (.int .i64 U)).1
                          rw [← List.map_set, ← hU, ← hi1, fil2_none hci (by omega) hlt, hi1, hU] at h1
                          exact h1)
                        have HA2 : Hid ((wr.setCell ⟨hb + 1, i, none⟩ (.int .i64 U)).ownsRow hb 4 1 (.slice (some ⟨hb, 0, none⟩) N N) N (hasL C N)) := hid (ownN_only HA.out ((Only.refl (fun j => j = hb + 1) _).setCell (fun _ => rfl) _) (fun b e => by
                          have : hb = b := by simpa [Value.ownBlock] using e
                          show ¬ b = hb + 1
                          omega))
                        have K6 : Hid (Kept w (wr.setCell ⟨hb + 1, i, none⟩ (.int .i64 U))) := hid (KR4.out.setCell (fun h => by have := HBW.out; simp at h; omega) _)
                        generalize fil2 C q i i = u1 at y1
                        clear HV HA hci hi1 hU
                        go_wp2_with fail
                        go_roundw
                        case rel => exact ⟨i + 1, by omega, by omega, by go_num, HA2, HV2, K6.out⟩
                        case measure => simp [intOf]; omega
                    · have hiN2 : i = N := by omega
                      have HF : Hid (R (.returned (.tuple #[.slice (some ⟨hb + 1, 0, none⟩) N N, .int .i64 (G : Int), .int .i64 0])) wr) := hid (by
                        rw [← HRR.out]
                        refine ⟨KR4.out, 0, .inr ⟨by omega, by omega, by omega, by omega, by omega, by omega, .inr ⟨HOK.out, rfl⟩⟩, .inr ⟨rfl, q, ?_, .inr ⟨?_, .slice (some ⟨hb + 1, 0, none⟩) N N, ?_, ?_⟩⟩⟩
                        · rw [HNN.out, HC.out]; exact HFS.out
                        · rw [HNN.out]; exact hFN
                        · rw [HNN.out, HC.out, ← HG.out]
                        · have h := own_src HV.out
                          rw [hiN2] at h
                          rw [fil2_all] at h
                          rw [HNN.out, HC.out]
                          exact h)
                      subst hiN2
                      clear HV HA
                      go_wp2_with fail
                      (try simp only [Exit.inBlock, Exit.then])
                      refine bodyPost_ret (results_tmp3 rfl _ _ _) rfl ?_
                      exact HF.out
            · have hzF : z = -1 := by rw [hz]; unfold zF; rw [if_neg hFN]
              have hFe : F = N := by
                rcases HFS.out with ⟨h, _⟩ | ⟨h, _⟩ <;> omega
              have HF : Hid (R (.returned (.tuple #[.slice none 0 0, .int .i64 (G : Int), .int .i64 0])) wr) := hid (by
                rw [← HRR.out]
                refine ⟨KR.out, 0, .inr ⟨by omega, by omega, by omega, by omega, by omega, by omega, .inr ⟨HOK.out, rfl⟩⟩, .inr ⟨rfl, F, ?_, .inl ⟨?_, ?_⟩⟩⟩
                · rw [HNN.out, HC.out]; exact HFS.out
                · rw [HNN.out]; exact hFe
                · rw [HNN.out, HC.out, ← HG.out])
              subst hzF
              clear hz hFe HV HA
              go_wp2_with fail
              (try simp only [Exit.inBlock, Exit.then])
              refine bodyPost_ret (results_tmp3 rfl _ _ _) rfl ?_
              exact HF.out
  · have HF : Hid (R (.returned (.tuple #[.slice none 0 0, .int .i64 0, .int .i64 21])) w3) := hid (by
      rw [← HRR.out]
      exact ⟨K2.out.trans k3 (fun _ _ f => f), 21, .inr ⟨by omega, by omega, by omega, by omega, by omega, by omega, .inl ⟨fun h => hri ((Ru.rising_okT _ l rfl).2 h), rfl⟩⟩, .inl ⟨by decide, rfl⟩⟩)
    clear hri k3 HRI
    go_wp2_with fail
    (try simp only [Exit.inBlock, Exit.then])
    refine bodyPost_ret (results_tmp3 rfl _ _ _) rfl ?_
    exact HF.out
end Go.Proofs.Ytjjmidooikgaaaa.Rs
