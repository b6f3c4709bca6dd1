/-
  without, walked.
-/
import Derived.Test.YtmpkafmkkkpdeaaJids
namespace Go.Proofs.Ytmpkafmkkkpdeaa.J
open Go.RowKit Go.Proofs.Lys
set_option linter.unusedVariables false
set_option linter.unusedSimpArgs false

set_option maxRecDepth 100000 in
set_option maxHeartbeats 3200000 in
theorem without_any (w : World) (a : Option Addr) (L c : Nat) (l : List Rf) (v : Value) (ids : List Int) (hs : RfSrc w (.slice a L c) l) (hL : l.length = L) (hl : L ≤ 200) (hi : SrcOf w v (ids.map (Value.int .i64))) (hm : ids.length ≤ 100000)
    (hr : ∀ i j (hij : i < j) (hj : j < l.length), (l[i]'(Nat.lt_trans hij hj)).1 < l[j].1) :
    Calls Try.prog 20 #[.slice a L c, v] w (WithP w l ids) := by
  obtain ⟨R, hR⟩ : ∃ R, WithP w l ids = R := ⟨_, rfl⟩
  rw [hR]
  have HRR := hid hR
  have HS := hid hs
  have HL := hid hL
  have HM := hid hr
  obtain ⟨M, hM⟩ : ∃ M, ids.length = M := ⟨_, rfl⟩
  have HN := hid hM
  obtain ⟨a2, c2, rfl⟩ := hi.len
  rw [List.length_map, hM] at hi ⊢
  rw [hM] at hm
  have HI := hid hi
  have HBS : Hid (∀ W id, Kept w W → Calls Try.prog 25 #[.slice a L c, .int .i64 id, .func (.func 26) #[] #[]] W (FoundP l id W)) := hid (fun W id k => bsearch_any W a L c l id (HS.out.stay k) HL.out (by omega) HM.out)
  obtain ⟨i0, hi0, hz0, hz1, hz2⟩ := info_parts infoI6
  have hmk : ∀ w, (Instr.makeSlice 25 (.int .i64 (L : Int)) (.int .i64 (L : Int))).run Try.prog w = .ok (.slice (some ⟨w.heap.size, 0, none⟩) L L) (w.alloc (.cells (madeCells #[Value.int .i64 0] L) 3)) := fun w => by
    have := run_make (P := Try.prog) w 25 3 i0 (.int .i64 0) Try.underlying25 hi0 hz0 .i64 .i64 (L : Int) (L : Int) (by omega) (by omega) (by rw [hz2]; omega) (by omega)
    rw [hz1] at this
    simp only [Int.toNat_natCast, Nat.mul_one] at this
    exact this
  clear hs hL hr hR hi hM hi0 hz0 hz1 hz2 i0
  go_enter Try.func20, Try.ntmps20
  go_wp2
  go_loopw [19] (fun s w' => ∃ (j : Nat), j ≤ M ∧ s = .int .i64 (j : Int) ∧ Hid (w'.ownsRow w.heap.size 3 1 (.slice (some ⟨w.heap.size, 0, none⟩) L L) L ((cntL l ids j).map (Value.int .i64))) ∧ Hid (∀ i ∈ ids.take j, i ∈ l.map (·.1)) ∧ Kept w w') (fun s _ => M - (intOf s).toNat)
  case atStart =>
    refine ⟨0, by omega, rfl, ?_, hid (by intro i hi; simp at hi), (Only.refl _ w).alloc _⟩
    show World.ownsRow _ _ _ _ _ _ _
    rw [cntL_zero, HL.out, ← made_zeros]
    exact World.ownsRow_lit w _ L (Nat.le_refl _) (by unfold maxLen; omega) (by rw [size_madeCells]; omega)
  case round =>
    obtain ⟨j, hj, rfl, HW, HA, kr⟩ := hrel
    have KR := hid kr
    by_cases hlt : j < M
    · have hjl : j < ids.length := by have := HN.out; omega
      obtain ⟨id, hid0⟩ : ∃ id, ids[j] = id := ⟨_, rfl⟩
      have HID := hid hid0
      rcases (HI.out.stay kr).shape with ⟨hnil, _⟩ | ⟨hpos, b, o, c', e, hcell⟩
      · rw [List.map_eq_nil_iff.1 hnil] at hjl
        simp at hjl
      rw [List.length_map] at e
      simp only [Value.slice.injEq] at e
      obtain ⟨rfl, hLe, rfl⟩ := e
      clear hLe
      have hx0 : wr.cell? ⟨b, o + j, none⟩ = some (.int .i64 id) := hcell j _ (by rw [List.getElem?_map, List.getElem?_eq_getElem hjl, hid0]; rfl)
      have hb : b < wr.heap.size := World.block_lt_of_cell? wr _ hx0
      have HB := hid (HBS.out wr id kr)
      clear hcell hpos kr hid0
      go_wp2_with fail
      refine HB.out.mono ?_
      clear hx0 hb
      rintro e w2 (⟨p, hp, hpe, rfl, k2⟩ | ⟨hno, p, rfl, k2⟩)
      · have hpL : p < L := by have := HL.out; omega
        obtain ⟨X, hX⟩ : ∃ X : Nat, (ids.take j).count l[p].1 = X := ⟨_, rfl⟩
        have hX2 : X ≤ 100000 := by rw [← hX]; exact Nat.le_trans List.count_le_length (by rw [List.length_take]; omega)
        have hrow := own_only HW.out k2 (fun _ _ f => f)
        have y0 : w2.cell? ⟨w.heap.size, p, none⟩ = some (.int .i64 (X : Int)) := by
          rw [hrow.cellAt p (by omega), List.getElem?_map, cntL_at _ _ _ _ hp, hX]
          rfl
        have g0 : w2.frozen? ⟨w.heap.size, p, none⟩ = false := hrow.frozenAt p
        have hb2 : w.heap.size < w2.heap.size := World.block_lt_of_cell? w2 _ y0
        have HW2 : Hid ((w2.setCell ⟨w.heap.size, p, none⟩ (.int .i64 ((X : Int) + 1))).ownsRow w.heap.size 3 1 (.slice (some ⟨w.heap.size, 0, none⟩) L L) L ((cntL l ids (j + 1)).map (Value.int .i64))) := by
          have h1 := (hrow.stored p (.int .i64 ((X : Int) + 1))).1
          rw [← List.map_set, ← hX, ← cntL_step l ids j p hjl hp (by rw [HID.out]; exact hpe) (fun i hi he => ?_)] at h1
          · rw [← hX]; exact h1
          · rcases Nat.lt_trichotomy i p with h | h | h
            · have := HM.out i p h hp; omega
            · exact h
            · have := HM.out p i h hi; omega
        have HA2 : Hid (∀ i ∈ ids.take (j + 1), i ∈ l.map (·.1)) := hid (fun i hi => by
          rw [List.take_add_one, List.getElem?_eq_getElem hjl, Option.toList_some] at hi
          rcases List.mem_append.1 hi with hi | hi
          · exact HA.out i hi
          · have : i = ids[j] := by simpa using hi
            rw [this, HID.out, ← hpe]
            exact List.mem_map.2 ⟨_, List.getElem_mem hp, rfl⟩)
        have HK2 : Hid (Kept w (w2.setCell ⟨w.heap.size, p, none⟩ (.int .i64 ((X : Int) + 1)))) := hid ((KR.out.trans k2 (fun _ _ f => f)).setCell (fun h => by simp at h) _)
        have hwX : IntKind.i64.wrap ((X : Int) + 1) = (X : Int) + 1 := by rw [IntKind.wrap_i64]; omega
        clear hrow k2 hX hpe HB HW HA
        go_wp2
        go_roundw
        case rel => exact ⟨j + 1, by omega, by go_num, HW2.out, HA2.out, HK2.out⟩
        case measure => simp [intOf]; omega
      · have HF : Hid (R (.returned (.tuple #[.slice none 0 0, .int .i64 6])) w2) := hid (by
          rw [← HRR.out]
          refine with_no (ids_lost (i := id) (by rw [← HID.out]; exact List.getElem_mem hjl) hno) (by decide) (KR.out.trans k2 (fun _ _ f => f)))
        clear k2 hno HB
        go_wp2
        exact HF.out
    · have hje : j = M := by omega
      subst hje
      rw [List.take_of_length_le (by have := HN.out; omega)] at HA
      by_cases hj0 : j = 0
      · have HF : Hid (R (.returned (.tuple #[.slice none 0 0, .int .i64 6])) wr) := hid (by
          rw [← HRR.out]
          have : ids = [] := List.length_eq_zero_iff.1 (by rw [HN.out]; exact hj0)
          rw [this]
          exact with_no ids_nil (by decide) kr)
        subst hj0
        go_wp2
        exact HF.out
      · have hjb : ((j : Int) == 0) = false := by simpa using hj0
        have HNE : Hid (ids ≠ []) := hid (fun e => hj0 (by rw [← HN.out, e]; rfl))
        have HC : Hid (cntL l ids j = l.map (fun x => (ids.count x.1 : Int))) := hid (by unfold cntL; rw [List.take_of_length_le (by have := HN.out; omega)])
        rw [HC.out] at HW
        go_wp2
        go_loopw [43, 11] (fun s t w' => ∃ (k : Nat), k ≤ L ∧ s = .int .i64 (k : Int) ∧ RfAt w' (w.heap.size + 1) t (keptL (l.take k) ids) ∧ Hid (w'.ownsRow w.heap.size 3 1 (.slice (some ⟨w.heap.size, 0, none⟩) L L) L ((l.map (fun x => (ids.count x.1 : Int))).map (Value.int .i64))) ∧ Hid (∀ i (hi : i < l.length), i < k → ids.count l[i].1 ≤ 1) ∧ Kept w w' ∧ w.heap.size + 1 ≤ w'.heap.size) (fun s _ _ => L - (intOf s).toNat)
        case atStart => exact ⟨0, by omega, rfl, ⟨rfl, .inl ⟨rfl, rfl⟩⟩, HW, hid (fun i _ h => absurd h (Nat.not_lt_zero _)), kr, by have := (HW.out.lt w.heap.size rfl).2; omega⟩
        case round =>
          obtain ⟨k, hk, rfl, hat, HW3, HO, kr3, hsz⟩ := hrel
          have hlen := kept_len l ids k
          obtain ⟨a4, c4, rfl⟩ := ownN_slice hat
          obtain ⟨Q, hQ⟩ : ∃ Q, (keptL (l.take k) ids).length = Q := ⟨_, rfl⟩
          have HAT := hid hat
          have HQ := hid hQ
          rw [hQ] at HAT hlen ⊢
          have KR3 := hid kr3
          clear hat hQ HW
          by_cases hkl : k < L
          · have hkl2 : k < l.length := by have := HL.out; omega
            obtain ⟨b, o, e0, p0, p1, p2, p3⟩ := (HS.out.stay kr3).cell HL.out k hkl
            subst e0
            obtain ⟨x, hx⟩ : ∃ x, l[k] = x := ⟨_, rfl⟩
            have HX := hid hx
            rw [hx] at p0 p1 p2 p3
            obtain ⟨C, hC⟩ : ∃ C : Nat, ids.count x.1 = C := ⟨_, rfl⟩
            have HCC := hid hC
            have y0 : wr.cell? ⟨w.heap.size, k, none⟩ = some (.int .i64 (C : Int)) := by
              rw [HW3.out.cellAt k (by omega), List.getElem?_map, List.getElem?_map, List.getElem?_eq_getElem hkl2, hx]
              show some (Value.int .i64 ((ids.count x.1 : Nat) : Int)) = _
              rw [hC]
            obtain ⟨i, lv, f, t⟩ := x
            simp only at p0 p1 p2 p3
            have hb : b < wr.heap.size := World.block_lt_of_cell? wr _ p0
            have hb0 : w.heap.size < wr.heap.size := hsz
            clear hx hC kr3
            by_cases h1 : 1 < C
            · have HF : Hid (R (.returned (.tuple #[.slice none 0 0, .int .i64 1])) (wr.alloc (rfO (i, lv, f, t)))) := hid (by
                rw [← HRR.out]
                exact with_no (ids_twice HNE.out HA.out (by rw [HCC.out]; exact h1)) (by decide) (KR3.out.alloc _))
              go_wp2
              exact HF.out
            · have HO2 : Hid (∀ i (hi : i < l.length), i < k + 1 → ids.count l[i].1 ≤ 1) := hid (fun i hi hik => by
                rcases Nat.lt_or_eq_of_le (Nat.le_of_lt_succ hik) with h | h
                · exact HO.out i hi h
                · subst h
                  rw [HX.out, HCC.out]
                  omega)
              have kz : Kept wr (wr.alloc (rfO (i, lv, f, t))) := (Only.refl _ wr).alloc _
              have HW5 := hid (own_only HW3.out kz (fun _ _ f => f))
              have h5 : RfAt (wr.alloc (rfO (i, lv, f, t))) (w.heap.size + 1) (.slice a4 Q c4) (keptL (l.take k) ids) := ownN_stay HAT.out kz
              have hs5 : w.heap.size + 1 ≤ (wr.alloc (rfO (i, lv, f, t))).heap.size := Nat.le_trans hsz kz.size
              by_cases h0 : C = 0
              · have HKS : Hid (keptL (l.take (k + 1)) ids = keptL (l.take k) ids ++ [(i, lv, f, t)]) := hid (by rw [kept_step l ids k hkl2, HX.out, HCC.out, if_pos h0])
                obtain ⟨g, cap, w6, Hr, h6, ho6⟩ := rf_one h5 hs5 (i, lv, f, t) (by have := HL.out; rw [HQ.out]; omega)
                rw [HQ.out] at Hr h6
                rw [World.size_alloc] at Hr
                have hnO : ¬ (Value.slice a4 Q c4).ownBlock = some w.heap.size := fun e => by have := (ownN_lt h5 e).1; omega
                have HW6 := hid (own_only HW5.out ho6 (fun b hb e => by
                  have : b = w.heap.size := by simpa [Value.ownBlock] using hb.symm
                  subst this
                  exact hnO e))
                have HK6 : Hid (Kept w w6) := hid ((KR3.out.trans kz (fun _ _ f => f)).trans ho6 (fun q hq e => by have := (ownN_lt h5 e).1; omega))
                have HS6 := hid (Nat.le_trans hs5 ho6.size)
                have H6 := hid h6
                subst h0
                clear h5 ho6 h6 hnO HW5 HAT kz hs5
                go_wp2_with (at_builtin; refine wpList_append_run rfl _ _ _ rfl rfl rfl Hr ?_)
                go_roundw
                case rel => exact ⟨k + 1, by omega, by go_num, by rw [HKS.out]; exact H6.out, HW6, HO2, HK6.out, HS6.out⟩
                case measure => simp [intOf]; omega
              · have HKS : Hid (keptL (l.take (k + 1)) ids = keptL (l.take k) ids) := hid (by rw [kept_step l ids k hkl2, HX.out, HCC.out, if_neg h0, List.append_nil])
                have h0b : ((C : Int) == 0) = false := by simpa using h0
                have H5 := hid h5
                have HS5 := hid hs5
                have HK5 := hid (KR3.out.trans kz (fun _ _ f => f))
                clear h5 hs5 kz
                go_wp2
                go_roundw
                case rel => exact ⟨k + 1, by omega, by go_num, by rw [HKS.out]; exact H5.out, HW5, HO2, HK5.out, HS5.out⟩
                case measure => simp [intOf]; omega
          · have hke : k = L := by omega
            subst hke
            have HF : Hid (R (.returned (.tuple #[.slice a4 Q c4, .int .i64 0])) wr) := hid (by
              rw [← HRR.out]
              have h0 := ids_once HNE.out HA.out (fun i hi => HO.out i hi (by have := HL.out; omega))
              refine ⟨.slice a4 Q c4, by rw [h0], ?_, kr3⟩
              rw [h0, if_pos rfl]
              have := HAT.out
              rw [List.take_of_length_le (by have := HL.out; omega)] at this
              exact ownN_base this (Nat.le_add_right _ 1))
            go_wp2
            exact HF.out
end Go.Proofs.Ytmpkafmkkkpdeaa.J
