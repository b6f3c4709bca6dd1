/-
  Which blocks are put together next: the document's words, and its own Pick.
-/
import Derived.Test.YtmpkafmkkkpdeaaJlib
namespace Go.Proofs.Ytmpkafmkkkpdeaa.J
open Go.RowKit Go.Proofs.Lys
set_option linter.unusedVariables false

def lvl (n : Int) (l : List Rf) : List Int := (l.filter (fun x => decide (x.2.1 = n))).map (fun x => x.1)
def pickL (l : List Rf) : Nat → Nat → List Int
  | _, 0 => []
  | n, k + 1 => if 4 ≤ (lvl n l).length then (lvl n l).take 4 else pickL l (n + 1) k
def pickO (m : Man) : List Int := if chkO m = 0 then pickL m.bl 0 21 else []
theorem lvl_nil (n : Int) : lvl n [] = [] := rfl
theorem lvl_yes {n : Int} {l : List Rf} {j : Nat} (hj : j < l.length) (h : l[j].2.1 = n) : lvl n (l.take (j + 1)) = lvl n (l.take j) ++ [l[j].1] := by
  unfold lvl
  rw [List.take_add_one, List.getElem?_eq_getElem hj, Option.toList_some, List.filter_append, List.map_append]
  simp [h]
theorem lvl_no {n : Int} {l : List Rf} {j : Nat} (hj : j < l.length) (h : ¬ l[j].2.1 = n) : lvl n (l.take (j + 1)) = lvl n (l.take j) := by
  unfold lvl
  rw [List.take_add_one, List.getElem?_eq_getElem hj, Option.toList_some, List.filter_append, List.map_append]
  simp [h]
theorem take4_go {q : List Int} {x : Int} (h : (q.take 4).length < 4) : (q ++ [x]).take 4 = q.take 4 ++ [x] := by
  rw [List.length_take] at h
  rw [List.take_of_length_le (l := q) (by omega), List.take_of_length_le (by simp; omega)]
theorem take4_full {q : List Int} {x : Int} (h : ¬ (q.take 4).length < 4) : (q ++ [x]).take 4 = q.take 4 := by
  rw [List.length_take] at h
  rw [List.take_append_of_le_length (by omega)]
/-- A row of numbers that is owned. -/
def IntAt (w : World) (B : Nat) (v : Value) (q : List Int) : Prop := w.ownsRow B 3 1 v q.length (q.map (Value.int .i64))
def fourL (n : Int) (l : List Rf) (j : Nat) : List Int := (lvl n (l.take j)).take 4
/-- What a Pick leaves. -/
def PickP (w : World) (ids : List Int) (e : Ending) (w' : World) : Prop := ∃ v, e = .returned v ∧ w'.ownsRow w.heap.size 3 1 v ids.length (ids.map (Value.int .i64)) ∧ Kept w w'
theorem pick_nil {w w' : World} (h : Kept w w') : PickP w [] (.returned (.slice none 0 0)) w' := ⟨_, rfl, World.ownsRow_nil w' w.heap.size 3 1, h⟩
theorem pick_four (l : List Rf) (n k : Nat) (h : ((lvl n l).take 4).length = 4) : pickL l n (k + 1) = (lvl n l).take 4 := by
  rw [List.length_take] at h
  rw [pickL, if_pos (by omega)]
theorem pick_next (l : List Rf) (n k : Nat) (h : ¬ ((lvl n l).take 4).length = 4) : pickL l n (k + 1) = pickL l (n + 1) k := by
  rw [List.length_take] at h
  rw [pickL, if_neg (by omega)]

set_option maxRecDepth 100000 in
set_option maxHeartbeats 4000000 in
theorem rpick_any (w : World) (a : Option Addr) (c : Nat) (m : Man) (hs : RfSrc w (.slice a m.bl.length c) m.bl) :
    Calls Try.prog 16 #[manV (.slice a m.bl.length c) m] w (PickP w (pickO m)) := by
  have HC := hid (rcheck_any (w.alloc (manO a m.bl.length c m.next m.log m.low)) a c m (hs.stay ((Only.refl _ w).alloc _)))
  have HLE : Hid (chkO m = 0 → m.bl.length ≤ 200) := by
    intro h
    unfold chkO at h
    split at h
    · cases h
    · omega
  obtain ⟨l, N, G, Lo⟩ := m
  obtain ⟨q, hq⟩ : ∃ q, chkO ⟨l, N, G, Lo⟩ = q := ⟨_, rfl⟩
  unfold pickO
  rw [hq] at HC HLE ⊢
  unfold manV at HC ⊢
  have HS := hid hs
  obtain ⟨L, hL⟩ : ∃ L, l.length = L := ⟨_, rfl⟩
  have HL := hid hL
  simp only at HS HC HLE ⊢
  rw [hL] at HS HC HLE ⊢
  clear hs hL hq
  have HK := hid (show Kept w (w.alloc (manO a L c N G Lo)) from (Only.refl _ w).alloc _)
  have HB := hid (Blk.new w [.slice a L c, .int .i64 N, .int .i64 G, .int .i64 Lo] 24)
  by_cases hz : q = 0
  · rw [if_pos hz]
    have HLE2 := hid (HLE.out hz)
    subst hz
    go_enter Try.func16, Try.ntmps16
    go_wp2_with fail
    refine HC.out.mono ?_
    rintro e w2 ⟨rfl, k2⟩
    have K2 := hid (HK.out.trans k2 (fun _ _ f => f))
    have hB2 := HB.out.of_block (k2.block w.heap.size (by simp) (fun f => f))
    have M0 := hid (hB2.cell 0 rfl)
    have HZ := hid hB2.lt
    clear HC k2 hB2 HB HK HLE
    go_wp2
    go_loopw [3] (fun s w' => ∃ (n : Nat), n ≤ 21 ∧ s = .int .i64 (n : Int) ∧ pickL l n (21 - n) = pickL l 0 21 ∧ Kept w2 w') (fun s _ => 21 - (intOf s).toNat)
    case atStart => exact ⟨0, by omega, rfl, rfl, Only.refl _ _⟩
    case round =>
      obtain ⟨n, hn, rfl, hr, kr⟩ := hrel
      by_cases hlt : n < 21
      · have HR := hid hr
        have KR := hid kr
        clear hr kr
        go_wp2
        go_loopw [4, 5] (fun s t w' => ∃ (j : Nat), j ≤ L ∧ t = .int .i64 (j : Int) ∧ IntAt w' w2.heap.size s (fourL n l j) ∧ Kept w2 w') (fun _ t _ => L - (intOf t).toNat)
        case atStart => exact ⟨0, by omega, rfl, World.ownsRow_nil _ _ _ _, KR.out⟩
        case round =>
          obtain ⟨j, hj, rfl, ho, kr⟩ := hrel
          obtain ⟨acc, hacc⟩ : ∃ acc, acc = (lvl n (l.take j)).take 4 := ⟨_, rfl⟩
          unfold fourL at ho
          rw [← hacc] at ho
          unfold IntAt at ho
          have hl200 := HLE2.out
          have KR2 := hid kr
          have n0 := each_cell kr _ _ M0.out
          have hsz : w.heap.size < wr.heap.size := Nat.lt_of_lt_of_le HZ.out kr.size
          obtain ⟨a4, c4, rfl⟩ := own_slice ho
          have HO := hid ho
          obtain ⟨A, hA⟩ : ∃ A, acc.length = A := ⟨_, rfl⟩
          have HA := hid hA
          have HAC := hid hacc
          have hA4 : A ≤ 4 := by rw [← hA, hacc, List.length_take]; omega
          rw [hA] at HO ⊢
          clear ho hA hacc kr
          by_cases hjl : j < L
          · obtain ⟨b, o, rfl, c0, c1, c2, c3⟩ := (HS.out.stay (K2.out.trans KR2.out (fun _ _ f => f))).cell HL.out j hjl
            have hkl : j < l.length := by have := HL.out; omega
            obtain ⟨x, hx⟩ : ∃ x, l[j] = x := ⟨_, rfl⟩
            have HX := hid hx
            rw [hx] at c0 c1 c2 c3
            obtain ⟨i, lv, f, t⟩ := x
            clear hx c2 c3
            have hb : b < wr.heap.size := World.block_lt_of_cell? wr _ c0
            by_cases g1 : lv = (n : Int)
            · by_cases g2 : A < 4
              · have HN : Hid (acc ++ [i] = (lvl n (l.take (j + 1))).take 4) := by
                  show _ = _
                  have hl : (List.take 4 (lvl (↑n) (List.take j l))).length < 4 := by rw [← HAC.out, HA.out]; exact g2
                  rw [lvl_yes hkl (by rw [HX.out]; exact g1), take4_go hl, ← HAC.out, HX.out]
                  try rfl
                have HO2 := HO.out
                rw [← HA.out] at HO2
                obtain ⟨g, cap, w1, Hr, ho1, hon, _⟩ := own_num HO2 KR2.out.size (by have := HA.out; omega) i
                rw [HA.out] at Hr ho1
                have HO1 := hid ho1
                have KN : Hid (Kept w2 w1) := KR2.out.trans hon (fun k hk e => by have := (HO2.lt k e).1; omega)
                clear ho1 hon HO2
                subst g1
                go_wp2_with (at_builtin; refine wpList_append_run rfl _ _ _ rfl rfl rfl Hr ?_)
                go_roundw
                case rel => exact ⟨j + 1, by omega, by go_num, by unfold fourL IntAt; rw [← HN.out]; exact HO1.out, KN.out⟩
                case measure => simp [intOf]; omega
              · have HN : Hid (acc = (lvl n (l.take (j + 1))).take 4) := by
                  show _ = _
                  have hl : ¬ (List.take 4 (lvl (↑n) (List.take j l))).length < 4 := by rw [← HAC.out, HA.out]; exact g2
                  rw [lvl_yes hkl (by rw [HX.out]; exact g1), take4_full hl, ← HAC.out]
                subst g1
                go_wp2
                go_roundw
                case rel => exact ⟨j + 1, by omega, by go_num, by unfold fourL IntAt; rw [← HN.out, HA.out]; exact HO.out, KR2.out⟩
                case measure => simp [intOf]; omega
            · have HN : Hid (acc = (lvl n (l.take (j + 1))).take 4) := by
                show _ = _
                rw [lvl_no hkl (by rw [HX.out]; exact g1), ← HAC.out]
              have g1' : (lv == (n : Int)) = false := by simp; exact g1
              go_wp2
              go_roundw
              case rel => exact ⟨j + 1, by omega, by go_num, by unfold fourL IntAt; rw [← HN.out, HA.out]; exact HO.out, KR2.out⟩
              case measure => simp [intOf]; omega
          · have hje : j = L := by omega
            have HN : Hid (acc = (lvl n l).take 4) := by
              show _ = _
              rw [HAC.out, List.take_of_length_le (l := l) (by have := HL.out; omega)]
            subst hje
            by_cases g3 : A = 4
            · have HV : Hid (acc = pickL l 0 21) := by
                show _ = _
                have h4 : (List.take 4 (lvl (↑n) l)).length = 4 := by rw [← HN.out, HA.out]; exact g3
                rw [← HR.out, show 21 - n = (20 - n) + 1 by omega, pick_four l n _ h4]
                exact HN.out
              subst g3
              go_wp2
              go_ret
              rw [← HV.out]
              refine ⟨_, rfl, ?_, K2.out.trans KR2.out (fun _ _ f => f)⟩
              rw [HA.out]
              exact own_base HO.out K2.out.size
            · have HV : Hid (pickL l (n + 1) (21 - (n + 1)) = pickL l 0 21) := by
                show _ = _
                have h4 : ¬ (List.take 4 (lvl (↑n) l)).length = 4 := by rw [← HN.out, HA.out]; exact g3
                rw [← HR.out, show 21 - n = (21 - (n + 1)) + 1 by omega, pick_next l n _ h4]
              go_wp2
              go_roundw
              case rel => exact ⟨n + 1, by omega, by go_num, HV.out, KR2.out⟩
              case measure => simp [intOf]; omega
      · have e : n = 21 := by omega
        subst e
        have HV : Hid ([] = pickL l 0 21) := hr
        clear hr
        go_wp2
        go_ret
        rw [← HV.out]
        exact pick_nil (K2.out.trans kr (fun _ _ f => f))
  · rw [if_neg hz]
    go_enter Try.func16, Try.ntmps16
    go_wp2_with fail
    refine HC.out.mono ?_
    rintro e w2 ⟨rfl, k2⟩
    have K2 := hid (HK.out.trans k2 (fun _ _ f => f))
    clear HC k2 HB HK
    go_wp2
    go_ret
    exact pick_nil K2.out
end Go.Proofs.Ytmpkafmkkkpdeaa.J
