/-
  Swap, walked.
-/
import Derived.Test.YtmpkafmkkkpdeaaJwith
namespace Go.Proofs.Ytmpkafmkkkpdeaa.J
open Go.RowKit Go.Proofs.Lys
set_option linter.unusedVariables false
set_option linter.unusedSimpArgs false

theorem swap_bad {m : Man} {ids : List Int} {lv f t q : Int} (h : chkO m = q) (hq : q ≠ 0) : swapQ m ids lv f t = (manZ, 0, q) := by
  unfold swapQ
  rw [h, if_neg hq]
theorem swap_ids {m : Man} {ids : List Int} {lv f t x : Int} (h : chkO m = 0) (hx : idsE m.bl ids = x) (hq : x ≠ 0) : swapQ m ids lv f t = (manZ, 0, x) := by
  unfold swapQ
  rw [if_pos h, hx, if_neg hq]
theorem swap_yes {m : Man} {ids : List Int} {lv f t : Int} (h : chkO m = 0) (hx : idsE m.bl ids = 0) : swapQ m ids lv f t = newQ (keptM m ids) lv f t := by
  unfold swapQ
  rw [if_pos h, if_pos hx]
theorem set4 (w : World) (b : Nat) (v0 v1 v2 v3 : Value) {w0 : World} (k : Kept w0 w) (hb : w0.heap.size ≤ b) : Kept w0 ((((w.setCell ⟨b, 0, none⟩ v0).setCell ⟨b, 1, none⟩ v1).setCell ⟨b, 2, none⟩ v2).setCell ⟨b, 3, none⟩ v3) :=
  (((k.setCell (fun h => by simp at h; omega) _).setCell (fun h => by simp at h; omega) _).setCell (fun h => by simp at h; omega) _).setCell (fun h => by simp at h; omega) _
theorem set4_row {w : World} {b B : Nat} {v : Value} {l : List Rf} (h : RfAt w B v l) (v0 v1 v2 v3 : Value) (hb : b < B) : RfAt ((((w.setCell ⟨b, 0, none⟩ v0).setCell ⟨b, 1, none⟩ v1).setCell ⟨b, 2, none⟩ v2).setCell ⟨b, 3, none⟩ v3) B v l := by
  refine ownN_block h (fun q hq => ?_)
  have hq2 := (ownN_lt h hq).1
  have hne : ∀ p : Addr, p.block = b → q ≠ p.block := fun p hp => by rw [hp]; omega
  rw [Below.heap_setCell _ _ _ q (hne _ rfl), Below.heap_setCell _ _ _ q (hne _ rfl), Below.heap_setCell _ _ _ q (hne _ rfl), Below.heap_setCell _ _ _ q (hne _ rfl)]

set_option maxRecDepth 100000 in
set_option maxHeartbeats 1600000 in
theorem swap_any (w : World) (a : Option Addr) (c : Nat) (m : Man) (v : Value) (ids : List Int) (lv f t : Int) (hs : RfSrc w (.slice a m.bl.length c) m.bl) (hi : SrcOf w v (ids.map (Value.int .i64))) (hm : ids.length ≤ 100000) :
    Calls Try.prog 9 #[manV (.slice a m.bl.length c) m, v, .int .i64 lv, .int .i64 f, .int .i64 t] w (TurnP w (swapQ m ids lv f t)) := by
  obtain ⟨R, hR⟩ : ∃ R, TurnP w (swapQ m ids lv f t) = R := ⟨_, rfl⟩
  rw [hR]
  have HRR := hid hR
  have HS := hid hs
  have HC : Hid (∀ W, Kept w W → Calls Try.prog 17 #[manV (.slice a m.bl.length c) m] W fun e w' => e = .returned (.int .i64 (chkO m)) ∧ Kept W w') := hid (fun W k => check_any W a c m (HS.out.stay k))
  have HWI : Hid (∀ W, Kept w W → chkO m = 0 → Calls Try.prog 20 #[.slice a m.bl.length c, v] W (WithP W m.bl ids)) := hid (fun W k h => without_any W a _ c m.bl v ids (HS.out.stay k) rfl (chk_len h) (hi.stay k) hm (fun i j hij hj => chk_rise h i j hij hj))
  have HLE : Hid (chkO m = 0 → (keptL m.bl ids).length ≤ 200 ∧ 1 ≤ m.next ∧ m.next ≤ 1099511627776) := hid (fun h => ⟨chk_len (chk_kept ids h), chk_next h⟩)
  have HSB : Hid (∀ q, chkO m = q → q ≠ 0 → swapQ m ids lv f t = (manZ, 0, q)) := hid (fun q h hq => swap_bad h hq)
  have HSI : Hid (∀ x, chkO m = 0 → idsE m.bl ids = x → x ≠ 0 → swapQ m ids lv f t = (manZ, 0, x)) := hid (fun x h hx hq => swap_ids h hx hq)
  have HSY : Hid (chkO m = 0 → idsE m.bl ids = 0 → swapQ m ids lv f t = newQ ⟨keptL m.bl ids, m.next, m.log, m.low⟩ lv f t) := hid (fun h hx => swap_yes h hx)
  generalize swapQ m ids lv f t = QQ at HRR HSB HSI HSY
  obtain ⟨q, hq⟩ : ∃ q, chkO m = q := ⟨_, rfl⟩
  rw [hq] at HLE HC HWI HSB HSI HSY
  obtain ⟨l, N, G, Lo⟩ := m
  unfold manV at HC ⊢
  simp only at HC HWI HLE HSI HSY ⊢
  obtain ⟨L, hLe⟩ : ∃ L, l.length = L := ⟨_, rfl⟩
  rw [hLe] at HC HWI ⊢
  obtain ⟨x, hx⟩ : ∃ x, idsE l ids = x := ⟨_, rfl⟩
  have HX := hid hx
  rw [hx] at HSI HSY
  obtain ⟨KL, hKL⟩ : ∃ KL, keptL l ids = KL := ⟨_, rfl⟩
  have HKL := hid hKL
  rw [hKL] at HSY HLE
  clear hs hR hLe hq HS hx hKL
  obtain ⟨w2, hw2⟩ : ∃ W, (w.alloc (manO a L c N G Lo)).alloc (manO none 0 0 0 0 0) = W := ⟨_, rfl⟩
  have HK2 : Hid (Kept w w2) := by rw [← hw2]; exact hid (((Only.refl _ w).alloc _).alloc _)
  have HB2 : Hid (Blk w2 w.heap.size [.slice a L c, .int .i64 N, .int .i64 G, .int .i64 Lo] 24) := by
    rw [← hw2]
    exact (Blk.new w [.slice a L c, .int .i64 N, .int .i64 G, .int .i64 Lo] 24).alloc _
  have HZ2 : Hid (Blk w2 (w.heap.size + 1) [.slice none 0 0, .int .i64 0, .int .i64 0, .int .i64 0] 24) := by
    rw [← hw2]
    have := Blk.new (w.alloc (manO a L c N G Lo)) [.slice none 0 0, .int .i64 0, .int .i64 0, .int .i64 0] 24
    rw [World.size_alloc] at this
    exact hid this
  have HW2 := hid hw2
  obtain ⟨a2, c2, rfl⟩ := hi.len
  obtain ⟨M, hM⟩ : ∃ M, (ids.map (Value.int .i64)).length = M := ⟨_, rfl⟩
  rw [hM] at HWI ⊢
  clear hw2 hi hM
  go_enter Try.func9, Try.ntmps9
  go_wp2_with fail
  rw [HW2.out]
  refine (HC.out w2 HK2.out).mono ?_
  rintro e w3 ⟨rfl, k3⟩
  have K3 := hid (HK2.out.trans k3 (fun _ _ f => f))
  have hB3 := Only.blk k3 HB2.out (fun f => f)
  have hZ3 := Only.blk k3 HZ2.out (fun f => f)
  have HB3 := hid hB3
  have HZ3 := hid hZ3
  have b0 := hB3.cell 0 rfl
  have hlt7 := hB3.lt
  have hlt8 := hZ3.lt
  clear k3 HC HW2 HK2 HB2 HZ2 hB3
  by_cases hz : q = 0
  · subst hz
    have HN3 := hid (HWI.out w3 K3.out rfl)
    have HLE0 := hid (HLE.out rfl)
    have HSI0 : Hid (x ≠ 0 → QQ = (manZ, 0, x)) := hid (fun h => HSI.out x rfl rfl h)
    have HSY0 : Hid (x = 0 → QQ = newQ ⟨KL, N, G, Lo⟩ lv f t) := hid (fun h => HSY.out rfl h)
    clear HWI HSB hZ3 HLE HSI HSY
    go_wp2_with fail
    refine HN3.out.mono ?_
    rintro e w4 ⟨v4, rfl, h4, k4⟩
    rw [HX.out, HKL.out] at h4
    have K4 := hid (K3.out.trans k4 (fun _ _ f => f))
    have hB4 := Only.blk k4 HB3.out (fun f => f)
    have hZ4 := Only.blk k4 HZ3.out (fun f => f)
    have HZ4 := hid hZ4
    have hlt9 := hB4.lt
    have hlt10 := hZ4.lt
    rw [HX.out]
    by_cases hx : x = 0
    · subst hx
      rw [if_pos rfl] at h4
      have HQ1 := hid (HSY0.out rfl)
      obtain ⟨KN, hKN⟩ : ∃ KN, KL.length = KN := ⟨_, rfl⟩
      have h4' := h4
      unfold RfAt at h4'
      rw [hKN] at h4'
      obtain ⟨a4, c4, rfl⟩ := ownN_slice h4'
      have hB5 := hB4.set 0 (.slice a4 KN c4)
      have b0 := hB4.cell 0 rfl
      have f0 := hB4.frozen 0
      have b1 := hB4.cell 1 rfl
      have b2 := hB4.cell 2 rfl
      have b3 := hB4.cell 3 rfl
      have hZ5 := hZ4.other (a := ⟨w.heap.size, 0, none⟩) (by simp) (.slice a4 KN c4)
      have hk5 : Kept w (w4.setCell ⟨w.heap.size, 0, none⟩ (.slice a4 KN c4)) := K4.out.setCell (fun h => by simp at h) _
      have hsz3 : w.heap.size < w3.heap.size := HB3.out.lt
      have h5 : RfAt (w4.setCell ⟨w.heap.size, 0, none⟩ (.slice a4 KN c4)) w3.heap.size (.slice a4 KN c4) KL := ownN_block h4 (fun q hq => Below.heap_setCell w4 _ _ q (fun e => by have := (ownN_lt h4 hq).1; simp at e; omega))
      obtain ⟨w5, hw5⟩ : ∃ W, w4.setCell ⟨w.heap.size, 0, none⟩ (.slice a4 KN c4) = W := ⟨_, rfl⟩
      rw [hw5] at hB5 hZ5 hk5 h5
      have HAD := hid (added_any w5 a4 c4 ⟨KL, N, G, Lo⟩ lv f t (by show RfSrc w5 (.slice a4 KL.length c4) KL; rw [hKN]; exact h5.src) HLE0.out.1 HLE0.out.2.1 HLE0.out.2.2)
      rw [← HQ1.out] at HAD
      unfold manV at HAD
      simp only at HAD
      rw [hKN] at HAD
      have HW5 := hid hw5
      have HZ5 := hid hZ5
      have HK5 := hid hk5
      have hlt11 := hZ5.lt
      clear HSI0 HSY0 HLE0 HN3 HQ1 hKN h4 h4' hB5 hZ5 hk5 h5 hw5 hB4 hZ4 k4
      go_wp2_with fail
      rw [HW5.out]
      refine HAD.out.mono ?_
      rintro e w6 ⟨v6, rfl, h6, k6⟩
      obtain ⟨⟨l6, N6, G6, Lo6⟩, id6, x6⟩ := QQ
      simp only at h6 ⊢
      obtain ⟨L6, hL6⟩ : ∃ L6, l6.length = L6 := ⟨_, rfl⟩
      have h6' := h6
      unfold RfAt at h6'
      rw [hL6] at h6'
      obtain ⟨a6, c6, rfl⟩ := ownN_slice h6'
      have hZ6 := Only.blk k6 HZ5.out (fun f => f)
      have hlt12 := hZ6.lt
      have z0 := hZ6.cell 0 rfl
      have z1 := hZ6.cell 1 rfl
      have z2 := hZ6.cell 2 rfl
      have z3 := hZ6.cell 3 rfl
      have g0 := hZ6.frozen 0
      have g1 := hZ6.frozen 1
      have g2 := hZ6.frozen 2
      have g3 := hZ6.frozen 3
      have HE := hid ((((hZ6.set 0 (.slice a6 L6 c6)).set 1 (.int .i64 N6)).set 2 (.int .i64 G6)).set 3 (.int .i64 Lo6))
      have HF : Hid (R (.returned (.tuple #[.agg #[.slice a6 L6 c6, .int .i64 N6, .int .i64 G6, .int .i64 Lo6], .int .i64 id6, .int .i64 x6])) ((((w6.setCell ⟨w.heap.size + 1, 0, none⟩ (.slice a6 L6 c6)).setCell ⟨w.heap.size + 1, 1, none⟩ (.int .i64 N6)).setCell ⟨w.heap.size + 1, 2, none⟩ (.int .i64 G6)).setCell ⟨w.heap.size + 1, 3, none⟩ (.int .i64 Lo6))) := by
        rw [← HRR.out]
        exact ⟨.slice a6 L6 c6, rfl, ownN_base (set4_row h6 _ _ _ _ HZ5.out.lt) HK5.out.size, set4 _ _ _ _ _ _ (HK5.out.trans k6 (fun _ _ f => f)) (Nat.le_add_right _ 1)⟩
      clear hZ6 h6 h6' hL6 k6 HAD b0 b1 b2 b3 f0 HRR
      go_wp2
      exact ret_man rfl rfl HE.out HF.out rfl rfl
    · have hxb : (x == 0) = false := by simpa using hx
      rw [if_neg hx] at h4
      obtain ⟨a4, c4, rfl⟩ := ownN_slice h4
      have z0 := hZ4.cell 0 rfl
      have z1 := hZ4.cell 1 rfl
      have z2 := hZ4.cell 2 rfl
      have z3 := hZ4.cell 3 rfl
      have g0 := hZ4.frozen 0
      have g1 := hZ4.frozen 1
      have g2 := hZ4.frozen 2
      have g3 := hZ4.frozen 3
      have HF : Hid (R (.returned (.tuple #[.agg #[.slice none 0 0, .int .i64 0, .int .i64 0, .int .i64 0], .int .i64 0, .int .i64 x])) ((((w4.setCell ⟨w.heap.size + 1, 0, none⟩ (.slice none 0 0)).setCell ⟨w.heap.size + 1, 1, none⟩ (.int .i64 0)).setCell ⟨w.heap.size + 1, 2, none⟩ (.int .i64 0)).setCell ⟨w.heap.size + 1, 3, none⟩ (.int .i64 0))) := by
        rw [← HRR.out, HSI0.out hx]
        exact turn_nil (set4 _ _ _ _ _ _ K4.out (Nat.le_add_right _ 1))
      have HE := hid ((((HZ4.out.set 0 (.slice none 0 0)).set 1 (.int .i64 0)).set 2 (.int .i64 0)).set 3 (.int .i64 0))
      clear hZ4 HSI0 HSY0 HLE0 h4 hB4 k4 HN3
      go_wp2
      exact ret_man rfl rfl HE.out HF.out rfl rfl
  · have z0 := hZ3.cell 0 rfl
    have z1 := hZ3.cell 1 rfl
    have z2 := hZ3.cell 2 rfl
    have z3 := hZ3.cell 3 rfl
    have g0 := hZ3.frozen 0
    have g1 := hZ3.frozen 1
    have g2 := hZ3.frozen 2
    have g3 := hZ3.frozen 3
    have HF : Hid (R (.returned (.tuple #[.agg #[.slice none 0 0, .int .i64 0, .int .i64 0, .int .i64 0], .int .i64 0, .int .i64 q])) ((((w3.setCell ⟨w.heap.size + 1, 0, none⟩ (.slice none 0 0)).setCell ⟨w.heap.size + 1, 1, none⟩ (.int .i64 0)).setCell ⟨w.heap.size + 1, 2, none⟩ (.int .i64 0)).setCell ⟨w.heap.size + 1, 3, none⟩ (.int .i64 0))) := by
      rw [← HRR.out, HSB.out q rfl hz]
      exact turn_nil (set4 _ _ _ _ _ _ K3.out (Nat.le_add_right _ 1))
    have HE := hid ((((HZ3.out.set 0 (.slice none 0 0)).set 1 (.int .i64 0)).set 2 (.int .i64 0)).set 3 (.int .i64 0))
    clear hZ3 HWI HSB HSI HSY HLE
    go_wp2
    exact ret_man rfl rfl HE.out HF.out rfl rfl
end Go.Proofs.Ytmpkafmkkkpdeaa.J
