/-
  added: the manifest with a block more.
-/
import Derived.Test.YtmpkafmkkkpdeaaJadd
import Derived.Test.YtmpkafmkkkpdeaaJcat
import Derived.Laws.Rows
import Derived.WalkSpells
namespace Go.Proofs.Ytmpkafmkkkpdeaa.J
open Go.RowKit Go.Proofs.Lys
set_option linter.unusedVariables false
set_option linter.unusedSimpArgs false

theorem results_cell_tmp2 {P : Program} {fn : Func} {p u v : Tmp} {ty : TypeId} (h : fn.results = #[.cell p ty, .tmp u, .tmp v]) (tmps : Array Value) (w : World) (g : Nat) (t : TypeId) (cs : Array Value) (fr : Nat × Nat) (d : TypeDesc)
    (hp : tmps.getD p undef = .pointer (some ⟨g, 0, none⟩)) (hg : w.heap[g]? = some (.cells cs t fr))
    (hu : P.underlying ty = some d) (hd : (match d with | .struct _ | .array _ _ => true | _ => false) = true) (hi : (P.info? ty).map (·.size) = some cs.size) :
    (results fn tmps).run P w = .ok (.tuple #[.agg cs, tmps.getD u undef, tmps.getD v undef]) w := by
  have hp' : tmps[p]?.getD undef = .pointer (some ⟨g, 0, none⟩) := by simpa using hp
  simp [results, h, hp', asAddr, run_loadVar_row w g t ty cs fr d hg hu hd hi]
theorem Try.sizeMan : (Try.prog.info? 24).map (·.size) = some 4 := by kernel_rfl
/-- The way back with a manifest, its Id, an error. -/
theorem ret_man {fn : Func} {p u v : Tmp} (h : fn.results = #[.cell p 24, .tmp u, .tmp v]) {R : Ending → World → Prop} {tmps : Array Value} {w : World} {g : Nat} {c0 c1 c2 c3 : Value}
    (hp : tmps.getD p undef = .pointer (some ⟨g, 0, none⟩)) (hb : Blk w g [c0, c1, c2, c3] 24) {x y : Value} (hF : R (.returned (.tuple #[.agg #[c0, c1, c2, c3], x, y])) w) (hx : tmps.getD u undef = x) (hy : tmps.getD v undef = y) :
    bodyPost Try.prog fn R .ret { tmps := tmps, defers := [] } w :=
  bodyPost_ret (v := .tuple #[.agg #[c0, c1, c2, c3], tmps.getD u undef, tmps.getD v undef]) (results_cell_tmp2 h tmps w g 24 #[c0, c1, c2, c3] (0, 0) _ hp hb Try.underlying24 rfl Try.sizeMan) rfl (by rw [hx, hy]; exact hF)

set_option maxRecDepth 100000 in
set_option maxHeartbeats 1600000 in
theorem added_any (w : World) (a : Option Addr) (c : Nat) (m : Man) (lv f t : Int) (hs : RfSrc w (.slice a m.bl.length c) m.bl) (hL : m.bl.length ≤ 200) (hN : 1 ≤ m.next) (hN2 : m.next ≤ 1099511627776) :
    Calls Try.prog 18 #[manV (.slice a m.bl.length c) m, .int .i64 lv, .int .i64 f, .int .i64 t] w (TurnP w (newQ m lv f t)) := by
  obtain ⟨l, N, G, Lo⟩ := m
  unfold manV
  simp only at hs hL hN hN2 ⊢
  obtain ⟨R, hR⟩ : ∃ R, TurnP w (newQ ⟨l, N, G, Lo⟩ lv f t) = R := ⟨_, rfl⟩
  rw [hR]
  have HRR := hid hR
  obtain ⟨L, hLe⟩ : ∃ L, l.length = L := ⟨_, rfl⟩
  have HL := hid hLe
  have HS := hid hs
  rw [hLe] at HS hL ⊢
  have hw1 : IntKind.i64.wrap (N + 1) = N + 1 := by rw [IntKind.wrap_i64]; omega
  clear hs hR hLe
  obtain ⟨w4, hw4⟩ : ∃ W, (((w.alloc (manO a L c (N + 1) G Lo)).alloc (manO none 0 0 0 0 0)).alloc (rfO (N, lv, f, t))).alloc (.cells #[.slice a L c, .slice (some ⟨w.heap.size + 1 + 1, 0, none⟩) 1 1] 22) = W := ⟨_, rfl⟩
  have HK4 : Hid (Kept w w4) := by rw [← hw4]; exact hid (((((Only.refl _ w).alloc _).alloc _).alloc _).alloc _)
  have HB4 : Hid (Blk w4 w.heap.size [.slice a L c, .int .i64 (N + 1), .int .i64 G, .int .i64 Lo] 24) := by
    rw [← hw4]
    exact (((Blk.new w [.slice a L c, .int .i64 (N + 1), .int .i64 G, .int .i64 Lo] 24).alloc _).alloc _).alloc _
  have HZ4 : Hid (Blk w4 (w.heap.size + 1) [.slice none 0 0, .int .i64 0, .int .i64 0, .int .i64 0] 24) := by
    rw [← hw4]
    have := ((Blk.new (w.alloc (manO a L c (N + 1) G Lo)) [.slice none 0 0, .int .i64 0, .int .i64 0, .int .i64 0] 24).alloc (rfO (N, lv, f, t))).alloc (.cells #[.slice a L c, .slice (some ⟨w.heap.size + 1 + 1, 0, none⟩) 1 1] 22)
    rw [World.size_alloc] at this
    exact hid this
  have HC4 : Hid (Calls Try.prog 24 #[.slice (some ⟨w.heap.size + 1 + 1 + 1, 0, none⟩) 2 2] w4 fun e w' => ∃ v, e = .returned v ∧ RfAt w' w4.heap.size v (l ++ [(N, lv, f, t)]) ∧ Kept w4 w') := by
    refine rconcat_any w4 (w.heap.size + 1 + 1 + 1) (.slice a L c) (.slice (some ⟨w.heap.size + 1 + 1, 0, none⟩) 1 1) l [(N, lv, f, t)] ?_ (HS.out.stay HK4.out) ?_ (by simp) (by have := HL.out; omega) (by simp)
    · rw [← hw4]
      have := Blk.new (((w.alloc (manO a L c (N + 1) G Lo)).alloc (manO none 0 0 0 0 0)).alloc (rfO (N, lv, f, t))) [.slice a L c, .slice (some ⟨w.heap.size + 1 + 1, 0, none⟩) 1 1] 22
      simpa using this
    · rw [← hw4]
      have := (rf_lit ((w.alloc (manO a L c (N + 1) G Lo)).alloc (manO none 0 0 0 0 0)) (N, lv, f, t)).stay ((Only.refl _ _).alloc (.cells #[.slice a L c, .slice (some ⟨w.heap.size + 1 + 1, 0, none⟩) 1 1] 22))
      simpa using this
  have HW4 := hid hw4
  clear hw4
  obtain ⟨q, hq⟩ : ∃ q, chkO (addM ⟨l, N, G, Lo⟩ lv f t) = q := ⟨_, rfl⟩
  have HQ := hid hq
  clear hq
  go_enter Try.func18, Try.ntmps18
  go_wp2_with fail
  rw [HW4.out]
  refine HC4.out.mono ?_
  rintro e w5 ⟨v5, rfl, hat5, k5⟩
  obtain ⟨a5, c5, e5⟩ := ownN_slice hat5
  have K5 := hid (HK4.out.trans k5 (fun _ _ f => f))
  have hB5 := Only.blk k5 HB4.out (fun f => f)
  have hlen : (l ++ [(N, lv, f, t)]).length = L + 1 := by rw [List.length_append, HL.out]; rfl
  rw [hlen] at e5
  subst e5
  have m1 := hB5.cell 1 rfl
  have m2 := hB5.cell 2 rfl
  have m3 := hB5.cell 3 rfl
  have hB6 := hB5.set 0 (.slice a5 (L + 1) c5)
  have m0 := hB5.cell 0 rfl
  have f0 := hB5.frozen 0
  have hlt := hB5.lt
  have hat6 : RfAt (w5.setCell ⟨w.heap.size, 0, none⟩ (.slice a5 (L + 1) c5)) w.heap.size (.slice a5 (L + 1) c5) (l ++ [(N, lv, f, t)]) := by
    refine ownN_base (ownN_block hat5 (fun q hq => Below.heap_setCell w5 _ _ q (fun e => ?_))) HK4.out.size
    have h1 := (ownN_lt hat5 hq).1
    have h2 := HB4.out.lt
    simp at e
    omega
  have hZ6 := (Only.blk k5 HZ4.out (fun f => f)).other (a := ⟨w.heap.size, 0, none⟩) (by simp) (.slice a5 (L + 1) c5)
  have hk6 : Kept w (w5.setCell ⟨w.heap.size, 0, none⟩ (.slice a5 (L + 1) c5)) := K5.out.setCell (fun h => by simp at h) _
  clear hat5 k5 HC4 HW4 hB5 hw1
  obtain ⟨w6, hw6⟩ : ∃ W, w5.setCell ⟨w.heap.size, 0, none⟩ (.slice a5 (L + 1) c5) = W := ⟨_, rfl⟩
  rw [hw6] at hB6 hat6 hZ6 hk6
  have HCH := hid (check_any w6 a5 c5 (addM ⟨l, N, G, Lo⟩ lv f t) (by show RfSrc w6 (.slice a5 (l ++ [(N, lv, f, t)]).length c5) _; rw [hlen]; exact hat6.src))
  rw [HQ.out] at HCH
  unfold manV addM at HCH
  simp only at HCH
  rw [hlen] at HCH
  have HA6 := hid hat6
  have HB6 := hid hB6
  have HZ6 := hid hZ6
  have HK6 := hid hk6
  have HW6 := hid hw6
  clear hat6 hB6 hZ6 hk6 hw6 hlen
  go_wp2_with fail
  rw [HW6.out]
  refine HCH.out.mono ?_
  rintro e w7 ⟨rfl, k7⟩
  have K7 := hid (HK6.out.trans k7 (fun _ _ f => f))
  have hB7 := Only.blk k7 HB6.out (fun f => f)
  have hZ7 := Only.blk k7 HZ6.out (fun f => f)
  have A7 := hid (ownN_stay HA6.out k7)
  have b0 := hB7.cell 0 rfl
  have b1 := hB7.cell 1 rfl
  have b2 := hB7.cell 2 rfl
  have b3 := hB7.cell 3 rfl
  have z0 := hZ7.cell 0 rfl
  have z1 := hZ7.cell 1 rfl
  have z2 := hZ7.cell 2 rfl
  have z3 := hZ7.cell 3 rfl
  have g0 := hZ7.frozen 0
  have g1 := hZ7.frozen 1
  have g2 := hZ7.frozen 2
  have g3 := hZ7.frozen 3
  have HX := hid hZ7
  have hlt7 := hB7.lt
  have hlt8 := hZ7.lt
  clear k7 hB7 hZ7 HCH HW6 HK6 HA6 HB6 HZ6 m0 m1 m2 m3 f0 hlt
  by_cases hz : q = 0
  · subst hz
    have HF : Hid (R (.returned (.tuple #[.agg #[.slice a5 (L + 1) c5, .int .i64 (N + 1), .int .i64 G, .int .i64 Lo], .int .i64 N, .int .i64 0])) ((((w7.setCell ⟨w.heap.size + 1, 0, none⟩ (.slice a5 (L + 1) c5)).setCell ⟨w.heap.size + 1, 1, none⟩ (.int .i64 (N + 1))).setCell ⟨w.heap.size + 1, 2, none⟩ (.int .i64 G)).setCell ⟨w.heap.size + 1, 3, none⟩ (.int .i64 Lo))) := by
      rw [← HRR.out, new_yes HQ.out]
      refine ⟨.slice a5 (L + 1) c5, rfl, ?_, (((K7.out.setCell (fun h => by simp at h; omega) _).setCell (fun h => by simp at h; omega) _).setCell (fun h => by simp at h; omega) _).setCell (fun h => by simp at h; omega) _⟩
      refine ownN_block A7.out (fun q hq => ?_)
      have hq2 := ownN_typed A7.out hq
      have hne : ∀ p : Addr, p.block = w.heap.size + 1 → q ≠ p.block := fun p hp => by rw [hp]; exact Typed.ne hq2 HX.out.typed (by decide)
      rw [Below.heap_setCell _ _ _ q (hne _ rfl), Below.heap_setCell _ _ _ q (hne _ rfl), Below.heap_setCell _ _ _ q (hne _ rfl), Below.heap_setCell _ _ _ q (hne _ rfl)]
    have HE := hid ((((HX.out.set 0 (.slice a5 (L + 1) c5)).set 1 (.int .i64 (N + 1))).set 2 (.int .i64 G)).set 3 (.int .i64 Lo))
    go_wp2
    exact ret_man rfl rfl HE.out HF.out rfl rfl
  · have HF : Hid (R (.returned (.tuple #[.agg #[.slice none 0 0, .int .i64 0, .int .i64 0, .int .i64 0], .int .i64 0, .int .i64 q])) ((((w7.setCell ⟨w.heap.size + 1, 0, none⟩ (.slice none 0 0)).setCell ⟨w.heap.size + 1, 1, none⟩ (.int .i64 0)).setCell ⟨w.heap.size + 1, 2, none⟩ (.int .i64 0)).setCell ⟨w.heap.size + 1, 3, none⟩ (.int .i64 0))) := by
      rw [← HRR.out, new_no (by rw [HQ.out]; exact hz), HQ.out]
      exact turn_nil ((((K7.out.setCell (fun h => by simp at h; omega) _).setCell (fun h => by simp at h; omega) _).setCell (fun h => by simp at h; omega) _).setCell (fun h => by simp at h; omega) _)
    have HE := hid ((((HX.out.set 0 (.slice none 0 0)).set 1 (.int .i64 0)).set 2 (.int .i64 0)).set 3 (.int .i64 0))
    go_wp2
    exact ret_man rfl rfl HE.out HF.out rfl rfl

set_option maxRecDepth 100000 in
set_option maxHeartbeats 1600000 in
theorem add_any (w : World) (a : Option Addr) (c : Nat) (m : Man) (lv f t : Int) (hs : RfSrc w (.slice a m.bl.length c) m.bl) :
    Calls Try.prog 7 #[manV (.slice a m.bl.length c) m, .int .i64 lv, .int .i64 f, .int .i64 t] w (TurnP w (addQ m lv f t)) := by
  have HLE : Hid (chkO m = 0 → m.bl.length ≤ 200 ∧ 1 ≤ m.next ∧ m.next ≤ 1099511627776) := hid (fun h => ⟨chk_len h, chk_next h⟩)
  have HQ := hid (show addQ m lv f t = if chkO m = 0 then newQ m lv f t else (manZ, 0, chkO m) from rfl)
  generalize addQ m lv f t = QQ at HQ ⊢
  obtain ⟨R, hR⟩ : ∃ R, TurnP w QQ = R := ⟨_, rfl⟩
  rw [hR]
  have HRR := hid hR
  have HS := hid hs
  have HN : Hid (∀ W, Kept w W → chkO m = 0 → Calls Try.prog 18 #[manV (.slice a m.bl.length c) m, .int .i64 lv, .int .i64 f, .int .i64 t] W (TurnP W (newQ m lv f t))) := hid (fun W k h => added_any W a c m lv f t (HS.out.stay k) (HLE.out h).1 (HLE.out h).2.1 (HLE.out h).2.2)
  have HC : Hid (∀ W, Kept w W → Calls Try.prog 17 #[manV (.slice a m.bl.length c) m] W fun e w' => e = .returned (.int .i64 (chkO m)) ∧ Kept W w') := hid (fun W k => check_any W a c m (HS.out.stay k))
  obtain ⟨q, hq⟩ : ∃ q, chkO m = q := ⟨_, rfl⟩
  rw [hq] at HLE HQ HN HC
  obtain ⟨l, N, G, Lo⟩ := m
  unfold manV at HC HN ⊢
  simp only at HN HC ⊢
  obtain ⟨L, hLe⟩ : ∃ L, l.length = L := ⟨_, rfl⟩
  rw [hLe] at HN HC ⊢
  clear hs hR hLe hq HS
  obtain ⟨w2, hw2⟩ : ∃ W, (w.alloc (manO a L c N G Lo)).alloc (manO none 0 0 0 0 0) = W := ⟨_, rfl⟩
  have HK2 : Hid (Kept w w2) := by rw [← hw2]; exact hid (((Only.refl _ w).alloc _).alloc _)
  have HB2 : Hid (Blk w2 w.heap.size [.slice a L c, .int .i64 N, .int .i64 G, .int .i64 Lo] 24) := by
    rw [← hw2]
    exact (Blk.new w [.slice a L c, .int .i64 N, .int .i64 G, .int .i64 Lo] 24).alloc _
  have HZ2 : Hid (Blk w2 (w.heap.size + 1) [.slice none 0 0, .int .i64 0, .int .i64 0, .int .i64 0] 24) := by
    rw [← hw2]
    have := Blk.new (w.alloc (manO a L c N G Lo)) [.slice none 0 0, .int .i64 0, .int .i64 0, .int .i64 0] 24
    rw [World.size_alloc] at this
    exact hid this
  have HW2 := hid hw2
  clear hw2
  go_enter Try.func7, Try.ntmps7
  go_wp2_with fail
  rw [HW2.out]
  refine (HC.out w2 HK2.out).mono ?_
  rintro e w3 ⟨rfl, k3⟩
  have K3 := hid (HK2.out.trans k3 (fun _ _ f => f))
  have hB3 := Only.blk k3 HB2.out (fun f => f)
  have hZ3 := Only.blk k3 HZ2.out (fun f => f)
  have b0 := hB3.cell 0 rfl
  have b1 := hB3.cell 1 rfl
  have b2 := hB3.cell 2 rfl
  have b3 := hB3.cell 3 rfl
  have HX := hid hZ3
  have hlt7 := hB3.lt
  have hlt8 := hZ3.lt
  clear k3 hB3 HC HW2 HK2 HB2 HZ2
  by_cases hz : q = 0
  · subst hz
    have HN3 := hid (HN.out w3 K3.out rfl)
    have HQ1 : Hid (QQ = newQ ⟨l, N, G, Lo⟩ lv f t) := hid (HQ.out.trans (if_pos rfl))
    rw [← HQ1.out] at HN3
    clear HN hZ3 HQ HQ1
    go_wp2_with fail
    refine HN3.out.mono ?_
    rintro e w4 ⟨v4, rfl, h4, k4⟩
    obtain ⟨⟨l4, N4, G4, Lo4⟩, id4, x4⟩ := QQ
    simp only at h4 ⊢
    obtain ⟨L4, hL4⟩ : ∃ L4, l4.length = L4 := ⟨_, rfl⟩
    have h4' := h4
    unfold RfAt at h4'
    rw [hL4] at h4'
    obtain ⟨a4, c4, rfl⟩ := ownN_slice h4'
    have K4 := hid (K3.out.trans k4 (fun _ _ f => f))
    have hZ4 := Only.blk k4 HX.out (fun f => f)
    have hlt9 := hZ4.lt
    have z0 := hZ4.cell 0 rfl
    have z1 := hZ4.cell 1 rfl
    have z2 := hZ4.cell 2 rfl
    have z3 := hZ4.cell 3 rfl
    have g0 := hZ4.frozen 0
    have g1 := hZ4.frozen 1
    have g2 := hZ4.frozen 2
    have g3 := hZ4.frozen 3
    have HE := hid ((((hZ4.set 0 (.slice a4 L4 c4)).set 1 (.int .i64 N4)).set 2 (.int .i64 G4)).set 3 (.int .i64 Lo4))
    have HF : Hid (R (.returned (.tuple #[.agg #[.slice a4 L4 c4, .int .i64 N4, .int .i64 G4, .int .i64 Lo4], .int .i64 id4, .int .i64 x4])) ((((w4.setCell ⟨w.heap.size + 1, 0, none⟩ (.slice a4 L4 c4)).setCell ⟨w.heap.size + 1, 1, none⟩ (.int .i64 N4)).setCell ⟨w.heap.size + 1, 2, none⟩ (.int .i64 G4)).setCell ⟨w.heap.size + 1, 3, none⟩ (.int .i64 Lo4))) := by
      rw [← HRR.out]
      refine ⟨.slice a4 L4 c4, rfl, ?_, (((K4.out.setCell (fun h => by simp at h; omega) _).setCell (fun h => by simp at h; omega) _).setCell (fun h => by simp at h; omega) _).setCell (fun h => by simp at h; omega) _⟩
      refine ownN_base (ownN_block h4 (fun q hq => ?_)) K3.out.size
      have hq2 := (ownN_lt h4 hq).1
      have hne : ∀ p : Addr, p.block = w.heap.size + 1 → q ≠ p.block := fun p hp => by rw [hp]; omega
      rw [Below.heap_setCell _ _ _ q (hne _ rfl), Below.heap_setCell _ _ _ q (hne _ rfl), Below.heap_setCell _ _ _ q (hne _ rfl), Below.heap_setCell _ _ _ q (hne _ rfl)]
    clear hZ4 h4 h4' hL4 k4 HN3 b0 b1 b2 b3
    go_wp2
    exact ret_man rfl rfl HE.out HF.out rfl rfl
  · have z0 := hZ3.cell 0 rfl
    have z1 := hZ3.cell 1 rfl
    have z2 := hZ3.cell 2 rfl
    have z3 := hZ3.cell 3 rfl
    have g0 := hZ3.frozen 0
    have g1 := hZ3.frozen 1
    have g2 := hZ3.frozen 2
    have g3 := hZ3.frozen 3
    have HF : Hid (R (.returned (.tuple #[.agg #[.slice none 0 0, .int .i64 0, .int .i64 0, .int .i64 0], .int .i64 0, .int .i64 q])) ((((w3.setCell ⟨w.heap.size + 1, 0, none⟩ (.slice none 0 0)).setCell ⟨w.heap.size + 1, 1, none⟩ (.int .i64 0)).setCell ⟨w.heap.size + 1, 2, none⟩ (.int .i64 0)).setCell ⟨w.heap.size + 1, 3, none⟩ (.int .i64 0))) := by
      rw [← HRR.out, HQ.out, if_neg hz]
      exact turn_nil ((((K3.out.setCell (fun h => by simp at h; omega) _).setCell (fun h => by simp at h; omega) _).setCell (fun h => by simp at h; omega) _).setCell (fun h => by simp at h; omega) _)
    have HE := hid ((((HX.out.set 0 (.slice none 0 0)).set 1 (.int .i64 0)).set 2 (.int .i64 0)).set 3 (.int .i64 0))
    clear hZ3 HN
    go_wp2
    exact ret_man rfl rfl HE.out HF.out rfl rfl
end Go.Proofs.Ytmpkafmkkkpdeaa.J
