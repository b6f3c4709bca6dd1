/-
  Package manifest: Unpack.
-/
import Derived.Test.YtjifcgphlidimaaDoorJread
import Derived.Defers
import Derived.Recover
namespace Go.Proofs.YtjifcgphlidimaaDoor.J
open Go Go.RowKit Go.Proofs.Lys
set_option linter.unusedVariables false
set_option linter.unusedSimpArgs false

theorem unpNo (p q : Addr) (w : World) :
    CallsD Tryd.prog 27 #[.pointer (some p), .pointer (some q)] .returning w fun e u' w' => e = .returned (.tuple #[]) ∧ u' = .returning ∧ w' = w := by
  refine callsD_of_wpS Tryd.func27 rfl fun c₀ cs hu => ?_
  apply wpS_seq
  apply wpS_region
  simp [wpOpsS, go_sem, recoverD, hu, Tryd.ntmps27, Exit.thenS]
  apply wpS_seq
  apply wpS_region
  simp [wpOpsS, go_sem, Exit.thenS]
  refine wpS_cond (t := false) (by simp [Act.eval, Array.replicate]) ?_
  simp only [Bool.false_eq_true, if_false]
  refine wpS_of_wp (wp_skip ?_)
  cases c₀
  simp_all [bodyPostS, results, Tryd.results27]
abbrev zset (w : World) (p q : Nat) (n : Int) : World := ((((w.setCell ⟨p, 0, none⟩ (.slice none 0 0)).setCell ⟨p, 1, none⟩ (.int .i64 0)).setCell ⟨p, 2, none⟩ (.int .i64 0)).setCell ⟨p, 3, none⟩ (.int .i64 0)).setCell ⟨q, 0, none⟩ (.int .i64 n)
theorem unpUp (p q : Nat) (x0 x1 x2 x3 : Value) (y n : Int) (w : World) (hp : Blk w p [x0, x1, x2, x3] 24) (hq : Blk w q [.int .i64 y] 26) :
    CallsD Tryd.prog 27 #[.pointer (some ⟨p, 0, none⟩), .pointer (some ⟨q, 0, none⟩)] (.panicking [{ v := .iface 26 (.int .i64 n), recovered := false }]) w fun e u' w' =>
      e = .returned (.tuple #[]) ∧ u' = .panicking [{ v := .iface 26 (.int .i64 n), recovered := true }] ∧ Only (fun k => k = p ∨ k = q) w w' ∧ Blk w' p [.slice none 0 0, .int .i64 0, .int .i64 0, .int .i64 0] 24 ∧ Blk w' q [.int .i64 n] 26 := by
  have hpq : p ≠ q := hp.ne hq (by decide)
  have c0 := hp.cell 0 rfl
  have c1 := hp.cell 1 rfl
  have c2 := hp.cell 2 rfl
  have c3 := hp.cell 3 rfl
  have d0 := hq.cell 0 rfl
  have f0 := hp.frozen 0
  have f1 := hp.frozen 1
  have f2 := hp.frozen 2
  have f3 := hp.frozen 3
  have g0 := hq.frozen 0
  have HF : Hid (Only (fun k => k = p ∨ k = q) w (zset w p q n) ∧ Blk (zset w p q n) p [.slice none 0 0, .int .i64 0, .int .i64 0, .int .i64 0] 24 ∧ Blk (zset w p q n) q [.int .i64 n] 26) := hid (by
    refine ⟨(((((Only.refl (fun k => k = p ∨ k = q) w).setCell (fun _ => .inl rfl) _).setCell (fun _ => .inl rfl) _).setCell (fun _ => .inl rfl) _).setCell (fun _ => .inl rfl) _).setCell (fun _ => .inr rfl) _, ?_, ?_⟩
    · exact ((((hp.set 0 (.slice none 0 0)).set 1 (.int .i64 0)).set 2 (.int .i64 0)).set 3 (.int .i64 0)).other (a := ⟨q, 0, none⟩) hpq _
    · exact ((((hq.other (a := ⟨p, 0, none⟩) hpq.symm _).other (a := ⟨p, 1, none⟩) hpq.symm _).other (a := ⟨p, 2, none⟩) hpq.symm _).other (a := ⟨p, 3, none⟩) hpq.symm _).set 0 _)
  have hta : ∀ w, (Instr.typeAssert (.iface 26 (.int .i64 n)) 20 26 false).run Tryd.prog w = .ok (.int .i64 n) w := by
    intro w
    simp [Instr.typeAssert, run_underlying Tryd.underlying26, Result.andThen]
  clear hp hq
  refine callsD_of_wpS Tryd.func27 rfl fun c₀ cs hu => ?_
  apply wpS_seq
  apply wpS_region
  simp [wpOpsS, go_sem, recoverD, hu, Tryd.ntmps27, Exit.thenS]
  apply wpS_seq
  apply wpS_region
  simp [wpOpsS, go_sem, Exit.thenS]
  refine wpS_cond (t := true) (by simp [Act.eval, Array.replicate]) ?_
  simp only [if_true]
  refine wpS_of_wp ?_
  go_region
  all_goals
    exact ⟨rfl, _, rfl, .tuple #[], by simp [results, Tryd.results27], rfl, rfl, HF.out.1.drew, HF.out.2.1.drew, HF.out.2.2.drew⟩
theorem results_man2 {fn : Func} (h : fn.results = #[.cell 2 24, .cell 3 26]) (tmps : Array Value) (w : World) (g q : Nat) (c0 c1 c2 c3 : Value) (y : Int)
    (hp : tmps[2]?.getD undef = .pointer (some ⟨g, 0, none⟩)) (hq : tmps[3]?.getD undef = .pointer (some ⟨q, 0, none⟩)) (hb : Blk w g [c0, c1, c2, c3] 24) (hc : Blk w q [.int .i64 y] 26) :
    (results fn tmps).run Tryd.prog w = .ok (.tuple #[.agg #[c0, c1, c2, c3], .int .i64 y]) w := by
  have hcc := hc.cell 0 rfl
  have b0 := hb.cell 0 rfl
  have b1 := hb.cell 1 rfl
  have b2 := hb.cell 2 rfl
  have b3 := hb.cell 3 rfl
  simp [results, h, hp, hq, asAddr, go_sem, hcc, b0, b1, b2, b3]
/-- What Unpack leaves. -/
def manZ : Man := ⟨[], 0, 0, 0⟩
def UnpJ (w : World) (bs : List UInt8) (e : Ending) (w' : World) : Prop :=
  Kept w w' ∧ ((∃ m a c, IsM bs m ∧ e = .returned (.tuple #[manV (.slice a m.bl.length c) m, .int .i64 0]) ∧ RfAt w' w.heap.size (.slice a m.bl.length c) m.bl) ∨
    ((∀ m, ¬ IsM bs m) ∧ e = .returned (.tuple #[manV (.slice none 0 0) manZ, .int .i64 5])))
/-- The world in which Unpack's body begins. -/
abbrev unpW (w : World) : World := (w.alloc (.cells #[.slice none 0 0, .int .i64 0, .int .i64 0, .int .i64 0] 24)).alloc (.cells #[.int .i64 0] 26)
theorem unpP (w : World) : Blk (unpW w) w.heap.size [.slice none 0 0, .int .i64 0, .int .i64 0, .int .i64 0] 24 := (Blk.new w [.slice none 0 0, .int .i64 0, .int .i64 0, .int .i64 0] 24).alloc _
theorem unpQ (w : World) : Blk (unpW w) (w.heap.size + 1) [.int .i64 0] 26 := by
  have := Blk.new (w.alloc (.cells #[.slice none 0 0, .int .i64 0, .int .i64 0, .int .i64 0] 24)) [.int .i64 0] 26
  simpa using this
theorem unpK (w : World) : Kept w (unpW w) := ((Only.refl _ w).alloc _).alloc _

set_option maxRecDepth 100000 in
set_option maxHeartbeats 3200000 in
theorem unpack_any (w : World) (v : Value) (bs : List UInt8) (hs : G.BSrc w v bs) (hl : bs.length ≤ 90000) (hT : G.Tab w) : Calls Tryd.prog 11 #[v] w (UnpJ w bs) := by
  have hmf : ∀ (fn : Fn) (first cap : Array Value) (w : World), (Instr.makeFunc fn first cap).run Tryd.prog w = .ok (.func fn first cap) w := fun _ _ _ _ => rfl
  have hnot : ∀ (x : Bool) (w : World), (Op.unary .not (.bool x)).run Tryd.prog w = .ok (.bool (!x)) w := fun _ _ => rfl
  obtain ⟨w0, hw0⟩ : ∃ w0, unpW w = w0 := ⟨_, rfl⟩
  have hp := unpP w
  have hq := unpQ w
  have hk0 := unpK w
  rw [hw0] at hp hq hk0
  have HRD := hid (read_any w0 v bs (hs.stay hk0) hl)
  have HP := hid hp
  have HQ := hid hq
  have HK0 := hid hk0
  have HS := hid hs
  have HT := hid hT
  have HW0 := hid (show (w.alloc (.cells #[.slice none 0 0, .int .i64 0, .int .i64 0, .int .i64 0] 24)).alloc (.cells #[.int .i64 0] 26) = w0 from hw0)
  obtain ⟨x0, y0, e0⟩ := hs.len
  generalize hLL : bs.length = LL at e0
  have HLL := hid hLL
  subst e0
  clear hs hl hT hw0 hp hq hk0 hLL
  go_enter_defers Tryd.func11, Tryd.ntmps11
  go_wp2_with fail
  rw [HW0.out]
  refine HRD.out.mono ?_
  rintro e w1 ⟨k1, ⟨hno, rfl⟩ | ⟨m, a, c, hrd, rfl, hrow⟩⟩
  · clear HRD
    have hp1 := Only.blk k1 HP.out (fun f => f)
    have hq1 := Only.blk k1 HQ.out (fun f => f)
    refine leaves_cons (f := 27) (args := #[.pointer (some ⟨w.heap.size, 0, none⟩), .pointer (some ⟨w.heap.size + 1, 0, none⟩)]) (by simp) (by simp [go_sem]) ?_
    refine (unpUp _ _ _ _ _ _ 0 5 _ hp1 hq1).mono ?_
    rintro e u' w'' ⟨rfl, rfl, hk2, hp2, hq2⟩
    refine ⟨_, results_man2 Tryd.results11 _ _ _ _ _ _ _ _ _ rfl rfl hp2 hq2, (HK0.out.trans k1 (fun _ _ f => f)).trans hk2 (fun j hj e => by rcases e with e | e <;> omega), .inr ⟨fun m hm => ?_, rfl⟩⟩
    have := hm.readA
    rw [hno] at this
    cases this
  · have HM : Hid (∀ m', IsM bs m' → m' = m) := hid (fun m' hm => by
      have := hm.readA.symm.trans hrd
      injection this)
    have hp1 := Only.blk k1 HP.out (fun f => f)
    have hq1 := Only.blk k1 HQ.out (fun f => f)
    have f0 := hp1.frozen 0
    have f1 := hp1.frozen 1
    have f2 := hp1.frozen 2
    have f3 := hp1.frozen 3
    have p0 := hp1.cell 0 rfl
    have p1 := hp1.cell 1 rfl
    have p2 := hp1.cell 2 rfl
    have p3 := hp1.cell 3 rfl
    obtain ⟨N, G, Lo, L, hN, hG, hLo, hL⟩ : ∃ N G Lo L, m.next = N ∧ m.log = G ∧ m.low = Lo ∧ m.bl.length = L := ⟨_, _, _, _, rfl, rfl, rfl, rfl⟩
    obtain ⟨w2, hw2⟩ : ∃ w2, (((w1.setCell ⟨w.heap.size, 0, none⟩ (.slice a L c)).setCell ⟨w.heap.size, 1, none⟩ (.int .i64 N)).setCell ⟨w.heap.size, 2, none⟩ (.int .i64 G)).setCell ⟨w.heap.size, 3, none⟩ (.int .i64 Lo) = w2 := ⟨_, rfl⟩
    have hp2 : Blk w2 w.heap.size [.slice a L c, .int .i64 N, .int .i64 G, .int .i64 Lo] 24 := by
      rw [← hw2]
      exact (((hp1.set 0 _).set 1 _).set 2 _).set 3 _
    have hO2 : Only (fun j => j = w.heap.size) w1 w2 := by
      rw [← hw2]
      exact ((((Only.refl (fun j => j = w.heap.size) w1).setCell (fun _ => rfl) _).setCell (fun _ => rfl) _).setCell (fun _ => rfl) _).setCell (fun _ => rfl) _
    have hq2 := Only.blk hO2 hq1 (fun e => by omega)
    have hwz : w.heap.size < w0.heap.size := HP.out.lt
    have hrow2 : RfAt w2 w0.heap.size (.slice a m.bl.length c) m.bl := ownN_only hrow hO2 (fun b hb e => by have := (ownN_lt hrow hb).1; omega)
    have HKW2 := hid ((HK0.out.trans k1 (fun _ _ f => f)).trans hO2 (fun j hj e => by omega))
    have HPK := hid (pack_any w2 a c m hrow2.src (HT.out.stay HKW2.out))
    have HP2 := hid hp2
    have HQ2 := hid hq2
    have HR2 := hid hrow2
    have HWZ := hid hwz
    have HW2 := hid hw2
    unfold manV at HPK ⊢
    rw [hN, hG, hLo, hL] at HPK ⊢
    have HN := hid hN
    have HGG := hid hG
    have HLo := hid hLo
    have HL2 := hid hL
    have q0 := hp2.cell 0 rfl
    have q1 := hp2.cell 1 rfl
    have q2 := hp2.cell 2 rfl
    have q3 := hp2.cell 3 rfl
    clear hp1 hq1 hw2 hp2 hO2 hq2 hrow2 hrow k1 hrd hN hG hLo hL HRD hwz
    go_wp2_with fail
    rw [HW2.out]
    refine HPK.out.mono ?_
    rintro e w3 ⟨k3, ⟨hck, rfl⟩ | ⟨hck, bv, rfl, hby⟩⟩
    · have hp3 := Only.blk k3 HP2.out (fun f => f)
      have hq3 := Only.blk k3 HQ2.out (fun f => f)
      obtain ⟨X, hX⟩ : ∃ X, chkO m = X := ⟨_, rfl⟩
      have hX0 : (X != 0) = true := by rw [hX] at hck; simpa using hck
      have HCK := hid hck
      have HK3 := hid (HKW2.out.trans k3 (fun _ _ f => f))
      have g0 := hq3.frozen 0
      have u0 := hq3.cell 0 rfl
      obtain ⟨w4, hw4⟩ : ∃ w4, w3.setCell ⟨w.heap.size + 1, 0, none⟩ (.int .i64 X) = w4 := ⟨_, rfl⟩
      have hq4 : Blk w4 (w.heap.size + 1) [.int .i64 X] 26 := by rw [← hw4]; exact hq3.set 0 _
      have hp4 : Blk w4 w.heap.size [.slice a L c, .int .i64 N, .int .i64 G, .int .i64 Lo] 24 := by rw [← hw4]; exact hp3.other (a := ⟨w.heap.size + 1, 0, none⟩) (by simp) _
      have HK4 : Hid (Kept w w4) := hid (by rw [← hw4]; exact HK3.out.setCell (p := ⟨w.heap.size + 1, 0, none⟩) (fun hl => absurd hl (by simp)) _)
      have HY := hid (jrefuse_yes w4)
      have HP4 := hid hp4
      have HQ4 := hid hq4
      have HW4 := hid hw4
      have v0 := hq4.cell 0 rfl
      rw [hX]
      clear hp3 hq3 hX hw4 hp4 hq4 k3 hck HPK
      go_wp2_with fail
      rw [HW4.out]
      go_wp2_with fail
      refine HY.out.mono ?_
      rintro e w5 ⟨rfl, hw⟩
      replace hw := hw.symm
      subst hw
      refine leaves_cons (f := 27) (args := #[.pointer (some ⟨w.heap.size, 0, none⟩), .pointer (some ⟨w.heap.size + 1, 0, none⟩)]) (by simp) (by simp [go_sem]) ?_
      refine (unpUp _ _ _ _ _ _ _ 5 _ HP4.out HQ4.out).mono ?_
      rintro e u' w'' ⟨rfl, rfl, hk2, hp2, hq2⟩
      refine ⟨_, results_man2 Tryd.results11 _ _ _ _ _ _ _ _ _ rfl rfl hp2 hq2, HK4.out.trans hk2 (fun j hj e => by rcases e with e | e <;> omega), .inr ⟨fun m' hm => ?_, rfl⟩⟩
      have e := HM.out m' hm
      subst e
      exact HCK.out hm.1
    · have hp3 := Only.blk k3 HP2.out (fun f => f)
      have hq3 := Only.blk k3 HQ2.out (fun f => f)
      have HCK := hid hck
      have HK3 := hid (HKW2.out.trans k3 (fun _ _ f => f))
      have g0 := hq3.frozen 0
      have u0 := hq3.cell 0 rfl
      obtain ⟨w4, hw4⟩ : ∃ w4, w3.setCell ⟨w.heap.size + 1, 0, none⟩ (.int .i64 0) = w4 := ⟨_, rfl⟩
      have hO4 : Only (fun j => j = w.heap.size + 1) w3 w4 := by rw [← hw4]; exact (Only.refl (fun j => j = w.heap.size + 1) w3).setCell (fun _ => rfl) _
      have hq4 : Blk w4 (w.heap.size + 1) [.int .i64 0] 26 := by rw [← hw4]; exact hq3.set 0 _
      have hp4 : Blk w4 w.heap.size [.slice a L c, .int .i64 N, .int .i64 G, .int .i64 Lo] 24 := Only.blk hO4 hp3 (fun e => by omega)
      have hqz := HQ2.out.lt
      have hby4 : BytAt w4 w2.heap.size bv (packM m) := ownN_only hby hO4 (fun b hb e => by have := (ownN_lt hby hb).1; omega)
      have HK4 : Hid (Kept w w4) := hid (HK3.out.trans hO4 (fun j hj e => by omega))
      have HEQ := hid (equal_any (own_src hby4) (HS.out.1.stay HK4.out))
      have HY := hid (jrefuse_yes w4)
      have HNO := hid (jrefuse_no w4)
      have HP4 := hid hp4
      have HQ4 := hid hq4
      have HR4 : Hid (RfAt w4 w0.heap.size (.slice a m.bl.length c) m.bl) := hid (ownN_only (ownN_stay HR2.out k3) hO4 (fun b hb e => by have := (ownN_lt (ownN_stay HR2.out k3) hb).1; have := HQ.out.lt; omega))
      have HW4 := hid hw4
      have v0 := hq4.cell 0 rfl
      have y0 := hp4.cell 0 rfl
      have y1 := hp4.cell 1 rfl
      have y2 := hp4.cell 2 rfl
      have y3 := hp4.cell 3 rfl
      have f0 := hp4.frozen 0
      have f1 := hp4.frozen 1
      have f2 := hp4.frozen 2
      have f3 := hp4.frozen 3
      have f4 := hq4.frozen 0
      obtain ⟨ba, bc, hbv⟩ := ownN_slice hby4
      generalize (packM m).length = BL at hbv
      subst hbv
      clear hp3 hq3 hw4 hp4 hq4 k3 hck HPK hO4 hqz hby hby4
      go_wp2_with fail
      rw [HW4.out]
      go_wp2_with fail
      refine HEQ.out.mono ?_
      rintro e w5 ⟨hw, rfl⟩
      replace hw := hw.symm
      subst hw
      clear HEQ
      by_cases heq : packM m = bs
      · have HIS := hid (show IsM bs m from ⟨HCK.out, heq⟩)
        rw [decide_eq_true heq]
        clear heq
        go_wp2_with fail
        refine HNO.out.mono ?_
        rintro e w5 ⟨rfl, hw⟩
        replace hw := hw.symm
        subst hw
        go_wp2_with fail
        refine leaves_cons (f := 27) (args := #[.pointer (some ⟨w.heap.size, 0, none⟩), .pointer (some ⟨w.heap.size + 1, 0, none⟩)]) (by simp) (by simp [go_sem]) ?_
        refine (unpNo _ _ _).mono ?_
        rintro e u' w'' ⟨rfl, rfl, hw⟩
        subst hw
        have hp9 := ((((HP4.out.set 0 (.slice a L c)).set 1 (.int .i64 N)).set 2 (.int .i64 G)).set 3 (.int .i64 Lo)).other (a := ⟨w.heap.size + 1, 0, none⟩) (by simp) (.int .i64 0)
        have hq9 := ((((HQ4.out.other (a := ⟨w.heap.size, 0, none⟩) (by simp) (.slice a L c)).other (a := ⟨w.heap.size, 1, none⟩) (by simp) (.int .i64 N)).other (a := ⟨w.heap.size, 2, none⟩) (by simp) (.int .i64 G)).other (a := ⟨w.heap.size, 3, none⟩) (by simp) (.int .i64 Lo)).set 0 (.int .i64 0)
        have hz1 := HQ.out.lt
        refine ⟨_, results_man2 Tryd.results11 _ _ _ _ _ _ _ _ _ rfl rfl hp9 hq9, ?_, .inl ⟨m, a, c, HIS.out, ?_, ?_⟩⟩
        · exact (kset4 _ _ _ _ _ _ HK4.out (Nat.le_refl _)).setCell (p := ⟨w.heap.size + 1, 0, none⟩) (fun hl => absurd hl (by simp)) _
        · unfold manV
          rw [HN.out, HGG.out, HLo.out, HL2.out]
        · have h1 := kset4_row HR4.out (.slice a L c) (.int .i64 N) (.int .i64 G) (.int .i64 Lo) (b := w.heap.size) (fun q hq => by have := (ownN_lt HR4.out hq).1; omega)
          have h2 := ownN_only h1 ((Only.refl (fun j => j = w.heap.size + 1) _).setCell (p := ⟨w.heap.size + 1, 0, none⟩) (fun _ => rfl) (.int .i64 0)) (fun q hq e => by have := (ownN_lt h1 hq).1; omega)
          exact ownN_base h2 (by omega)
      · have HIS := hid heq
        rw [decide_eq_false heq]
        clear heq
        go_wp2_with fail
        refine HY.out.mono ?_
        rintro e w5 ⟨rfl, hw⟩
        replace hw := hw.symm
        subst hw
        refine leaves_cons (f := 27) (args := #[.pointer (some ⟨w.heap.size, 0, none⟩), .pointer (some ⟨w.heap.size + 1, 0, none⟩)]) (by simp) (by simp [go_sem]) ?_
        refine (unpUp _ _ _ _ _ _ _ 5 _ HP4.out HQ4.out).mono ?_
        rintro e u' w'' ⟨rfl, rfl, hk2, hp2, hq2⟩
        refine ⟨_, results_man2 Tryd.results11 _ _ _ _ _ _ _ _ _ rfl rfl hp2 hq2, HK4.out.trans hk2 (fun j hj e => by rcases e with e | e <;> omega), .inr ⟨fun m' hm => ?_, rfl⟩⟩
        have e := HM.out m' hm
        subst e
        exact HIS.out hm.2
end Go.Proofs.YtjifcgphlidimaaDoor.J
