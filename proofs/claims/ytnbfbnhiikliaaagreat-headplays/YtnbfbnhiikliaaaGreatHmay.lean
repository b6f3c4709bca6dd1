/-
  May: what is wrong with rows.
-/
import Derived.Test.YtnbfbnhiikliaaaGreatHlook
namespace Go.Proofs.YtnbfbnhiikliaaaGreat.Hd
open Go.RowKit Go.Proofs.Lys Go.Maps Go.Proofs.YtnbfbnhiikliaaaGreat.N
set_option linter.unusedVariables false
set_option linter.unusedSimpArgs false

theorem mayNo (p : Addr) (w : World) :
    CallsD Tryz.prog 32 #[.pointer (some p)] .returning w fun e u' w' => e = .returned (.tuple #[]) ∧ u' = .returning ∧ w' = w := by
  refine callsD_of_wpS Tryz.func32 rfl fun c₀ cs hu => ?_
  apply wpS_seq
  apply wpS_region
  simp [wpOpsS, go_sem, recoverD, hu, Tryz.ntmps32, Exit.thenS]
  apply wpS_seq
  apply wpS_region
  simp [wpOpsS, go_sem, Exit.thenS]
  refine wpS_cond (t := false) (by simp [Act.eval, Array.replicate]) ?_
  simp only [Bool.false_eq_true, if_false]
  refine wpS_of_wp (wp_skip ?_)
  cases c₀
  simp_all [bodyPostS, results, Tryz.results32]

theorem mayUp (p : Nat) (y n : Int) (w : World) (hp : Blk w p [.int .i64 y] 32) :
    CallsD Tryz.prog 32 #[.pointer (some ⟨p, 0, none⟩)] (.panicking [{ v := .iface 32 (.int .i64 n), recovered := false }]) w fun e u' w' =>
      e = .returned (.tuple #[]) ∧ u' = .panicking [{ v := .iface 32 (.int .i64 n), recovered := true }] ∧ Only (fun k => k = p) w w' ∧ Blk w' p [.int .i64 n] 32 := by
  have c0 := hp.cell 0 rfl
  have f0 := hp.frozen 0
  have hta : ∀ w, (Instr.typeAssert (.iface 32 (.int .i64 n)) 20 32 false).run Tryz.prog w = .ok (.int .i64 n) w := by
    intro w
    simp [Instr.typeAssert, run_underlying Tryz.underlying32, Result.andThen]
  refine callsD_of_wpS Tryz.func32 rfl fun c₀ cs hu => ?_
  apply wpS_seq
  apply wpS_region
  simp [wpOpsS, go_sem, recoverD, hu, Tryz.ntmps32, Exit.thenS]
  apply wpS_seq
  apply wpS_region
  simp [wpOpsS, go_sem, Exit.thenS]
  refine wpS_cond (t := true) (by simp [Act.eval, Array.replicate]) ?_
  simp only [if_true]
  refine wpS_of_wp ?_
  go_wp2
  refine ⟨rfl, _, rfl, .tuple #[], by simp [results, Tryz.results32], rfl, rfl, (Only.refl (fun k => k = p) w).setCell (p := ⟨p, 0, none⟩) (fun _ => rfl) _, hp.set 0 _⟩

/-- The world in which May's body begins. -/
abbrev mayW (w : World) : World := w.alloc (.cells #[.int .i64 0] 32)

/-- What May leaves. -/
def MayP (win : Int) (M : Mod) (rs : List Row) (w : World) (e : Ending) (w' : World) : Prop := e = .returned (.int .i64 (errM (writeM win M rs))) ∧ Kept w w'

set_option maxHeartbeats 1600000 in
theorem may_any {w : World} {h : HeadC} {O : Nat → Prop} {M : Mod} (hA : HeadAt w h O) (hI : Is h M) (hc : countM M ≤ 100000) {Z : Nat → Prop} (v : Value) (rs : List Row) (hs : RowSrc w Z v rs) (hR : RowsOk rs) :
    Calls Tryz.prog 10 #[.pointer (some ⟨h.hb, 0, none⟩), v] w (MayP h.win M rs w) := by
  have hmf : ∀ (fn : Fn) (first cap : Array Value) (w : World), (Instr.makeFunc fn first cap).run Tryz.prog w = .ok (.func fn first cap) w := fun _ _ _ _ => rfl
  have k0 : Kept w (mayW w) := (Only.refl _ w).alloc _
  have hp : Blk (mayW w) w.heap.size [.int .i64 0] 32 := Blk.new w _ _
  have HLK := hid (look_any (hA.stay k0) hI hc v rs (hs.stay k0) hR)
  obtain ⟨a1, c1, rfl⟩ := hs.len
  have HRF := hid (fun n W => refuse_no n W)
  have HRT := hid (fun n W => refuse_yes n W)
  have hRl := hR.1
  have HK0 := hid k0
  have HP := hid hp
  have c0 := hp.cell 0 rfl
  have f0 := hp.frozen 0
  clear hA hI hc hs hR hp k0
  by_cases h0 : rs.length = 0
  · have HE : Hid (errM (writeM h.win M rs) = 1) := by
      unfold Hid writeM
      rw [if_pos h0]
      rfl
    generalize h.win = win at *
    generalize h.hb = hb at *
    rw [h0] at HLK hRl ⊢
    go_enter_defers Tryz.func10, Tryz.ntmps10
    go_wp2_with fail
    refine (HRT.out _ _).mono ?_
    rintro e w1 ⟨rfl, hw⟩
    replace hw := hw.symm
    subst hw
    refine leaves_cons (f := 32) (args := #[.pointer (some ⟨w.heap.size, 0, none⟩)]) (by simp) (by simp [go_sem]) ?_
    refine (mayUp _ 0 1 _ HP.out).mono ?_
    rintro e u' w'' ⟨rfl, rfl, hk2, hp2⟩
    have hp3 := hp2.cell 0 rfl
    simp [Leaves, settle, results, Tryz.results10, go_sem, hp3]
    exact ⟨by rw [HE.out], HK0.out.trans hk2 (fun j hj e => by omega)⟩
  · by_cases h2 : 200 < rs.length
    · have HE : Hid (errM (writeM h.win M rs) = 2) := by
        unfold Hid writeM
        rw [if_neg h0, if_pos h2]
        rfl
      generalize h.win = win at *
      generalize h.hb = hb at *
      generalize rs.length = n at *
      obtain ⟨m0, rfl⟩ : ∃ m0, n = m0 + 1 := ⟨n - 1, by omega⟩
      have h2' : (200 : Int) < (m0 : Int) + 1 := by omega
      clear h0 h2
      go_enter_defers Tryz.func10, Tryz.ntmps10
      go_wp2_with fail
      refine (HRF.out _ _).mono ?_
      rintro e w1 ⟨rfl, hw⟩
      replace hw := hw.symm
      subst hw
      go_wp2_with fail
      refine (HRT.out _ _).mono ?_
      rintro e w1 ⟨rfl, hw⟩
      replace hw := hw.symm
      subst hw
      refine leaves_cons (f := 32) (args := #[.pointer (some ⟨w.heap.size, 0, none⟩)]) (by simp) (by simp [go_sem]) ?_
      refine (mayUp _ 0 2 _ HP.out).mono ?_
      rintro e u' w'' ⟨rfl, rfl, hk2, hp2⟩
      have hp3 := hp2.cell 0 rfl
      simp [Leaves, settle, results, Tryz.results10, go_sem, hp3]
      exact ⟨by rw [HE.out], HK0.out.trans hk2 (fun j hj e => by omega)⟩
    · have HE : Hid (∀ x, rowsM h.win M rs = x → errM (writeM h.win M rs) = errM x) := fun x hx => by
        unfold writeM
        rw [if_neg h0, if_neg h2, hx]
      generalize h.win = win at *
      generalize h.hb = hb at *
      generalize rs.length = n at *
      obtain ⟨m0, rfl⟩ : ∃ m0, n = m0 + 1 := ⟨n - 1, by omega⟩
      have h2' : ¬ (200 : Int) < (m0 : Int) + 1 := by omega
      have h3' : decide ((200 : Int) < (m0 : Int) + 1) = false := decide_eq_false h2'
      have h4' : ¬ (200 : Int) ≤ (m0 : Int) := by omega
      have h5' : ¬ 200 ≤ m0 := by omega
      clear h0 h2
      go_enter_defers Tryz.func10, Tryz.ntmps10
      go_wp2_with fail
      refine (HRF.out _ _).mono ?_
      rintro e w1 ⟨rfl, hw⟩
      replace hw := hw.symm
      subst hw
      go_wp2_with fail
      refine (HRF.out _ _).mono ?_
      rintro e w1 ⟨rfl, hw⟩
      replace hw := hw.symm
      subst hw
      go_wp2_with fail
      refine HLK.out.mono ?_
      rintro e w1 ⟨⟨rfl, N, hN⟩ | ⟨m, rfl, hm⟩, k1⟩
      · have HX := hid (HE.out _ hN)
        have hp1 := k1.blk HP.out (fun f => f)
        have c1' := hp1.cell 0 rfl
        have f1 := hp1.frozen 0
        have HP1 := hid hp1
        have K1 := hid k1
        clear hN k1 hp1 HLK HE
        go_wp2_with fail
        refine leaves_cons (f := 32) (args := #[.pointer (some ⟨w.heap.size, 0, none⟩)]) (by simp) (by simp [go_sem]) ?_
        refine (mayNo _ _).mono ?_
        rintro e u' w'' ⟨rfl, rfl, rfl⟩
        have hp3 := (HP1.out.set 0 (.int .i64 0)).cell 0 rfl
        simp [Leaves, settle, results, Tryz.results10, go_sem, hp3]
        exact ⟨by rw [HX.out]; rfl, (HK0.out.trans K1.out (fun _ _ f => f)).setCell (fun hlt => absurd hlt (by simp)) _⟩
      · have HX := hid (HE.out _ hm)
        have hp1 := k1.blk HP.out (fun f => f)
        refine leaves_cons (f := 32) (args := #[.pointer (some ⟨w.heap.size, 0, none⟩)]) (by simp) (by simp [go_sem]) ?_
        refine (mayUp _ 0 m _ hp1).mono ?_
        rintro e u' w'' ⟨rfl, rfl, hk2, hp2⟩
        have hp3 := hp2.cell 0 rfl
        simp [Leaves, settle, results, Tryz.results10, go_sem, hp3]
        exact ⟨by rw [HX.out]; rfl, (HK0.out.trans k1 (fun _ _ f => f)).trans hk2 (fun j hj e => by omega)⟩
end Go.Proofs.YtnbfbnhiikliaaaGreat.Hd
