/-
  Dtry.
-/
import Derived.Test.YtfmdnaagdhpcpaaQ01
import Derived.Defers
import Derived.Recover

/-
  attempt: a step is drawn, looked at, strained and done, or it gives up, and what it gave up at is answered.
-/
namespace Go.Proofs.Ytfmdnaagdhpcpaa
open Go.RowKit Go.Proofs.Lys Go.Maps
set_option linter.unusedVariables false

/-- The deferred closure, where the step gave up. -/
theorem catch_up (p : Addr) (x n : Int) (w : World) (hc : w.cell? p = some (.int .i64 x)) (hz : w.frozen? p = false) :
    CallsD Try.prog 60 #[.pointer (some p)] (.panicking [{ v := .iface 35 (.int .i64 n), recovered := false }]) w fun e u' w' =>
      e = .returned (.tuple #[]) ∧ u' = .panicking [{ v := .iface 35 (.int .i64 n), recovered := true }] ∧ w' = w.setCell p (.int .i64 n) := by
  have hta : (Instr.typeAssert (.iface 35 (.int .i64 n)) 20 35 false).run Try.prog w = .ok (.int .i64 n) w := by
    simp [Instr.typeAssert, run_underlying Try.underlying35, Result.andThen]
  refine callsD_of_wpS Try.func60 rfl fun c₀ cs hu => ?_
  apply wpS_seq
  apply wpS_region
  simp [wpOpsS, go_sem, recoverD, hu, Try.ntmps60, Exit.thenS]
  apply wpS_seq
  apply wpS_region
  simp [wpOpsS, go_sem, Exit.thenS]
  refine wpS_cond (t := true) (by simp [Act.eval, Array.replicate]) ?_
  simp only [if_true]
  apply wpS_region
  simp [wpOpsS, go_sem, hta, hc, hz, bodyPostS, results, Try.results60]

theorem catch_no (p : Addr) (w : World) :
    CallsD Try.prog 60 #[.pointer (some p)] .returning w fun e u' w' => e = .returned (.tuple #[]) ∧ u' = .returning ∧ w' = w := by
  refine callsD_of_wpS Try.func60 rfl fun c₀ cs hu => ?_
  apply wpS_seq
  apply wpS_region
  simp [wpOpsS, go_sem, recoverD, hu, Try.ntmps60, Exit.thenS]
  apply wpS_seq
  apply wpS_region
  simp [wpOpsS, go_sem, Exit.thenS]
  refine wpS_cond (t := false) (by simp [Act.eval, Array.replicate]) ?_
  simp only [Bool.false_eq_true, if_false]
  refine wpS_of_wp (wp_skip ?_)
  cases c₀
  simp_all [bodyPostS, results, Try.results60]

section
variable {w : World} {c : Conc} {O : Nat → Prop} {m : DModel}

set_option maxHeartbeats 800000 in
/-- Without power, or where the fuse blows. -/
theorem attempt_off (h : DiskAt w c O m) (hoff : m.off = true ∨ m.fuse = some 0) (sv kv nv tv bv : Value) :
    Calls Try.prog 34 #[.pointer (some ⟨c.d, 0, none⟩), sv, .agg #[kv, nv, tv, bv]] w fun e w' => e = .returned (.int .i64 12) ∧ Only O w w' ∧ DiskAt w' c O { m with off := true } := by
  have hmf : ∀ (fn : Fn) (first cap : Array Value) (w : World), (Instr.makeFunc fn first cap).run Try.prog w = .ok (.func fn first cap) w := fun _ _ _ _ => rfl
  have hf : (!m.off) = false ∨ (m.fuse.isSome && decide (c.fw ≤ 0)) = true := by
    rcases hoff with e | e
    · exact .inl (by rw [e]; rfl)
    · right
      have := (h.fuse 0 e).1
      rw [e, this]
      rfl
  go_enter_defers Try.func34, Try.ntmps34
  go_wp2_with fail
  have h1 : DiskAt ((w.alloc (.cells #[kv, nv, tv, bv] 31)).alloc (.cells #[.int .i64 0] 35)) c O m := h.stay (((Only.refl _ w).alloc _).alloc _)
  have hE : Blk ((w.alloc (.cells #[kv, nv, tv, bv] 31)).alloc (.cells #[.int .i64 0] 35)) (w.heap.size + 1) [.int .i64 0] 35 := by
    have := Blk.new (w.alloc (.cells #[kv, nv, tv, bv] 31)) [.int .i64 0] 35
    simpa using this
  refine (draw_off h1.cells hf).mono ?_
  rintro e w1 ⟨rfl, hk, hc⟩
  go_wp2_with fail
  refine leaves_cons (f := 60) (args := #[.pointer (some ⟨w.heap.size + 1, 0, none⟩)]) (by simp) (by simp [go_sem]) ?_
  have hE1 := hk.blk hE (fun e => by have := h.top _ h.oD; omega)
  refine (catch_up _ 0 12 _ (hE1.cell 0 rfl) (hE1.frozen 0)).mono ?_
  rintro e u' w'' ⟨rfl, rfl, rfl⟩
  have hE2 := hE1.set 0 (.int .i64 12)
  have hE2c := hE2.cell 0 rfl
  simp [Leaves, settle, results, Try.results34, go_sem, hE2c]
  have hn : ¬ O (w.heap.size + 1) := fun hO => by have := h.top _ hO; omega
  have h2 : DiskAt w1 c O { m with off := true } := h1.scal (fw := c.fw) (aw := c.aw) hk hc rfl rfl rfl rfl rfl h1.fuse h1.fault
  exact ⟨(((((Only.refl O w).alloc _).alloc _).trans hk (fun j _ e => e ▸ h.oD))).setCell (fun hlt => absurd hlt (by simp)) _, h2.cell hn _⟩
end

/-- What calling a step's function and then what it handed back comes to. -/
def StepOk (f : FuncId) (c : Conc) (O : Nat → Prop) (m : DModel) (o : DOp) (ov : Value) (w : World) : Prop :=
  (m.own o ≠ 0 → Calls Try.prog f #[.pointer (some ⟨c.d, 0, none⟩), ov] w fun e w1 => e = gaveUp (m.own o) ∧ Stay w w1) ∧
  (m.own o = 0 → Calls Try.prog f #[.pointer (some ⟨c.d, 0, none⟩), ov] w fun e w1 => ∃ (g : FuncId) (first cap : Array Value), e = .returned (.func (.func g) first cap) ∧ Stay w w1 ∧
    (∀ args v, (callFunc g args).run Try.prog v = .ok (.enter g args) v) ∧
    ∀ w2, Stay w1 w2 → Calls Try.prog g (first ++ cap) w2 fun e w3 => e = .returned (.tuple #[]) ∧ Only (Grow O w w3) w2 w3 ∧ ∃ c', c'.d = c.d ∧ DiskAt w3 c' (Grow O w w3) (m.done o))

section
variable {w : World} {c : Conc} {O : Nat → Prop} {m : DModel}

theorem fuse_quiet (h : DiskAt w c O m) (hf : m.fuse ≠ some 0) : (m.fuse.isSome && decide (c.fw ≤ 0)) = false := by
  cases hm : m.fuse with
  | none => rfl
  | some n =>
    have := (h.fuse n hm).1
    rw [hm] at hf
    have : n ≠ 0 := fun e => hf (by rw [e])
    simp
    omega
theorem fault_quiet (h : DiskAt w c O m) (hf : m.fault ≠ some 0) : (m.fault.isSome && decide (c.aw ≤ 0)) = false := by
  cases hm : m.fault with
  | none => rfl
  | some n =>
    have := (h.fault n hm).1
    rw [hm] at hf
    have : n ≠ 0 := fun e => hf (by rw [e])
    simp
    omega
theorem fault_due (h : DiskAt w c O m) (hf : m.fault = some 0) : (m.fault.isSome && decide (c.aw ≤ 0)) = true := by
  have := (h.fault 0 hf).1
  rw [hf, this]
  rfl

/-- The world in which attempt's body begins. -/
abbrev tryW (w : World) (kv nv tv bv : Value) : World := (w.alloc (.cells #[kv, nv, tv, bv] 31)).alloc (.cells #[.int .i64 0] 35)

theorem tryE (w : World) (kv nv tv bv : Value) : Blk (tryW w kv nv tv bv) (w.heap.size + 1) [.int .i64 0] 35 := by
  have := Blk.new (w.alloc (.cells #[kv, nv, tv, bv] 31)) [.int .i64 0] 35
  simpa using this
theorem tryO (w : World) (kv nv tv bv : Value) : Blk (tryW w kv nv tv bv) w.heap.size [kv, nv, tv, bv] 31 := (Blk.new w [kv, nv, tv, bv] 31).alloc _
theorem tryS (w : World) (kv nv tv bv : Value) : Stay w (tryW w kv nv tv bv) := ((Only.refl _ w).alloc _).alloc _

set_option maxHeartbeats 800000 in
/-- A step that gives up by its own error. -/
theorem attempt_own (h : DiskAt w c O m) (hon : m.off = false) (hfu : m.fuse ≠ some 0) (f : FuncId) (o : DOp) (kv nv tv bv : Value)
    (hent : ∀ args v, (callFunc f args).run Try.prog v = .ok (.enter f args) v)
    (hst : ∀ w1, Stay (tryW w kv nv tv bv) w1 → StepOk f c O m o (.agg #[kv, nv, tv, bv]) w1) (howe : m.own o ≠ 0) :
    Calls Try.prog 34 #[.pointer (some ⟨c.d, 0, none⟩), .func (.func f) #[.pointer (some ⟨c.d, 0, none⟩)] #[], .agg #[kv, nv, tv, bv]] w fun e w' => e = .returned (.int .i64 (m.own o)) ∧ Only O w w' ∧ DiskAt w' c O m := by
  have hmf : ∀ (fn : Fn) (first cap : Array Value) (w : World), (Instr.makeFunc fn first cap).run Try.prog w = .ok (.func fn first cap) w := fun _ _ _ _ => rfl
  have h1 := h.stay (tryS w kv nv tv bv)
  have hE := tryE w kv nv tv bv
  have hOp := tryO w kv nv tv bv
  have hq := fuse_quiet h hfu
  go_enter_defers Try.func34, Try.ntmps34
  go_wp2_with fail
  have hcl := h1.cells
  unfold DCells at hcl
  rw [hon] at hcl
  refine (draw_on hcl hq).mono ?_
  rintro e w1 ⟨rfl, hs1⟩
  have hO1 := hs1.blk hOp (fun f => f)
  have o0 := hO1.cell 0 rfl
  have o1 := hO1.cell 1 rfl
  have o2 := hO1.cell 2 rfl
  have o3 := hO1.cell 3 rfl
  go_wp2_with fail
  refine ((hst w1 hs1).1 howe).mono ?_
  rintro e w2 ⟨rfl, hs2⟩
  go_wp2_with fail
  have hE2 := hs2.blk (hs1.blk hE (fun f => f)) (fun f => f)
  refine leaves_cons (f := 60) (args := #[.pointer (some ⟨w.heap.size + 1, 0, none⟩)]) (by simp) (by simp [go_sem]) ?_
  refine (catch_up _ 0 _ _ (hE2.cell 0 rfl) (hE2.frozen 0)).mono ?_
  rintro e u' w'' ⟨rfl, rfl, rfl⟩
  have hE3 := (hE2.set 0 (.int .i64 (m.own o))).cell 0 rfl
  simp [Leaves, settle, results, Try.results34, go_sem, hE3]
  have hn : ¬ O (w.heap.size + 1) := fun hO => by have := h.top _ hO; omega
  have hk : Only O w w2 := (((tryS w kv nv tv bv).trans hs1 (fun _ _ f => f)).trans hs2 (fun _ _ f => f)).mono (fun _ _ f => f.elim)
  exact ⟨hk.setCell (fun hlt => absurd hlt (by simp)) _, ((h1.stay hs1).stay hs2).cell hn _⟩

set_option maxHeartbeats 800000 in
/-- A step that a fault meets. -/
theorem attempt_fault (h : DiskAt w c O m) (hon : m.off = false) (hfu : m.fuse ≠ some 0) (f : FuncId) (o : DOp) (kv nv tv bv : Value)
    (hent : ∀ args v, (callFunc f args).run Try.prog v = .ok (.enter f args) v)
    (hst : ∀ w1, Stay (tryW w kv nv tv bv) w1 → StepOk f c O m o (.agg #[kv, nv, tv, bv]) w1) (howe : m.own o = 0) (hfa : m.fault = some 0) :
    Calls Try.prog 34 #[.pointer (some ⟨c.d, 0, none⟩), .func (.func f) #[.pointer (some ⟨c.d, 0, none⟩)] #[], .agg #[kv, nv, tv, bv]] w fun e w' => e = .returned (.int .i64 10) ∧ Only O w w' ∧ DiskAt w' { c with aw := 0 } O { m with fault := none } := by
  have hmf : ∀ (fn : Fn) (first cap : Array Value) (w : World), (Instr.makeFunc fn first cap).run Try.prog w = .ok (.func fn first cap) w := fun _ _ _ _ => rfl
  have h1 := h.stay (tryS w kv nv tv bv)
  have hE := tryE w kv nv tv bv
  have hOp := tryO w kv nv tv bv
  have hq := fuse_quiet h hfu
  have hd := fault_due h hfa
  go_enter_defers Try.func34, Try.ntmps34
  go_wp2_with fail
  have hcl := h1.cells
  unfold DCells at hcl
  rw [hon] at hcl
  refine (draw_on hcl hq).mono ?_
  rintro e w1 ⟨rfl, hs1⟩
  have hO1 := hs1.blk hOp (fun f => f)
  have o0 := hO1.cell 0 rfl
  have o1 := hO1.cell 1 rfl
  have o2 := hO1.cell 2 rfl
  have o3 := hO1.cell 3 rfl
  go_wp2_with fail
  refine ((hst w1 hs1).2 howe).mono ?_
  rintro e w2 ⟨g, first, cap, rfl, hs2, hg, hfin⟩
  go_wp2_with fail
  have h2 := (h1.stay hs1).stay hs2
  refine (strain_yes h2.cells hd).mono ?_
  rintro e w3 ⟨rfl, hk3, hc3⟩
  go_wp2_with fail
  have hE3 := hk3.blk (hs2.blk (hs1.blk hE (fun f => f)) (fun f => f)) (fun e => by have := h.top _ h.oD; omega)
  refine leaves_cons (f := 60) (args := #[.pointer (some ⟨w.heap.size + 1, 0, none⟩)]) (by simp) (by simp [go_sem]) ?_
  refine (catch_up _ 0 _ _ (hE3.cell 0 rfl) (hE3.frozen 0)).mono ?_
  rintro e u' w'' ⟨rfl, rfl, rfl⟩
  have hE4 := (hE3.set 0 (.int .i64 10)).cell 0 rfl
  simp [Leaves, settle, results, Try.results34, go_sem, hE4]
  have hn : ¬ O (w.heap.size + 1) := fun hO => by have := h.top _ hO; omega
  have hk : Only O w w2 := (((tryS w kv nv tv bv).trans hs1 (fun _ _ f => f)).trans hs2 (fun _ _ f => f)).mono (fun _ _ f => f.elim)
  have h3 : DiskAt w3 { c with fw := c.fw, aw := 0 } O { m with fault := none } := h2.scal (fw := c.fw) (aw := 0) hk3 hc3 rfl rfl rfl rfl rfl h2.fuse (fun n e => by cases e)
  exact ⟨(hk.trans hk3 (fun j _ e => e ▸ h.oD)).setCell (fun hlt => absurd hlt (by simp)) _, h3.cell hn _⟩

theorem wrap_dec {n : Nat} (h : (n : Int) ≤ 9223372036854775807) (h0 : n ≠ 0) : wrap64 ((n : Int) - 1) = ((n - 1 : Nat) : Int) := by
  unfold wrap64
  omega

set_option maxHeartbeats 800000 in
/-- A step that is done. -/
theorem attempt_done (h : DiskAt w c O m) (hon : m.off = false) (hfu : m.fuse ≠ some 0) (f : FuncId) (o : DOp) (kv nv tv bv : Value)
    (hent : ∀ args v, (callFunc f args).run Try.prog v = .ok (.enter f args) v)
    (hst : ∀ w1, Stay (tryW w kv nv tv bv) w1 → StepOk f c O m o (.agg #[kv, nv, tv, bv]) w1) (howe : m.own o = 0) (hfa : m.fault ≠ some 0) (hsteps : m.steps ≤ 1000000000)
    (hsame : (m.done o).steps = m.steps ∧ (m.done o).fuse = m.fuse ∧ (m.done o).fault = m.fault) :
    Calls Try.prog 34 #[.pointer (some ⟨c.d, 0, none⟩), .func (.func f) #[.pointer (some ⟨c.d, 0, none⟩)] #[], .agg #[kv, nv, tv, bv]] w fun e w' => e = .returned (.int .i64 0) ∧ Only O w w' ∧ ∃ c', c'.d = c.d ∧ DiskAt w' c' (Grow O w w') (m.done o).count := by
  have hmf : ∀ (fn : Fn) (first cap : Array Value) (w : World), (Instr.makeFunc fn first cap).run Try.prog w = .ok (.func fn first cap) w := fun _ _ _ _ => rfl
  have h1 := h.stay (tryS w kv nv tv bv)
  have hE := tryE w kv nv tv bv
  have hOp := tryO w kv nv tv bv
  have hq := fuse_quiet h hfu
  have hd := fault_quiet h hfa
  go_enter_defers Try.func34, Try.ntmps34
  go_wp2_with fail
  have hcl := h1.cells
  unfold DCells at hcl
  rw [hon] at hcl
  refine (draw_on hcl hq).mono ?_
  rintro e w1 ⟨rfl, hs1⟩
  have hO1 := hs1.blk hOp (fun f => f)
  have o0 := hO1.cell 0 rfl
  have o1 := hO1.cell 1 rfl
  have o2 := hO1.cell 2 rfl
  have o3 := hO1.cell 3 rfl
  go_wp2_with fail
  refine ((hst w1 hs1).2 howe).mono ?_
  rintro e w2 ⟨g, first, cap, rfl, hs2, hg, hfin⟩
  go_wp2_with fail
  have h2 := (h1.stay hs1).stay hs2
  refine (strain_no h2.cells hd).mono ?_
  rintro e w3 ⟨rfl, hs3⟩
  clear o0 o1 o2 o3
  go_wp2_with fail
  refine (hfin w3 hs3).mono ?_
  rintro e w4 ⟨rfl, hk4, c4, hcd, h4⟩
  go_wp2_with fail
  rw [← hcd]
  refine (count_any h4.cells (by omega) (by rw [hsame.1]; omega)).mono ?_
  rintro e w5 ⟨rfl, hk5, hc5⟩
  have hlt := h.top _ h.oD
  have hn : ¬ O (w.heap.size + 1) := fun hO => by have := h.top _ hO; omega
  have hsz : w.heap.size + 2 ≤ w1.heap.size := by have := hs1.size; simpa [tryW] using this
  have hng : ¬ Grow O w1 w4 (w.heap.size + 1) := by
    rintro (hO | ⟨a, b⟩)
    · exact hn hO
    · omega
  have hE5 := hk5.blk (hk4.blk (hs3.blk (hs2.blk (hs1.blk hE (fun f => f)) (fun f => f)) (fun f => f)) hng) (fun e => by rw [hcd] at e; omega)
  have e5 := hE5.cell 0 rfl
  have z5 := hE5.frozen 0
  go_wp2_with fail
  refine leaves_cons (f := 60) (args := #[.pointer (some ⟨w.heap.size + 1, 0, none⟩)]) (by simp) (by simp [go_sem]) ?_
  refine (catch_no _ _).mono ?_
  rintro e u' w'' ⟨rfl, rfl, rfl⟩
  have hE6 := (hE5.set 0 (.int .i64 0)).cell 0 rfl
  simp [Leaves, settle, results, Try.results34, go_sem, hE6]
  have hk : Only O w w4 := ((((tryS w kv nv tv bv).trans hs1 (fun _ _ f => f)).trans hs2 (fun _ _ f => f)).trans hs3 (fun _ _ f => f)).mono (O' := O) (fun _ _ f => f.elim) |>.trans hk4 (fun j hj hg => hg.resolve_right (by omega))
  have h5 : DiskAt w5 { c4 with fw := wrap64 (c4.fw - 1), aw := wrap64 (c4.aw - 1) } (Grow O w1 w4) (m.done o).count := by
    refine h4.scal (m' := (m.done o).count) hk5 ?_ rfl rfl rfl rfl rfl ?_ ?_
    · have e1 : (m.done o).count.fuse.isSome = (m.done o).fuse.isSome := by simp [DModel.count]
      have e2 : (m.done o).count.fault.isSome = (m.done o).fault.isSome := by simp [DModel.count]
      unfold DCells
      rw [e1, e2]
      exact hc5
    · intro n hn'
      simp only [DModel.count] at hn'
      rw [hsame.2.1] at hn'
      cases hfm : m.fuse with
      | none => rw [hfm] at hn'; cases hn'
      | some k =>
        rw [hfm] at hn'
        simp only [Option.map_some, Option.some.injEq] at hn'
        have hk0 := h4.fuse k (by rw [hsame.2.1]; exact hfm)
        have hk1 : k ≠ 0 := fun e => hfu (by rw [hfm, e])
        rw [hk0.1, wrap_dec hk0.2 hk1]
        omega
    · intro n hn'
      simp only [DModel.count] at hn'
      rw [hsame.2.2] at hn'
      cases hfm : m.fault with
      | none => rw [hfm] at hn'; cases hn'
      | some k =>
        rw [hfm] at hn'
        simp only [Option.map_some, Option.some.injEq] at hn'
        have hk0 := h4.fault k (by rw [hsame.2.2]; exact hfm)
        have hk1 : k ≠ 0 := fun e => hfa (by rw [hfm, e])
        rw [hk0.1, wrap_dec hk0.2 hk1]
        omega
  have h6 := h5.cell hng (.int .i64 0)
  have hk45 := hk5.size
  refine ⟨(hk.trans hk5 (fun j _ e => by rw [e, hcd]; exact h.oD)).setCell (fun hlt => absurd hlt (by simp)) _, _, ?_, h6.mono (fun k hk => ?_) (fun k hk => ?_)⟩
  · exact hcd
  · rcases hk with hO | ⟨a, b⟩
    · exact .inl hO
    · exact .inr ⟨by omega, by simp; omega⟩
  · rcases hk with hO | ⟨a, b⟩
    · have := h.top _ hO
      have := hk.size
      simp
      omega
    · exact b
end
end Go.Proofs.Ytfmdnaagdhpcpaa
