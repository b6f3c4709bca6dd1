/-
  Ddo.
-/
import Derived.Test.YtfmdnaagdhpcpaaQ09
import Derived.Laws.EntriesVeiled

/-
  Do: the step that an operation tells, and the calls by name.
-/
namespace Go.Proofs.Ytfmdnaagdhpcpaa
open Go.RowKit Go.Proofs.Lys Go.Maps Go.Shelf
set_option linter.unusedVariables false

section
variable {w : World} {c : Conc} {O : Nat → Prop} {m : DModel}

theorem done_same (m : DModel) (o : DOp) : (m.done o).steps = m.steps ∧ (m.done o).fuse = m.fuse ∧ (m.done o).fault = m.fault := by
  unfold DModel.done
  repeat' split
  all_goals exact ⟨rfl, rfl, rfl⟩

theorem grow_id (h : DiskAt w c O m) {w0 : World} (hs : w0.heap.size ≤ w.heap.size) (ht : ∀ k, O k → k < w0.heap.size) : DiskAt w c (Grow O w0 w) m :=
  h.mono (fun k hk => .inl hk) (fun k hk => by
    rcases hk with hk | ⟨_, hk⟩
    · exact h.top k hk
    · exact hk)

theorem attempt_any (h : DiskAt w c O m) (f : FuncId) (o : DOp) (kv nv tv bv : Value) (hent : ∀ args v, (callFunc f args).run Try.prog v = .ok (.enter f args) v)
    (hst : ∀ w1, Stay (tryW w kv nv tv bv) w1 → StepOk f c O m o (.agg #[kv, nv, tv, bv]) w1) (hsteps : m.steps ≤ 1000000000) (hkind : ¬ (o.kind < 0 ∨ 5 < o.kind)) :
    Calls Try.prog 34 #[.pointer (some ⟨c.d, 0, none⟩), .func (.func f) #[.pointer (some ⟨c.d, 0, none⟩)] #[], .agg #[kv, nv, tv, bv]] w fun e w' => e = .returned (.int .i64 ((m.doOp o).1 : Int)) ∧ Only O w w' ∧
      ∃ c', c'.d = c.d ∧ DiskAt w' c' (Grow O w w') (m.doOp o).2 := by
  unfold DModel.doOp
  rw [if_neg hkind]
  by_cases hoff : m.off = true
  · rw [if_pos hoff]
    refine (attempt_off h (.inl hoff) _ kv nv tv bv).mono ?_
    rintro e w' ⟨rfl, hk, h'⟩
    have : ({ m with off := true } : DModel) = m := by cases m; simp at hoff; simp [hoff]
    rw [this] at h'
    exact ⟨rfl, hk, c, rfl, grow_id h' hk.size h.top⟩
  · rw [if_neg hoff]
    have hon : m.off = false := by simpa using hoff
    by_cases hfu : m.fuse = some 0
    · rw [if_pos hfu]
      refine (attempt_off h (.inr hfu) _ kv nv tv bv).mono ?_
      rintro e w' ⟨rfl, hk, h'⟩
      exact ⟨rfl, hk, c, rfl, grow_id h' hk.size h.top⟩
    · rw [if_neg hfu]
      by_cases howe : m.own o ≠ 0
      · rw [if_pos howe]
        refine (attempt_own h hon hfu f o kv nv tv bv hent hst howe).mono ?_
        rintro e w' ⟨rfl, hk, h'⟩
        exact ⟨rfl, hk, c, rfl, grow_id h' hk.size h.top⟩
      · rw [if_neg howe]
        have howe' : m.own o = 0 := by omega
        by_cases hfa : m.fault = some 0
        · rw [if_pos hfa]
          refine (attempt_fault h hon hfu f o kv nv tv bv hent hst howe' hfa).mono ?_
          rintro e w' ⟨rfl, hk, h'⟩
          exact ⟨rfl, hk, { c with aw := 0 }, rfl, grow_id h' hk.size h.top⟩
        · rw [if_neg hfa]
          refine (attempt_done h hon hfu f o kv nv tv bv hent hst howe' hfa hsteps (done_same m o)).mono ?_
          rintro e w' ⟨rfl, hk, c', hc', h'⟩
          exact ⟨rfl, hk, c', hc', h'⟩

/-- The world in which Do calls attempt. -/
abbrev doW (w : World) (d : Nat) (kv nv tv bv : Value) : World := (w.alloc (.cells #[kv, nv, tv, bv] 31)).alloc (.cells #[.func (.func 28) #[.pointer (some ⟨d, 0, none⟩)] #[], .func (.func 29) #[.pointer (some ⟨d, 0, none⟩)] #[], .func (.func 30) #[.pointer (some ⟨d, 0, none⟩)] #[], .func (.func 31) #[.pointer (some ⟨d, 0, none⟩)] #[], .func (.func 32) #[.pointer (some ⟨d, 0, none⟩)] #[], .func (.func 33) #[.pointer (some ⟨d, 0, none⟩)] #[]] 66)
theorem doS (w : World) (d : Nat) (kv nv tv bv : Value) : Stay w (doW w d kv nv tv bv) := ((Only.refl _ w).alloc _).alloc _
theorem doO (w : World) (d : Nat) (kv nv tv bv : Value) : Blk (doW w d kv nv tv bv) w.heap.size [kv, nv, tv, bv] 31 := (Blk.new w [kv, nv, tv, bv] 31).alloc _
theorem doA (w : World) (d : Nat) (kv nv tv bv : Value) : Blk (doW w d kv nv tv bv) (w.heap.size + 1) [.func (.func 28) #[.pointer (some ⟨d, 0, none⟩)] #[], .func (.func 29) #[.pointer (some ⟨d, 0, none⟩)] #[], .func (.func 30) #[.pointer (some ⟨d, 0, none⟩)] #[], .func (.func 31) #[.pointer (some ⟨d, 0, none⟩)] #[], .func (.func 32) #[.pointer (some ⟨d, 0, none⟩)] #[], .func (.func 33) #[.pointer (some ⟨d, 0, none⟩)] #[]] 66 := by
  have := Blk.new (w.alloc (.cells #[kv, nv, tv, bv] 31)) [.func (.func 28) #[.pointer (some ⟨d, 0, none⟩)] #[], .func (.func 29) #[.pointer (some ⟨d, 0, none⟩)] #[], .func (.func 30) #[.pointer (some ⟨d, 0, none⟩)] #[], .func (.func 31) #[.pointer (some ⟨d, 0, none⟩)] #[], .func (.func 32) #[.pointer (some ⟨d, 0, none⟩)] #[], .func (.func 33) #[.pointer (some ⟨d, 0, none⟩)] #[]] 66
  simpa using this

set_option maxHeartbeats 800000 in
theorem do_bad (d : Nat) (k : Int) (nv tv bv : Value) (hk : k < 0 ∨ 5 < k) : Calls Try.prog 10 #[.pointer (some ⟨d, 0, none⟩), .agg #[.int .i64 k, nv, tv, bv]] w fun e w' => e = .returned (.int .i64 1) ∧ Stay w w' := by
  have hmf : ∀ (fn : Fn) (first cap : Array Value) (w : World), (Instr.makeFunc fn first cap).run Try.prog w = .ok (.func fn first cap) w := fun _ _ _ _ => rfl
  rcases hk with hk | hk
  · have hd : decide (k < 0) = true := by simpa using hk
    go_enter Try.func10, Try.ntmps10
    go_wp2
    go_ret
    exact ⟨rfl, ((Only.refl _ w).alloc _).alloc _⟩
  · have hd : decide (k < 0) = false := by simp; omega
    have hd2 : decide (6 ≤ k) = true := by simp; omega
    go_enter Try.func10, Try.ntmps10
    go_wp2
    go_ret
    exact ⟨rfl, ((Only.refl _ w).alloc _).alloc _⟩

set_option maxHeartbeats 800000 in
theorem do_core0 (d : Nat) (nv tv bv : Value) (R : Ending → World → Prop) (hO : ∀ k, O k → k < w.heap.size)
    (hat : Hid (Calls Try.prog 34 #[.pointer (some ⟨d, 0, none⟩), .func (.func 28) #[.pointer (some ⟨d, 0, none⟩)] #[], .agg #[.int .i64 0, nv, tv, bv]] (doW w d (.int .i64 0) nv tv bv).drew fun e w' => ∃ n : Int, e = .returned (.int .i64 n) ∧ Only O (doW w d (.int .i64 0) nv tv bv).drew w' ∧ R (.returned (.int .i64 n)) w')) :
    Calls Try.prog 10 #[.pointer (some ⟨d, 0, none⟩), .agg #[.int .i64 0, nv, tv, bv]] w R := by
  have hmf : ∀ (fn : Fn) (first cap : Array Value) (w : World), (Instr.makeFunc fn first cap).run Try.prog w = .ok (.func fn first cap) w := fun _ _ _ _ => rfl
  have hn0 : ¬ O w.heap.size := fun h => by have := hO _ h; omega
  have hn1 : ¬ O (w.heap.size + 1) := fun h => by have := hO _ h; omega
  have o0 := (doO w d (.int .i64 0) nv tv bv).cell 0 rfl
  have o1 := (doO w d (.int .i64 0) nv tv bv).cell 1 rfl
  have o2 := (doO w d (.int .i64 0) nv tv bv).cell 2 rfl
  have o3 := (doO w d (.int .i64 0) nv tv bv).cell 3 rfl
  have a0 := (doA w d (.int .i64 0) nv tv bv).cell 0 rfl
  go_enter Try.func10, Try.ntmps10
  go_wp2_with fail
  go_region_held3 (fun w' => w'.cell? ⟨w.heap.size, 0, none⟩ = some (.int .i64 0) ∧ w'.cell? ⟨w.heap.size, 1, none⟩ = some nv ∧ w'.cell? ⟨w.heap.size, 2, none⟩ = some tv ∧ w'.cell? ⟨w.heap.size, 3, none⟩ = some bv ∧ w'.cell? ⟨w.heap.size + 1, 0, none⟩ = some (.func (.func 28) #[.pointer (some ⟨d, 0, none⟩)] #[]))
    (first
      | exact ⟨o0, o1, o2, o3, a0⟩
      | exact ⟨(hk1.blk (doO w d (.int .i64 0) nv tv bv).drew hn0).cell 0 rfl, (hk1.blk (doO w d (.int .i64 0) nv tv bv).drew hn0).cell 1 rfl, (hk1.blk (doO w d (.int .i64 0) nv tv bv).drew hn0).cell 2 rfl, (hk1.blk (doO w d (.int .i64 0) nv tv bv).drew hn0).cell 3 rfl, (hk1.blk (doA w d (.int .i64 0) nv tv bv).drew hn1).cell 0 rfl⟩)
    ((go_at_call 34; refine hat.out.mono ?_; rintro e w1 ⟨n, rfl, hk1, hR⟩))
  go_wp2_with fail
  exact hR

set_option maxHeartbeats 800000 in
theorem do_core1 (d : Nat) (nv tv bv : Value) (R : Ending → World → Prop) (hO : ∀ k, O k → k < w.heap.size)
    (hat : Hid (Calls Try.prog 34 #[.pointer (some ⟨d, 0, none⟩), .func (.func 29) #[.pointer (some ⟨d, 0, none⟩)] #[], .agg #[.int .i64 1, nv, tv, bv]] (doW w d (.int .i64 1) nv tv bv).drew fun e w' => ∃ n : Int, e = .returned (.int .i64 n) ∧ Only O (doW w d (.int .i64 1) nv tv bv).drew w' ∧ R (.returned (.int .i64 n)) w')) :
    Calls Try.prog 10 #[.pointer (some ⟨d, 0, none⟩), .agg #[.int .i64 1, nv, tv, bv]] w R := by
  have hmf : ∀ (fn : Fn) (first cap : Array Value) (w : World), (Instr.makeFunc fn first cap).run Try.prog w = .ok (.func fn first cap) w := fun _ _ _ _ => rfl
  have hn0 : ¬ O w.heap.size := fun h => by have := hO _ h; omega
  have hn1 : ¬ O (w.heap.size + 1) := fun h => by have := hO _ h; omega
  have o0 := (doO w d (.int .i64 1) nv tv bv).cell 0 rfl
  have o1 := (doO w d (.int .i64 1) nv tv bv).cell 1 rfl
  have o2 := (doO w d (.int .i64 1) nv tv bv).cell 2 rfl
  have o3 := (doO w d (.int .i64 1) nv tv bv).cell 3 rfl
  have a0 := (doA w d (.int .i64 1) nv tv bv).cell 1 rfl
  go_enter Try.func10, Try.ntmps10
  go_wp2_with fail
  go_region_held3 (fun w' => w'.cell? ⟨w.heap.size, 0, none⟩ = some (.int .i64 1) ∧ w'.cell? ⟨w.heap.size, 1, none⟩ = some nv ∧ w'.cell? ⟨w.heap.size, 2, none⟩ = some tv ∧ w'.cell? ⟨w.heap.size, 3, none⟩ = some bv ∧ w'.cell? ⟨w.heap.size + 1, 1, none⟩ = some (.func (.func 29) #[.pointer (some ⟨d, 0, none⟩)] #[]))
    (first
      | exact ⟨o0, o1, o2, o3, a0⟩
      | exact ⟨(hk1.blk (doO w d (.int .i64 1) nv tv bv).drew hn0).cell 0 rfl, (hk1.blk (doO w d (.int .i64 1) nv tv bv).drew hn0).cell 1 rfl, (hk1.blk (doO w d (.int .i64 1) nv tv bv).drew hn0).cell 2 rfl, (hk1.blk (doO w d (.int .i64 1) nv tv bv).drew hn0).cell 3 rfl, (hk1.blk (doA w d (.int .i64 1) nv tv bv).drew hn1).cell 1 rfl⟩)
    ((go_at_call 34; refine hat.out.mono ?_; rintro e w1 ⟨n, rfl, hk1, hR⟩))
  go_wp2_with fail
  exact hR

set_option maxHeartbeats 800000 in
theorem do_core2 (d : Nat) (nv tv bv : Value) (R : Ending → World → Prop) (hO : ∀ k, O k → k < w.heap.size)
    (hat : Hid (Calls Try.prog 34 #[.pointer (some ⟨d, 0, none⟩), .func (.func 30) #[.pointer (some ⟨d, 0, none⟩)] #[], .agg #[.int .i64 2, nv, tv, bv]] (doW w d (.int .i64 2) nv tv bv).drew fun e w' => ∃ n : Int, e = .returned (.int .i64 n) ∧ Only O (doW w d (.int .i64 2) nv tv bv).drew w' ∧ R (.returned (.int .i64 n)) w')) :
    Calls Try.prog 10 #[.pointer (some ⟨d, 0, none⟩), .agg #[.int .i64 2, nv, tv, bv]] w R := by
  have hmf : ∀ (fn : Fn) (first cap : Array Value) (w : World), (Instr.makeFunc fn first cap).run Try.prog w = .ok (.func fn first cap) w := fun _ _ _ _ => rfl
  have hn0 : ¬ O w.heap.size := fun h => by have := hO _ h; omega
  have hn1 : ¬ O (w.heap.size + 1) := fun h => by have := hO _ h; omega
  have o0 := (doO w d (.int .i64 2) nv tv bv).cell 0 rfl
  have o1 := (doO w d (.int .i64 2) nv tv bv).cell 1 rfl
  have o2 := (doO w d (.int .i64 2) nv tv bv).cell 2 rfl
  have o3 := (doO w d (.int .i64 2) nv tv bv).cell 3 rfl
  have a0 := (doA w d (.int .i64 2) nv tv bv).cell 2 rfl
  go_enter Try.func10, Try.ntmps10
  go_wp2_with fail
  go_region_held3 (fun w' => w'.cell? ⟨w.heap.size, 0, none⟩ = some (.int .i64 2) ∧ w'.cell? ⟨w.heap.size, 1, none⟩ = some nv ∧ w'.cell? ⟨w.heap.size, 2, none⟩ = some tv ∧ w'.cell? ⟨w.heap.size, 3, none⟩ = some bv ∧ w'.cell? ⟨w.heap.size + 1, 2, none⟩ = some (.func (.func 30) #[.pointer (some ⟨d, 0, none⟩)] #[]))
    (first
      | exact ⟨o0, o1, o2, o3, a0⟩
      | exact ⟨(hk1.blk (doO w d (.int .i64 2) nv tv bv).drew hn0).cell 0 rfl, (hk1.blk (doO w d (.int .i64 2) nv tv bv).drew hn0).cell 1 rfl, (hk1.blk (doO w d (.int .i64 2) nv tv bv).drew hn0).cell 2 rfl, (hk1.blk (doO w d (.int .i64 2) nv tv bv).drew hn0).cell 3 rfl, (hk1.blk (doA w d (.int .i64 2) nv tv bv).drew hn1).cell 2 rfl⟩)
    ((go_at_call 34; refine hat.out.mono ?_; rintro e w1 ⟨n, rfl, hk1, hR⟩))
  go_wp2_with fail
  exact hR

set_option maxHeartbeats 800000 in
theorem do_core3 (d : Nat) (nv tv bv : Value) (R : Ending → World → Prop) (hO : ∀ k, O k → k < w.heap.size)
    (hat : Hid (Calls Try.prog 34 #[.pointer (some ⟨d, 0, none⟩), .func (.func 31) #[.pointer (some ⟨d, 0, none⟩)] #[], .agg #[.int .i64 3, nv, tv, bv]] (doW w d (.int .i64 3) nv tv bv).drew fun e w' => ∃ n : Int, e = .returned (.int .i64 n) ∧ Only O (doW w d (.int .i64 3) nv tv bv).drew w' ∧ R (.returned (.int .i64 n)) w')) :
    Calls Try.prog 10 #[.pointer (some ⟨d, 0, none⟩), .agg #[.int .i64 3, nv, tv, bv]] w R := by
  have hmf : ∀ (fn : Fn) (first cap : Array Value) (w : World), (Instr.makeFunc fn first cap).run Try.prog w = .ok (.func fn first cap) w := fun _ _ _ _ => rfl
  have hn0 : ¬ O w.heap.size := fun h => by have := hO _ h; omega
  have hn1 : ¬ O (w.heap.size + 1) := fun h => by have := hO _ h; omega
  have o0 := (doO w d (.int .i64 3) nv tv bv).cell 0 rfl
  have o1 := (doO w d (.int .i64 3) nv tv bv).cell 1 rfl
  have o2 := (doO w d (.int .i64 3) nv tv bv).cell 2 rfl
  have o3 := (doO w d (.int .i64 3) nv tv bv).cell 3 rfl
  have a0 := (doA w d (.int .i64 3) nv tv bv).cell 3 rfl
  go_enter Try.func10, Try.ntmps10
  go_wp2_with fail
  go_region_held3 (fun w' => w'.cell? ⟨w.heap.size, 0, none⟩ = some (.int .i64 3) ∧ w'.cell? ⟨w.heap.size, 1, none⟩ = some nv ∧ w'.cell? ⟨w.heap.size, 2, none⟩ = some tv ∧ w'.cell? ⟨w.heap.size, 3, none⟩ = some bv ∧ w'.cell? ⟨w.heap.size + 1, 3, none⟩ = some (.func (.func 31) #[.pointer (some ⟨d, 0, none⟩)] #[]))
    (first
      | exact ⟨o0, o1, o2, o3, a0⟩
      | exact ⟨(hk1.blk (doO w d (.int .i64 3) nv tv bv).drew hn0).cell 0 rfl, (hk1.blk (doO w d (.int .i64 3) nv tv bv).drew hn0).cell 1 rfl, (hk1.blk (doO w d (.int .i64 3) nv tv bv).drew hn0).cell 2 rfl, (hk1.blk (doO w d (.int .i64 3) nv tv bv).drew hn0).cell 3 rfl, (hk1.blk (doA w d (.int .i64 3) nv tv bv).drew hn1).cell 3 rfl⟩)
    ((go_at_call 34; refine hat.out.mono ?_; rintro e w1 ⟨n, rfl, hk1, hR⟩))
  go_wp2_with fail
  exact hR

set_option maxHeartbeats 800000 in
theorem do_core4 (d : Nat) (nv tv bv : Value) (R : Ending → World → Prop) (hO : ∀ k, O k → k < w.heap.size)
    (hat : Hid (Calls Try.prog 34 #[.pointer (some ⟨d, 0, none⟩), .func (.func 32) #[.pointer (some ⟨d, 0, none⟩)] #[], .agg #[.int .i64 4, nv, tv, bv]] (doW w d (.int .i64 4) nv tv bv).drew fun e w' => ∃ n : Int, e = .returned (.int .i64 n) ∧ Only O (doW w d (.int .i64 4) nv tv bv).drew w' ∧ R (.returned (.int .i64 n)) w')) :
    Calls Try.prog 10 #[.pointer (some ⟨d, 0, none⟩), .agg #[.int .i64 4, nv, tv, bv]] w R := by
  have hmf : ∀ (fn : Fn) (first cap : Array Value) (w : World), (Instr.makeFunc fn first cap).run Try.prog w = .ok (.func fn first cap) w := fun _ _ _ _ => rfl
  have hn0 : ¬ O w.heap.size := fun h => by have := hO _ h; omega
  have hn1 : ¬ O (w.heap.size + 1) := fun h => by have := hO _ h; omega
  have o0 := (doO w d (.int .i64 4) nv tv bv).cell 0 rfl
  have o1 := (doO w d (.int .i64 4) nv tv bv).cell 1 rfl
  have o2 := (doO w d (.int .i64 4) nv tv bv).cell 2 rfl
  have o3 := (doO w d (.int .i64 4) nv tv bv).cell 3 rfl
  have a0 := (doA w d (.int .i64 4) nv tv bv).cell 4 rfl
  go_enter Try.func10, Try.ntmps10
  go_wp2_with fail
  go_region_held3 (fun w' => w'.cell? ⟨w.heap.size, 0, none⟩ = some (.int .i64 4) ∧ w'.cell? ⟨w.heap.size, 1, none⟩ = some nv ∧ w'.cell? ⟨w.heap.size, 2, none⟩ = some tv ∧ w'.cell? ⟨w.heap.size, 3, none⟩ = some bv ∧ w'.cell? ⟨w.heap.size + 1, 4, none⟩ = some (.func (.func 32) #[.pointer (some ⟨d, 0, none⟩)] #[]))
    (first
      | exact ⟨o0, o1, o2, o3, a0⟩
      | exact ⟨(hk1.blk (doO w d (.int .i64 4) nv tv bv).drew hn0).cell 0 rfl, (hk1.blk (doO w d (.int .i64 4) nv tv bv).drew hn0).cell 1 rfl, (hk1.blk (doO w d (.int .i64 4) nv tv bv).drew hn0).cell 2 rfl, (hk1.blk (doO w d (.int .i64 4) nv tv bv).drew hn0).cell 3 rfl, (hk1.blk (doA w d (.int .i64 4) nv tv bv).drew hn1).cell 4 rfl⟩)
    ((go_at_call 34; refine hat.out.mono ?_; rintro e w1 ⟨n, rfl, hk1, hR⟩))
  go_wp2_with fail
  exact hR

set_option maxHeartbeats 800000 in
theorem do_core5 (d : Nat) (nv tv bv : Value) (R : Ending → World → Prop) (hO : ∀ k, O k → k < w.heap.size)
    (hat : Hid (Calls Try.prog 34 #[.pointer (some ⟨d, 0, none⟩), .func (.func 33) #[.pointer (some ⟨d, 0, none⟩)] #[], .agg #[.int .i64 5, nv, tv, bv]] (doW w d (.int .i64 5) nv tv bv).drew fun e w' => ∃ n : Int, e = .returned (.int .i64 n) ∧ Only O (doW w d (.int .i64 5) nv tv bv).drew w' ∧ R (.returned (.int .i64 n)) w')) :
    Calls Try.prog 10 #[.pointer (some ⟨d, 0, none⟩), .agg #[.int .i64 5, nv, tv, bv]] w R := by
  have hmf : ∀ (fn : Fn) (first cap : Array Value) (w : World), (Instr.makeFunc fn first cap).run Try.prog w = .ok (.func fn first cap) w := fun _ _ _ _ => rfl
  have hn0 : ¬ O w.heap.size := fun h => by have := hO _ h; omega
  have hn1 : ¬ O (w.heap.size + 1) := fun h => by have := hO _ h; omega
  have o0 := (doO w d (.int .i64 5) nv tv bv).cell 0 rfl
  have o1 := (doO w d (.int .i64 5) nv tv bv).cell 1 rfl
  have o2 := (doO w d (.int .i64 5) nv tv bv).cell 2 rfl
  have o3 := (doO w d (.int .i64 5) nv tv bv).cell 3 rfl
  have a0 := (doA w d (.int .i64 5) nv tv bv).cell 5 rfl
  go_enter Try.func10, Try.ntmps10
  go_wp2_with fail
  go_region_held3 (fun w' => w'.cell? ⟨w.heap.size, 0, none⟩ = some (.int .i64 5) ∧ w'.cell? ⟨w.heap.size, 1, none⟩ = some nv ∧ w'.cell? ⟨w.heap.size, 2, none⟩ = some tv ∧ w'.cell? ⟨w.heap.size, 3, none⟩ = some bv ∧ w'.cell? ⟨w.heap.size + 1, 5, none⟩ = some (.func (.func 33) #[.pointer (some ⟨d, 0, none⟩)] #[]))
    (first
      | exact ⟨o0, o1, o2, o3, a0⟩
      | exact ⟨(hk1.blk (doO w d (.int .i64 5) nv tv bv).drew hn0).cell 0 rfl, (hk1.blk (doO w d (.int .i64 5) nv tv bv).drew hn0).cell 1 rfl, (hk1.blk (doO w d (.int .i64 5) nv tv bv).drew hn0).cell 2 rfl, (hk1.blk (doO w d (.int .i64 5) nv tv bv).drew hn0).cell 3 rfl, (hk1.blk (doA w d (.int .i64 5) nv tv bv).drew hn1).cell 5 rfl⟩)
    ((go_at_call 34; refine hat.out.mono ?_; rintro e w1 ⟨n, rfl, hk1, hR⟩))
  go_wp2_with fail
  exact hR

theorem do_any (h : DiskAt w c O m) (o : DOp) {s s2 : ByteArray} (hs : s.size ≤ maxLen) (hn : s.data.toList = o.name) (hs2 : s2.size ≤ maxLen) (hn2 : s2.data.toList = o.to) {bv : Value} (hsrc : SrcAt w bv o.bytes) (hbl : o.bytes.length ≤ 140737488355328)
    (hsteps : m.steps ≤ 1000000000) (hsmall : m.dir.length + m.sure.length + m.acts.length < 1000000) :
    Calls Try.prog 10 #[.pointer (some ⟨c.d, 0, none⟩), .agg #[.int .i64 o.kind, .string s, .string s2, bv]] w fun e w' => e = .returned (.int .i64 ((m.doOp o).1 : Int)) ∧ Only O w w' ∧
      ∃ c', c'.d = c.d ∧ DiskAt w' c' (Grow O w w') (m.doOp o).2 := by
  by_cases hbad : o.kind < 0 ∨ 5 < o.kind
  · refine (do_bad c.d o.kind _ _ _ hbad).mono ?_
    rintro e w' ⟨rfl, hst⟩
    have hd : m.doOp o = (1, m) := by unfold DModel.doOp; rw [if_pos hbad]
    rw [hd]
    exact ⟨rfl, hst.mono (fun _ _ f => f.elim), c, rfl, grow_id (h.stay hst) hst.size h.top⟩
  · have hsz : w.heap.size ≤ (doW w c.d (.int .i64 o.kind) (.string s) (.string s2) bv).heap.size := (doS w c.d _ _ _ _).size
    have hst : Stay w (doW w c.d (.int .i64 o.kind) (.string s) (.string s2) bv).drew := (doS w c.d _ _ _ _).drew
    have h1 := h.stay hst
    have fin : ∀ (f : FuncId), (∀ args v, (callFunc f args).run Try.prog v = .ok (.enter f args) v) → (∀ w1, Stay w w1 → StepOk f c O m o (.agg #[.int .i64 o.kind, .string s, .string s2, bv]) w1) →
        Calls Try.prog 34 #[.pointer (some ⟨c.d, 0, none⟩), .func (.func f) #[.pointer (some ⟨c.d, 0, none⟩)] #[], .agg #[.int .i64 o.kind, .string s, .string s2, bv]] (doW w c.d (.int .i64 o.kind) (.string s) (.string s2) bv).drew
          fun e w' => ∃ n : Int, e = .returned (.int .i64 n) ∧ Only O (doW w c.d (.int .i64 o.kind) (.string s) (.string s2) bv).drew w' ∧
            (Ending.returned (.int .i64 n) = .returned (.int .i64 ((m.doOp o).1 : Int)) ∧ Only O w w' ∧ ∃ c', c'.d = c.d ∧ DiskAt w' c' (Grow O w w') (m.doOp o).2) := by
      intro f hent hok
      refine (attempt_any h1 f o _ _ _ _ hent (fun w1 hw1 => hok w1 ((hst.trans (tryS _ _ _ _ _) (fun _ _ f => f)).trans hw1 (fun _ _ f => f))) hsteps hbad).mono ?_
      rintro e w' ⟨rfl, hk, c', hc', h'⟩
      refine ⟨_, rfl, hk, rfl, (hst.mono (fun _ _ f => f.elim)).trans hk (fun _ _ f => f), c', hc', h'.mono (fun k hk' => ?_) (fun k hk' => ?_)⟩
      · rcases hk' with hk' | ⟨a, b⟩
        · exact .inl hk'
        · exact .inr ⟨Nat.le_trans hst.size a, b⟩
      · rcases hk' with hk' | ⟨a, b⟩
        · exact h'.top k (.inl hk')
        · exact b
    have hk6 : o.kind = 0 ∨ o.kind = 1 ∨ o.kind = 2 ∨ o.kind = 3 ∨ o.kind = 4 ∨ o.kind = 5 := by omega
    have hl : m.dir.length < 1000000 := by omega
    have hla : m.acts.length < 1000000 := by omega
    have hls : m.sure.length + m.acts.length < 1000000 := by omega
    rcases hk6 with hk | hk | hk | hk | hk | hk
    · have F := fin 28 (enters_of Try.func28 (by kernel_rfl) rfl) (fun w1 hw1 => create_ok (h.stay hw1) o hk hl hla hs hn _ _ _)
      rw [hk] at F ⊢
      exact do_core0 c.d _ _ _ _ h.top F
    · have F := fin 29 (enters_of Try.func29 (by kernel_rfl) rfl) (fun w1 hw1 => append_ok (h.stay hw1) o hk hl hs hn _ _ (hsrc.stay hw1) hbl)
      rw [hk] at F ⊢
      exact do_core1 c.d _ _ _ _ h.top F
    · have F := fin 30 (enters_of Try.func30 (by kernel_rfl) rfl) (fun w1 hw1 => sync_ok (h.stay hw1) o hk hs hn _ _ _)
      rw [hk] at F ⊢
      exact do_core2 c.d _ _ _ _ h.top F
    · have F := fin 31 (enters_of Try.func31 (by kernel_rfl) rfl) (fun w1 hw1 => rename_ok (h.stay hw1) o hk hl hla hs hn hs2 hn2 _ _)
      rw [hk] at F ⊢
      exact do_core3 c.d _ _ _ _ h.top F
    · have F := fin 32 (enters_of Try.func32 (by kernel_rfl) rfl) (fun w1 hw1 => remove_ok (h.stay hw1) o hk hl hla hs hn _ _ _)
      rw [hk] at F ⊢
      exact do_core4 c.d _ _ _ _ h.top F
    · have F := fin 33 (enters_of Try.func33 (by kernel_rfl) rfl) (fun w1 hw1 => syncdir_ok (h.stay hw1) o hk hls _ _ _ _)
      rw [hk] at F ⊢
      exact do_core5 c.d _ _ _ _ h.top F
end
end Go.Proofs.Ytfmdnaagdhpcpaa
