/-
  Unpack: the numbers of bytes, or why there are none.
-/
import Derived.Test.YtpajpnjkgojafaaWread
import Derived.Defers
import Derived.Recover
namespace Go.Proofs.Ytpajpnjkgojafaa.V
open Go.RowKit Go.Proofs.Lys
set_option linter.unusedVariables false

theorem unpNo (p q : Addr) (w : World) :
    CallsD Try.prog 19 #[.pointer (some p), .pointer (some q)] .returning w fun e u' w' => e = .returned (.tuple #[]) ∧ u' = .returning ∧ w' = w := by
  refine callsD_of_wpS Try.func19 rfl fun c₀ cs hu => ?_
  apply wpS_seq
  apply wpS_region
  simp [wpOpsS, go_sem, recoverD, hu, Try.ntmps19, Exit.thenS]
  apply wpS_seq
  apply wpS_region
  simp [wpOpsS, go_sem, Exit.thenS]
  refine wpS_cond (t := false) (by simp [Act.eval, Array.replicate]) ?_
  simp only [Bool.false_eq_true, if_false]
  refine wpS_of_wp (wp_skip ?_)
  cases c₀
  simp_all [bodyPostS, results, Try.results19]

theorem unpUp (p q : Nat) (x : Value) (y n : Int) (w : World) (hp : Blk w p [x] 22) (hq : Blk w q [.int .i64 y] 25) :
    CallsD Try.prog 19 #[.pointer (some ⟨p, 0, none⟩), .pointer (some ⟨q, 0, none⟩)] (.panicking [{ v := .iface 25 (.int .i64 n), recovered := false }]) w fun e u' w' =>
      e = .returned (.tuple #[]) ∧ u' = .panicking [{ v := .iface 25 (.int .i64 n), recovered := true }] ∧ Only (fun k => k = p ∨ k = q) w w' ∧ Blk w' p [.slice none 0 0] 22 ∧ Blk w' q [.int .i64 n] 25 := by
  have hpq : p ≠ q := hp.ne hq (by decide)
  have c0 := hp.cell 0 rfl
  have c1 := hq.cell 0 rfl
  have f0 := hp.frozen 0
  have f1 := hq.frozen 0
  have hta : ∀ w, (Instr.typeAssert (.iface 25 (.int .i64 n)) 20 25 false).run Try.prog w = .ok (.int .i64 n) w := by
    intro w
    simp [Instr.typeAssert, run_underlying Try.underlying25, Result.andThen]
  refine callsD_of_wpS Try.func19 rfl fun c₀ cs hu => ?_
  apply wpS_seq
  apply wpS_region
  simp [wpOpsS, go_sem, recoverD, hu, Try.ntmps19, Exit.thenS]
  apply wpS_seq
  apply wpS_region
  simp [wpOpsS, go_sem, Exit.thenS]
  refine wpS_cond (t := true) (by simp [Act.eval, Array.replicate]) ?_
  simp only [if_true]
  refine wpS_of_wp ?_
  go_region
  all_goals
    refine ⟨rfl, _, rfl, .tuple #[], by simp [results, Try.results19], rfl, rfl, (((Only.refl _ w).setCell (fun _ => by simp) _).setCell (fun _ => by simp) _).drew, ?_, ?_⟩
    · exact ((hp.set 0 _).other hpq _).drew
    · exact ((hq.other (Ne.symm hpq) _).set 0 _).drew

/-- What Unpack leaves. -/
def UnpackPost (w : World) (bs : List UInt8) (n : Int) (e : Ending) (w' : World) : Prop :=
  Kept w w' ∧ ∃ l u x, e = .returned (.tuple #[u, .int .i64 x]) ∧ Reads bs n l x ∧ w'.ownsRow w.heap.size 3 1 u l.length (l.map (Value.int .i64))

/-- The world in which Unpack's body begins. -/
abbrev unpW (w : World) : World := (w.alloc (.cells #[.slice none 0 0] 22)).alloc (.cells #[.int .i64 0] 25)
theorem unpP (w : World) : Blk (unpW w) w.heap.size [.slice none 0 0] 22 := (Blk.new w [.slice none 0 0] 22).alloc _
theorem unpQ (w : World) : Blk (unpW w) (w.heap.size + 1) [.int .i64 0] 25 := by
  have := Blk.new (w.alloc (.cells #[.slice none 0 0] 22)) [.int .i64 0] 25
  simpa using this
theorem unpK (w : World) : Kept w (unpW w) := ((Only.refl _ w).alloc _).alloc _

set_option maxHeartbeats 1600000 in
theorem unpack_arg (w : World) (v : Value) (bs : List UInt8) (n : Int) (hn : n < 0 ∨ 120 < n) : Calls Try.prog 11 #[v, .int .i64 n] w (UnpackPost w bs n) := by
  have hmf : ∀ (fn : Fn) (first cap : Array Value) (w : World), (Instr.makeFunc fn first cap).run Try.prog w = .ok (.func fn first cap) w := fun _ _ _ _ => rfl
  have hp := unpP w
  have hq := unpQ w
  have c0 := hp.cell 0 rfl
  have c1 := hq.cell 0 rfl
  have f0 := hp.frozen 0
  have f1 := hq.frozen 0
  rcases hn with hn | hn
  · have hn' : ¬ 120 < n := by omega
    go_enter_defers Try.func11, Try.ntmps11
    go_wp2
    simp [bodyPostD, Leaves, results, Try.results11, go_sem]
    exact ⟨((Only.refl _ w).alloc _).alloc _, [], _, 1, rfl, .inr (.inl ⟨hn, rfl, rfl⟩), World.ownsRow_nil _ _ _ _⟩
  · go_enter_defers Try.func11, Try.ntmps11
    go_wp2
    simp [bodyPostD, Leaves, results, Try.results11, go_sem]
    exact ⟨((Only.refl _ w).alloc _).alloc _, [], _, 2, rfl, .inl ⟨hn, rfl, rfl⟩, World.ownsRow_nil _ _ _ _⟩

set_option maxHeartbeats 1600000 in
theorem unpack_any (w : World) (v : Value) (bs : List UInt8) (n : Int) (hs : SrcOf w v (bs.map bV)) (hl : bs.length ≤ 100000) : Calls Try.prog 11 #[v, .int .i64 n] w (UnpackPost w bs n) := by
  by_cases hn : n < 0 ∨ 120 < n
  · exact unpack_arg w v bs n hn
  · have hmf : ∀ (fn : Fn) (first cap : Array Value) (w : World), (Instr.makeFunc fn first cap).run Try.prog w = .ok (.func fn first cap) w := fun _ _ _ _ => rfl
    obtain ⟨N, rfl⟩ : ∃ N : Nat, n = (N : Int) := ⟨n.toNat, by omega⟩
    have hN : N ≤ 120 := by omega
    have hrd := read_any (unpW w) v bs N (hs.stay (unpK w)) hl hN
    have hp := unpP w
    have hq := unpQ w
    have hk0 := unpK w
    have hn' : ¬ (120 : Int) < (N : Int) := by omega
    obtain ⟨a0, c0, e0⟩ := hs.len
    rw [List.length_map] at e0
    subst e0
    clear hs hn
    go_enter_defers Try.func11, Try.ntmps11
    go_wp2_with fail
    refine hrd.mono ?_
    rintro e w1 ⟨hk, ⟨m, u, hT, hP, rfl, hrow⟩ | ⟨rfl, hno⟩⟩
    · clear hrd
      have hp1 := hk.blk hp (fun f => f)
      have hq1 := hk.blk hq (fun f => f)
      have c0 := hp1.cell 0 rfl
      have c1 := hq1.cell 0 rfl
      have f0 := hp1.frozen 0
      have f1 := hq1.frozen 0
      obtain ⟨ua, uc, hu⟩ := own_slice hrow
      subst hu
      have HT := hid hT
      have HP := hid hP
      have HR := hid hrow
      clear hT hP hrow
      go_wp2_with fail
      refine leaves_cons (f := 19) (args := #[.pointer (some ⟨w.heap.size, 0, none⟩), .pointer (some ⟨w.heap.size + 1, 0, none⟩)]) (by simp) (by simp [go_sem]) ?_
      refine (unpNo _ _ _).mono ?_
      rintro e u' w'' ⟨rfl, rfl, rfl⟩
      have hs1 := hk.size
      simp at hs1
      have hk2 : Kept w ((w1.setCell ⟨w.heap.size, 0, none⟩ (.slice ua m.length uc)).setCell ⟨w.heap.size + 1, 0, none⟩ (.int .i64 0)) := ((hk0.trans hk (fun _ _ f => f)).setCell (fun hlt => absurd hlt (by simp)) _).setCell (fun hlt => absurd hlt (by simp)) _
      have hp3 := ((hp1.set 0 (.slice ua m.length uc)).other (a := ⟨w.heap.size + 1, 0, none⟩) (by simp) (.int .i64 0)).cell 0 rfl
      have hq3 := ((hq1.other (a := ⟨w.heap.size, 0, none⟩) (by simp) (.slice ua m.length uc)).set 0 (.int .i64 0)).cell 0 rfl
      have hO : Only (fun k => k = w.heap.size ∨ k = w.heap.size + 1) w1 ((w1.setCell ⟨w.heap.size, 0, none⟩ (.slice ua m.length uc)).setCell ⟨w.heap.size + 1, 0, none⟩ (.int .i64 0)) := ((Only.refl _ w1).setCell (fun _ => .inl rfl) _).setCell (fun _ => .inr rfl) _
      have hR3 := own_only HR.out hO (fun j hj e => by have := (HR.out.lt j hj).1; simp at this; omega)
      simp [Leaves, settle, results, Try.results11, go_sem, hp3, hq3]
      exact ⟨hk2, m, _, 0, rfl, .inr (.inr ⟨by omega, by omega, .inr ⟨m, by rw [Int.toNat_natCast]; exact HT.out, .inr ⟨HP.out, rfl, rfl⟩⟩⟩), own_base hR3 (unpK w).size⟩
    · clear hrd
      have hp1 := hk.blk hp (fun f => f)
      have hq1 := hk.blk hq (fun f => f)
      refine leaves_cons (f := 19) (args := #[.pointer (some ⟨w.heap.size, 0, none⟩), .pointer (some ⟨w.heap.size + 1, 0, none⟩)]) (by simp) (by simp [go_sem]) ?_
      refine (unpUp _ _ _ 0 5 _ hp1 hq1).mono ?_
      rintro e u' w'' ⟨rfl, rfl, hk2, hp2, hq2⟩
      have hp3 := hp2.cell 0 rfl
      have hq3 := hq2.cell 0 rfl
      simp [Leaves, settle, results, Try.results11, go_sem, hp3, hq3]
      refine ⟨(hk0.trans hk (fun _ _ f => f)).trans hk2 (fun j hj e => by rcases e with e | e <;> omega), [], _, 5, rfl, .inr (.inr ⟨by omega, by omega, ?_⟩), World.ownsRow_nil _ _ _ _⟩
      rw [Int.toNat_natCast]
      rcases hno with h | ⟨m, h1, h2⟩
      · exact .inl ⟨h, rfl, rfl⟩
      · exact .inr ⟨m, h1, .inl ⟨h2, rfl, rfl⟩⟩
end Go.Proofs.Ytpajpnjkgojafaa.V
