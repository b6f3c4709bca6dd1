/-
  Bget.
-/
import Derived.Test.YtllfanlhgnkcfaaGreatDoorQ06
import Derived.Defers
import Derived.Recover
namespace Go.Proofs.YtllfanlhgnkcfaaGreatDoor
open Go.RowKit Go.Proofs.Lys
set_option linter.unusedVariables false
theorem getNo (p q : Addr) (w : World) :
  CallsD Tryz.prog 159 #[.pointer (some p), .pointer (some q)] .returning w fun e u' w' => e = .returned (.tuple #[]) ∧ u' = .returning ∧ w' = w := by
 refine callsD_of_wpS Tryz.func159 rfl fun c₀ cs hu => ?_
 apply wpS_seq
 apply wpS_region
 simp [wpOpsS, go_sem, recoverD, hu, Tryz.ntmps159, Exit.thenS]
 apply wpS_seq
 apply wpS_region
 simp [wpOpsS, go_sem, Exit.thenS]
 refine wpS_cond (t := false) (by simp [Act.eval, Array.replicate]) ?_
 simp only [Bool.false_eq_true, if_false]
 refine wpS_of_wp (wp_skip ?_)
 cases c₀
 simp_all [bodyPostS, results, Tryz.results159]
theorem getUp (p q : Nat) (x y n : Int) (w : World) (hp : Blk w p [.int .i64 x] 3) (hq : Blk w q [.int .i64 y] 26) :
  CallsD Tryz.prog 159 #[.pointer (some ⟨p, 0, none⟩), .pointer (some ⟨q, 0, none⟩)] (.panicking [{ v := .iface 26 (.int .i64 n), recovered := false }]) w fun e u' w' =>
   e = .returned (.tuple #[]) ∧ u' = .panicking [{ v := .iface 26 (.int .i64 n), recovered := true }] ∧ Only (fun k => k = p ∨ k = q) w w' ∧ Blk w' p [.int .i64 0] 3 ∧ Blk w' q [.int .i64 n] 26 := by
 have hpq : p ≠ q := hp.ne hq (by decide)
 have c0 := hp.cell 0 rfl
 have c1 := hq.cell 0 rfl
 have f0 := hp.frozen 0
 have f1 := hq.frozen 0
 have hta : ∀ w, (Instr.typeAssert (.iface 26 (.int .i64 n)) 20 26 false).run Tryz.prog w = .ok (.int .i64 n) w := by
  intro w
  simp [Instr.typeAssert, run_underlying Tryz.underlying26, Result.andThen]
 refine callsD_of_wpS Tryz.func159 rfl fun c₀ cs hu => ?_
 apply wpS_seq
 apply wpS_region
 simp [wpOpsS, go_sem, recoverD, hu, Tryz.ntmps159, Exit.thenS]
 apply wpS_seq
 apply wpS_region
 simp [wpOpsS, go_sem, Exit.thenS]
 refine wpS_cond (t := true) (by simp [Act.eval, Array.replicate]) ?_
 simp only [if_true]
 refine wpS_of_wp ?_
 go_region
 all_goals
  refine ⟨rfl, _, rfl, .tuple #[], by simp [results, Tryz.results159], rfl, rfl, (((Only.refl _ w).setCell (fun _ => by simp) _).setCell (fun _ => by simp) _).drew, ?_, ?_⟩
  ·exact ((hp.set 0 _).other hpq _).drew
  ·exact ((hq.other (Ne.symm hpq) _).set 0 _).drew
structure RdAt (w : World) (b : Nat) (v : Value) (bs : List UInt8) (t : Nat) : Prop where
 blk : Blk w b [v, .int .i64 (t : Int)] 223
 own : w.ownsRow 0 5 1 v bs.length (bs.map bV)
 len : bs.length ≤ 100000000
 top : t ≤ 8 * bs.length
theorem RdAt.only {w w' : World} {O : Nat → Prop} {b : Nat} {v : Value} {bs : List UInt8} {t : Nat} (h : RdAt w b v bs t) (k : Only O w w') (hb : ¬ O b) (hv : ∀ j, v.ownBlock = some j → ¬ O j) : RdAt w' b v bs t :=
 ⟨k.blk h.blk hb, own_only h.own k hv, h.len, h.top⟩
theorem RdAt.apart {w : World} {b : Nat} {v : Value} {bs : List UInt8} {t : Nat} (h : RdAt w b v bs t) {j : Nat} (hj : v.ownBlock = some j) : j ≠ b := (own_typed h.own hj).ne h.blk.typed (by decide)
section
variable {w : World} {b : Nat} {v : Value} {bs : List UInt8} {t : Nat}
abbrev getW (w : World) : World := (w.alloc (.cells #[.int .i64 0] 3)).alloc (.cells #[.int .i64 0] 26)
theorem getP (w : World) : Blk (getW w) w.heap.size [.int .i64 0] 3 := (Blk.new w [.int .i64 0] 3).alloc _
theorem getQ (w : World) : Blk (getW w) (w.heap.size + 1) [.int .i64 0] 26 := by
 have := Blk.new (w.alloc (.cells #[.int .i64 0] 3)) [.int .i64 0] 26
 simpa using this
theorem getK (w : World) : Kept w (getW w) := ((Only.refl _ w).alloc _).alloc _
theorem get_few (h : RdAt w b v bs t) (N : Nat) (hN : 8 * bs.length - t < N) (hN2 : N ≤ 64) :
  Calls Tryz.prog 155 #[.pointer (some ⟨b, 0, none⟩), .int .i64 (N : Int)] w fun e w' => e = .returned (.tuple #[.int .i64 0, .int .i64 5]) ∧ Kept w w' := by
 have hmf : ∀ (fn : Fn) (first cap : Array Value) (w : World), (Instr.makeFunc fn first cap).run Tryz.prog w = .ok (.func fn first cap) w := fun _ _ _ _ => rfl
 obtain ⟨a, c, rfl⟩ := own_slice h.own
 have h1 := h.only (getK w) (fun f => f) (fun _ _ f => f)
 have ht := take_few (getW w) b a bs.length c t N h1.blk h.len h.top hN hN2
 have hp := getP w
 have hq := getQ w
 have hk0 := getK w
 clear h1 hN
 go_enter_defers Tryz.func155, Tryz.ntmps155
 go_wp2_with fail
 refine ht.mono ?_
 rintro e w1 ⟨rfl, hk⟩
 clear ht
 have hp1 := hk.blk hp (fun f => f)
 have hq1 := hk.blk hq (fun f => f)
 refine leaves_cons (f := 159) (args := #[.pointer (some ⟨w.heap.size, 0, none⟩), .pointer (some ⟨w.heap.size + 1, 0, none⟩)]) (by simp) (by simp [go_sem]) ?_
 refine (getUp _ _ 0 0 5 _ hp1 hq1).mono ?_
 rintro e u' w'' ⟨rfl, rfl, hk2, hp2, hq2⟩
 have hp3 := hp2.cell 0 rfl
 have hq3 := hq2.cell 0 rfl
 simp [Leaves, settle, results, Tryz.results155, go_sem, hp3, hq3]
 exact (hk0.trans hk (fun _ _ f => f)).trans hk2 (fun j hj e => by rcases e with e | e <;> omega)
theorem get_any (h : RdAt w b v bs t) (N : Nat) (hN : t + N ≤ 8 * bs.length) (hN2 : N ≤ 64) :
  Calls Tryz.prog 155 #[.pointer (some ⟨b, 0, none⟩), .int .i64 (N : Int)] w fun e w' => e = .returned (.tuple #[.int .i64 (wrap64 ((valL (((unpackL bs).drop t).take N) : Nat) : Int)), .int .i64 0]) ∧ Only (· = b) w w' ∧ RdAt w' b v bs (t + N) := by
 have hmf : ∀ (fn : Fn) (first cap : Array Value) (w : World), (Instr.makeFunc fn first cap).run Tryz.prog w = .ok (.func fn first cap) w := fun _ _ _ _ => rfl
 have h1 := h.only (getK w) (fun f => f) (fun _ _ f => f)
 have ht := take_any (getW w) b v t N bs h1.blk h1.own h.len hN hN2
 generalize hX : wrap64 ((valL (((unpackL bs).drop t).take N) : Nat) : Int) = X at ht ⊢
 have hp := getP w
 have hq := getQ w
 have hk0 := getK w
 have hlt := h.blk.lt
 clear hX
 go_enter_defers Tryz.func155, Tryz.ntmps155
 go_wp2_with fail
 refine ht.mono ?_
 rintro e w1 ⟨rfl, hk, hb1⟩
 clear ht
 have hp1 := hk.blk hp (fun e => by omega)
 have hq1 := hk.blk hq (fun e => by omega)
 have c0 := hp1.cell 0 rfl
 have c1 := hq1.cell 0 rfl
 have f0 := hp1.frozen 0
 have f1 := hq1.frozen 0
 go_wp2_with fail
 refine leaves_cons (f := 159) (args := #[.pointer (some ⟨w.heap.size, 0, none⟩), .pointer (some ⟨w.heap.size + 1, 0, none⟩)]) (by simp) (by simp [go_sem]) ?_
 refine (getNo _ _ _).mono ?_
 rintro e u' w'' ⟨rfl, rfl, rfl⟩
 have hk2 : Only (· = b) w (((w1.setCell ⟨w.heap.size, 0, none⟩ (.int .i64 X)).setCell ⟨w.heap.size + 1, 0, none⟩ (.int .i64 0))) := (((hk0.mono (fun _ _ f => f.elim)).trans hk (fun _ _ e => e)).setCell (fun hlt => absurd hlt (by simp)) _).setCell (fun hlt => absurd hlt (by simp)) _
 have hp3 := ((hp1.set 0 (.int .i64 X)).other (a := ⟨w.heap.size + 1, 0, none⟩) (by simp) (.int .i64 0)).cell 0 rfl
 have hq3 := ((hq1.other (a := ⟨w.heap.size, 0, none⟩) (by simp) (.int .i64 X)).set 0 (.int .i64 0)).cell 0 rfl
 have hb2 := (hb1.other (a := ⟨w.heap.size, 0, none⟩) (by simp; omega) (.int .i64 X)).other (a := ⟨w.heap.size + 1, 0, none⟩) (by simp; omega) (.int .i64 0)
 simp [Leaves, settle, results, Tryz.results155, go_sem, hp3, hq3]
 exact ⟨hk2, hb2, own_only h.own hk2 (fun j hj e => h.apart hj e), h.len, hN⟩
end
end Go.Proofs.YtllfanlhgnkcfaaGreatDoor
