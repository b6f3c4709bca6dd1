/-
  Rnd, Krng.
-/
import Derived.Test.YtllfanlhgnkcfaaGreatDoorQ12
import Derived.Test.YtllfanlhgnkcfaaGreatDoorQ02
import Derived.RangeFuncNested
import Derived.RangeFuncBound
import Derived.RangeFuncBox
import Derived.RangeFuncCalls
import Derived.RangeFuncLeaves
import Derived.OwnWalkIn
import Derived.TacticsInMore
namespace Go.Proofs.Lys
open Go Go.RowKit
def noDefer (ops : Array Oper) : Bool := ops.all fun o => match o.op with
 | .defer _ => false
 | _ => true
theorem noDefer_spec {ops : Array Oper} (h : noDefer ops = true) {i : Nat} {o : Oper} (ho : ops[i]? = some o) : ∀ c, o.op ≠ .defer c := by
 intro c e
 have hm : o ∈ ops := Array.mem_of_getElem? ho
 have := Array.all_eq_true'.1 h o hm
 rw [e] at this
 cases this
section
variable {P : Program} {Q : Exit → Act → World → Prop} {l n : Nat}
theorem rowsIn_round {row : String} {args : Array Value} {w : World} {R : Value → World → Prop} (h : Rows P row args w R) : RowsIn (Fence.wide.inRound l) n P row args w R := by
 intro c cs _
 obtain ⟨v, w', h1, h2⟩ := h c cs
 exact ⟨v, w', h1, stepsIn_wide.2 h2⟩
theorem opIn_round {o : Oper} {a : Act} {w : World} {K : Act → World → Prop} (hd : ∀ c, o.op ≠ .defer c) (h : o.wp P a w K Q) : o.wpIn (Fence.wide.inRound l) n P a w K Q := by
 refine ⟨fun _ _ => trivial, ?_⟩
 show o.uponIn _ n P a K Q ((o.semAt (some l) a.eval).run P w)
 rw [Oper.semAt_some l _ _ hd]
 unfold Oper.wp at h
 revert h
 generalize (execOp a.eval o).run P w = r
 intro h
 cases r with
 | ok x w1 =>
  cases x with
  | enter f args => exact ⟨(fun e => by cases e), CallsIn.inRound l (callsIn_wide.2 h)⟩
  | row r args => exact ⟨(fun e => by cases e), rowsIn_round h⟩
  | value v => exact h
  | skip => exact h
  | defer d => exact h
  | _ => exact False.elim h
 | halt x w1 =>
  cases x with
  | panic v => exact h
  | _ => exact False.elim h
theorem anyIn_round {ops : Array Oper} {md : Region.Mode} (hq : ¬ LetsOut Q) (hd : noDefer ops = true) : ∀ (fuel : Nat) (listed : Array Bool) (a : Act) (w : World), wpAny P md ops Q fuel listed a w → wpAnyIn (Fence.wide.inRound l) n P md ops Q fuel listed a w
 | 0, _, _, _, h => h
 | fuel + 1, listed, a, w, h => by
  refine ⟨h.1, fun i hi => ?_⟩
  have h1 := h.2 i hi
  unfold wpOp at h1
  unfold wpOpIn
  cases ho : ops[i]? with
  | none =>
   rw [ho] at h1
   exact anyIn_round hq hd fuel _ a w h1
  | some o =>
   rw [ho] at h1
   simp only at h1 ⊢
   split at h1
   ·rename_i hw
    rw [if_pos hw]
    exact Oper.wpIn_mono (fun a w h => anyIn_round hq hd fuel _ a w h) (opIn_round (noDefer_spec hd ho) (h1.resolve_right (fun h => hq h.2)))
   ·rename_i hw
    rw [if_neg hw]
    exact ⟨fun _ _ => trivial, anyIn_round hq hd fuel _ _ w h1⟩
theorem region_round {ops : Array Oper} {S : World → Prop} {L id : Nat} {a : Act} {w : World} (hm : P.follows .mixedOrders = true) (hq : ¬ LetsOut Q) (hd : noDefer ops = true) (h : wpAnyL P .any ops Q S L ops.size (Array.replicate ops.size false) a w.drew) : (Code.region id ops true).wpIn (Fence.wide.inRound l) n P Q a w :=
 wpIn_region_any hm (anyIn_round hq hd _ _ _ _ (wpAny_of_last _ _ _ _ h))
theorem wpListIn_append_run {F : Fence} {w : World} {ops : Array Oper} {rest : List Oper} {o : Oper} {a : Act} (hgd : o.guard = none) (s x : Operand) (t : TypeId)
  (ho : o.op = .call { callee := .builtin .append, args := #[s, x], argTypes := #[t, t] }) {sv xv : Value} (hs : a.eval s = sv) (hx : a.eval x = xv) {v : Value} {w' : World}
  (hrun : Hid ((Builtin.append_ #[t, t] 0 #[sv, xv]).run P w = .ok v w')) (h : wpListIn F n P ops Q rest (a.put o.dst v) w') : wpListIn F n P ops Q (o :: rest) a w := by
 refine wpListIn_plain hgd fun K hK => ?_
 have hr : (Builtin.append_ #[t, t] o.type #[sv, xv]).run P w = .ok v w' := hrun.out
 unfold Oper.wpIn
 refine ⟨?_, ?_⟩
 ·simp [Oper.about, ho, resolve, Target.leads, Sem.run_pure]
 ·rw [Oper.semAt_plain F _ _ (by rw [ho]; intro c hc'; cases hc')]
  simp [execOp, ho, resolve, invoke, builtin, hs, hx, hr, Result.andThen]
  exact hK _ _ h
end
theorem Only.others {O : Nat → Prop} {w w' : World} (h : Only O w w') (hO : ∀ k, O k → k < w.heap.size → ∃ T, Typed w k T) : KeepsOthers w w' := by
 refine ⟨h.size, fun k o hk ho => ?_⟩
 have hlt := (Array.getElem?_eq_some_iff.1 hk).1
 by_cases hc : O k
 ·obtain ⟨T, cs, fz, ht⟩ := hO k hc hlt
  rw [hk] at ht
  cases ht
  cases ho
 ·exact (h.block k hlt hc).trans hk
theorem grown_cells {w w' : World} {row : Option Nat} (hg : w.grownBy w' row) (hr : ∀ r, row = some r → ∃ o : Obj, w.heap[r]? = some o ∧ o.isCells = false) {k : Nat} {T : TypeId} (h : Typed w k T) : w'.heap[k]? = w.heap[k]? := by
 obtain ⟨cs, fz, ht⟩ := h
 refine hg.block k (Array.getElem?_eq_some_iff.1 ht).1 (fun e => ?_)
 obtain ⟨o, ho, hc⟩ := hr k e.symm
 rw [ht] at ho
 cases ho
 cases hc
theorem row_cells {w w' : World} {row : Option Nat} (hg : w.grownBy w' row) (hr : ∀ r, row = some r → ∃ o : Obj, w.heap[r]? = some o ∧ o.isCells = false) {base : Nat} {e : TypeId} {z n : Nat} {v : Value} {xs : List Value} (h : w.ownsRow base e z v n xs) : w'.ownsRow base e z v n xs := by
 rcases h with ⟨hl, hn | ⟨g, cap, cur, rfl, hb, hg', rest⟩⟩
 ·exact ⟨hl, .inl hn⟩
 ·exact ⟨hl, .inr ⟨g, cap, cur, rfl, hb, (grown_cells hg hr ⟨_, _, hg'⟩).trans hg', rest⟩⟩
end Go.Proofs.Lys
namespace Go.Proofs.Lys
open Go Go.RowKit
set_option linter.unusedVariables false
section
variable {P : Program} {Q : Exit → Act → World → Prop} {a : Act} {w : World} {f : FuncId}
def wpF (f : FuncId) (P : Program) (c : Code) (Q : Exit → Act → World → Prop) (a : Act) (w : World) : Prop :=
 ∀ (b : Frame) (k : List Item) (cs : List Frame), b.roundOf = none → b.fn = f →
  ∃ e a' w', Q e a' w' ∧ ArrivesIn (Machine.fenced P Fence.wide) P (lone (b.atR a (.code c :: k)) cs w) b k cs e a' w'
theorem fw (m : Machine) : m.fenced P Fence.wide := fenced_wide P m
theorem wpF_of {c : Code} (h : c.wp P Q a w) : wpF f P c Q a w := fun b k cs hro hb =>
 (wpIn_wide (n := 0)).2 h b k cs hro trivial (room_wide _)
theorem wpF_seq {x y : Code} (h : wpF f P x (Exit.then (wpF f P y Q) Q) a w) : wpF f P (Code.seq x y) Q a w := by
 intro b k cs hro hb
 have go : StepsIn (Machine.fenced P Fence.wide) P (lone (b.atR a (.code (.seq x y) :: k)) cs w) (lone (b.atR a (.code x :: .code y :: k)) cs w) := .one (fw _) stepR_seq
 obtain ⟨e, a1, w1, hq, har⟩ := h b (.code y :: k) cs hro hb
 by_cases he : e = .normal
 ·subst he
  obtain ⟨e2, a2, w2, hq2, har2⟩ := hq b k cs hro hb
  exact ⟨e2, a2, w2, hq2, .of_steps (go.trans har) har2⟩
 ·have hq' : Q e a1 w1 := by
   cases e <;> first | exact absurd rfl he | exact hq
  exact ⟨e, a1, w1, hq', .of_steps go (.pass (x := .code y) rfl (fun _ _ => .inl he) har)⟩
def roundEnd (l : Nat) (R : Ending → World → Prop) : Exit → Act → World → Prop
 | .normal, _, W => ∃ r, W.heap[l]? = some (.loop r) ∧ R (.returned (.bool true)) (W.putObj l (.loop { r with state := .ready, pending := none }))
 | .panic ch, a, W => a.defers = [] ∧ R (.panicked ch) W
 | _, _, _ => False
theorem round_law {l n : Nat} {fn : Func} {tmps : Array Value} {assign body : Code} {R : Ending → World → Prop} (hf : P.funcs[f]? = some fn)
  (h : assign.wpIn (Fence.wide.inRound l) n P (Exit.then (fun a1 w1 => ∃ r, w1.heap[l]? = some (.loop r) ∧ r.state = .ready ∧ body.wpIn (Fence.wide.inRound l) n P (roundEnd l R) a1 (w1.putObj l (.loop { r with state := .busy }))) (fun _ _ _ => False))
   { tmps := tmps, defers := [] } w) : RoundIn Fence.wide n P l f tmps assign body w R := by
 refine ⟨trivial, fun c cs hr => ?_⟩
 obtain ⟨b, hb⟩ : ∃ b : Frame, b = { (default : Frame) with fn := f, kind := .normal, roundOf := some l } := ⟨_, rfl⟩
 have b1 : b.roundOf = some l := by rw [hb]
 have b2 : b.kind = .normal := by rw [hb]
 have b3 : b.fn = f := by rw [hb]
 have hstart : Frame.round l f tmps assign body .normal = b.atR { tmps := tmps, defers := [] } [.code assign, .beginRound, .code body] := by
  rw [hb]
  simp [Frame.round, Frame.atR]
 rw [hstart]
 obtain ⟨e1, a1, w1, q1, ar1⟩ := h b [.beginRound, .code body] (c :: cs) b1 trivial hr
 cases e1 with
 | normal =>
  obtain ⟨r, hl, hs, hbody⟩ := q1
  have sb : StepsIn (Machine.fenced P Fence.wide) P (lone (b.atR a1 [.beginRound, .code body]) (c :: cs) w1) (lone (b.atR a1 [.code body]) (c :: cs) (w1.putObj l (.loop { r with state := .busy }))) :=
   .one (fw _) (stepR_beginRound b1 (run_beginRound hl hs))
  have s1 := StepsIn.trans (show StepsIn (Machine.fenced P Fence.wide) P _ _ from ar1) sb
  obtain ⟨e2, a2, w2, q2, ar2⟩ := hbody b [] (c :: cs) b1 trivial hr
  cases e2 with
  | normal =>
   obtain ⟨r2, hl2, hR⟩ := q2
   have he := run_endRound (P := P) none hl2
   exact ⟨.returned (.bool true), _, hR, s1.trans (StepsIn.trans ar2 (.one (fw _) (stepR_round_end b1 b2 he)))⟩
  | panic ch =>
   obtain ⟨hd, hR⟩ := q2
   obtain ⟨todo, s2⟩ := ar2
   refine ⟨.panicked ch, _, hR, s1.trans (StepsIn.trans s2 (.one (fw _) (step_leave_panicked ⟨rfl, hd, fn, ?_⟩)))⟩
   show P.funcs[b.fn]? = some fn
   rw [b3]
   exact hf
  | exit id => exact q2.elim
  | goto t => exact q2.elim
  | ret => exact q2.elim
  | outgrown => exact q2.elim
 | exit id => exact q1.elim
 | goto t => exact q1.elim
 | ret => exact q1.elim
 | panic ch => exact q1.elim
 | outgrown => exact q1.elim
abbrev loopRec (f : FuncId) (tmps : Array Value) (ps : Array Tmp) (assign body : Code) (D : Nat) : Loop := { state := .ready, pending := none, fn := f, tmps := tmps, params := ps, assign := assign, body := body, defers := D }
def rangeEnd (D : Nat) (Q : Exit → Act → World → Prop) (a : Act) : Ending → World → Prop
 | .returned _, W => ∃ r, W.heap[D + 1]? = some (.loop r) ∧ r.state ≠ .busy ∧ r.pending = none ∧ Q .normal { a with defers := { target := .collected D, args := #[] } :: a.defers } (W.putObj (D + 1) (.loop { r with state := .exhausted }))
 | .panicked ch, W => Q (.panic ch) { a with defers := { target := .collected D, args := #[] } :: a.defers } W
 | .outgrown, _ => False
theorem wpF_range {n : Nat} {g : Operand} {ps : Array Tmp} {assign body : Code} {gf : Nat} {lb : Array Value} (hg : a.eval g = .func (.func gf) #[] lb) (eg : ∀ args w, (callFunc gf args).run P w = .ok (.enter gf args) w)
  (h : CallsIn Fence.wide n P gf (#[.func (.yield (w.heap.size + 1)) #[] #[]] ++ lb) ((w.alloc (.deferred (some []))).alloc (.loop (loopRec f a.tmps ps assign body w.heap.size))) (rangeEnd w.heap.size Q a)) :
  wpF f P (Code.rangeFunc g ps assign body) Q a w := by
 intro b k cs hro hb
 subst hb
 obtain ⟨W1, hW1⟩ : ∃ W1, (w.alloc (.deferred (some []))).alloc (.loop (loopRec b.fn a.tmps ps assign body w.heap.size)) = W1 := ⟨_, rfl⟩
 rw [hW1] at h
 obtain ⟨a2, ha2⟩ : ∃ a2 : Act, { a with defers := [{ target := .collected w.heap.size, args := #[] }] ++ a.defers } = a2 := ⟨_, rfl⟩
 have s0 : step P (lone (b.atR a (.code (.rangeFunc g ps assign body) :: k)) cs w) = .next (lone (Frame.enter P gf (#[.func (.yield (w.heap.size + 1)) #[] #[]] ++ lb) .normal) (b.atR a2 (.inRangeFunc (w.heap.size + 1) :: k) :: cs) W1) := by
  rw [← ha2]
  refine stepR_rangeFunc (w₁ := W1) (w₁' := W1) (d := { target := .fn (.func gf) lb, args := #[.func (.yield (w.heap.size + 1)) #[] #[]] }) ?_ ?_ ?_
  ·rw [hro, ← hW1]
   exact run_enterLoop_outer _ _ _ _ _
  ·simp only [resolve, hg]
   simp [go_sem]
  ·simp [invoke, go_sem, eg]
 obtain ⟨e, W3, fr, hR, hst, hfn, hlv⟩ := h.2 (b.atR a2 (.inRangeFunc (w.heap.size + 1) :: k) :: cs) (room_wide _)
 cases e with
 | returned v =>
  obtain ⟨r, hl, hs, hp, hq⟩ := hR
  have he : (Instr.endLoop (w.heap.size + 1)).run P W3 = .ok none (W3.putObj (w.heap.size + 1) (.loop { r with state := .exhausted })) := (run_endLoop (P := P) hl hs).trans (by rw [hp])
  rw [show ({ target := .collected w.heap.size, args := #[] } : Deferred) :: a.defers = [{ target := .collected w.heap.size, args := #[] }] ++ a.defers from rfl, ha2] at hq
  refine ⟨.normal, a2, _, hq, ?_⟩
  refine StepsIn.head (fw _) s0 (StepsIn.trans hst (.head (fw _) ?_ (.one (fw _) (stepR_endRangeFunc he))))
  rw [← finish_atR_inRangeFunc (w.heap.size + 1) v]
  exact step_leave_returned hlv
 | panicked ch =>
  have hq : Q (.panic ch) { a with defers := { target := .collected w.heap.size, args := #[] } :: a.defers } W3 := hR
  rw [show ({ target := .collected w.heap.size, args := #[] } : Deferred) :: a.defers = [{ target := .collected w.heap.size, args := #[] }] ++ a.defers from rfl, ha2] at hq
  refine ⟨.panic ch, a2, W3, hq, .inRangeFunc (w.heap.size + 1) :: k, .head (fw _) s0 (StepsIn.trans hst (.one (fw _) ?_))⟩
  rw [← Frame.raise_atR]
  exact step_leave_panicked hlv
 | outgrown => exact hR.elim
theorem calls_of_wpF {n : Nat} {fn : Func} {c : Code} {args : Array Value} {R : Ending → World → Prop} (hf : P.funcs[f]? = some fn) (hb : fn.body = some c)
  (h : wpF f P c (bodyPostM Fence.wide n P fn R) { tmps := args ++ Array.replicate (fn.ntmps - args.size) undef, defers := [] } w) : Calls P f args w R := by
 refine (callsIn_wide (n := n)).1 ⟨trivial, fun cs hr => ?_⟩
 obtain ⟨b, hbb⟩ : ∃ b : Frame, b = { (default : Frame) with fn := f, kind := .normal, roundOf := none } := ⟨_, rfl⟩
 have b1 : b.roundOf = none := by rw [hbb]
 have b2 : b.kind = .normal := by rw [hbb]
 have b3 : b.fn = f := by rw [hbb]
 have hen : Frame.enter P f args .normal = b.atR { tmps := args ++ Array.replicate (fn.ntmps - args.size) undef, defers := [] } [.code c] := by
  rw [hbb]
  simp [Frame.enter, Frame.atR, hf, hb]
 rw [hen]
 obtain ⟨e, a', w', hq, har⟩ := h b [] cs b1 b3
 have hf' : P.funcs[b.fn]? = some fn := by rw [b3]; exact hf
 have out : ∀ (u : FrameMode) (todo : List Item), LeavesInM Fence.wide n P fn a'.tmps R a'.defers u w' → ∃ e w'' fr', R e w'' ∧ ComesIn (Machine.fenced P Fence.wide) P (lone { b.atR a' todo with mode := u } cs w') (lone fr' cs w'') e ∧ fr'.fn = b.fn ∧ fr'.leaving P w'' e := fun u todo hL =>
  leaves_stepsInM a'.defers u w' { b.atR a' todo with mode := u } cs rfl rfl rfl hf' b2 trivial hr hL
 cases e with
 | normal =>
  obtain ⟨e', w'', fr', hR, hs, h1, h2⟩ := out .returning [] hq
  exact ⟨e', w'', fr', hR, ComesIn.of_steps (StepsIn.trans har (.one (fw _) (stepR_end b1))) hs, h1.trans b3, h2⟩
 | ret =>
  obtain ⟨todo, hs0⟩ := har.1 b1
  obtain ⟨e', w'', fr', hR, hs, h1, h2⟩ := out .returning todo hq
  exact ⟨e', w'', fr', hR, ComesIn.of_steps hs0 hs, h1.trans b3, h2⟩
 | panic ch =>
  obtain ⟨todo, hs0⟩ := har
  obtain ⟨e', w'', fr', hR, hs, h1, h2⟩ := out (.panicking ch) todo hq
  exact ⟨e', w'', fr', hR, ComesIn.of_steps hs0 hs, h1.trans b3, h2⟩
 | exit id => exact hq.elim
 | goto t => exact hq.elim
 | outgrown =>
  rcases har with har | har
  ·rw [b2] at har
   cases har
  ·exact ⟨.outgrown, w', b, hq, har, b3, trivial⟩
theorem yield_law {l n : Nat} {r : Loop} {fn : Func} {args : Array Value} {R : Ending → World → Prop} (hf : P.funcs[r.fn]? = some fn) (hl : w.heap[l]? = some (.loop r)) (hs : args.size = r.params.size)
  (h : r.assign.wpIn (Fence.wide.inRound l) n P (Exit.then (fun a1 w1 => ∃ r', w1.heap[l]? = some (.loop r') ∧ r'.state = .ready ∧ r.body.wpIn (Fence.wide.inRound l) n P (roundEnd l R) a1 (w1.putObj l (.loop { r' with state := .busy }))) (fun _ _ _ => False))
   { tmps := (r.params.zip args).foldl (fun t (p, v) => t.setIfInBounds p v) r.tmps, defers := [] } w) : YieldAt Fence.wide n P l args w R :=
 ⟨r.fn, _, r.assign, r.body, run_yield hl hs, round_law hf h⟩
theorem wpF_block {id : Nat} {c : Code} (h : wpF f P c (fun e a w => match e with | .normal => Q .normal a w | .panic ch => Q (.panic ch) a w | _ => False) a w) : wpF f P (Code.block id c) Q a w := by
 intro b k cs hro hb
 have go : StepsIn (Machine.fenced P Fence.wide) P (lone (b.atR a (.code (.block id c) :: k)) cs w) (lone (b.atR a (.code c :: .inBlock id :: k)) cs w) := .one (fw _) stepR_block
 obtain ⟨e, a1, w1, hq, har⟩ := h b (.inBlock id :: k) cs hro hb
 cases e with
 | normal => exact ⟨.normal, a1, w1, hq, go.trans (StepsIn.trans har (.one (fw _) stepR_inBlock))⟩
 | panic ch => exact ⟨.panic ch, a1, w1, hq, .of_steps go har⟩
 | exit id' => exact hq.elim
 | goto t => exact hq.elim
 | ret => exact hq.elim
 | outgrown => exact hq.elim
theorem ops_round {l n : Nat} {ops : Array Oper} (hq : ¬ LetsOut Q) (hd : noDefer ops = true) : ∀ (is : List Nat) (a : Act) (w : World), wpOps P ops Q is a w → wpOpsIn (Fence.wide.inRound l) n P ops Q is a w
 | [], _, _, h => h
 | i :: rest, a, w, h => by
  unfold wpOps at h
  unfold wpOpsIn
  cases ho : ops[i]? with
  | none =>
   rw [ho] at h
   exact ops_round hq hd rest a w h
  | some o =>
   rw [ho] at h
   simp only at h ⊢
   split at h
   ·rename_i hw
    rw [if_pos hw]
    exact Oper.wpIn_mono (fun a w h => ops_round hq hd rest a w h) (opIn_round (noDefer_spec hd ho) (h.resolve_right (fun h => hq h.2)))
   ·rename_i hw
    rw [if_neg hw]
    exact ⟨fun _ _ => trivial, ops_round hq hd rest _ w h⟩
theorem region_round0 {l n id : Nat} {ops : Array Oper} {lst : List Oper} (hl : ops.toList = lst) (hq : ¬ LetsOut Q) (hd : noDefer ops = true) (h : wpList P ops Q lst a w) : (Code.region id ops false).wpIn (Fence.wide.inRound l) n P Q a w := by
 refine wpIn_region (ops_round hq hd _ a w ?_)
 have e := wpOps_eq_wpList (P := P) (ops := ops) (Q := Q) ops.toList 0 (fun j => by rw [Nat.zero_add, Array.getElem?_toList])
 rw [Array.length_toList] at e
 rw [List.range_eq_range', e, hl]
 exact h
end
end Go.Proofs.Lys
