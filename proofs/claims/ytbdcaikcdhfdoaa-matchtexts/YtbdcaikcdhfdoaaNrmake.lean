/-
  The document's own Make.
-/
import Derived.Test.YtbdcaikcdhfdoaaNput
import Derived.Test.YtbdcaikcdhfdoaaWlast
namespace Go.Proofs.Ytbdcaikcdhfdoaa.N
open Go.RowKit Go.Proofs.Lys
set_option linter.unusedVariables false
set_option linter.unusedSimpArgs false

theorem oper_append {P : Program} {w : World} {o : Oper} {a : Act} {K : Act → World → Prop} {Q : Exit → Act → World → Prop} (s x : Operand) (t : TypeId)
    (ho : o.op = .call { callee := .builtin .append, args := #[s, x], argTypes := #[t, t] }) {sv xv : Value} (hs : a.eval s = sv) (hx : a.eval x = xv) {v : Value} {w' : World}
    (hrun : Hid ((Builtin.append_ #[t, t] 0 #[sv, xv]).run P w = .ok v w')) (h : K (a.put o.dst v) w') : Oper.wp P o a w K Q := by
  have hr : (Builtin.append_ #[t, t] o.type #[sv, xv]).run P w = .ok v w' := hrun.out
  unfold Oper.wp execOp
  simp only [ho, resolve, invoke, builtin, Sem.run_bind, Sem.run_pure, Result.andThen_ok, List.map_toArray, List.map_cons, List.map_nil, hs, hx, hr]
  exact h

theorem kept_cell {w W : World} (k : Kept w W) {a : Addr} {u : Value} (h : w.cell? a = some u) : W.cell? a = some u := by
  rw [World.cell?_of_block (w := w) (w' := W) (a := a) (k.block a.block (World.block_lt_of_cell? w a h) (fun f => f))]
  exact h
/-- What the document's own Make answers. -/
def RMakeA (w : World) (B : Nat) (u : Value) (n : Int) : Option Labs → Prop
  | some m => n = 0 ∧ LabAt w B u m
  | none => n = 20 ∧ u = .slice none 0 0

end Go.Proofs.Ytbdcaikcdhfdoaa.N
