/-
  Kas, Kas2, Ktold.
-/
import Derived.Test.YtllfanlhgnkcfaaGreatDoorQ02
import Derived.Test.YtllfanlhgnkcfaaGreatDoorChecked
import Derived.Stop.Asserts
import Derived.WalkKit
import Derived.Laws.Rows
import Derived.Laws.Tables
import Derived.Lib.ReflectliteSwap
namespace Go.Proofs.YtllfanlhgnkcfaaGreatDoor.K
open Go.RowKit Go.Proofs.Lys Go.Stop Go.Extern
set_option linter.unusedVariables false
abbrev hd (t : Nat) : Value := .pointer (some ⟨3, t, none⟩)
abbrev rty (t : Nat) : Value := .iface 155 (.agg #[hd t])
abbrev failV (n : Int) : Value := .iface 97 (.int .i64 n)
theorem x_valueOf (a : Addr) (w : World) : (ReflectliteValue.unpack (.iface 102 (.pointer (some a)))).run Tryz.prog w = .ok (.agg #[hd 102, .pointer (some ⟨w.heap.size, 0, none⟩), .int .u64 150]) (w.alloc (.cells #[.pointer (some a)] 102)) := by kernel_rfl
theorem x_valueOf2 (n : Int) (w : World) : (ReflectliteValue.unpack (failV n)).run Tryz.prog w = .ok (.agg #[hd 97, .pointer (some ⟨w.heap.size, 0, none⟩), .int .u64 130]) (w.alloc (.cells #[.int .i64 n] 97)) := by kernel_rfl
theorem x_type (b : Addr) (w : World) : ((ReflectliteValue.methodAny (ReflectliteValue.valueError "reflectlite.Value.Type" 0) fun t _ _ _ => ReflectliteType.toType t) #[.agg #[hd 102, .pointer (some b), .int .u64 150]]).run Tryz.prog w = .ok (rty 102) w := by kernel_rfl
theorem x_typeOf (n : Int) (w : World) : (ReflectliteType.typeOf #[failV n]).run Tryz.prog w = .ok (rty 97) w := by kernel_rfl
theorem x_mKind (t : Nat) (w : World) : (Go.method 356 155 (.agg #[hd t]) "Kind").run Tryz.prog w = .ok (182, hd t) w := by kernel_rfl
theorem x_mElem (v : Value) (w : World) : (Go.method 356 155 v "Elem").run Tryz.prog w = .ok (193, v) w := by kernel_rfl
theorem x_mImpl (v : Value) (w : World) : (Go.method 356 155 v "Implements").run Tryz.prog w = .ok (194, v) w := by kernel_rfl
theorem x_mAssign (v : Value) (w : World) : (Go.method 356 155 v "AssignableTo").run Tryz.prog w = .ok (191, v) w := by kernel_rfl
theorem x_kindP (w : World) : ((ReflectliteType.abiMethod fun t => do pure (.int .u8 (← Rtype.kind t))) #[hd 102]).run Tryz.prog w = .ok (.int .u8 22) w := by kernel_rfl
theorem x_kindF (w : World) : ((ReflectliteType.abiMethod fun t => do pure (.int .u8 (← Rtype.kind t))) #[hd 97]).run Tryz.prog w = .ok (.int .u8 2) w := by kernel_rfl
theorem x_elem (w : World) : (ReflectliteType.method ReflectliteType.elem #[.agg #[hd 102]]).run Tryz.prog w = .ok (rty 97) w := by kernel_rfl
theorem x_impl (w : World) : (ReflectliteType.relation "Implements" ReflectliteType.implements_ #[.agg #[hd 97], rty 99]).run Tryz.prog w = .ok (.bool true) w := by kernel_rfl
theorem x_assign (w : World) : (ReflectliteType.relation "AssignableTo" ReflectliteType.assignableTo #[.agg #[hd 97], rty 97]).run Tryz.prog w = .ok (.bool true) w := by kernel_rfl
theorem m_run {z : Sem Value} {f : TypeId → Addr → Nat → Nat → Sem Value} {v : Value} {P : Program} {w : World} {t : TypeId} {a : Addr} {fl : Nat} {r : Result Value} (hp : (ReflectliteValue.parts v).run P w = .ok (some (t, a, fl)) w) (hf : (f t a fl (fl % 32)).run P w = r) :
  (ReflectliteValue.method z f #[v]).run P w = r := by
 show (ReflectliteValue.parts v >>= fun q => match q with | none => z | some (t, a, fl) => f t a fl (fl % 32)).run P w = r
 rw [Sem.run_bind, hp]
 exact hf
theorem x_load {w : World} {b : Nat} {a : Addr} (h : Blk w b [.pointer (some a)] 102) : (loadVar 102 ⟨b, 0, none⟩).run Tryz.prog w = .ok (.pointer (some a)) w := by
 have h0 := h.cell 0 rfl
 have hA : (isAgg 102).run Tryz.prog w = .ok false w := by kernel_rfl
 simp [loadVar, hA, h0, Result.andThen]
theorem x_isNil {w : World} {b : Nat} {a : Addr} (h : Blk w b [.pointer (some a)] 102) : ((ReflectliteValue.method (ReflectliteValue.valueError "reflectlite.Value.IsNil" 0) ReflectliteValue.isNil) #[.agg #[hd 102, .pointer (some ⟨b, 0, none⟩), .int .u64 150]]).run Tryz.prog w = .ok (.bool false) w := by
 refine m_run (t := 102) (a := ⟨b, 0, none⟩) (fl := 150) (by kernel_rfl) ?_
 have hl := x_load h
 simp [ReflectliteValue.isNil, hl, Result.andThen]
theorem x_velem {w : World} {b : Nat} {a : Addr} (h : Blk w b [.pointer (some a)] 102) : ((ReflectliteValue.method (ReflectliteValue.valueError "reflectlite.Value.Elem" 0) ReflectliteValue.elem) #[.agg #[hd 102, .pointer (some ⟨b, 0, none⟩), .int .u64 150]]).run Tryz.prog w = .ok (.agg #[hd 97, .pointer (some a), .int .u64 386]) w := by
 refine m_run (t := 102) (a := ⟨b, 0, none⟩) (fl := 150) (by kernel_rfl) ?_
 have hl := x_load h
 have he : (Rtype.elem? 102).run Tryz.prog w = .ok (some 97) w := by kernel_rfl
 have hm : (ReflectliteValue.mk 97 a ReflectliteValue.flagAddr).run Tryz.prog w = .ok (.agg #[hd 97, .pointer (some a), .int .u64 386]) w := by kernel_rfl
 simp [ReflectliteValue.elem, hl, he, hm, Result.andThen]
theorem x_set {w : World} {a b : Nat} {n x : Int} (ha : Blk w a [.int .i64 x] 97) (hb : Blk w b [.int .i64 n] 97) :
  (ReflectliteValue.set #[.agg #[hd 97, .pointer (some ⟨a, 0, none⟩), .int .u64 386], .agg #[hd 97, .pointer (some ⟨b, 0, none⟩), .int .u64 130]]).run Tryz.prog w = .ok (.tuple #[]) (w.setCell ⟨a, 0, none⟩ (.int .i64 n)) := by
 have hp1 : (ReflectliteValue.parts (.agg #[hd 97, .pointer (some ⟨a, 0, none⟩), .int .u64 386])).run Tryz.prog w = .ok (some (97, ⟨a, 0, none⟩, 386)) w := by kernel_rfl
 have hp2 : (ReflectliteValue.parts (.agg #[hd 97, .pointer (some ⟨b, 0, none⟩), .int .u64 130])).run Tryz.prog w = .ok (some (97, ⟨b, 0, none⟩, 130)) w := by kernel_rfl
 have hD : (Rtype.directlyAssignable 97 97).run Tryz.prog w = .ok true w := by kernel_rfl
 have hA : (isAgg 97).run Tryz.prog w = .ok false w := by kernel_rfl
 have hb0 := hb.cell 0 rfl
 have hl : (loadVar 97 ⟨b, 0, none⟩).run Tryz.prog w = .ok (.int .i64 n) w := by simp [loadVar, hA, hb0, Result.andThen]
 have hi : ∃ i, Tryz.prog.info? 97 = some i ∧ i.size = 1 := by
  have : (Tryz.prog.info? 97).map (·.size) = some 1 := by kernel_rfl
  obtain ⟨i, h1, h2⟩ := Option.map_eq_some_iff.1 this
  exact ⟨i, h1, h2⟩
 obtain ⟨i, hi1, hi2⟩ := hi
 have hst : (storeVar 97 ⟨a, 0, none⟩ (.int .i64 n)).run Tryz.prog w = .ok () (w.setCell ⟨a, 0, none⟩ (.int .i64 n)) := Lib.rl_storeVar_one 97 i hi1 hi2 ⟨a, 0, none⟩ (.int .i64 n) (.int .i64 x) rfl w (ha.cell 0 rfl) (ha.frozen 0)
 refine (Sem.run_bind _ _ _ _).trans ?_
 simp only [Array.getLit, List.getElem_toArray, List.getElem_cons_zero, List.getElem_cons_succ, hp1, Result.andThen, Sem.run_bind, hp2]
 simp [ReflectliteValue.flagAddr, hl, hD, hst, Result.andThen]
end Go.Proofs.YtllfanlhgnkcfaaGreatDoor.K
namespace Go.Proofs.YtllfanlhgnkcfaaGreatDoor.K
open Go.RowKit Go.Proofs.Lys Go.Stop Go.Extern
set_option linter.unusedVariables false
theorem c_valueOf (a : Addr) (w : World) : (callFunc 88 #[.iface 102 (.pointer (some a))]).run Tryz.prog w = .ok (.value (.agg #[hd 102, .pointer (some ⟨w.heap.size, 0, none⟩), .int .u64 150])) (w.alloc (.cells #[.pointer (some a)] 102)) := by
 rw [run_callFunc_extern Tryz.func88 (by kernel_rfl) (by kernel_rfl) (by kernel_rfl) (e := fun args => ReflectliteValue.unpack (args.getD 0 (.tuple #[]))) (by kernel_rfl)]
 rw [show (#[.iface 102 (.pointer (some a))] : Array Value).getD 0 (.tuple #[]) = .iface 102 (.pointer (some a)) from rfl, x_valueOf]
 rfl
theorem c_valueOf2 (n : Int) (w : World) : (callFunc 88 #[failV n]).run Tryz.prog w = .ok (.value (.agg #[hd 97, .pointer (some ⟨w.heap.size, 0, none⟩), .int .u64 130])) (w.alloc (.cells #[.int .i64 n] 97)) := by
 rw [run_callFunc_extern Tryz.func88 (by kernel_rfl) (by kernel_rfl) (by kernel_rfl) (e := fun args => ReflectliteValue.unpack (args.getD 0 (.tuple #[]))) (by kernel_rfl)]
 rw [show (#[failV n] : Array Value).getD 0 (.tuple #[]) = failV n from rfl, x_valueOf2]
 rfl
theorem c_type (b : Addr) (w : World) : (callFunc 89 #[.agg #[hd 102, .pointer (some b), .int .u64 150]]).run Tryz.prog w = .ok (.value (rty 102)) w := by
 rw [run_callFunc_extern Tryz.func89 (by kernel_rfl) (by kernel_rfl) (by kernel_rfl) (e := ReflectliteValue.methodAny (ReflectliteValue.valueError "reflectlite.Value.Type" 0) fun t _ _ _ => ReflectliteType.toType t) (by kernel_rfl), x_type]
 rfl
theorem c_typeOf (n : Int) (w : World) : (callFunc 106 #[failV n]).run Tryz.prog w = .ok (.value (rty 97)) w := by
 rw [run_callFunc_extern Tryz.func106 (by kernel_rfl) (by kernel_rfl) (by kernel_rfl) (e := ReflectliteType.typeOf) (by kernel_rfl), x_typeOf]
 rfl
theorem c_kindP (w : World) : (callFunc 182 #[hd 102]).run Tryz.prog w = .ok (.value (.int .u8 22)) w := by
 rw [run_callFunc_extern Tryz.func182 (by kernel_rfl) (by kernel_rfl) (by kernel_rfl) (e := ReflectliteType.abiMethod fun t => do pure (.int .u8 (← Rtype.kind t))) (by kernel_rfl), x_kindP]
 rfl
theorem c_kindF (w : World) : (callFunc 182 #[hd 97]).run Tryz.prog w = .ok (.value (.int .u8 2)) w := by
 rw [run_callFunc_extern Tryz.func182 (by kernel_rfl) (by kernel_rfl) (by kernel_rfl) (e := ReflectliteType.abiMethod fun t => do pure (.int .u8 (← Rtype.kind t))) (by kernel_rfl), x_kindF]
 rfl
theorem c_elem (w : World) : (callFunc 193 #[.agg #[hd 102]]).run Tryz.prog w = .ok (.value (rty 97)) w := by
 rw [run_callFunc_extern Tryz.func193 (by kernel_rfl) (by kernel_rfl) (by kernel_rfl) (e := ReflectliteType.method ReflectliteType.elem) (by kernel_rfl), x_elem]
 rfl
theorem c_impl (w : World) : (callFunc 194 #[.agg #[hd 97], rty 99]).run Tryz.prog w = .ok (.value (.bool true)) w := by
 rw [run_callFunc_extern Tryz.func194 (by kernel_rfl) (by kernel_rfl) (by kernel_rfl) (e := ReflectliteType.relation "Implements" ReflectliteType.implements_) (by kernel_rfl), x_impl]
 rfl
theorem c_assign (w : World) : (callFunc 191 #[.agg #[hd 97], rty 97]).run Tryz.prog w = .ok (.value (.bool true)) w := by
 rw [run_callFunc_extern Tryz.func191 (by kernel_rfl) (by kernel_rfl) (by kernel_rfl) (e := ReflectliteType.relation "AssignableTo" ReflectliteType.assignableTo) (by kernel_rfl), x_assign]
 rfl
theorem c_isNil {w : World} {b : Nat} {a : Addr} (h : Blk w b [.pointer (some a)] 102) : (callFunc 90 #[.agg #[hd 102, .pointer (some ⟨b, 0, none⟩), .int .u64 150]]).run Tryz.prog w = .ok (.value (.bool false)) w := by
 rw [run_callFunc_extern Tryz.func90 (by kernel_rfl) (by kernel_rfl) (by kernel_rfl) (e := ReflectliteValue.method (ReflectliteValue.valueError "reflectlite.Value.IsNil" 0) ReflectliteValue.isNil) (by kernel_rfl), x_isNil h]
 rfl
theorem c_velem {w : World} {b : Nat} {a : Addr} (h : Blk w b [.pointer (some a)] 102) : (callFunc 107 #[.agg #[hd 102, .pointer (some ⟨b, 0, none⟩), .int .u64 150]]).run Tryz.prog w = .ok (.value (.agg #[hd 97, .pointer (some a), .int .u64 386])) w := by
 rw [run_callFunc_extern Tryz.func107 (by kernel_rfl) (by kernel_rfl) (by kernel_rfl) (e := ReflectliteValue.method (ReflectliteValue.valueError "reflectlite.Value.Elem" 0) ReflectliteValue.elem) (by kernel_rfl), x_velem h]
 rfl
theorem c_set {w : World} {a b : Nat} {n x : Int} (ha : Blk w a [.int .i64 x] 97) (hb : Blk w b [.int .i64 n] 97) :
  (callFunc 108 #[.agg #[hd 97, .pointer (some ⟨a, 0, none⟩), .int .u64 386], .agg #[hd 97, .pointer (some ⟨b, 0, none⟩), .int .u64 130]]).run Tryz.prog w = .ok (.value (.tuple #[])) (w.setCell ⟨a, 0, none⟩ (.int .i64 n)) := by
 rw [run_callFunc_extern Tryz.func108 (by kernel_rfl) (by kernel_rfl) (by kernel_rfl) (e := ReflectliteValue.set) (by kernel_rfl), x_set ha hb]
 rfl
end Go.Proofs.YtllfanlhgnkcfaaGreatDoor.K
namespace Go.Proofs.YtllfanlhgnkcfaaGreatDoor.K
open Go.RowKit Go.Proofs.Lys Go.Stop Go.Extern
set_option linter.unusedVariables false
set_option maxRecDepth 20000 in
theorem as0_any (w : World) (a b : Nat) (n x : Int) (ha : Blk w a [.int .i64 x] 97) (hb : Blk w b [.pointer (some ⟨a, 0, none⟩)] 102) :
  Calls Tryz.prog 91 #[failV n, .iface 102 (.pointer (some ⟨a, 0, none⟩)), .agg #[hd 102, .pointer (some ⟨b, 0, none⟩), .int .u64 150], rty 97] w fun e w' => e = .returned (.bool true) ∧ Only (fun k => k = a) w w' ∧ Blk w' a [.int .i64 n] 97 := by
 have q10 := c_typeOf
 have q11 := x_mAssign
 have q12 := c_assign
 have q1 := c_valueOf2
 have hb1 := hb.alloc (.cells #[hd 102, .pointer (some ⟨b, 0, none⟩), .int .u64 150] 127)
 have ha1 := (ha.alloc (.cells #[hd 102, .pointer (some ⟨b, 0, none⟩), .int .u64 150] 127)).alloc (.cells #[.int .i64 n] 97)
 have hc1 := Blk.new (w.alloc (.cells #[hd 102, .pointer (some ⟨b, 0, none⟩), .int .u64 150] 127)) [.int .i64 n] 97
 have q2 := c_velem hb1
 have q3 := c_set ha1 hc1
 simp only [World.size_alloc] at q3
 have hfin := ((ha.set 0 (.int .i64 n)).alloc (.cells #[hd 102, .pointer (some ⟨b, 0, none⟩), .int .u64 150] 127)).alloc (.cells #[.int .i64 n] 97)
 have hal := ha.lt
 have honly := (((Only.refl (fun k => k = a) w).setCell (p := ⟨a, 0, none⟩) (fun _ => rfl) (.int .i64 n)).alloc (.cells #[hd 102, .pointer (some ⟨b, 0, none⟩), .int .u64 150] 127)).alloc (.cells #[.int .i64 n] 97)
 replace hfin := hid hfin
 replace honly := hid honly
 clear ha1 hc1 hb1 ha hb
 go_enter Tryz.func91, Tryz.ntmps91
 go_wp2
 refine wp_loop_rounds 1 ?_
 rw [rounds_succ]
 go_wp2
 go_ret
 exact ⟨rfl, honly.out, hfin.out⟩
set_option maxRecDepth 20000 in
theorem as_any (w : World) (a : Nat) (n x : Int) (ha : Blk w a [.int .i64 x] 97) (hE : w.cell? ⟨0, 0, none⟩ = some (rty 99)) :
  Calls Tryz.prog 65 #[failV n, .iface 102 (.pointer (some ⟨a, 0, none⟩))] w fun e w' => e = .returned (.bool true) ∧ Only (fun k => k = a) w w' ∧ Blk w' a [.int .i64 n] 97 := by
 have q1 := c_valueOf
 have q2 := c_type
 have q3 := x_mKind
 have q4 := c_kindP
 have q5 := c_kindF
 have q6 := x_mElem
 have q7 := c_elem
 have q8 := x_mImpl
 have q9 := c_impl
 have q10 := c_typeOf
 have q11 := x_mAssign
 have q12 := c_assign
 have hB1 : Blk ((w.alloc (.cells #[.pointer (some ⟨a, 0, none⟩)] 102)).alloc (.cells #[hd 102, .pointer (some ⟨w.heap.size, 0, none⟩), .int .u64 150] 127)) w.heap.size [.pointer (some ⟨a, 0, none⟩)] 102 := (Blk.new w [.pointer (some ⟨a, 0, none⟩)] 102).alloc _
 have q13 := c_isNil hB1
 have hE1 : ((w.alloc (.cells #[.pointer (some ⟨a, 0, none⟩)] 102)).alloc (.cells #[hd 102, .pointer (some ⟨w.heap.size, 0, none⟩), .int .u64 150] 127)).cell? ⟨0, 0, none⟩ = some (rty 99) := by
  have hk : Kept w ((w.alloc (.cells #[.pointer (some ⟨a, 0, none⟩)] 102)).alloc (.cells #[hd 102, .pointer (some ⟨w.heap.size, 0, none⟩), .int .u64 150] 127)) := ((Only.refl _ w).alloc _).alloc _
  rw [World.cell?_of_block (hk.block _ (World.block_lt_of_cell? w _ hE) (fun f => f))]
  exact hE
 go_enter Tryz.func65, Tryz.ntmps65
 go_wp2_with fail
 refine (as0_any _ a w.heap.size n x (ha.alloc _ |>.alloc _) hB1).mono ?_
 rintro e w' ⟨rfl, hk, hblk⟩
 go_wp2_with fail
 go_ret
 refine ⟨rfl, ?_, hblk⟩
 exact (((Only.refl _ w).alloc _).alloc _).trans hk (fun _ _ e => e)
set_option maxRecDepth 20000 in
theorem told_any (w : World) (n : Int) (hE : w.cell? ⟨0, 0, none⟩ = some (rty 99)) :
  Calls Tryz.prog 41 #[failV n] w fun e w' => e = .returned (.int .i64 n) ∧ Kept w w' := by
 have hta : ∀ w : World, (Instr.typeAssert (failV n) 20 99 true).run Tryz.prog w = .ok (.tuple #[failV n, .bool true]) w := fun w => run_typeAssert_hasB Tryz.underlying99 (by kernel_rfl) _ _ w
 have hB := Blk.new w [.int .i64 0] 97
 have hE1 : (w.alloc (.cells #[.int .i64 0] 97)).cell? ⟨0, 0, none⟩ = some (rty 99) := by
  have hk : Kept w (w.alloc (.cells #[.int .i64 0] 97)) := (Only.refl _ w).alloc _
  rw [World.cell?_of_block (hk.block _ (World.block_lt_of_cell? w _ hE) (fun f => f))]
  exact hE
 go_enter Tryz.func41, Tryz.ntmps41
 go_wp2_with fail
 refine (as_any _ w.heap.size n 0 hB hE1).mono ?_
 rintro e w' ⟨rfl, hk, hblk⟩
 have hc := hblk.cell 0 rfl
 go_wp2_with fail
 go_ret
 exact ⟨rfl, ((Only.refl _ w).alloc _).trans hk (fun j hj e => by omega)⟩
end Go.Proofs.YtllfanlhgnkcfaaGreatDoor.K
