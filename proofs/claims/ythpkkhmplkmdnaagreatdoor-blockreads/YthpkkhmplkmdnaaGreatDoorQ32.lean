/-
  Kas, Kas2, Ktold.
-/
import Derived.Test.YthpkkhmplkmdnaaGreatDoorQ01
import Derived.Test.YthpkkhmplkmdnaaGreatDoorChecked
import Derived.Stop.Asserts
import Derived.WalkKit
import Derived.Laws.Rows
import Derived.Laws.Tables
import Derived.Lib.ReflectliteSwap
namespace Go.Proofs.YthpkkhmplkmdnaaGreatDoor.K
open Go.RowKit Go.Proofs.Lys Go.Stop Go.Extern
set_option linter.unusedVariables false
abbrev hd (t : Nat) : Value := .pointer (some ⟨3, t, none⟩)
abbrev rty (t : Nat) : Value := .iface 179 (.agg #[hd t])
abbrev failV (n : Int) : Value := .iface 115 (.int .i64 n)
theorem x_valueOf (a : Addr) (w : World) : (ReflectliteValue.unpack (.iface 120 (.pointer (some a)))).run Tryz.prog w = .ok (.agg #[hd 120, .pointer (some ⟨w.heap.size, 0, none⟩), .int .u64 150]) (w.alloc (.cells #[.pointer (some a)] 120)) := by kernel_rfl
theorem x_valueOf2 (n : Int) (w : World) : (ReflectliteValue.unpack (failV n)).run Tryz.prog w = .ok (.agg #[hd 115, .pointer (some ⟨w.heap.size, 0, none⟩), .int .u64 130]) (w.alloc (.cells #[.int .i64 n] 115)) := by kernel_rfl
theorem x_type (b : Addr) (w : World) : ((ReflectliteValue.methodAny (ReflectliteValue.valueError "reflectlite.Value.Type" 0) fun t _ _ _ => ReflectliteType.toType t) #[.agg #[hd 120, .pointer (some b), .int .u64 150]]).run Tryz.prog w = .ok (rty 120) w := by kernel_rfl
theorem x_typeOf (n : Int) (w : World) : (ReflectliteType.typeOf #[failV n]).run Tryz.prog w = .ok (rty 115) w := by kernel_rfl
theorem x_mKind (t : Nat) (w : World) : (Go.method 380 179 (.agg #[hd t]) "Kind").run Tryz.prog w = .ok (199, hd t) w := by kernel_rfl
theorem x_mElem (v : Value) (w : World) : (Go.method 380 179 v "Elem").run Tryz.prog w = .ok (210, v) w := by kernel_rfl
theorem x_mImpl (v : Value) (w : World) : (Go.method 380 179 v "Implements").run Tryz.prog w = .ok (211, v) w := by kernel_rfl
theorem x_mAssign (v : Value) (w : World) : (Go.method 380 179 v "AssignableTo").run Tryz.prog w = .ok (208, v) w := by kernel_rfl
theorem x_kindP (w : World) : ((ReflectliteType.abiMethod fun t => do pure (.int .u8 (← Rtype.kind t))) #[hd 120]).run Tryz.prog w = .ok (.int .u8 22) w := by kernel_rfl
theorem x_kindF (w : World) : ((ReflectliteType.abiMethod fun t => do pure (.int .u8 (← Rtype.kind t))) #[hd 115]).run Tryz.prog w = .ok (.int .u8 2) w := by kernel_rfl
theorem x_elem (w : World) : (ReflectliteType.method ReflectliteType.elem #[.agg #[hd 120]]).run Tryz.prog w = .ok (rty 115) w := by kernel_rfl
theorem x_impl (w : World) : (ReflectliteType.relation "Implements" ReflectliteType.implements_ #[.agg #[hd 115], rty 117]).run Tryz.prog w = .ok (.bool true) w := by kernel_rfl
theorem x_assign (w : World) : (ReflectliteType.relation "AssignableTo" ReflectliteType.assignableTo #[.agg #[hd 115], rty 115]).run Tryz.prog w = .ok (.bool true) w := by kernel_rfl
theorem m_run {z : Sem Value} {f : TypeId → Addr → Nat → Nat → Sem Value} {v : Value} {P : Program} {w : World} {t : TypeId} {a : Addr} {fl : Nat} {r : Result Value} (hp : (ReflectliteValue.parts v).run P w = .ok (some (t, a, fl)) w) (hf : (f t a fl (fl % 32)).run P w = r) :
  (ReflectliteValue.method z f #[v]).run P w = r := by
 show (ReflectliteValue.parts v >>= fun q => match q with | none => z | some (t, a, fl) => f t a fl (fl % 32)).run P w = r
 rw [Sem.run_bind, hp]
 exact hf
theorem x_load {w : World} {b : Nat} {a : Addr} (h : Blk w b [.pointer (some a)] 120) : (loadVar 120 ⟨b, 0, none⟩).run Tryz.prog w = .ok (.pointer (some a)) w := by
 have h0 := h.cell 0 rfl
 have hA : (isAgg 120).run Tryz.prog w = .ok false w := by kernel_rfl
 simp [loadVar, hA, h0, Result.andThen]
theorem x_isNil {w : World} {b : Nat} {a : Addr} (h : Blk w b [.pointer (some a)] 120) : ((ReflectliteValue.method (ReflectliteValue.valueError "reflectlite.Value.IsNil" 0) ReflectliteValue.isNil) #[.agg #[hd 120, .pointer (some ⟨b, 0, none⟩), .int .u64 150]]).run Tryz.prog w = .ok (.bool false) w := by
 refine m_run (t := 120) (a := ⟨b, 0, none⟩) (fl := 150) (by kernel_rfl) ?_
 have hl := x_load h
 simp [ReflectliteValue.isNil, hl, Result.andThen]
theorem x_velem {w : World} {b : Nat} {a : Addr} (h : Blk w b [.pointer (some a)] 120) : ((ReflectliteValue.method (ReflectliteValue.valueError "reflectlite.Value.Elem" 0) ReflectliteValue.elem) #[.agg #[hd 120, .pointer (some ⟨b, 0, none⟩), .int .u64 150]]).run Tryz.prog w = .ok (.agg #[hd 115, .pointer (some a), .int .u64 386]) w := by
 refine m_run (t := 120) (a := ⟨b, 0, none⟩) (fl := 150) (by kernel_rfl) ?_
 have hl := x_load h
 have he : (Rtype.elem? 120).run Tryz.prog w = .ok (some 115) w := by kernel_rfl
 have hm : (ReflectliteValue.mk 115 a ReflectliteValue.flagAddr).run Tryz.prog w = .ok (.agg #[hd 115, .pointer (some a), .int .u64 386]) w := by kernel_rfl
 simp [ReflectliteValue.elem, hl, he, hm, Result.andThen]
theorem x_set {w : World} {a b : Nat} {n x : Int} (ha : Blk w a [.int .i64 x] 115) (hb : Blk w b [.int .i64 n] 115) :
  (ReflectliteValue.set #[.agg #[hd 115, .pointer (some ⟨a, 0, none⟩), .int .u64 386], .agg #[hd 115, .pointer (some ⟨b, 0, none⟩), .int .u64 130]]).run Tryz.prog w = .ok (.tuple #[]) (w.setCell ⟨a, 0, none⟩ (.int .i64 n)) := by
 have hp1 : (ReflectliteValue.parts (.agg #[hd 115, .pointer (some ⟨a, 0, none⟩), .int .u64 386])).run Tryz.prog w = .ok (some (115, ⟨a, 0, none⟩, 386)) w := by kernel_rfl
 have hp2 : (ReflectliteValue.parts (.agg #[hd 115, .pointer (some ⟨b, 0, none⟩), .int .u64 130])).run Tryz.prog w = .ok (some (115, ⟨b, 0, none⟩, 130)) w := by kernel_rfl
 have hD : (Rtype.directlyAssignable 115 115).run Tryz.prog w = .ok true w := by kernel_rfl
 have hA : (isAgg 115).run Tryz.prog w = .ok false w := by kernel_rfl
 have hb0 := hb.cell 0 rfl
 have hl : (loadVar 115 ⟨b, 0, none⟩).run Tryz.prog w = .ok (.int .i64 n) w := by simp [loadVar, hA, hb0, Result.andThen]
 have hi : ∃ i, Tryz.prog.info? 115 = some i ∧ i.size = 1 := by
  have : (Tryz.prog.info? 115).map (·.size) = some 1 := by kernel_rfl
  obtain ⟨i, h1, h2⟩ := Option.map_eq_some_iff.1 this
  exact ⟨i, h1, h2⟩
 obtain ⟨i, hi1, hi2⟩ := hi
 have hst : (storeVar 115 ⟨a, 0, none⟩ (.int .i64 n)).run Tryz.prog w = .ok () (w.setCell ⟨a, 0, none⟩ (.int .i64 n)) := Lib.rl_storeVar_one 115 i hi1 hi2 ⟨a, 0, none⟩ (.int .i64 n) (.int .i64 x) rfl w (ha.cell 0 rfl) (ha.frozen 0)
 refine (Sem.run_bind _ _ _ _).trans ?_
 simp only [Array.getLit, List.getElem_toArray, List.getElem_cons_zero, List.getElem_cons_succ, hp1, Result.andThen, Sem.run_bind, hp2]
 simp [ReflectliteValue.flagAddr, hl, hD, hst, Result.andThen]
end Go.Proofs.YthpkkhmplkmdnaaGreatDoor.K
namespace Go.Proofs.YthpkkhmplkmdnaaGreatDoor.K
open Go.RowKit Go.Proofs.Lys Go.Stop Go.Extern
set_option linter.unusedVariables false
theorem c_valueOf (a : Addr) (w : World) : (callFunc 105 #[.iface 120 (.pointer (some a))]).run Tryz.prog w = .ok (.value (.agg #[hd 120, .pointer (some ⟨w.heap.size, 0, none⟩), .int .u64 150])) (w.alloc (.cells #[.pointer (some a)] 120)) := by
 rw [run_callFunc_extern Tryz.func105 (by kernel_rfl) (by kernel_rfl) (by kernel_rfl) (e := fun args => ReflectliteValue.unpack (args.getD 0 (.tuple #[]))) (by kernel_rfl)]
 rw [show (#[.iface 120 (.pointer (some a))] : Array Value).getD 0 (.tuple #[]) = .iface 120 (.pointer (some a)) from rfl, x_valueOf]
 rfl
theorem c_valueOf2 (n : Int) (w : World) : (callFunc 105 #[failV n]).run Tryz.prog w = .ok (.value (.agg #[hd 115, .pointer (some ⟨w.heap.size, 0, none⟩), .int .u64 130])) (w.alloc (.cells #[.int .i64 n] 115)) := by
 rw [run_callFunc_extern Tryz.func105 (by kernel_rfl) (by kernel_rfl) (by kernel_rfl) (e := fun args => ReflectliteValue.unpack (args.getD 0 (.tuple #[]))) (by kernel_rfl)]
 rw [show (#[failV n] : Array Value).getD 0 (.tuple #[]) = failV n from rfl, x_valueOf2]
 rfl
theorem c_type (b : Addr) (w : World) : (callFunc 106 #[.agg #[hd 120, .pointer (some b), .int .u64 150]]).run Tryz.prog w = .ok (.value (rty 120)) w := by
 rw [run_callFunc_extern Tryz.func106 (by kernel_rfl) (by kernel_rfl) (by kernel_rfl) (e := ReflectliteValue.methodAny (ReflectliteValue.valueError "reflectlite.Value.Type" 0) fun t _ _ _ => ReflectliteType.toType t) (by kernel_rfl), x_type]
 rfl
theorem c_typeOf (n : Int) (w : World) : (callFunc 123 #[failV n]).run Tryz.prog w = .ok (.value (rty 115)) w := by
 rw [run_callFunc_extern Tryz.func123 (by kernel_rfl) (by kernel_rfl) (by kernel_rfl) (e := ReflectliteType.typeOf) (by kernel_rfl), x_typeOf]
 rfl
theorem c_kindP (w : World) : (callFunc 199 #[hd 120]).run Tryz.prog w = .ok (.value (.int .u8 22)) w := by
 rw [run_callFunc_extern Tryz.func199 (by kernel_rfl) (by kernel_rfl) (by kernel_rfl) (e := ReflectliteType.abiMethod fun t => do pure (.int .u8 (← Rtype.kind t))) (by kernel_rfl), x_kindP]
 rfl
theorem c_kindF (w : World) : (callFunc 199 #[hd 115]).run Tryz.prog w = .ok (.value (.int .u8 2)) w := by
 rw [run_callFunc_extern Tryz.func199 (by kernel_rfl) (by kernel_rfl) (by kernel_rfl) (e := ReflectliteType.abiMethod fun t => do pure (.int .u8 (← Rtype.kind t))) (by kernel_rfl), x_kindF]
 rfl
theorem c_elem (w : World) : (callFunc 210 #[.agg #[hd 120]]).run Tryz.prog w = .ok (.value (rty 115)) w := by
 rw [run_callFunc_extern Tryz.func210 (by kernel_rfl) (by kernel_rfl) (by kernel_rfl) (e := ReflectliteType.method ReflectliteType.elem) (by kernel_rfl), x_elem]
 rfl
theorem c_impl (w : World) : (callFunc 211 #[.agg #[hd 115], rty 117]).run Tryz.prog w = .ok (.value (.bool true)) w := by
 rw [run_callFunc_extern Tryz.func211 (by kernel_rfl) (by kernel_rfl) (by kernel_rfl) (e := ReflectliteType.relation "Implements" ReflectliteType.implements_) (by kernel_rfl), x_impl]
 rfl
theorem c_assign (w : World) : (callFunc 208 #[.agg #[hd 115], rty 115]).run Tryz.prog w = .ok (.value (.bool true)) w := by
 rw [run_callFunc_extern Tryz.func208 (by kernel_rfl) (by kernel_rfl) (by kernel_rfl) (e := ReflectliteType.relation "AssignableTo" ReflectliteType.assignableTo) (by kernel_rfl), x_assign]
 rfl
theorem c_isNil {w : World} {b : Nat} {a : Addr} (h : Blk w b [.pointer (some a)] 120) : (callFunc 107 #[.agg #[hd 120, .pointer (some ⟨b, 0, none⟩), .int .u64 150]]).run Tryz.prog w = .ok (.value (.bool false)) w := by
 rw [run_callFunc_extern Tryz.func107 (by kernel_rfl) (by kernel_rfl) (by kernel_rfl) (e := ReflectliteValue.method (ReflectliteValue.valueError "reflectlite.Value.IsNil" 0) ReflectliteValue.isNil) (by kernel_rfl), x_isNil h]
 rfl
theorem c_velem {w : World} {b : Nat} {a : Addr} (h : Blk w b [.pointer (some a)] 120) : (callFunc 124 #[.agg #[hd 120, .pointer (some ⟨b, 0, none⟩), .int .u64 150]]).run Tryz.prog w = .ok (.value (.agg #[hd 115, .pointer (some a), .int .u64 386])) w := by
 rw [run_callFunc_extern Tryz.func124 (by kernel_rfl) (by kernel_rfl) (by kernel_rfl) (e := ReflectliteValue.method (ReflectliteValue.valueError "reflectlite.Value.Elem" 0) ReflectliteValue.elem) (by kernel_rfl), x_velem h]
 rfl
theorem c_set {w : World} {a b : Nat} {n x : Int} (ha : Blk w a [.int .i64 x] 115) (hb : Blk w b [.int .i64 n] 115) :
  (callFunc 125 #[.agg #[hd 115, .pointer (some ⟨a, 0, none⟩), .int .u64 386], .agg #[hd 115, .pointer (some ⟨b, 0, none⟩), .int .u64 130]]).run Tryz.prog w = .ok (.value (.tuple #[])) (w.setCell ⟨a, 0, none⟩ (.int .i64 n)) := by
 rw [run_callFunc_extern Tryz.func125 (by kernel_rfl) (by kernel_rfl) (by kernel_rfl) (e := ReflectliteValue.set) (by kernel_rfl), x_set ha hb]
 rfl
end Go.Proofs.YthpkkhmplkmdnaaGreatDoor.K
namespace Go.Proofs.YthpkkhmplkmdnaaGreatDoor.K
open Go.RowKit Go.Proofs.Lys Go.Stop Go.Extern
set_option linter.unusedVariables false
set_option maxRecDepth 20000 in
theorem as0_any (w : World) (a b : Nat) (n x : Int) (ha : Blk w a [.int .i64 x] 115) (hb : Blk w b [.pointer (some ⟨a, 0, none⟩)] 120) :
  Calls Tryz.prog 108 #[failV n, .iface 120 (.pointer (some ⟨a, 0, none⟩)), .agg #[hd 120, .pointer (some ⟨b, 0, none⟩), .int .u64 150], rty 115] w fun e w' => e = .returned (.bool true) ∧ Only (fun k => k = a) w w' ∧ Blk w' a [.int .i64 n] 115 := by
 have q10 := c_typeOf
 have q11 := x_mAssign
 have q12 := c_assign
 have q1 := c_valueOf2
 have hb1 := hb.alloc (.cells #[hd 120, .pointer (some ⟨b, 0, none⟩), .int .u64 150] 151)
 have ha1 := (ha.alloc (.cells #[hd 120, .pointer (some ⟨b, 0, none⟩), .int .u64 150] 151)).alloc (.cells #[.int .i64 n] 115)
 have hc1 := Blk.new (w.alloc (.cells #[hd 120, .pointer (some ⟨b, 0, none⟩), .int .u64 150] 151)) [.int .i64 n] 115
 have q2 := c_velem hb1
 have q3 := c_set ha1 hc1
 simp only [World.size_alloc] at q3
 have hfin := ((ha.set 0 (.int .i64 n)).alloc (.cells #[hd 120, .pointer (some ⟨b, 0, none⟩), .int .u64 150] 151)).alloc (.cells #[.int .i64 n] 115)
 have hal := ha.lt
 have honly := (((Only.refl (fun k => k = a) w).setCell (p := ⟨a, 0, none⟩) (fun _ => rfl) (.int .i64 n)).alloc (.cells #[hd 120, .pointer (some ⟨b, 0, none⟩), .int .u64 150] 151)).alloc (.cells #[.int .i64 n] 115)
 replace hfin := hid hfin
 replace honly := hid honly
 clear ha1 hc1 hb1 ha hb
 go_enter Tryz.func108, Tryz.ntmps108
 go_wp2
 refine wp_loop_rounds 1 ?_
 rw [rounds_succ]
 go_wp2
 go_ret
 exact ⟨rfl, honly.out, hfin.out⟩
set_option maxRecDepth 20000 in
theorem as_any (w : World) (a : Nat) (n x : Int) (ha : Blk w a [.int .i64 x] 115) (hE : w.cell? ⟨0, 0, none⟩ = some (rty 117)) :
  Calls Tryz.prog 79 #[failV n, .iface 120 (.pointer (some ⟨a, 0, none⟩))] w fun e w' => e = .returned (.bool true) ∧ Only (fun k => k = a) w w' ∧ Blk w' a [.int .i64 n] 115 := by
 have q1 := c_valueOf
 have q2 := c_type
 have q3 := x_mKind
 have q4 := c_kindP
 have q5 := c_kindF
 have q6 := x_mElem
 have q7 := c_elem
 have q8 := x_mImpl
 have q9 := c_impl
 have q10 := c_typeOf
 have q11 := x_mAssign
 have q12 := c_assign
 have hB1 : Blk ((w.alloc (.cells #[.pointer (some ⟨a, 0, none⟩)] 120)).alloc (.cells #[hd 120, .pointer (some ⟨w.heap.size, 0, none⟩), .int .u64 150] 151)) w.heap.size [.pointer (some ⟨a, 0, none⟩)] 120 := (Blk.new w [.pointer (some ⟨a, 0, none⟩)] 120).alloc _
 have q13 := c_isNil hB1
 have hE1 : ((w.alloc (.cells #[.pointer (some ⟨a, 0, none⟩)] 120)).alloc (.cells #[hd 120, .pointer (some ⟨w.heap.size, 0, none⟩), .int .u64 150] 151)).cell? ⟨0, 0, none⟩ = some (rty 117) := by
  have hk : Kept w ((w.alloc (.cells #[.pointer (some ⟨a, 0, none⟩)] 120)).alloc (.cells #[hd 120, .pointer (some ⟨w.heap.size, 0, none⟩), .int .u64 150] 151)) := ((Only.refl _ w).alloc _).alloc _
  rw [World.cell?_of_block (hk.block _ (World.block_lt_of_cell? w _ hE) (fun f => f))]
  exact hE
 go_enter Tryz.func79, Tryz.ntmps79
 go_wp2_with fail
 refine (as0_any _ a w.heap.size n x (ha.alloc _ |>.alloc _) hB1).mono ?_
 rintro e w' ⟨rfl, hk, hblk⟩
 go_wp2_with fail
 go_ret
 refine ⟨rfl, ?_, hblk⟩
 exact (((Only.refl _ w).alloc _).alloc _).trans hk (fun _ _ e => e)
set_option maxRecDepth 20000 in
theorem told_any (w : World) (n : Int) (hE : w.cell? ⟨0, 0, none⟩ = some (rty 117)) :
  Calls Tryz.prog 48 #[failV n] w fun e w' => e = .returned (.int .i64 n) ∧ Kept w w' := by
 have hta : ∀ w : World, (Instr.typeAssert (failV n) 20 117 true).run Tryz.prog w = .ok (.tuple #[failV n, .bool true]) w := fun w => run_typeAssert_hasB Tryz.underlying117 (by kernel_rfl) _ _ w
 have hB := Blk.new w [.int .i64 0] 115
 have hE1 : (w.alloc (.cells #[.int .i64 0] 115)).cell? ⟨0, 0, none⟩ = some (rty 117) := by
  have hk : Kept w (w.alloc (.cells #[.int .i64 0] 115)) := (Only.refl _ w).alloc _
  rw [World.cell?_of_block (hk.block _ (World.block_lt_of_cell? w _ hE) (fun f => f))]
  exact hE
 go_enter Tryz.func48, Tryz.ntmps48
 go_wp2_with fail
 refine (as_any _ w.heap.size n 0 hB hE1).mono ?_
 rintro e w' ⟨rfl, hk, hblk⟩
 have hc := hblk.cell 0 rfl
 go_wp2_with fail
 go_ret
 exact ⟨rfl, ((Only.refl _ w).alloc _).trans hk (fun j hj e => by omega)⟩
end Go.Proofs.YthpkkhmplkmdnaaGreatDoor.K
