/-
  The acts: each closure, called at a directory, does to it what the act says.
-/
import Derived.Test.YtpjedcfdchebgaaDinv
namespace Go.Proofs.Ytpjedcfdchebgaa
open Go.RowKit Go.Proofs.Lys Go.Maps
set_option linter.unusedVariables false

section
variable {P : Program} (w : World) {ops : Array Oper} {rest : List Oper} {o : Oper} {a : Act} {Q : Exit → Act → World → Prop}

theorem wpList_mapUpdate_run (hg : o.guard = none) (m x v : Operand) (t : TypeId) (hop : o.op = Op.mapUpdate t m x v) {mv xv vv : Value} {w' : World} (hrun : Hid ((Instr.mapUpdate t mv xv vv).run P w = .ok () w'))
    (hm : a.eval m = mv) (hx : a.eval x = xv) (hv : a.eval v = vv) (hK : wpList P ops Q rest (a.put o.dst undef) w') : wpList P ops Q (o :: rest) a w := by
  refine wpList_plain hg fun K' hK' => ?_
  unfold Oper.wp
  simp [execOp, hop, hm, hx, hv, hrun.out, Result.andThen]
  exact hK' _ _ hK

theorem wpList_delete_run (hg : o.guard = none) (m x : Operand) (t k : TypeId) (hop : o.op = Op.call { callee := Callee.builtin Builtin.delete, args := #[m, x], argTypes := #[t, k] }) {mv xv : Value} {w' : World}
    (hrun : Hid ((Builtin.delete_ #[t, k] 0 #[mv, xv]).run P w = .ok (.tuple #[]) w')) (hm : a.eval m = mv) (hx : a.eval x = xv) (hK : wpList P ops Q rest (a.put o.dst (.tuple #[])) w') : wpList P ops Q (o :: rest) a w := by
  refine wpList_plain hg fun K' hK' => ?_
  have hr : (Builtin.delete_ #[t, k] o.type #[mv, xv]).run P w = .ok (.tuple #[]) w' := hrun.out
  unfold Oper.wp
  simp [execOp, hop, resolve, invoke, builtin, hm, hx, hr, Result.andThen]
  exact hK' _ _ hK
end

section
variable {w : World} {b : Nat} {blk : List Nat} {l : DDir} {s s2 : ByteArray}

theorem Hid.mk {p : Prop} (h : p) : Hid p := h

theorem ba_eta (s : ByteArray) (n : List UInt8) (h : s.data.toList = n) : s = ⟨n.toArray⟩ := by
  subst h
  rfl

set_option maxHeartbeats 400000 in
theorem create_act (bn be f : Nat) (h : w.ownsMap Try.prog 9 ptrE b l.length (dirD blk l)) (hl : l.length < 1000000) (hs : s.size ≤ maxLen)
    (h1 : Blk w bn [.string s] 9) (h2 : Blk w be [.pointer (some ⟨blk.getD f 0, 0, none⟩)] 89) :
    Calls Try.prog 70 #[.map (some b), .pointer (some ⟨be, 0, none⟩), .pointer (some ⟨bn, 0, none⟩)] w fun e w' => e = .returned (.tuple #[]) ∧
      w'.ownsMap Try.prog 9 ptrE b (DD.put l s.data.toList f).length (dirD blk (DD.put l s.data.toList f)) ∧ Only (· = b) w w' := by
  obtain ⟨w1, hr, ho, hk⟩ := put_run h hs hl f
  have Hr := Hid.mk hr
  clear hr
  have c1 := h1.cell 0 rfl
  have c2 := h2.cell 0 rfl
  go_enter Try.func70, Try.ntmps70
  go_wp2_with (at_mapUpdate; refine wpList_mapUpdate_run _ rfl _ _ _ _ rfl Hr rfl rfl rfl ?_)
  go_end0
  exact ⟨rfl, ho, hk⟩

set_option maxHeartbeats 400000 in
theorem remove_act (bn : Nat) (h : w.ownsMap Try.prog 9 ptrE b l.length (dirD blk l)) (hs : s.size ≤ maxLen) (h1 : Blk w bn [.string s] 9) :
    Calls Try.prog 75 #[.map (some b), .pointer (some ⟨bn, 0, none⟩)] w fun e w' => e = .returned (.tuple #[]) ∧
      w'.ownsMap Try.prog 9 ptrE b (DD.drop l s.data.toList).length (dirD blk (DD.drop l s.data.toList)) ∧ Only (· = b) w w' := by
  obtain ⟨w1, hr, ho, hk⟩ := drop_run h hs 0
  have Hr := Hid.mk hr
  clear hr
  have c1 := h1.cell 0 rfl
  go_enter Try.func75, Try.ntmps75
  go_wp2_with (at_delete; refine wpList_delete_run _ rfl _ _ _ _ rfl Hr rfl rfl ?_)
  go_end0
  exact ⟨rfl, ho, hk⟩

set_option maxHeartbeats 400000 in
theorem rename_act_some (b1 b2 f : Nat) (h : w.ownsMap Try.prog 9 ptrE b l.length (dirD blk l)) (hl : l.length < 1000000) (hs : s.size ≤ maxLen) (hs2 : s2.size ≤ maxLen)
    (h1 : Blk w b1 [.string s] 9) (h2 : Blk w b2 [.string s2] 9) (hf : DD.look l s.data.toList = some f) :
    Calls Try.prog 74 #[.map (some b), .pointer (some ⟨b1, 0, none⟩), .pointer (some ⟨b2, 0, none⟩)] w fun e w' => e = .returned (.tuple #[]) ∧
      w'.ownsMap Try.prog 9 ptrE b (DD.put (DD.drop l s.data.toList) s2.data.toList f).length (dirD blk (DD.put (DD.drop l s.data.toList) s2.data.toList f)) ∧ Only (· = b) w w' := by
  have hr0 := look_ok_run h hs
  rw [hf] at hr0
  simp only [ptrOf, Option.isSome_some] at hr0
  obtain ⟨w1, hr1, ho1, hk1⟩ := drop_run h hs 0
  have h1' := hk1.blk h1 (fun e => h1.typed.ne_map h e)
  have h2' := hk1.blk h2 (fun e => h2.typed.ne_map h e)
  obtain ⟨w2, hr2, ho2, hk2⟩ := put_run ho1 hs2 (Nat.lt_of_le_of_lt (len_drop _ _) hl) f
  have Hr1 := Hid.mk hr1
  have Hr2 := Hid.mk hr2
  clear hr1 hr2
  have c1 := h1.cell 0 rfl
  have c2 := h2.cell 0 rfl
  have c1' := h1'.cell 0 rfl
  have c2' := h2'.cell 0 rfl
  go_enter Try.func74, Try.ntmps74
  go_wp2_with (first
    | (at_delete; refine wpList_delete_run _ rfl _ _ _ _ rfl Hr1 rfl rfl ?_)
    | (at_mapUpdate; refine wpList_mapUpdate_run _ rfl _ _ _ _ rfl Hr2 rfl rfl rfl ?_))
  go_end0
  exact ⟨rfl, ho2, hk1.trans hk2 (fun _ _ e => e)⟩

set_option maxHeartbeats 400000 in
theorem rename_act_none (b1 b2 : Nat) (h : w.ownsMap Try.prog 9 ptrE b l.length (dirD blk l)) (hs : s.size ≤ maxLen)
    (h1 : Blk w b1 [.string s] 9) (hf : DD.look l s.data.toList = none) :
    Calls Try.prog 74 #[.map (some b), .pointer (some ⟨b1, 0, none⟩), .pointer (some ⟨b2, 0, none⟩)] w fun e w' => e = .returned (.tuple #[]) ∧ w' = w := by
  have hr0 := look_ok_run h hs
  rw [hf] at hr0
  simp only [ptrOf, Option.isSome_none] at hr0
  have c1 := h1.cell 0 rfl
  go_enter Try.func74, Try.ntmps74
  go_wp2
  go_end0
  exact ⟨rfl, rfl⟩
end
end Go.Proofs.Ytpjedcfdchebgaa
