/-
  copied: a directory of its own with the same files (maps.Copy in whatever order the names come).
-/
import Derived.Test.YtpjedcfdchebgaaDroom
import Derived.Maps.Ext
namespace Go.Proofs.Ytpjedcfdchebgaa
open Go.RowKit Go.Proofs.Lys Go.Maps Go.Shelf
set_option linter.unusedVariables false

section
variable {w : World} {blk : List Nat} {l : DDir}

theorem at_look {n : List UInt8} {f : Nat} (h : DD.look l n = some f) (zd : DataW Unit) : (dirD blk l).atKey (.string n) zd = .lit (.int .i64 ((blk.getD f 0 : Nat) : Int)) := by
  unfold DD.look at h
  cases hf : l.find? (fun p => p.1 == n) with
  | none => rw [hf] at h; cases h
  | some p =>
    rw [hf] at h
    cases h
    simp only [dirD, DataW.atKey, find_dirD, hf, Option.map_some, entD]

set_option maxHeartbeats 1600000 in
theorem copy_any (b q : Nat) (hown : w.ownsMap Try.prog 9 ptrE b l.length (dirD blk l)) (hq : w.ownsMap Try.prog 9 ptrE q 0 (.map [])) (hne : q ≠ b) (hl : l.length < 1000000) :
    Calls Try.prog 98 #[.map (some q), .map (some b)] w fun e w' => e = .returned (.tuple #[]) ∧ w'.ownsMap Try.prog 9 ptrE q l.length (dirD blk l) ∧ Only (fun x => x = q) w w' := by
  have hsz : Maps.size (dirD blk l) = l.length := by simp [dirD, Maps.size]
  go_enter Try.func98, Try.ntmps98
  go_wp2_with (at_range; refine wpList_range_own _ rfl _ 62 rfl 9 89 law Try.underlying62 _ b l.length _ rfl hown ?_; intro w0 hrg0 hg0 hs0)
  go_frame
  go_loopw [4] (fun _ wr => ∃ (left : Lit → Bool) (cnt : Nat) (Dout : DataW Unit), wr.ranges Try.prog 9 ptrE b w.heap.size l.length (dirD blk l) left cnt ∧ cnt ≤ l.length ∧
      wr.ownsMap Try.prog 9 ptrE q (l.length - cnt) Dout ∧ Agree Dout (dirD blk l) left ∧ Only (fun x => x = q) w wr)
    (fun _ wr => wr.rangeLeft b w.heap.size)
  case atStart =>
    exact ⟨_, _, .map [], hrg0, by rw [hsz]; exact Nat.le_refl _, (hq.kept hg0 (by simp)).mono (Nat.zero_le _), agree_start _, (Only.refl _ w).grown hg0 (fun k e _ => by cases e)⟩
  case round =>
    obtain ⟨left, cnt, Dout, hrg, hcs, hout, hA, hnx⟩ := hrel
    have hqw := hq.lt
    have hbw := hown.lt
    go_wp2_with (at_next; refine wpList_next_dir _ rfl _ rfl b w.heap.size l.length blk l left cnt rfl hrg ?_ ?_)
    · intro hl0
      go_wp2
      go_end0
      have e := agree_end hA hl0 (hout.canon law) (hown.canon law)
      subst e
      refine ⟨rfl, ?_, hnx⟩
      have := map_tight hout
      rwa [dir_len] at this
    · intro s f w1 cnt1 hss hls hlo hrg1 hlt hg1 hs1 hen
      have hout1 := hout.kept hg1 (fun e => by have := Option.some.inj e; omega)
      have hlm : l.length - cnt < maxLen := by unfold maxLen; omega
      go_wp2_with (at_mapUpdate; refine wpList_mapUpdate_own _ rfl _ _ _ 62 rfl 9 89 law Try.underlying62 _ q _ _ rfl hout1 hlm _ _ _ rfl rfl (key_mk hss) _ [] (ptrE_mk _) ?_; intro w2 hout2 hg2; go_frame)
      have hrg2 := hrg1.kept hg2 (fun e => hne (Option.some.inj e).symm) (fun e => by have := Option.some.inj e; omega)
      go_roundw
      case rel =>
        exact ⟨_, cnt1, _, hrg2, by omega, hout2.mono (by omega), agree_step hA hout.isMap trivial (at_look hlo),
          (hnx.grown hg1 (fun k e hk => by have := Option.some.inj e; omega)).grown hg2 (fun k e hk => (Option.some.inj e).symm)⟩
      case measure => rw [hrg2.left_eq, hrg.left_eq]; exact hlt

set_option maxHeartbeats 400000 in
theorem copy_nil (q : Nat) : Calls Try.prog 98 #[.map (some q), .map none] w fun e w' => e = .returned (.tuple #[]) ∧ Stay w w' := by
  have hrg := run_range_nilMap (P := Try.prog) w 62 9 89 Try.underlying62
  have hnx : ∀ ty, (Instr.next (.pointer (some ⟨w.heap.size, 0, none⟩)) false ty).run Try.prog (w.alloc (.mapIter none 0 #[] 0)) = _ := fun ty => run_next_nilMap w ty 0 0 #[]
  go_enter Try.func98, Try.ntmps98
  go_wp2
  refine wp_loop_rounds 1 ?_
  rw [rounds_succ]
  go_wp2
  go_end0
  exact ⟨rfl, (Only.refl _ w).alloc _⟩

theorem make_run (n : Int) (w : World) : (Instr.makeMap 62 (some (.int .i64 n))).run Try.prog w = .ok (.map (some w.heap.size)) (w.alloc (.map #[] 0)) := by
  simp [Instr.makeMap, run_underlying Try.underlying62, asInt, asIntOf, Result.andThen]

theorem wpList_len_nil {ops : Array Oper} {rest : List Oper} {o : Oper} {a : Act} {Q : Exit → Act → World → Prop} (hg : o.guard = none) (x : Operand) (t : TypeId) (hop : o.op = Op.call { callee := Callee.builtin Builtin.len, args := #[x], argTypes := #[t] })
    (k e : TypeId) (ht : Try.prog.underlying t = some (.map k e)) (hx : a.eval x = .map none) (hK : wpList Try.prog ops Q rest (a.put o.dst (.int .i64 0)) w) : wpList Try.prog ops Q (o :: rest) a w := by
  refine wpList_plain hg fun K' hK' => ?_
  have hr := Maps.len_nil (P := Try.prog) (w := w) ht o.type
  unfold Oper.wp
  simp [execOp, hop, resolve, invoke, builtin, hx, hr, Result.andThen]
  exact hK' _ _ hK

set_option maxHeartbeats 800000 in
theorem copied_any (b : Nat) (hown : w.ownsMap Try.prog 9 ptrE b l.length (dirD blk l)) (hl : l.length < 1000000) :
    Calls Try.prog 84 #[.map (some b)] w fun e w' => e = .returned (.map (some w.heap.size)) ∧ w'.ownsMap Try.prog 9 ptrE w.heap.size l.length (dirD blk l) ∧ Stay w w' := by
  have hmm := make_run
  have hbl := hown.lt
  have hq := World.ownsMap_made w Try.prog 9 ptrE
  go_enter Try.func84, Try.ntmps84
  go_wp2_with (at_len; refine wpList_len_own _ rfl _ 62 rfl 9 89 Try.underlying62 _ b l.length _ rfl hown ?_)
  refine (copy_any b w.heap.size (hown.alloc _) hq (by omega) hl).mono ?_
  rintro e w1 ⟨rfl, hm1, hk1⟩
  go_wp2_with fail
  go_ret
  exact ⟨rfl, hm1, ((Only.refl _ w).alloc _).trans hk1 (fun j hj e => by omega)⟩

set_option maxHeartbeats 800000 in
theorem copied_nil : Calls Try.prog 84 #[.map none] w fun e w' => e = .returned (.map (some w.heap.size)) ∧ w'.ownsMap Try.prog 9 ptrE w.heap.size 0 (dirD blk []) ∧ Stay w w' := by
  have hmm := make_run
  have hq := World.ownsMap_made w Try.prog 9 ptrE
  go_enter Try.func84, Try.ntmps84
  go_wp2_with (at_len; refine wpList_len_nil rfl _ _ rfl 9 89 Try.underlying62 rfl ?_)
  refine (copy_nil w.heap.size).mono ?_
  rintro e w1 ⟨rfl, hs1⟩
  go_wp2_with fail
  go_ret
  exact ⟨rfl, hs1.map hq (fun f => f), ((Only.refl _ w).alloc _).trans hs1 (fun j hj e => e)⟩
end
end Go.Proofs.Ytpjedcfdchebgaa
