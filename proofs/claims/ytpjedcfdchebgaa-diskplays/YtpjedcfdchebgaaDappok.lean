/-
  The step append: its own errors, and what it hands back.
-/
import Derived.Test.YtpjedcfdchebgaaDappcore
namespace Go.Proofs.Ytpjedcfdchebgaa
open Go.RowKit Go.Proofs.Lys Go.Maps Go.Shelf
set_option linter.unusedVariables false

section
variable {w : World} {c : Conc} {O : Nat → Prop} {m : DModel}

theorem own_append (m : DModel) {o : DOp} (hk : o.kind = 1) : m.own o = match DD.look m.dir o.name with
    | none => 6
    | some f => if 16777216 < (m.fileAt f).b.length + o.bytes.length then 2 else if m.quota < m.used + o.bytes.length then 11 else 0 := by
  unfold DModel.own
  cases DD.look m.dir o.name <;> simp [hk]
theorem done_append (m : DModel) {o : DOp} (hk : o.kind = 1) {f : Nat} (hf : DD.look m.dir o.name = some f) : m.done o = { m with files := m.files.set f ⟨(m.fileAt f).b ++ o.bytes, (m.fileAt f).sure⟩ } := by
  unfold DModel.done
  simp [hk, hf]

set_option maxHeartbeats 1600000 in
theorem append_ok (h : DiskAt w c O m) (o : DOp) (hk : o.kind = 1) (hl : m.dir.length < 1000000) {s : ByteArray} (hs : s.size ≤ maxLen) (hn : s.data.toList = o.name) (kv tv : Value) {bv : Value} (hsrc : SrcAt w bv o.bytes) (hbl : o.bytes.length ≤ 140737488355328) :
    StepOk 35 c O m o (.agg #[kv, .string s, tv, bv]) w := by
  have hmf : ∀ (fn : Fn) (first cap : Array Value) (w : World), (Instr.makeFunc fn first cap).run Try.prog w = .ok (.func fn first cap) w := fun _ _ _ _ => rfl
  obtain ⟨ba, bc, rfl⟩ := hsrc.len
  have hst : Stay w (w.alloc (.cells #[kv, .string s, tv, .slice ba o.bytes.length bc] 31)) := (Only.refl _ w).alloc _
  have h1 := h.stay hst
  cases hlo : DD.look m.dir o.name with
  | none =>
    constructor
    · intro howe
      rw [own_append m hk, hlo]
      go_enter Try.func35, Try.ntmps35
      go_wp2_with fail
      refine (find_none h1 hs (by rw [hn]; exact hlo)).mono ?_
      rintro e w1 ⟨rfl, rfl⟩
      exact ⟨rfl, rfl, hst⟩
    · intro howe
      rw [own_append m hk, hlo] at howe
      simp at howe
  | some f =>
    have hf : f < m.files.length := h.rest.dirF _ (look_mem hlo)
    have hlf := (h.rest.lens f hf).1
    obtain ⟨fa, fc, hfv⟩ := row_slice (h.rest.bytes f hf)
    have hlt := (h.rest.file f hf).lt
    have hF := h.rest.file f hf
    rw [hfv] at hF
    have f0 : w.cell? ⟨c.blk.getD f 0, 0, none⟩ = some (.slice fa (m.fileAt f).b.length fc) := hF.cell 0 rfl
    have hfind := Hid.mk (find_some h1 hs (by rw [hn]; exact hlo))
    have hwrap : IntKind.i64.wrap (((m.fileAt f).b.length : Int) + (o.bytes.length : Int)) = ((m.fileAt f).b.length : Int) + (o.bytes.length : Int) := by
      rw [IntKind.wrap_i64]
      omega
    by_cases hlong : 16777216 < (m.fileAt f).b.length + o.bytes.length
    · constructor
      · intro howe
        rw [own_append m hk, hlo]
        simp only [hlong, if_true]
        exact append_core_long w c.d (c.blk.getD f 0) (m.fileAt f).b.length o.bytes.length fc bc fa ba kv tv s hfind hlt f0 (by unfold Hid; rw [hwrap]; simp; omega)
      · intro howe
        rw [own_append m hk, hlo] at howe
        simp [hlong] at howe
    · have hT : Hid (decide ((16777216 : Int) < IntKind.i64.wrap (((m.fileAt f).b.length : Int) + (o.bytes.length : Int))) = false) := by unfold Hid; rw [hwrap]; simp; omega
      have hroom : Hid (∀ W, Stay w W → Calls Try.prog 53 #[.pointer (some ⟨c.d, 0, none⟩)] W fun e w' => e = .returned (.int .i64 ((m.quota : Int) - (m.used : Int))) ∧ Stay W w') := fun W hW => room_any (h.stay hW) hl
      by_cases hq : m.quota < m.used + o.bytes.length
      · constructor
        · intro howe
          rw [own_append m hk, hlo]
          simp only [hlong, if_false, hq, if_true]
          exact append_core_full w c.d (c.blk.getD f 0) (m.fileAt f).b.length o.bytes.length fc bc fa ba kv tv s _ hfind hroom hlt f0 hT (by unfold Hid; simp; omega)
        · intro howe
          rw [own_append m hk, hlo] at howe
          simp [hlong, hq] at howe
      · constructor
        · intro howe
          rw [own_append m hk, hlo] at howe
          simp [hlong, hq] at howe
        · intro howe
          rw [done_append m hk hlo]
          refine (append_core_ok w c.d (c.blk.getD f 0) (m.fileAt f).b.length o.bytes.length fc bc fa ba kv tv s _ hfind hroom hlt f0 hT (by unfold Hid; simp; omega)).mono ?_
          rintro e w1 ⟨rfl, hs1⟩
          have hst1 : Stay w w1 := (appS w (c.blk.getD f 0) kv (.string s) tv (.slice ba o.bytes.length bc)).trans hs1 (fun _ _ f => f)
          refine ⟨_, _, _, rfl, hst1, enters_of Try.func72 (by kernel_rfl) rfl, fun w2 hs2 => ?_⟩
          have hst2 : Stay w w2 := hst1.trans hs2 (fun _ _ f => f)
          have hs12 : Stay (appW w (c.blk.getD f 0) kv (.string s) tv (.slice ba o.bytes.length bc)) w2 := hs1.trans hs2 (fun _ _ f => f)
          refine (append_fin (h.stay hst2) f hf (hsrc.stay hst2) (w.heap.size + 1) w.heap.size (hs12.blk (appV w _ kv (.string s) tv (.slice ba o.bytes.length bc)) (fun f => f)) (hs12.blk (appO w _ kv (.string s) tv (.slice ba o.bytes.length bc)) (fun f => f)) (by omega)).mono ?_
          rintro e w3 ⟨rfl, hk3, c', hc', h3⟩
          exact ⟨rfl, hk3.mono (fun k _ ho => .inl ho), c', hc', grow_mono h3 hst2.size (fun k ho => Nat.lt_of_lt_of_le (h.top k ho) (Nat.le_trans hst2.size hk3.size))⟩
end
end Go.Proofs.Ytpjedcfdchebgaa
