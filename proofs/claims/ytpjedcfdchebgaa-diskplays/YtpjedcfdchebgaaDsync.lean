/-
  The step sync.
-/
import Derived.Test.YtpjedcfdchebgaaDfile
namespace Go.Proofs.Ytpjedcfdchebgaa
open Go.RowKit Go.Proofs.Lys Go.Maps Go.Shelf
set_option linter.unusedVariables false

section
variable {w : World} {c : Conc} {O : Nat → Prop} {m : DModel}

theorem secure_any {fb n cap : Nat} {a : Option Addr} {s : Int} (h : Blk w fb [.slice a n cap, .int .i64 s] 117) :
    Calls Try.prog 73 #[.pointer (some ⟨fb, 0, none⟩)] w fun e w' => e = .returned (.tuple #[]) ∧ w' = w.setCell ⟨fb, 1, none⟩ (.int .i64 (n : Int)) := by
  have c0 := h.cell 0 rfl
  have c1 := h.cell 1 rfl
  have cf := h.frozen
  go_enter Try.func73, Try.ntmps73
  go_wp2
  go_end0
  exact ⟨rfl, rfl⟩

/-- A row that is owned is a slice. -/
theorem row_slice {e : TypeId} {v : Value} {n : Nat} {xs : List Value} (h : w.ownsRow 0 e 1 v n xs) : ∃ a cap, v = .slice a n cap := by
  obtain ⟨_, ⟨rfl, rfl⟩ | ⟨g, cap, cur, rfl, _⟩⟩ := h
  · exact ⟨none, 0, rfl⟩
  · exact ⟨_, cap, rfl⟩

/-- A file's bytes are made sure. -/
theorem DiskAt.secure (h : DiskAt w c O m) (f : Nat) (hf : f < m.files.length) :
    Calls Try.prog 73 #[.pointer (some ⟨c.blk.getD f 0, 0, none⟩)] w fun e w' => e = .returned (.tuple #[]) ∧ Only O w w' ∧
      ∃ c', c'.d = c.d ∧ DiskAt w' c' (Grow O w w') { m with files := m.files.set f ⟨(m.fileAt f).b, (m.fileAt f).b.length⟩ } := by
  have R := h.rest
  have hF := R.file f hf
  have hB := R.bytes f hf
  obtain ⟨a, cap, hv⟩ := row_slice hB
  rw [hv] at hF
  refine (secure_any hF).mono ?_
  rintro e w' ⟨rfl, rfl⟩
  refine ⟨rfl, (Only.refl O w).setCell (fun _ => R.oBlk f hf) _, { c with bv := c.bv.set f (c.bs f) }, rfl, ?_⟩
  refine h.setFile f hf ⟨(m.fileAt f).b, (m.fileAt f).b.length⟩ (c.bs f) (fun k ho h1 h2 => Below.heap_setCell w _ _ k h1) (by simp) ?_ ?_ ⟨(R.lens f hf).1, Nat.le_refl _⟩ (fun k e => .inl e)
  · have := hF.set 1 (.int .i64 ((m.fileAt f).b.length : Int))
    rw [hv]
    exact this
  · exact row_block hB (fun k e => Below.heap_setCell w _ _ k ((row_typed hB e).ne (R.file f hf).typed (by decide)))

theorem own_sync (m : DModel) {o : DOp} (hk : o.kind = 2) : m.own o = if (DD.look m.dir o.name).isSome then 0 else 6 := by
  unfold DModel.own
  simp [hk]
theorem done_sync (m : DModel) {o : DOp} (hk : o.kind = 2) {f : Nat} (hf : DD.look m.dir o.name = some f) : m.done o = { m with files := m.files.set f ⟨(m.fileAt f).b, (m.fileAt f).b.length⟩ } := by
  unfold DModel.done
  simp [hk, hf]

/-- What is handed on behind other, new blocks. -/
theorem grow_mono {w0 w1 w2 : World} (h : DiskAt w2 c (Grow O w1 w2) m) (hs : w0.heap.size ≤ w1.heap.size) (ht : ∀ k, O k → k < w2.heap.size) : DiskAt w2 c (Grow O w0 w2) m :=
  h.mono (fun k hk => by
    rcases hk with hk | ⟨a, b⟩
    · exact .inl hk
    · exact .inr ⟨by omega, b⟩) (fun k hk => by
    rcases hk with hk | ⟨a, b⟩
    · exact ht k hk
    · exact b)

set_option maxHeartbeats 800000 in
theorem sync_ok (h : DiskAt w c O m) (o : DOp) (hk : o.kind = 2) {s : ByteArray} (hs : s.size ≤ maxLen) (hn : s.data.toList = o.name) (kv tv bv : Value) :
    StepOk 36 c O m o (.agg #[kv, .string s, tv, bv]) w := by
  have hmf : ∀ (fn : Fn) (first cap : Array Value) (w : World), (Instr.makeFunc fn first cap).run Try.prog w = .ok (.func fn first cap) w := fun _ _ _ _ => rfl
  have hst : Stay w (w.alloc (.cells #[kv, .string s, tv, bv] 31)) := (Only.refl _ w).alloc _
  have h1 := h.stay hst
  constructor
  · intro howe
    rw [own_sync m hk] at howe ⊢
    cases hl : DD.look m.dir o.name with
    | some f => rw [hl] at howe; simp at howe
    | none =>
      simp only [Option.isSome_none, Bool.false_eq_true, if_false]
      go_enter Try.func36, Try.ntmps36
      go_wp2_with fail
      refine (find_none h1 hs (by rw [hn]; exact hl)).mono ?_
      rintro e w1 ⟨rfl, rfl⟩
      exact ⟨rfl, rfl, hst⟩
  · intro howe
    rw [own_sync m hk] at howe
    cases hl : DD.look m.dir o.name with
    | none => rw [hl] at howe; simp at howe
    | some f =>
      rw [done_sync m hk hl]
      have hf : f < m.files.length := h.rest.dirF _ (look_mem hl)
      go_enter Try.func36, Try.ntmps36
      go_wp2_with fail
      refine (find_some h1 hs (by rw [hn]; exact hl)).mono ?_
      rintro e w1 ⟨rfl, rfl⟩
      go_wp2_with fail
      go_ret
      refine ⟨73, #[.pointer (some ⟨c.blk.getD f 0, 0, none⟩)], #[], rfl, hst, enters_of Try.func73 (by kernel_rfl) rfl, fun w2 hs2 => ?_⟩
      have h2 := h1.stay hs2
      refine (h2.secure f hf).mono ?_
      rintro e w3 ⟨rfl, hk3, c', hc', h3⟩
      have hsz : w.heap.size ≤ w2.heap.size := Nat.le_trans hst.size hs2.size
      exact ⟨rfl, hk3.mono (fun k _ ho => .inl ho), c', hc', grow_mono h3 hsz (fun k ho => Nat.lt_of_lt_of_le (h2.top k ho) hk3.size)⟩
end
end Go.Proofs.Ytpjedcfdchebgaa
