/-
  The document's own disk: Do, a fault; the counts.
-/
import Derived.Test.YtpjedcfdchebgaaEdo
namespace Go.Proofs.Ytpjedcfdchebgaa
open Go.RowKit Go.Proofs.Lys Go.Maps Go.Shelf
set_option linter.unusedVariables false

section
variable {w : World} {c : RConc} {O : Nat → Prop} {m : DModel}

set_option maxRecDepth 100000 in
theorem rdo_fault (h : RAt w c O m) (hd : m.dir.length ≤ 10000) (hnd : (m.dir.map (·.2)).Nodup) (k : Int) (n t bs : List UInt8) (ba : Option Addr) (bc : Nat) (hk0 : 0 ≤ k) (hk5 : k ≤ 5) (hB : bs.length ≤ 1000000) (hoff : m.off = false) (hf : m.fuse ≠ some 0) (ho : m.own ⟨k, n, t, bs⟩ = 0) (hfa : m.fault = some 0) : Calls Try.prog 14 #[.pointer (some ⟨c.d, 0, none⟩), .agg #[.int .i64 k, .string ⟨n.toArray⟩, .string ⟨t.toArray⟩, .slice ba bs.length bc]] w (RPost w c O m ⟨k, n, t, bs⟩) := by
  have H := Hid.mk h
  have k1 : Kept w (w.alloc (.cells #[.int .i64 k, .string ⟨n.toArray⟩, .string ⟨t.toArray⟩, .slice ba bs.length bc] 31)) := (Only.refl (fun _ => False) w).alloc _
  have hown := Hid.mk (rown_any (h.stay k1) hd hnd k n t bs ba bc hk0 hk5 hB)
  have HE := Hid.mk (do_fault (m := m) (o := ⟨k, n, t, bs⟩) hk0 hk5 hoff hf ho hfa)
  obtain ⟨B, hBl⟩ : ∃ B, bs.length = B := ⟨_, rfl⟩
  rw [hBl, ho] at hown
  rw [hBl]
  have x5 : w.cell? ⟨c.d, 5, none⟩ = some (.bool m.off) := h.cells.cell 5 rfl
  have x6 : w.cell? ⟨c.d, 6, none⟩ = some (.int .i64 (laidI m.fuse)) := h.cells.cell 6 rfl
  rw [hoff] at x5
  have d3 := fuse_ne m.fuse hf
  generalize laidI m.fuse = fz at x6 d3
  have hlt := h.cells.lt
  have d1 : decide (k < 0) = false := by simp; omega
  have d2 : decide (5 < k) = false := by simp; omega
  have hfz : ¬ fz = 0 := of_decide_eq_false d3
  clear h k1 hBl
  go_enter Try.func14, Try.ntmps14
  go_wp2_with fail
  refine hown.out.mono ?_
  rintro e w2 ⟨rfl, k2⟩
  have HK := Hid.mk (own_behind H.out k2).1
  have h2 := H.out.stay HK.out
  have x7 : w2.cell? ⟨c.d, 7, none⟩ = some (.int .i64 (laidI m.fault)) := h2.cells.cell 7 rfl
  have f7 : w2.frozen? ⟨c.d, 7, none⟩ = false := h2.cells.frozen 7
  rw [hfa] at x7
  unfold laidI at x7
  have HP := Hid.mk (rpost_scal (m' := { m with fault := none }) H.out HK.out ((Only.refl (fun x => x = c.d) w2).setCell (p := ⟨c.d, 7, none⟩) (fun _ => rfl) (.int .i64 (-1))) (h2.cells.set 7 (.int .i64 (-1))) rfl rfl rfl rfl rfl HE.out)
  clear k2 hown h2 x5 x6
  go_wp2_with fail
  go_ret
  exact HP.out

theorem done_count (m : DModel) (o : DOp) : (m.count).done o = (m.done o).count := by
  unfold DModel.done
  split
  · rfl
  · split
    · rfl
    · split
      · rfl
      · split
        · rfl
        · split
          · rfl
          · rfl

/-- A world where the step was counted. -/
structure Mid (w : World) (c : RConc) (O : Nat → Prop) (m : DModel) (vs : List Value) (w3 : World) : Prop where
  at3 : RAt w3 c O m.count
  only : Only O w w3
  big : w.heap.size < w3.heap.size
  op : Blk w3 w.heap.size vs 31

theorem mid_core {w2 w3 : World} {vs : List Value} (h : RAt w c O m) (k1 : Kept w w2) (hop : Blk w2 w.heap.size vs 31) (k2 : Only (· = c.d) w2 w3) (hc : Blk w3 c.d (RCells c m.count) 70) : Mid w c O m vs w3 := by
  have hne : w.heap.size ≠ c.d := fun e => by have := h.cells.lt; omega
  exact ⟨(h.stay k1).scal k2 hc rfl rfl rfl rfl h.quota, (k1.mono (fun _ _ f => f.elim)).trans k2 (fun j _ e => e ▸ h.oD), Nat.lt_of_lt_of_le hop.lt k2.size, k2.blk hop hne⟩
/-- The four ways of the counts. -/
theorem mid_nn {w2 : World} {vs : List Value} (h : RAt w c O m) (k1 : Kept w w2) (hop : Blk w2 w.heap.size vs 31) (e1 : m.fault = none) (e2 : m.fuse = none) : Mid w c O m vs (w2.setCell ⟨c.d, 8, none⟩ (.int .i64 ((m.steps : Int) + 1))) := by
  refine mid_core h k1 hop ((Only.refl (fun x => x = c.d) w2).setCell (fun _ => rfl) _) ?_
  have := (h.stay k1).cells.set 8 (.int .i64 ((m.steps : Int) + 1))
  unfold RCells DModel.count at *
  simp only [e1, e2] at this ⊢
  exact this
theorem mid_sn {w2 : World} {vs : List Value} {a : Nat} (h : RAt w c O m) (k1 : Kept w w2) (hop : Blk w2 w.heap.size vs 31) (e1 : m.fault = some (a + 1)) (e2 : m.fuse = none) : Mid w c O m vs ((w2.setCell ⟨c.d, 7, none⟩ (.int .i64 (a : Int))).setCell ⟨c.d, 8, none⟩ (.int .i64 ((m.steps : Int) + 1))) := by
  refine mid_core h k1 hop (((Only.refl (fun x => x = c.d) w2).setCell (fun _ => rfl) _).setCell (fun _ => rfl) _) ?_
  have := ((h.stay k1).cells.set 7 (.int .i64 (a : Int))).set 8 (.int .i64 ((m.steps : Int) + 1))
  unfold RCells DModel.count at *
  simp only [e1, e2] at this ⊢
  exact this
theorem mid_ns {w2 : World} {vs : List Value} {b : Nat} (h : RAt w c O m) (k1 : Kept w w2) (hop : Blk w2 w.heap.size vs 31) (e1 : m.fault = none) (e2 : m.fuse = some (b + 1)) : Mid w c O m vs ((w2.setCell ⟨c.d, 6, none⟩ (.int .i64 (b : Int))).setCell ⟨c.d, 8, none⟩ (.int .i64 ((m.steps : Int) + 1))) := by
  refine mid_core h k1 hop (((Only.refl (fun x => x = c.d) w2).setCell (fun _ => rfl) _).setCell (fun _ => rfl) _) ?_
  have := ((h.stay k1).cells.set 6 (.int .i64 (b : Int))).set 8 (.int .i64 ((m.steps : Int) + 1))
  unfold RCells DModel.count at *
  simp only [e1, e2] at this ⊢
  exact this
theorem mid_ss {w2 : World} {vs : List Value} {a b : Nat} (h : RAt w c O m) (k1 : Kept w w2) (hop : Blk w2 w.heap.size vs 31) (e1 : m.fault = some (a + 1)) (e2 : m.fuse = some (b + 1)) : Mid w c O m vs (((w2.setCell ⟨c.d, 7, none⟩ (.int .i64 (a : Int))).setCell ⟨c.d, 6, none⟩ (.int .i64 (b : Int))).setCell ⟨c.d, 8, none⟩ (.int .i64 ((m.steps : Int) + 1))) := by
  refine mid_core h k1 hop ((((Only.refl (fun x => x = c.d) w2).setCell (fun _ => rfl) _).setCell (fun _ => rfl) _).setCell (fun _ => rfl) _) ?_
  have := (((h.stay k1).cells.set 7 (.int .i64 (a : Int))).set 6 (.int .i64 (b : Int))).set 8 (.int .i64 ((m.steps : Int) + 1))
  unfold RCells DModel.count at *
  simp only [e1, e2] at this ⊢
  exact this
end
end Go.Proofs.Ytpjedcfdchebgaa
