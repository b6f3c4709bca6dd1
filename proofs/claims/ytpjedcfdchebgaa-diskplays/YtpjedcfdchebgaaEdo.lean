/-
  The document's own disk: Do, where nothing is done.
-/
import Derived.Test.YtpjedcfdchebgaaEread
namespace Go.Proofs.Ytpjedcfdchebgaa
open Go.RowKit Go.Proofs.Lys Go.Maps Go.Shelf
set_option linter.unusedVariables false

/-- What a step of the document's own disk comes to. -/
abbrev RPost (w : World) (c : RConc) (O : Nat → Prop) (m : DModel) (o : DOp) (e : Ending) (w' : World) : Prop :=
  e = .returned (.int .i64 ((m.doOp o).1 : Int)) ∧ Only O w w' ∧ ∃ c' : RConc, c'.d = c.d ∧ RAt w' c' (Grow O w w') (m.doOp o).2

section
variable {w : World} {c : RConc} {O : Nat → Prop} {m : DModel}

theorem rgrow_id (h : RAt w c O m) {w0 : World} (hs : w0.heap.size ≤ w.heap.size) (ht : ∀ k, O k → k < w0.heap.size) : RAt w c (Grow O w0 w) m :=
  h.mono (fun k hk => .inl hk) (fun k hk => hk.elim (fun e => Nat.lt_of_lt_of_le (ht k e) hs) (fun e => e.2))
/-- Nothing of the disk has turned. -/
theorem rpost_same {w' : World} {o : DOp} {r : Nat} (h : RAt w c O m) (k : Kept w w') (hd : m.doOp o = (r, m)) : RPost w c O m o (.returned (.int .i64 (r : Int))) w' := by
  unfold RPost
  rw [hd]
  exact ⟨rfl, k.mono (fun _ _ f => f.elim), c, rfl, rgrow_id (h.stay k) k.size h.top⟩
/-- Plain cells of the disk have turned. -/
theorem rpost_scal {w1 w2 : World} {m' : DModel} {o : DOp} {r : Nat} (h : RAt w c O m) (k1 : Kept w w1) (k2 : Only (· = c.d) w1 w2) (hc : Blk w2 c.d (RCells c m') 70) (e1 : m'.files = m.files) (e2 : m'.dir = m.dir) (e3 : m'.sure = m.sure) (e4 : m'.acts = m.acts) (hq : m'.quota = m.quota) (hd : m.doOp o = (r, m')) : RPost w c O m o (.returned (.int .i64 (r : Int))) w2 := by
  unfold RPost
  rw [hd]
  have k3 : Only O w w2 := (k1.mono (fun _ _ f => f.elim)).trans k2 (fun j _ e => e ▸ h.oD)
  exact ⟨rfl, k3, c, rfl, rgrow_id ((h.stay k1).scal k2 hc e1 e2 e3 e4 (by rw [hq]; exact h.quota)) k3.size h.top⟩

set_option maxRecDepth 100000 in
theorem rdo_bad (h : RAt w c O m) (k : Int) (n t bs : List UInt8) (bv : Value) (hk : k < 0 ∨ 5 < k) (hb : ∃ a l cc, bv = .slice a l cc) : Calls Try.prog 14 #[.pointer (some ⟨c.d, 0, none⟩), .agg #[.int .i64 k, .string ⟨n.toArray⟩, .string ⟨t.toArray⟩, bv]] w (RPost w c O m ⟨k, n, t, bs⟩) := by
  obtain ⟨ba, B, bc, rfl⟩ := hb
  have H := Hid.mk (rpost_same h ((Only.refl (fun _ => False) w).alloc (.cells #[.int .i64 k, .string ⟨n.toArray⟩, .string ⟨t.toArray⟩, .slice ba B bc] 31)) (do_odd m k n t bs hk))
  clear h
  by_cases hk0 : k < 0
  · go_enter Try.func14, Try.ntmps14
    go_wp2_with fail
    go_ret
    exact H.out
  · have hk5 : 5 < k := by omega
    go_enter Try.func14, Try.ntmps14
    go_wp2_with fail
    go_ret
    exact H.out

set_option maxRecDepth 100000 in
theorem rdo_off (h : RAt w c O m) (k : Int) (n t bs : List UInt8) (bv : Value) (hk0 : 0 ≤ k) (hk5 : k ≤ 5) (hb : ∃ a l cc, bv = .slice a l cc) (hoff : m.off = true) : Calls Try.prog 14 #[.pointer (some ⟨c.d, 0, none⟩), .agg #[.int .i64 k, .string ⟨n.toArray⟩, .string ⟨t.toArray⟩, bv]] w (RPost w c O m ⟨k, n, t, bs⟩) := by
  obtain ⟨ba, B, bc, rfl⟩ := hb
  have H := Hid.mk (rpost_same h ((Only.refl (fun _ => False) w).alloc (.cells #[.int .i64 k, .string ⟨n.toArray⟩, .string ⟨t.toArray⟩, .slice ba B bc] 31)) (do_off (o := ⟨k, n, t, bs⟩) hk0 hk5 hoff))
  have x5 : w.cell? ⟨c.d, 5, none⟩ = some (.bool m.off) := h.cells.cell 5 rfl
  rw [hoff] at x5
  have hlt := h.cells.lt
  have d1 : decide (k < 0) = false := by simp; omega
  have d2 : decide (5 < k) = false := by simp; omega
  clear h
  go_enter Try.func14, Try.ntmps14
  go_wp2_with fail
  go_ret
  exact H.out

set_option maxRecDepth 100000 in
theorem rdo_blown (h : RAt w c O m) (k : Int) (n t bs : List UInt8) (bv : Value) (hk0 : 0 ≤ k) (hk5 : k ≤ 5) (hb : ∃ a l cc, bv = .slice a l cc) (hoff : m.off = false) (hf : m.fuse = some 0) : Calls Try.prog 14 #[.pointer (some ⟨c.d, 0, none⟩), .agg #[.int .i64 k, .string ⟨n.toArray⟩, .string ⟨t.toArray⟩, bv]] w (RPost w c O m ⟨k, n, t, bs⟩) := by
  obtain ⟨ba, B, bc, rfl⟩ := hb
  have H := Hid.mk (rpost_scal (m' := { m with off := true }) h (Only.refl _ _) (((Only.refl (fun x => x = c.d) w).setCell (p := ⟨c.d, 5, none⟩) (fun _ => rfl) (.bool true)).alloc (.cells #[.int .i64 k, .string ⟨n.toArray⟩, .string ⟨t.toArray⟩, .slice ba B bc] 31)) ((h.cells.set 5 (.bool true)).alloc _) rfl rfl rfl rfl rfl (do_blown (o := ⟨k, n, t, bs⟩) hk0 hk5 hoff hf))
  have x5 : w.cell? ⟨c.d, 5, none⟩ = some (.bool m.off) := h.cells.cell 5 rfl
  have f5 : w.frozen? ⟨c.d, 5, none⟩ = false := h.cells.frozen 5
  have x6 : w.cell? ⟨c.d, 6, none⟩ = some (.int .i64 (laidI m.fuse)) := h.cells.cell 6 rfl
  rw [hoff] at x5
  rw [hf] at x6
  unfold laidI at x6
  have hlt := h.cells.lt
  have d1 : decide (k < 0) = false := by simp; omega
  have d2 : decide (5 < k) = false := by simp; omega
  clear h
  go_enter Try.func14, Try.ntmps14
  go_wp2_with fail
  go_ret
  exact H.out

/-- What holds behind the call of own. -/
theorem own_behind {w2 : World} (h : RAt w c O m) {k : Int} {n t : List UInt8} {ba : Option Addr} {B bc : Nat} (k2 : Kept (w.alloc (.cells #[.int .i64 k, .string ⟨n.toArray⟩, .string ⟨t.toArray⟩, .slice ba B bc] 31)) w2) : Kept w w2 ∧ Blk w2 w.heap.size [.int .i64 k, .string ⟨n.toArray⟩, .string ⟨t.toArray⟩, .slice ba B bc] 31 :=
  ⟨((Only.refl (fun _ => False) w).alloc _).trans k2 (fun _ _ f => f), k2.blk (Blk.new w [.int .i64 k, .string ⟨n.toArray⟩, .string ⟨t.toArray⟩, .slice ba B bc] 31) (fun f => f)⟩

theorem fuse_ne (f : Option Nat) (h : f ≠ some 0) : decide (laidI f = 0) = false := by
  cases f with
  | none => rfl
  | some n =>
    have : n ≠ 0 := fun e => h (by rw [e])
    unfold laidI
    simp
    omega

set_option maxRecDepth 100000 in
theorem rdo_own (h : RAt w c O m) (hd : m.dir.length ≤ 10000) (hnd : (m.dir.map (·.2)).Nodup) (k : Int) (n t bs : List UInt8) (ba : Option Addr) (bc : Nat) (hk0 : 0 ≤ k) (hk5 : k ≤ 5) (hB : bs.length ≤ 1000000) (hoff : m.off = false) (hf : m.fuse ≠ some 0) (ho : m.own ⟨k, n, t, bs⟩ ≠ 0) : Calls Try.prog 14 #[.pointer (some ⟨c.d, 0, none⟩), .agg #[.int .i64 k, .string ⟨n.toArray⟩, .string ⟨t.toArray⟩, .slice ba bs.length bc]] w (RPost w c O m ⟨k, n, t, bs⟩) := by
  have H := Hid.mk h
  have k1 : Kept w (w.alloc (.cells #[.int .i64 k, .string ⟨n.toArray⟩, .string ⟨t.toArray⟩, .slice ba bs.length bc] 31)) := (Only.refl (fun _ => False) w).alloc _
  have hown := Hid.mk (rown_any (h.stay k1) hd hnd k n t bs ba bc hk0 hk5 hB)
  have HE := Hid.mk (do_own (m := m) (o := ⟨k, n, t, bs⟩) hk0 hk5 hoff hf ho)
  obtain ⟨B, hBl⟩ : ∃ B, bs.length = B := ⟨_, rfl⟩
  rw [hBl] at hown ⊢
  obtain ⟨r, hr⟩ : ∃ r, m.own ⟨k, n, t, bs⟩ = r := ⟨_, rfl⟩
  rw [hr] at hown HE ho
  have x5 : w.cell? ⟨c.d, 5, none⟩ = some (.bool m.off) := h.cells.cell 5 rfl
  have x6 : w.cell? ⟨c.d, 6, none⟩ = some (.int .i64 (laidI m.fuse)) := h.cells.cell 6 rfl
  rw [hoff] at x5
  have d3 := fuse_ne m.fuse hf
  generalize laidI m.fuse = fz at x6 d3
  have hlt := h.cells.lt
  have d1 : decide (k < 0) = false := by simp; omega
  have d2 : decide (5 < k) = false := by simp; omega
  have d4 : decide ((r : Int) = 0) = false := by simp; omega
  have hfz : ¬ fz = 0 := of_decide_eq_false d3
  clear h k1 hr hBl
  go_enter Try.func14, Try.ntmps14
  go_wp2_with fail
  refine hown.out.mono ?_
  rintro e w2 ⟨rfl, k2⟩
  have HK := Hid.mk (own_behind H.out k2).1
  clear k2 hown
  go_wp2_with fail
  go_ret
  exact rpost_same H.out HK.out HE.out
end
end Go.Proofs.Ytpjedcfdchebgaa
