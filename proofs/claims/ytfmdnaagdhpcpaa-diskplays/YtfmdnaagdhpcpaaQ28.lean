/-
  Eplay3.
-/
import Derived.Test.YtfmdnaagdhpcpaaQ27

/-
  Do of the code's disk and of the document's own, with blocks beside them.
-/
namespace Go.Proofs.Ytfmdnaagdhpcpaa
open Go.RowKit Go.Proofs.Lys Go.Maps Go.Shelf
set_option linter.unusedVariables false

section
variable {w1 W : World} {A B R : Nat} {m mo mr : DModel} {Z : Nat → Prop}
theorem triz_do (h : TriZ w1 W A B R m mo mr Z) (hf : m.few) (kd : Int) {sn st : ByteArray} (hn : sn.size ≤ maxLen) (ht : st.size ≤ maxLen) {bv : Value} {bs : List UInt8} (hsrc : SrcOf W bv (bs.map bV)) (hl : bs.length ≤ 20000) :
    Calls Try.prog 10 #[.pointer (some ⟨A, 0, none⟩), .agg #[.int .i64 kd, .string sn, .string st, bv]] W fun e w' => e = .returned (.int .i64 ((m.doOp ⟨kd, sn.data.toList, st.data.toList, bs⟩).1 : Int)) ∧ TriZ w1 w' A B R (m.doOp ⟨kd, sn.data.toList, st.data.toList, bs⟩).2 mo mr Z ∧ Same Z W w' :=
  triz_d h (fun c O hc hD _ _ => by
    subst hc
    exact do_any hD ⟨kd, sn.data.toList, st.data.toList, bs⟩ hn rfl ht rfl (src_at hsrc) (by show bs.length ≤ _; omega) hf.1 hf.2)
theorem triz_rdo (h : TriZ w1 W A B R m mo mr Z) (f : Fits mr) {k : Nat} (hm : Most maxLen mr k) (hk : k ≤ 1000) (kd : Int) (sn st : ByteArray) (ba : Option Addr) (bc : Nat) (bs : List UInt8) (hsrc : SrcOf W (.slice ba bs.length bc) (bs.map bV)) (hold : ∀ a, ba = some a → 0 < bs.length → a.block < w1.heap.size) (hl : bs.length ≤ 20000) :
    Calls Try.prog 12 #[.pointer (some ⟨R, 0, none⟩), .agg #[.int .i64 kd, .string sn, .string st, .slice ba bs.length bc]] W fun e w' => e = .returned (.int .i64 ((mr.doOp ⟨kd, sn.data.toList, st.data.toList, bs⟩).1 : Int)) ∧ TriZ w1 w' A B R m mo (mr.doOp ⟨kd, sn.data.toList, st.data.toList, bs⟩).2 Z ∧ Same Z W w' :=
  triz_r h (fun c O hc hD hO _ => by
    subst hc
    have := rdo_any hD (by have := hm.dir_len f; omega) f.dir_nodup kd sn.data.toList st.data.toList bs ba bc (by omega) hsrc (by have := hm.steps; omega) (by have := hm.acts; omega) (by have := hm.files; omega) (fun a ha h0 ho => by have := hO _ ho; have := hold a ha h0; omega) f.fuse f.fault
    exact this)
end
theorem old_block {w : World} {ba : Option Addr} {bc n : Nat} {xs : List Value} (h : SrcOf w (.slice ba n bc) xs) : ∀ a, ba = some a → 0 < xs.length → a.block < w.heap.size := by
  intro a ha hpos
  rcases h with ⟨e, _⟩ | ⟨a', c', e, hc⟩
  · rw [ha] at e
    cases e
  · rw [ha] at e
    cases e
    have h1 := hc 0 _ (List.getElem?_eq_getElem hpos)
    have h2 := World.block_lt_of_cell? w _ h1
    have hb : (a.add 0).block = a.block := by unfold Addr.add; split <;> rfl
    omega

/-- A copy of bytes with one byte behind it, and its beginning: made in either order. -/
theorem copy_seven {w : World} {v : Value} {bs : List UInt8} (h : SrcOf w v (bs.map bV)) (hl : bs.length ≤ 20000) :
    ∃ v1 w1 g cap w2, Hid ((Builtin.append_ #[29, 29] 0 #[.slice none 0 0, v]).run Try.prog w = .ok v1 w1) ∧
      Hid ((Builtin.append_ #[29, 29] 0 #[v1, .slice (some ⟨w1.heap.size, 0, none⟩) 1 1]).run Try.prog (w1.alloc (.cells #[.int .u8 7] 5)) = .ok (.slice (some ⟨g, 0, none⟩) (bs.length + 1) cap) w2) ∧
      Hid (w2.ownsRow w.heap.size 5 1 (.slice (some ⟨g, 0, none⟩) (bs.length + 1) cap) (bs.length + 1) ((bs ++ [7]).map bV)) ∧ Hid (Kept w w2) ∧ Hid (Kept w w1) ∧ Hid (∀ W, (Instr.sliceAt 29 (.slice (some ⟨g, 0, none⟩) (bs.length + 1) cap) none (some (.int .i64 (bs.length : Int))) none).run Try.prog W = .ok (.slice (some ⟨g, 0, none⟩) bs.length cap) W) := by
  obtain ⟨v1, w1, r1, o1, g1, _⟩ := append_src (P := Try.prog) Try.underlying29 Try.infoB rfl (by decide) (World.ownsRow_nil w w.heap.size 5 1) h (bytes_one bs) (by simp; omega) (Nat.le_refl _)
  rw [List.length_map, Nat.zero_add, List.nil_append] at o1
  have k1 : Kept w w1 := (Only.refl _ w).grown g1 (fun k hk _ => by cases hk)
  obtain ⟨v2, w2, r2, o2, g2, _⟩ := append_src (P := Try.prog) (xv := .slice (some ⟨w1.heap.size, 0, none⟩) 1 1) (ys := [.int .u8 7]) Try.underlying29 Try.infoB rfl (by decide) (o1.alloc (.cells #[.int .u8 7] 5)) (own_src (World.ownsRow_lit w1 #[.int .u8 7] 1 (Nat.zero_le _) (by decide) rfl)) (by intro u hu; simp at hu; subst hu; rfl) (by simp; omega) (by have := k1.size; simp; omega)
  obtain ⟨g, cap, rfl⟩ := own_some o2 (by simp)
  have e2 : bs.map bV ++ [Value.int .u8 7] = (bs ++ [7]).map bV := by rw [List.map_append]; rfl
  rw [e2] at o2
  have k2 : Kept w w2 := (k1.alloc _).grown g2 (fun k hk hlt => by have := (o1.lt k hk).1; omega)
  refine ⟨v1, w1, g, cap, w2, r1, r2, o2, k2, k1, fun W => ?_⟩
  rcases o2.2 with ⟨e, _⟩ | ⟨g', cap', cur, hv, _, _, hcap, _⟩
  · cases e
  · cases hv
    exact slice_to g (bs.length + 1) cap bs.length _ rfl (by simp at hcap; omega) (by simp at hcap; omega) W
theorem copy_other {w : World} {v : Value} {bs : List UInt8} (h : SrcOf w v (bs.map bV)) (hl : bs.length ≤ 20000) :
    ∃ v1 w1 g cap w2, Hid ((Builtin.append_ #[29, 29] 0 #[.slice none 0 0, v]).run Try.prog (w.alloc (.cells #[.int .u8 7] 5)) = .ok v1 w1) ∧
      Hid ((Builtin.append_ #[29, 29] 0 #[v1, .slice (some ⟨w.heap.size, 0, none⟩) 1 1]).run Try.prog w1 = .ok (.slice (some ⟨g, 0, none⟩) (bs.length + 1) cap) w2) ∧
      Hid (w2.ownsRow w.heap.size 5 1 (.slice (some ⟨g, 0, none⟩) (bs.length + 1) cap) (bs.length + 1) ((bs ++ [7]).map bV)) ∧ Hid (Kept w w2) ∧ Hid (Kept w w1) ∧ Hid (∀ W, (Instr.sliceAt 29 (.slice (some ⟨g, 0, none⟩) (bs.length + 1) cap) none (some (.int .i64 (bs.length : Int))) none).run Try.prog W = .ok (.slice (some ⟨g, 0, none⟩) bs.length cap) W) := by
  have kA : Kept w (w.alloc (.cells #[.int .u8 7] 5)) := (Only.refl _ w).alloc _
  have s7 : SrcOf (w.alloc (.cells #[.int .u8 7] 5)) (.slice (some ⟨w.heap.size, 0, none⟩) 1 1) [.int .u8 7] := own_src (World.ownsRow_lit w #[.int .u8 7] 1 (Nat.zero_le _) (by decide) rfl)
  obtain ⟨v1, w1, r1, o1, g1, _⟩ := append_src (P := Try.prog) Try.underlying29 Try.infoB rfl (by decide) (World.ownsRow_nil (w.alloc (.cells #[.int .u8 7] 5)) (w.alloc (.cells #[.int .u8 7] 5)).heap.size 5 1) (h.stay kA) (bytes_one bs) (by simp; omega) (Nat.le_refl _)
  rw [List.length_map, Nat.zero_add, List.nil_append] at o1
  have kA1 : Kept (w.alloc (.cells #[.int .u8 7] 5)) w1 := (Only.refl _ _).grown g1 (fun k hk _ => by cases hk)
  have k1 : Kept w w1 := kA.trans kA1 (fun _ _ f => f)
  obtain ⟨v2, w2, r2, o2, g2, _⟩ := append_src (P := Try.prog) (xv := .slice (some ⟨w.heap.size, 0, none⟩) 1 1) (ys := [.int .u8 7]) Try.underlying29 Try.infoB rfl (by decide) o1 (s7.stay kA1) (by intro u hu; simp at hu; subst hu; rfl) (by simp; omega) (by have := kA1.size; omega)
  obtain ⟨g, cap, rfl⟩ := own_some o2 (by simp)
  have e2 : bs.map bV ++ [Value.int .u8 7] = (bs ++ [7]).map bV := by rw [List.map_append]; rfl
  rw [e2] at o2
  have k2 : Kept w w2 := k1.grown g2 (fun k hk hlt => by have := (o1.lt k hk).1; simp at this; omega)
  refine ⟨v1, w1, g, cap, w2, r1, r2, own_base o2 kA.size, k2, k1, fun W => ?_⟩
  rcases o2.2 with ⟨e, _⟩ | ⟨g', cap', cur, hv, _, _, hcap, _⟩
  · cases e
  · cases hv
    exact slice_to g (bs.length + 1) cap bs.length _ rfl (by simp at hcap; omega) (by simp at hcap; omega) W
theorem first_src {w : World} {base g n cap : Nat} {bs : List UInt8} (h : w.ownsRow base 5 1 (.slice (some ⟨g, 0, none⟩) n cap) n ((bs ++ [7]).map bV)) : SrcOf w (.slice (some ⟨g, 0, none⟩) bs.length cap) (bs.map bV) := by
  have hl := own_len h
  rw [List.length_map, List.length_append, List.length_singleton] at hl
  refine .inr ⟨⟨g, 0, none⟩, cap, by rw [List.length_map], fun j u hu => ?_⟩
  have hj : j < bs.length := by
    have := (List.getElem?_eq_some_iff.1 hu).1
    rwa [List.length_map] at this
  rw [add_none, Nat.zero_add, h.cellAt j (by omega), List.map_append, List.getElem?_append_left (by rw [List.length_map]; exact hj)]
  exact hu

/-- The call's bytes lie in a copy of their own, with one byte behind them. -/
def Copied (wb wx : World) (A B R : Nat) (m mo mr : DModel) (E P : Nat) (es ps : List Value) (bs : List UInt8) : Prop :=
  ∃ g cap, TriZ wb wx A B R m mo mr (fun j => j = E ∨ (P ≤ j ∧ j < wx.heap.size)) ∧ Blk wx E es 34 ∧ Blk wx P (ps.set 3 (.slice (some ⟨g, 0, none⟩) bs.length cap)) 31 ∧ wx.ownsRow (P + 1) 5 1 (.slice (some ⟨g, 0, none⟩) (bs.length + 1) cap) (bs.length + 1) ((bs ++ [7]).map bV)
theorem copied {wb w4 w6 : World} {A B R : Nat} {m mo mr : DModel} {E P g cap : Nat} {es ps : List Value} {bs : List UInt8} (hT : TriZ wb w4 A B R m mo mr (fun j => j = E ∨ j = P)) (hE : Blk w4 E es 34) (hP : Blk w4 P ps 31) (hsz : w4.heap.size = P + 1) (hgE : wb.heap.size ≤ E) (hgP : wb.heap.size ≤ P) (k : Kept w4 w6)
    (ho : w6.ownsRow (P + 1) 5 1 (.slice (some ⟨g, 0, none⟩) (bs.length + 1) cap) (bs.length + 1) ((bs ++ [7]).map bV)) : Copied wb (w6.setCell ⟨P, 3, none⟩ (.slice (some ⟨g, 0, none⟩) bs.length cap)) A B R m mo mr E P es ps bs := by
  have hEP : E ≠ P := hE.ne hP (by decide)
  have hs6 := k.size
  have kO : Only (fun j => j = E ∨ j = P) w4 (w6.setCell ⟨P, 3, none⟩ (.slice (some ⟨g, 0, none⟩) bs.length cap)) := (k.mono (fun _ _ f => f.elim)).setCell (fun _ => .inr rfl) _
  have hP6 := k.blk hP (fun f => f)
  refine ⟨g, cap, hT.grow (fun j hj => by rcases hj with h | h <;> omega) kO (fun j hj => ?_), (k.blk hE (fun f => f)).other hEP _, hP6.set 3 _, ?_⟩
  · rcases hj with h | h
    · exact .inl (.inl h)
    · by_cases e : j = P
      · exact .inl (.inr e)
      · exact .inr ⟨by omega, h.2⟩
  · refine own_only ho (((Only.refl (fun j => j = P) w6).setCell (fun _ => rfl) _)) (fun j hj e => ?_)
    exact (own_typed ho hj).ne hP6.typed (by decide) e
end Go.Proofs.Ytfmdnaagdhpcpaa
