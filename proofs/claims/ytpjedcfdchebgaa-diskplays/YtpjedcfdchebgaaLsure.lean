/-
  The walk of the law DiskSure.
-/
import Derived.Test.YtpjedcfdchebgaaDalive
import Derived.Deep.RegionHeld3
namespace Go.Proofs.Ytpjedcfdchebgaa
open Go.RowKit Go.Proofs.Lys Go.Maps Go.Shelf
set_option linter.unusedVariables false

theorem src_at {w : World} {v : Value} {bs : List UInt8} (h : SrcOf w v (bs.map bV)) : SrcAt w v bs := by
  rcases h.shape with ⟨e, a, c, rfl⟩ | ⟨_, b, o, c, e, hc⟩
  · exact .inl ⟨a, c, rfl, by simpa using e⟩
  · refine .inr ⟨b, o, c, by rw [e, List.length_map], fun j u hu => hc j (byteV u) (by rw [List.getElem?_map, hu]; rfl)⟩
theorem SrcOf.conv {w : World} {v : Value} {bs : List UInt8} (h : SrcOf w v (bs.map bV)) : (convert 29 9 v).run Try.prog w = .ok (.string ⟨bs.toArray⟩) w := by
  rcases h with ⟨rfl, h0⟩ | ⟨a, c, rfl, hc⟩
  · have : bs = [] := by simpa using h0
    subst this
    exact run_convert_bytes_nil (P := Try.prog) w 29 5 Try.underlying29 Try.underlying5 0 0 9 Try.underlying9
  · rw [List.length_map]
    refine run_convert_bytes_back (P := Try.prog) w 29 9 5 a c bs Try.underlying29 Try.underlying5 Try.underlying9 (fun j hj => ?_)
    exact hc j _ (by rw [List.getElem?_map, List.getElem?_eq_getElem hj]; rfl)
theorem SrcOf.ints {w0 W : World} {v : Value} {l : List Int} (h : SrcOf w0 v (l.map (Value.int .i64))) (hcap : ∃ a c, v = .slice a l.length c ∧ l.length ≤ c) (hk : Kept w0 W) {O : Nat → Prop} (hO : ∀ k, O k → w0.heap.size ≤ k) : IntsAt W O v l := by
  obtain ⟨a, c, rfl, hc⟩ := hcap
  refine ⟨a, c, rfl, hc, fun hne => ?_⟩
  rcases h.shape with ⟨e, _⟩ | ⟨_, b, o, c', e, hcell⟩
  · exact absurd (by simpa using e) hne
  · have e1 : a = some ⟨b, o, none⟩ := by injection e
    subst e1
    have h1 : ∀ i x, l[i]? = some x → w0.cell? ⟨b, o + i, none⟩ = some (.int .i64 x) := fun i x hi => hcell i _ (by rw [List.getElem?_map, hi]; rfl)
    refine ⟨b, o, rfl, fun ho => ?_, fun i x hi => ?_⟩
    · cases l with
      | nil => exact hne rfl
      | cons x r =>
        have := World.block_lt_of_cell? w0 _ (h1 0 x rfl)
        have := hO b ho
        simp at *
        omega
    · have h2 := h1 i x hi
      rw [World.cell?_of_block (w := w0) (w' := W) (a := ⟨b, o + i, none⟩) (hk.block b (World.block_lt_of_cell? w0 _ h2) (fun f => f))]
      exact h2

theorem spoil_take (b : List UInt8) (u : Nat) : (DModel.spoil b u).take u = b.take u := by
  apply List.ext_getElem?
  intro i
  rw [List.getElem?_take, List.getElem?_take]
  by_cases h : i < u
  · rw [if_pos h, if_pos h]
    unfold DModel.spoil
    rw [List.getElem?_mapIdx]
    cases b[i]? with
    | none => rfl
    | some x =>
      have hn : ¬ (u ≤ i ∧ (b.length - 1) / 512 * 512 ≤ i) := fun e => by omega
      simp [hn]
  · rw [if_neg h, if_neg h]
theorem settle_sure (S M : List UInt8) (l : List Int) : S.length ≤ (DModel.settleF ⟨S ++ M, S.length⟩ l).1.b.length ∧ (DModel.settleF ⟨S ++ M, S.length⟩ l).1.b.length ≤ S.length + M.length ∧ (DModel.settleF ⟨S ++ M, S.length⟩ l).1.b.take S.length = S := by
  unfold DModel.settleF
  split
  · show S.length ≤ (S ++ M).length ∧ (S ++ M).length ≤ _ ∧ (S ++ M).take S.length = S
    rw [List.length_append, List.take_left]
    exact ⟨by omega, by omega, rfl⟩
  · have hst : DModel.stays (l.headD 0) ((S ++ M).length - S.length) ≤ M.length := by
      unfold DModel.stays
      rw [List.length_append]
      split <;> omega
    show S.length ≤ (if DModel.oddB (l.tail.headD 0) = true then DModel.spoil ((S ++ M).take (S.length + DModel.stays (l.headD 0) ((S ++ M).length - S.length))) S.length else (S ++ M).take (S.length + DModel.stays (l.headD 0) ((S ++ M).length - S.length))).length ∧
      (if DModel.oddB (l.tail.headD 0) = true then DModel.spoil ((S ++ M).take (S.length + DModel.stays (l.headD 0) ((S ++ M).length - S.length))) S.length else (S ++ M).take (S.length + DModel.stays (l.headD 0) ((S ++ M).length - S.length))).length ≤ S.length + M.length ∧
      (if DModel.oddB (l.tail.headD 0) = true then DModel.spoil ((S ++ M).take (S.length + DModel.stays (l.headD 0) ((S ++ M).length - S.length))) S.length else (S ++ M).take (S.length + DModel.stays (l.headD 0) ((S ++ M).length - S.length))).take S.length = S
    generalize DModel.stays (l.headD 0) ((S ++ M).length - S.length) = q at hst
    have h1 : ((S ++ M).take (S.length + q)).length = S.length + q := by rw [List.length_take, List.length_append]; omega
    have h2 : ((S ++ M).take (S.length + q)).take S.length = S := by rw [List.take_take, Nat.min_eq_left (by omega), List.take_left]
    split
    · rw [spoil_take, DModel.spoil, List.length_mapIdx, h1]
      exact ⟨by omega, by omega, h2⟩
    · rw [h1]
      exact ⟨by omega, by omega, h2⟩

def suA (s : Nat) (B : List UInt8) (u : Nat) : DModel := ⟨[⟨B, u⟩], [([97], 0)], [], [⟨0, [97], [], 0⟩], 10000, s, false, none, none⟩
def suB (s : Nat) (B : List UInt8) (u : Nat) : DModel := ⟨[⟨B, u⟩], [([97], 0)], [([97], 0)], [], 10000, s, false, none, none⟩
def suC (s : Nat) (B : List UInt8) (u : Nat) : DModel := ⟨[⟨B, u⟩, ⟨[], 0⟩], [([97], 0), ([98], 1)], [([97], 0)], [⟨0, [98], [], 1⟩], 10000, s, false, none, none⟩
theorem su_start : DModel.start 10000 = ⟨[], [], [], [], 10000, 0, false, none, none⟩ := by kernel_rfl
theorem su_one : (DModel.mk [] [] [] [] 10000 0 false none none).doOp ⟨0, [97], [], []⟩ = (0, suA 1 [] 0) := by kernel_rfl
theorem su_appA (s : Nat) (B bs : List UInt8) (u : Nat) (h : B.length + bs.length ≤ 10000) : (suA s B u).doOp ⟨1, [97], [], bs⟩ = (0, suA (s + 1) (B ++ bs) u) := by
  have hu : (suA s B u).used = B.length := by show B.length + 0 = _; omega
  have ho : (suA s B u).own ⟨1, [97], [], bs⟩ = 0 := by
    show (if 16777216 < B.length + bs.length then 2 else if 10000 < (suA s B u).used + bs.length then 11 else 0) = _
    rw [if_neg (by omega), hu, if_neg (by omega)]
  rw [do_done (show (0 : Int) ≤ 1 by decide) (show (1 : Int) ≤ 5 by decide) rfl (fun e => by cases e) ho (fun e => by cases e)]
  rfl
theorem su_appB (s : Nat) (B bs : List UInt8) (u : Nat) (h : B.length + bs.length ≤ 10000) : (suB s B u).doOp ⟨1, [97], [], bs⟩ = (0, suB (s + 1) (B ++ bs) u) := by
  have hu : (suB s B u).used = B.length := by show B.length + 0 = _; omega
  have ho : (suB s B u).own ⟨1, [97], [], bs⟩ = 0 := by
    show (if 16777216 < B.length + bs.length then 2 else if 10000 < (suB s B u).used + bs.length then 11 else 0) = _
    rw [if_neg (by omega), hu, if_neg (by omega)]
  rw [do_done (show (0 : Int) ≤ 1 by decide) (show (1 : Int) ≤ 5 by decide) rfl (fun e => by cases e) ho (fun e => by cases e)]
  rfl
theorem su_sync (s : Nat) (B : List UInt8) (u : Nat) : (suA s B u).doOp ⟨2, [97], [], []⟩ = (0, suA (s + 1) B B.length) := by kernel_rfl
theorem su_dir (s : Nat) (B : List UInt8) (u : Nat) : (suA s B u).doOp ⟨5, [], [], []⟩ = (0, suB (s + 1) B u) := by kernel_rfl
theorem su_two (s : Nat) (B : List UInt8) (u : Nat) : (suB s B u).doOp ⟨0, [98], [], []⟩ = (0, suC (s + 1) B u) := by kernel_rfl
def suD (odd : Bool) : DDir := if odd then [([97], 0), ([98], 1)] else [([97], 0)]
theorem su_crash (s : Nat) (B : List UInt8) (u : Nat) (k : List Int) : (suC s B u).crash k = ⟨[(DModel.settleF ⟨B, u⟩ k.tail).1, ⟨[], 0⟩], suD (DModel.oddB (k.headD 0)), suD (DModel.oddB (k.headD 0)), [], 10000, s, false, none, none⟩ := by
  unfold DModel.crash
  have e : DModel.keepActs (suC s B u).acts k (suC s B u).sure = (suD (DModel.oddB (k.headD 0)), k.tail) := by
    show ((if DModel.oddB (k.headD 0) = true then [([97], 0), ([98], 1)] else [([97], 0)]), k.tail) = _
    rfl
  simp only [e]
  cases DModel.oddB (k.headD 0)
  · rfl
  · rfl
theorem few_a (s : Nat) (B : List UInt8) (u : Nat) (h : s ≤ 100) : (suA s B u).few := ⟨by show s ≤ _; omega, by show 1 + 0 + 1 < _; decide⟩
theorem few_b (s : Nat) (B : List UInt8) (u : Nat) (h : s ≤ 100) : (suB s B u).few := ⟨by show s ≤ _; omega, by show 1 + 1 + 0 < _; decide⟩
theorem few_c (s : Nat) (B : List UInt8) (u : Nat) (h : s ≤ 100) : (suC s B u).few := ⟨by show s ≤ _; omega, by show 2 + 1 + 1 < _; decide⟩

theorem Kept.drewN' {w w' : World} (h : Kept w w') (n : Nat) : Kept w (w'.drewN n) := ⟨h.os, h.tape, h.output, h.size, h.block⟩

/-- A slice of numbers that came in. -/
def NumSrc (w : World) (v : Value) (l : List Int) : Prop := SrcOf w v (l.map (Value.int .i64)) ∧ ∃ a c, v = .slice a l.length c ∧ l.length ≤ c

open Go.ChangeShapes in
theorem open_row {H : Type} {enc : TypeId × Value → H} {w : World} {spare : Nat → Bool} {held : Bool} {base : Nat} {a0 : Option Addr} {len0 cap0 : Nat} {x : DataW H × List MemPlace} {t e : TypeId} {k : IntKind} (ht : Try.prog.underlying t = some (.slice e)) (he : Try.prog.underlying e = some (.int k)) (hc : Try.prog.cellsOf e = 1)
    (h : ∃ m, DataW.trod enc Try.prog w base spare held m t (Value.slice a0 len0 cap0).cells.toList = some x) : ∃ zs : List Int, SrcOf w (.slice a0 len0 cap0) (zs.map (Value.int k)) ∧ zs.length = len0 ∧ len0 ≤ cap0 ∧ ∀ n ∈ zs, (Lit.int k n).wf = true := by
  obtain ⟨fuel, hf⟩ := h
  rcases open_ints ht he hc hf with ⟨hcs, _⟩ | ⟨a, l, c, zs, hcs, _, hl, hm, hz, _, hcell, hwz⟩
  · simp [Value.cells] at hcs
    obtain ⟨rfl, rfl, rfl⟩ := hcs
    exact ⟨[], .inl ⟨rfl, rfl⟩, rfl, Nat.le_refl _, by simp⟩
  · simp [Value.cells] at hcs
    obtain ⟨rfl, rfl, rfl⟩ := hcs
    have hzl : len0 ≤ zs.length := by rw [hz]; split <;> omega
    have hlen : (zs.take len0).length = len0 := by rw [List.length_take]; omega
    refine ⟨zs.take len0, .inr ⟨a, cap0, by rw [List.length_map, hlen], fun j u hu => ?_⟩, hlen, hl, fun n hn => hwz n (List.mem_of_mem_take hn)⟩
    rw [List.getElem?_map, List.getElem?_take] at hu
    split at hu
    · rw [List.getElem?_eq_getElem (by omega)] at hu
      cases hu
      rw [hcell j (by omega), List.getD_eq_getElem?_getD, List.getElem?_eq_getElem (by omega)]
      rfl
    · cases hu
theorem open_bytes {H : Type} {enc : TypeId × Value → H} {w : World} {spare : Nat → Bool} {held : Bool} {base : Nat} {a0 : Option Addr} {len0 cap0 : Nat} {x : DataW H × List MemPlace}
    (h : ∃ m, DataW.trod enc Try.prog w base spare held m 29 (Value.slice a0 len0 cap0).cells.toList = some x) : ∃ bs : List UInt8, SrcOf w (.slice a0 len0 cap0) (bs.map bV) := by
  obtain ⟨zs, h1, _, _, h2⟩ := open_row Try.underlying29 Try.underlying5 (by kernel_rfl) h
  obtain ⟨bs, _, hb⟩ := bytes_src h1 h2
  exact ⟨bs, hb⟩
theorem open_nums {H : Type} {enc : TypeId × Value → H} {w : World} {spare : Nat → Bool} {held : Bool} {base : Nat} {a0 : Option Addr} {len0 cap0 : Nat} {x : DataW H × List MemPlace}
    (h : ∃ m, DataW.trod enc Try.prog w base spare held m 32 (Value.slice a0 len0 cap0).cells.toList = some x) : ∃ l : List Int, NumSrc w (.slice a0 len0 cap0) l := by
  obtain ⟨zs, h1, h2, h3, _⟩ := open_row Try.underlying32 Try.underlying3 (by kernel_rfl) h
  exact ⟨zs, h1, a0, cap0, by rw [h2], by omega⟩

theorem cut_nil (a : Option Addr) (c : Nat) (w : World) : (Instr.sliceAt 29 (.slice none 0 0) none (some (.int .i64 ((0 : Nat) : Int))) none).run Try.prog w = .ok (.slice none 0 0) w := by kernel_rfl

/-- The beginning of bytes that are owned, as a text. -/
theorem cut_own {w : World} {base : Nat} {v : Value} {n k : Nat} {B S : List UInt8} (h : w.ownsRow base 5 1 v n (B.map bV)) (hk : k ≤ n) (hS : B.take k = S) :
    ∃ v', (∀ W, (Instr.sliceAt 29 v none (some (.int .i64 (k : Int))) none).run Try.prog W = .ok v' W) ∧ (∀ m, (convert 29 9 v').run Try.prog (w.drewN m) = .ok (.string ⟨S.toArray⟩) (w.drewN m)) := by
  have hl := own_len h
  rw [List.length_map] at hl
  subst hl
  have hSl : S.length = k := by rw [← hS, List.length_take]; omega
  rcases h.2 with ⟨rfl, h0⟩ | ⟨g, cap, cur, hv, _, _, hcap, _⟩
  · have hk0 : k = 0 := by omega
    subst hk0
    have hS0 : S = [] := List.length_eq_zero_iff.1 hSl
    subst hS0
    exact ⟨.slice none 0 0, fun W => cut_nil none 0 W, fun m => run_convert_bytes_nil (P := Try.prog) (w.drewN m) 29 5 Try.underlying29 Try.underlying5 0 0 9 Try.underlying9⟩
  · subst hv
    have hcv : ∀ m, (convert 29 9 (.slice (some ⟨g, 0, none⟩) k cap)).run Try.prog (w.drewN m) = .ok (.string ⟨S.toArray⟩) (w.drewN m) := fun m => by
      have := run_convert_bytes_back (P := Try.prog) (w.drewN m) 29 9 5 ⟨g, 0, none⟩ cap S Try.underlying29 Try.underlying5 Try.underlying9 (fun j hj => by
        rw [add_none, Nat.zero_add, World.cell?_drewN, h.cellAt j (by omega), List.getElem?_map, List.getElem?_eq_getElem (by omega)]
        have : S[j] = B[j]'(by omega) := by simp [← hS]
        rw [this]
        rfl)
      rw [hSl] at this
      exact this
    refine ⟨.slice (some ⟨g, 0, none⟩) k cap, fun W => ?_, hcv⟩
    by_cases hc0 : cap = 0
    · have hk0 : k = 0 := by omega
      subst hc0
      subst hk0
      have hB0 : B.length = 0 := by omega
      rw [hB0]
      have hs : (sizeOf 5).run Try.prog W = .ok 1 W := by kernel_rfl
      simp [Instr.sliceAt, Instr.slice, Instr.sliceBounds, Instr.sliceBound, run_underlying Try.underlying29, asIntOf, hs, Result.andThen]
    · exact slice_to g B.length cap k (k : Int) rfl (by omega) hc0 W
end Go.Proofs.Ytpjedcfdchebgaa
