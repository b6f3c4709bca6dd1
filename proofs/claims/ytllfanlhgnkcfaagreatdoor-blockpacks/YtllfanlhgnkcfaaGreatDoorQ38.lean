/-
  Kneigh.
-/
import Derived.Test.YtllfanlhgnkcfaaGreatDoorQ31
import Derived.Test.YtllfanlhgnkcfaaGreatDoorQ32
import Derived.Shelf.Abstract
import Derived.Shelf.RegionOpen
import Derived.LoopNIn
import Derived.LoopIn
namespace Go.Proofs.YtllfanlhgnkcfaaGreatDoor.K
open Go.RowKit Go.Proofs.Lys Go.Maps Go.Shelf
set_option linter.unusedVariables false
set_option linter.unusedSimpArgs false
attribute [local go_sem] Oper.semAt_some
def prevV (V : Nat → Value) : Nat → Value × Value
 | 0 => (.slice none 0 0, .slice none 0 0)
 | i + 1 => (V (i * 2), V (i * 2 + 1))
def KpS (n₀ A : Nat) (X Y : World) : Prop := (∀ k, k < n₀ → Y.heap[k]? = X.heap[k]?) ∧ ∀ k xs, A ≤ k → Blk X k xs 48 → Blk Y k xs 48
theorem heap_cell {X Y : World} {k : Nat} (h : Y.heap[k]? = X.heap[k]?) {o : Nat} {v : Value} (hc : X.cell? ⟨k, o, none⟩ = some v) : Y.cell? ⟨k, o, none⟩ = some v := by
 rw [World.cell?_of_block (w := X) (w' := Y) (a := ⟨k, o, none⟩) h]
 exact hc
theorem only_two {X : World} {A : Nat} (x y : Value) : Only (fun k => k = A) X ((X.setCell ⟨A, 0, none⟩ x).setCell ⟨A, 1, none⟩ y) :=
 ((Only.refl (fun k => k = A) X).setCell (p := ⟨A, 0, none⟩) (fun _ => rfl) x).setCell (p := ⟨A, 1, none⟩) (fun _ => rfl) y
set_option maxRecDepth 100000 in
set_option maxHeartbeats 3200000 in
theorem neigh_in (m : Nat) (hm : 1 ≤ m) (q Bn b o N c n₀ : Nat) (a : Option Addr) (V : Nat → Value) (hN : N ≤ 100000) (ha : 0 < N → a = some ⟨b, o, none⟩) (hb0 : 0 < N → b < n₀) (W : World) (hn : n₀ ≤ W.heap.size)
  (hBn : W.cell? ⟨Bn, 0, none⟩ = some (.slice a N c)) (hV : ∀ i, i < N * 2 → W.cell? ⟨b, o + i, none⟩ = some (V i)) (hVs : ∀ i, i < N * 2 → ∃ a n c, V i = .slice a n c)
  (Inv : Nat → World → Prop) (Pan : List PanicEntry → World → Prop) (hI : ∀ i X Y, Inv i X → Only (fun k => k = W.heap.size) X Y → Inv i Y)
  (hY : ∀ i X, i < N → Inv i X → W.heap.size < X.heap.size → YieldAt Fence.wide (m - 1) Tryz.prog q #[.agg #[(prevV V i).1, (prevV V i).2], .agg #[V (i * 2), V (i * 2 + 1)]] X fun e Y => (e = .returned (.bool true) ∧ Inv (i + 1) Y ∧ KpS n₀ W.heap.size X Y) ∨ ∃ ch, e = .panicked ch ∧ Pan ch Y)
  (h0 : Inv 0 W) :
  CallsIn Fence.wide m Tryz.prog 66 #[.func (.yield q) #[] #[], .pointer (some ⟨Bn, 0, none⟩)] W fun e Y => (∃ v, e = .returned v ∧ Inv N Y) ∨ ∃ ch, e = .panicked ch ∧ Pan ch Y := by
 refine callsIn_of_wp Tryz.func66 rfl trivial ?_ rfl
 simp only [Tryz.ntmps66, List.size_toArray, List.length_cons, List.length_nil, Nat.reduceAdd, Nat.reduceSub, Array.replicate_succ, Array.replicate_zero, List.push_toArray, List.append_toArray, List.nil_append, List.cons_append]
 have hnot : ∀ (x : Bool) (w : World), (Op.unary .not (.bool x)).run Tryz.prog w = .ok (.bool (!x)) w := fun _ _ => rfl
 obtain ⟨A, hA⟩ : ∃ A, W.heap.size = A := ⟨_, rfl⟩
 obtain ⟨W0, hW0⟩ : ∃ W0, W.alloc (.cells #[.slice none 0 0, .slice none 0 0] 48) = W0 := ⟨_, rfl⟩
 have hk0 : Kept W W0 := by rw [← hW0]; exact (Only.refl _ W).alloc _
 have hbA : Blk W0 A [(prevV V 0).1, (prevV V 0).2] 48 := by rw [← hW0, ← hA]; exact Blk.new W _ _
 have hs0 : A < W0.heap.size := by rw [← hW0, World.size_alloc]; omega
 have hB0 := cell_kept hk0 hBn
 have hV0 : ∀ i, i < N * 2 → W0.cell? ⟨b, o + i, none⟩ = some (V i) := fun i hi => cell_kept hk0 (hV i hi)
 have hI0 : Inv 0 W0 := hI 0 W W0 h0 (hk0.mono (fun _ _ f => f.elim))
 have hal : ∀ w' : World, w' = W → True := fun _ _ => trivial
 rw [hA] at hI hY hn
 have HY := hid hY
 have HI := hid hI
 have HVS := hid hVs
 have HV0 := hid hV0
 have HI0 := hid hI0
 have HBA := hid hbA
 clear hY hI hVs hV0 hI0 hbA hV h0 hk0 hal
 gi_wp2
 clear hW0 hBn
 gi_loopw [5, 8] (fun _ p wr => ∃ (i : Nat), p = .int .i64 (i : Int) ∧ i ≤ N ∧ Hid (Inv i wr) ∧ Hid (Blk wr A [(prevV V i).1, (prevV V i).2] 48) ∧ Hid (∀ i, i < N * 2 → wr.cell? ⟨b, o + i, none⟩ = some (V i)) ∧ A < wr.heap.size) (fun _ p _ => N - (intOf p).toNat)
 case atStart => exact ⟨0, rfl, Nat.zero_le _, HI0, HBA, HV0, hs0⟩
 case round =>
  obtain ⟨i, rfl, hi, hinv, hblk, hval, hsz⟩ := hrel
  by_cases hlt : i < N
  ·obtain rfl := ha (by omega)
   have hb1 := hb0 (by omega)
   have c0 := hval.out (i * 2) (by omega)
   have c1 := hval.out (i * 2 + 1) (by omega)
   rw [← Nat.add_assoc] at c1
   obtain ⟨la, ln, lc, e0⟩ := HVS.out (i * 2) (by omega)
   obtain ⟨sa, sn, sc, e1⟩ := HVS.out (i * 2 + 1) (by omega)
   obtain ⟨pa, pn, pc, e2⟩ : ∃ pa pn pc, (prevV V i).1 = .slice pa pn pc := by
    cases i with
    | zero => exact ⟨_, _, _, rfl⟩
    | succ j => exact HVS.out (j * 2) (by omega)
   obtain ⟨ra, rn, rc, e3⟩ : ∃ pa pn pc, (prevV V i).2 = .slice pa pn pc := by
    cases i with
    | zero => exact ⟨_, _, _, rfl⟩
    | succ j => exact HVS.out (j * 2 + 1) (by omega)
   have HNX : Hid (prevV V (i + 1) = (.slice la ln lc, .slice sa sn sc)) := by
    show (V (i * 2), V (i * 2 + 1)) = _
    rw [e0, e1]
   obtain ⟨W1, hW1⟩ : ∃ W1, wr.alloc (.cells #[.slice la ln lc, .slice sa sn sc] 48) = W1 := ⟨_, rfl⟩
   have hk1 : Kept wr W1 := by rw [← hW1]; exact (Only.refl _ wr).alloc _
   have hb2 : Blk W1 wr.heap.size [.slice la ln lc, .slice sa sn sc] 48 := by rw [← hW1]; exact Blk.new wr _ _
   have hbA1 := hk1.blk hblk.out (fun f => f)
   have hy := HY.out i W1 hlt (HI.out i wr W1 hinv.out (hk1.mono (fun _ _ f => f.elim))) (by have := hk1.size; omega)
   have HV1 := hid (fun j (hj : j < N * 2) => cell_kept hk1 (hval.out j hj))
   have hs1 := hk1.size
   rw [e2, e3] at hbA1 hy
   rw [e0] at c0 hy
   rw [e1] at c1 hy
   obtain ⟨fn, tmps, assign, body, hyl, hR⟩ := hy
   have r0 := hbA1.cell 0 rfl
   have r1 := hbA1.cell 1 rfl
   have t0 := hb2.cell 0 rfl
   have t1 := hb2.cell 1 rfl
   have HB2 := hid hb2
   have HBA1 := hid hbA1
   obtain ⟨BX, hBX⟩ : ∃ BX, wr.heap.size = BX := ⟨_, rfl⟩
   rw [hBX] at t0 t1 HB2 hs1
   have hABX : A < BX := by omega
   clear hval hblk hinv hbA1 hb2 hk1 e0 e1 e2 e3
   gi_wp2
   clear hW1
   refine hR.mono ?_
   rintro e W3 (⟨rfl, hi3, hk3⟩ | ⟨ch, rfl, hp3⟩)
   ·have hbA3 := hk3.2 A _ (Nat.le_refl _) HBA1.out
    have hb3 := hk3.2 BX _ (by omega) HB2.out
    have u0 := hb3.cell 0 rfl
    have u1 := hb3.cell 1 rfl
    have v0 := hbA3.cell 0 rfl
    have f0 := hbA3.frozen 0
    have hbA4 := hbA3.set 0 (.slice la ln lc)
    have v1 := hbA4.cell 1 rfl
    have f1 := hbA4.frozen 1
    have hbA5 := hbA4.set 1 (.slice sa sn sc)
    have HON := hid (only_two (X := W3) (A := A) (.slice la ln lc) (.slice sa sn sc))
    have HB5 : Hid (Blk ((W3.setCell ⟨A, 0, none⟩ (.slice la ln lc)).setCell ⟨A, 1, none⟩ (.slice sa sn sc)) A [(prevV V (i + 1)).1, (prevV V (i + 1)).2] 48) := by
     rw [HNX.out]
     exact hbA5
    have HV3 : Hid (∀ j, j < N * 2 → ((W3.setCell ⟨A, 0, none⟩ (.slice la ln lc)).setCell ⟨A, 1, none⟩ (.slice sa sn sc)).cell? ⟨b, o + j, none⟩ = some (V j)) := fun j hj => by
     have h1 := heap_cell (hk3.1 b hb1) (HV1.out j hj)
     rw [World.cell?_of_block (HON.out.block b (World.block_lt_of_cell? W3 _ h1) (fun e => by omega))]
     exact h1
    have HI5 := hid (HI.out (i + 1) W3 _ hi3 HON.out)
    have hs5 := HON.out.size
    have hs3 := hbA3.lt
    clear hbA3 hb3 hbA4 hbA5 hi3 hk3 hR hyl r0 r1 t0 t1
    gi_wp2
    go_roundw
    case rel => exact ⟨i + 1, by go_num, by omega, HI5, HB5, HV3, by omega⟩
    case measure => simp [intOf]; omega
   ·exact ⟨rfl, .inr ⟨ch, rfl, hp3⟩⟩
  ·obtain rfl : N = i := by omega
   have HF := hid hinv.out
   clear hinv hblk hval
   gi_wp2
   go_end0
   exact .inl ⟨_, rfl, HF.out⟩
end Go.Proofs.YtllfanlhgnkcfaaGreatDoor.K
