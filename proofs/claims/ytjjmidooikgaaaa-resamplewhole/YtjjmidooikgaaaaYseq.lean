/-
  Package rollup: the two that are ranged over: samples as buckets, and buckets as they are.
-/
import Derived.Test.YtjjmidooikgaaaaYrow
import Derived.Test.YtjjmidooikgaaaaRnd
import Derived.RangeFuncNested
import Derived.RangeFuncBound
import Derived.RangeFuncBox
import Derived.RangeFuncCalls
import Derived.RangeFuncLeaves
import Derived.Shelf.Abstract
import Derived.Shelf.RegionOpen
import Derived.OwnWalkIn
import Derived.TacticsInMore
import Derived.LoopNIn
import Derived.LoopIn
namespace Go.Proofs.Ytjjmidooikgaaaa.Ru
open Go Go.RowKit Go.Proofs.Lys Go.Shelf
set_option linter.unusedVariables false
set_option linter.unusedSimpArgs false
attribute [local go_sem] Oper.semAt_some

theorem kept_grown {w w' : World} (h : Kept w w') : w.grownBy w' none := ⟨h.os, h.tape, h.output, h.size, fun k hk _ => h.block k hk (fun f => f)⟩
abbrev Smps := List (Int × Int)
/-- A bucket that is one. -/
abbrev BkX (M : Nat) := { b : Bk // BkOk M b }
def xs_ {M : Nat} (l : List (BkX M)) : Bks := l.map (·.1)
theorem xs_snoc {M : Nat} (l : List (BkX M)) (x : BkX M) : xs_ (l ++ [x]) = xs_ l ++ [x.1] := by simp [xs_]
theorem one_ok {p : Int × Int} (h1 : In64 p.1) (h2 : In64 p.2) : BkOk 1 (one p) := ⟨h1, Int.le_refl _, Int.le_refl _, h2, h2, h2, h2⟩

set_option maxRecDepth 100000 in
set_option maxHeartbeats 1600000 in
theorem singles1_in (n : Nat) (hn : 1 ≤ n) (l Bn : Nat) (w0 : World) (a : Option Addr) (L c : Nat) (xs : Smps) (hs : SmpSrc w0 (.slice a L c) xs) (hxl : xs.length = L) (hin : ∀ p ∈ xs, In64 p.1 ∧ In64 p.2) (hL : L ≤ 100000) (J Jx : List (BkX 1) → World → Prop)
    (hJk : ∀ pre W W', J pre W → Kept W W' → J pre W')
    (hY : ∀ pre x W, J pre W → pre.length < L + 1 → YieldAt Fence.wide (n - 1) Try.prog l #[bkV x.1] W fun e W' =>
      (e = .returned (.bool true) ∧ J (pre ++ [x]) W' ∧ Below w0.heap.size W W') ∨ (e = .returned (.bool false) ∧ Jx (pre ++ [x]) W'))
    (W : World) (hBn : W.cell? ⟨Bn, 0, none⟩ = some (.slice a L c)) (hbel : Below w0.heap.size w0 W) (h0 : J [] W) :
    CallsIn Fence.wide n Try.prog 26 #[.func (.yield l) #[] #[], .pointer (some ⟨Bn, 0, none⟩)] W fun e W' => (∃ v, e = .returned v) ∧
      ((∃ ys, xs_ ys = xs.map one ∧ J ys W') ∨ (∃ pre, (∃ r, xs_ pre ++ r = xs.map one) ∧ Jx pre W')) := by
  refine callsIn_of_wp Try.func26 rfl trivial ?_ rfl
  simp only [Try.ntmps26, List.size_toArray, List.length_cons, List.length_nil, Nat.reduceAdd, Nat.reduceSub, Array.replicate_succ, Array.replicate_zero, List.push_toArray, List.append_toArray, List.nil_append, List.cons_append]
  have hnot : ∀ (x : Bool) (w : World), (Op.unary .not (.bool x)).run Try.prog w = .ok (.bool (!x)) w := fun _ _ => rfl
  have HXL := hid hxl
  have HIN := hid hin
  have HS := hid hs
  have HY := hid hY
  have HJ := hid hJk
  clear hxl hin hs hY hJk
  gi_wp2
  gi_loopw [7] (fun p wr => ∃ (pre : List (BkX 1)) (k : Nat), p = .int .i64 (k : Int) ∧ xs_ pre = (xs.take k).map one ∧ pre.length = k ∧ k ≤ L ∧ J pre wr ∧ Below w0.heap.size w0 wr) (fun p _ => L - (intOf p).toNat)
  case atStart => exact ⟨[], 0, rfl, rfl, rfl, Nat.zero_le _, h0, hbel⟩
  case round =>
    obtain ⟨pre, k, rfl, hX, hP, hk, hJ, hbr⟩ := hrel
    have HX := hid hX
    have HP := hid hP
    clear hX hP
    by_cases hlt : k < L
    · have hkx : k < xs.length := by have := HXL.out; omega
      obtain ⟨b, o, rfl, c0, c1⟩ := (HS.out.stay (Only.below hbr)).cell HXL.out k hlt
      have hpin := HIN.out xs[k] (List.getElem_mem hkx)
      have htk : xs.take (k + 1) = xs.take k ++ [xs[k]] := (List.take_append_getElem hkx).symm
      obtain ⟨p, hp⟩ : ∃ p, xs[k] = p := ⟨_, rfl⟩
      rw [hp] at c0 c1 hpin htk
      have HTK := hid htk
      have hka : Kept wr (wr.alloc (.cells #[.int .i64 p.1, .int .i64 p.2] 36)) := (Only.refl _ wr).alloc _
      obtain ⟨fn, tmps, assign, body, hy, hR⟩ := HY.out pre ⟨one p, one_ok hpin.1 hpin.2⟩ _ (HJ.out pre wr _ hJ hka) (by have := HP.out; omega)
      have HXn : Hid (xs_ (pre ++ [(⟨one p, one_ok hpin.1 hpin.2⟩ : BkX 1)]) = (xs.take (k + 1)).map one) := by
        show _ = _
        rw [xs_snoc, HX.out, HTK.out, List.map_append]
        rfl
      have HB := hid (show Below w0.heap.size w0 (wr.alloc (.cells #[.int .i64 p.1, .int .i64 p.2] 36)) from hbr.alloc hbr.size _)
      simp only [bkV, one] at hy
      clear htk hp hka hJ hbr
      gi_wp2
      refine hR.mono ?_
      rintro e W3 (⟨rfl, hJ3, hk3⟩ | ⟨rfl, hJx3⟩)
      · have hB3 := HB.out.trans hk3
        clear hR hy hk3
        gi_wp2
        go_roundw
        case rel => exact ⟨_, k + 1, by go_num, HXn.out, by simp; exact HP.out, by omega, hJ3, hB3⟩
        case measure => simp [intOf]; omega
      · clear hR hy
        gi_wp2
        refine bodyPost_ret (results_none rfl _ _ _) rfl ?_
        exact ⟨⟨_, rfl⟩, .inr ⟨_, ⟨(xs.drop (k + 1)).map one, by rw [HXn.out, ← List.map_append, List.take_append_drop]⟩, hJx3⟩⟩
    · have HE : Hid (xs_ pre = xs.map one) := by
        have e : k = L := by omega
        show _ = _
        rw [HX.out, List.take_of_length_le (by have := HXL.out; omega)]
      gi_wp2
      go_end0
      exact ⟨⟨_, rfl⟩, .inl ⟨_, HE.out, hJ⟩⟩
set_option maxHeartbeats 400000 in
theorem singles_any (a : Option Addr) (L c : Nat) (w : World) :
    Calls Try.prog 20 #[.slice a L c] w fun e w' => e = .returned (.func (.func 26) #[] #[.pointer (some ⟨w.heap.size, 0, none⟩)]) ∧ w' = w.alloc (.cells #[.slice a L c] 22) := by
  have hmf : ∀ (fn : Fn) (first cap : Array Value) (w : World), (Instr.makeFunc fn first cap).run Try.prog w = .ok (.func fn first cap) w := fun _ _ _ _ => rfl
  go_enter Try.func20, Try.ntmps20
  go_wp2
  go_ret
  exact ⟨rfl, rfl⟩
/-- What is ranged over: it gives these buckets, one behind the other. -/
def Gives (M : Nat) (gf : Nat) (lb : Array Value) (bl : Bks) (W0 : World) : Prop :=
  SeqStopsK Fence.wide 2 Try.prog gf lb (fun x : BkX M => #[bkV x.1]) (fun W W' => Below W0.heap.size W W') (fun ys => xs_ ys = bl) (fun pre => ∃ r, xs_ pre ++ r = bl) (bl.length + 1) W0
theorem box_cell {w W : World} {v : Value} {T : TypeId} (h : Below (w.alloc (.cells #[v] T)).heap.size (w.alloc (.cells #[v] T)) W) : W.cell? ⟨w.heap.size, 0, none⟩ = some v := by
  have hb := Blk.new w [v] T
  have h2 : W.heap[w.heap.size]? = (w.alloc (.cells #[v] T)).heap[w.heap.size]? := h.block w.heap.size (by rw [World.size_alloc]; omega)
  exact (hb.of_block h2).cell 0 rfl
theorem below_less {A B k : Nat} {w W : World} (h : Below B w W) (hk : k ≤ B) : Below k w W := ⟨h.os, h.tape, h.output, h.size, fun j hj => h.block j (Nat.lt_of_lt_of_le hj hk)⟩
theorem singles_give (w : World) (a : Option Addr) (c : Nat) (xs : Smps) (hs : SmpSrc w (.slice a xs.length c) xs) (hin : ∀ p ∈ xs, In64 p.1 ∧ In64 p.2) (hL : xs.length ≤ 100000) :
    Gives 1 26 #[.pointer (some ⟨w.heap.size, 0, none⟩)] (xs.map one) (w.alloc (.cells #[.slice a xs.length c] 22)) := by
  have k1 : Kept w (w.alloc (.cells #[.slice a xs.length c] 22)) := (Only.refl _ w).alloc _
  intro l J Jx W hW hJa _ hY h0
  exact singles1_in 2 (by omega) l w.heap.size (w.alloc (.cells #[.slice a xs.length c] 22)) a xs.length c xs (hs.stay k1) rfl hin hL J Jx (fun pre A B hA hk => hJa pre A B none hA (kept_grown hk) (fun r e => by cases e))
    (fun pre x W1 hJ hl => hY pre x W1 hJ (by simpa using hl)) W (box_cell hW) hW h0
end Go.Proofs.Ytjjmidooikgaaaa.Ru
