/-
  Package resample: the document's own Points.
-/
import Derived.Test.YtjjmidooikgaaaaPtmain
import Derived.BigQuiet
import Derived.Deep.QuietTactic
namespace Go.Proofs.Ytjjmidooikgaaaa.Rs
open Go Go.RowKit Go.Proofs.Lys
open Ru (In64 one okT T0 Rising infoI6)
set_option linter.unusedVariables false
set_option linter.unusedSimpArgs false

theorem infoB21 : (Try.prog.info? 4).map (fun i => (i.zero, i.size, i.bytes)) = some (some (.bool false), 1, 1) := by kernel_rfl
/-- Which steps have a sample, as a row. -/
def hasL (c : Nat → Option Int) (n : Nat) : List Value := (List.range n).map (fun k => .bool (c k).isSome)
/-- What they have. -/
def valL (c : Nat → Option Int) (n : Nat) : List Int := rowF (fun k => (c k).getD 0) n
theorem hasL_len (c : Nat → Option Int) (n : Nat) : (hasL c n).length = n := by simp [hasL]
theorem hasL_at (c : Nat → Option Int) (n k : Nat) (h : k < n) : (hasL c n)[k]? = some (.bool (c k).isSome) := by simp [hasL, h]
theorem valL_at (c : Nat → Option Int) (n k : Nat) (h : k < n) : ((valL c n).map (Value.int .i64))[k]? = some (.int .i64 ((c k).getD 0)) := by simp [valL, rowF, h]
theorem hasL_ext {c d : Nat → Option Int} {n : Nat} (h : ∀ k, k < n → c k = d k) : hasL c n = hasL d n := by
  unfold hasL
  apply List.map_congr_left
  intro k hk
  rw [h k (List.mem_range.1 hk)]
theorem valL_ext {c d : Nat → Option Int} {n : Nat} (h : ∀ k, k < n → c k = d k) : valL c n = valL d n := rowF_ext (fun k hk => by rw [h k hk])
theorem hasL_set {c d : Nat → Option Int} {n k : Nat} {v : Int} (hk : d k = some v) (h : ∀ j, j ≠ k → c j = d j) : (hasL c n).set k (.bool true) = hasL d n := by
  unfold hasL
  apply List.ext_getElem
  · simp
  · intro j h1 h2
    rw [List.getElem_set]
    simp only [List.getElem_map, List.getElem_range]
    by_cases e : k = j
    · subst e
      rw [if_pos rfl, hk]
      rfl
    · rw [if_neg e, h j (fun x => e x.symm)]
theorem valL_set {c d : Nat → Option Int} {n k : Nat} {v : Int} (hk : d k = some v) (h : ∀ j, j ≠ k → c j = d j) : (valL c n).set k v = valL d n := by
  unfold valL
  rw [rowF_set]
  apply rowF_ext
  intro j hj
  by_cases e : j = k
  · subst e
    rw [if_pos rfl, hk]
    rfl
  · rw [if_neg e, h j e]
theorem made_false (K : Nat) : (madeCells #[Value.bool false] K).toList = hasL (fun _ => none) K := by
  apply List.ext_getElem?
  intro i
  by_cases h : i < K
  · simp [madeCells, h, Nat.mod_one, hasL]
  · rw [List.getElem?_eq_none (by simp [size_madeCells]; omega), List.getElem?_eq_none (by simp [hasL]; omega)]
theorem take_cell {f s : Int} {l : Smps} {i : Nat} (h : i < l.length) : cell f s (l.take (i + 1)) = fun k => if inS f s k l[i] then some l[i].2 else cell f s (l.take i) k := by
  funext k
  rw [← List.take_append_getElem h, cell_snoc]
/-- A sample ahead of the first step. -/
theorem cell_low {f s : Int} {l : Smps} {i : Nat} (h : i < l.length) (hs : 1 ≤ s) (hl : l[i].1 < f) : cell f s (l.take (i + 1)) = cell f s (l.take i) := by
  rw [take_cell h]
  funext k
  rw [inS_low hs hl]
  rfl
/-- A sample of step k. -/
theorem cell_hit {f s : Int} {l : Smps} {i k : Nat} (h : i < l.length) (hs : 1 ≤ s) (hl : f ≤ l[i].1) (hk : (l[i].1 - f) / s = (k : Int)) : cell f s (l.take (i + 1)) k = some l[i].2 ∧ ∀ j, j ≠ k → cell f s (l.take i) j = cell f s (l.take (i + 1)) j := by
  rw [take_cell h]
  constructor
  · show (if inS f s k l[i] then _ else _) = _
    rw [if_pos ((inS_div hs hl).2 hk)]
  · intro j hj
    show _ = (if inS f s j l[i] then _ else _)
    rw [if_neg]
    intro e
    have := (inS_div hs hl).1 e
    omega
/-- What the document's own tells. -/
def RPtsP (w : World) (l : Smps) (f s n : Int) (e : Ending) (w' : World) : Prop :=
  Kept w w' ∧ ∃ x, ErrW l f s n x ∧ ((x ≠ 0 ∧ e = .returned (.tuple #[.slice none 0 0, .int .i64 0, .int .i64 x])) ∨ (x = 0 ∧ ∃ F, Fst (cell f s l) n.toNat n.toNat F ∧
    ((F = n.toNat ∧ e = .returned (.tuple #[.slice none 0 0, .int .i64 (gapC (cell f s l) n.toNat : Nat), .int .i64 0])) ∨
     (F < n.toNat ∧ ∃ v, e = .returned (.tuple #[v, .int .i64 (gapC (cell f s l) n.toNat : Nat), .int .i64 0]) ∧ SrcOf w' v ((rowF (outC (cell f s l) F) n.toNat).map (Value.int .i64))))))
/-- The first of the steps as the document's own keeps it. -/
def zF (n F : Nat) : Int := if F < n then (F : Int) else -1
/-- What the fills leave. -/
def fil1 (c : Nat → Option Int) (F k j : Nat) : Int := if j < k then nowC c (F + 1) else (c j).getD 0
def fil2 (c : Nat → Option Int) (F k j : Nat) : Int := if j < k then outC c F j else (c j).getD 0
theorem fil1_step (c : Nat → Option Int) (n F k : Nat) : (rowF (fil1 c F k) n).set k (nowC c (F + 1)) = rowF (fil1 c F (k + 1)) n := by
  rw [rowF_set]
  apply rowF_ext
  intro j hj
  show (if j = k then nowC c (F + 1) else fil1 c F k j) = fil1 c F (k + 1) j
  unfold fil1
  by_cases h1 : j = k
  · subst h1
    rw [if_pos rfl, if_pos (by omega)]
  · rw [if_neg h1]
    by_cases h2 : j < k
    · rw [if_pos h2, if_pos (by omega)]
    · rw [if_neg h2, if_neg (by omega)]
theorem fil12 {c : Nat → Option Int} {n F : Nat} {v : Int} (h : c F = some v) : rowF (fil1 c F F) n = rowF (fil2 c F (F + 1)) n := by
  apply rowF_ext
  intro j hj
  unfold fil1 fil2 outC
  rcases Nat.lt_trichotomy j F with h1 | h1 | h1
  · rw [if_pos h1, if_pos (by omega), if_pos h1]
  · subst h1
    rw [if_neg (by omega), if_pos (by omega), if_neg (by omega), now_some h, h]
    rfl
  · rw [if_neg (by omega), if_neg (by omega)]
theorem fil2_none {c : Nat → Option Int} {n F i : Nat} (h : c i = none) (hi : F < i) (hn : i < n) : (rowF (fil2 c F i) n).set i (outC c F (i - 1)) = rowF (fil2 c F (i + 1)) n := by
  rw [rowF_set]
  apply rowF_ext
  intro j hj
  show (if j = i then outC c F (i - 1) else fil2 c F i j) = fil2 c F (i + 1) j
  unfold fil2
  by_cases h1 : j = i
  · subst h1
    rw [if_pos rfl, if_pos (by omega)]
    unfold outC
    rw [if_neg (by omega), if_neg (by omega), now_none h, show j - 1 + 1 = j by omega]
  · rw [if_neg h1]
    by_cases h2 : j < i
    · rw [if_pos h2, if_pos (by omega)]
    · rw [if_neg h2, if_neg (by omega)]
theorem fil2_some {c : Nat → Option Int} {n F i : Nat} {v : Int} (h : c i = some v) (hi : F < i) : rowF (fil2 c F i) n = rowF (fil2 c F (i + 1)) n := by
  apply rowF_ext
  intro j hj
  unfold fil2
  by_cases h1 : j = i
  · subst h1
    rw [if_neg (by omega), if_pos (by omega)]
    unfold outC
    rw [if_neg (by omega), now_some h, h]
    rfl
  · by_cases h2 : j < i
    · rw [if_pos h2, if_pos (by omega)]
    · rw [if_neg h2, if_neg (by omega)]
theorem fil2_all (c : Nat → Option Int) (n F : Nat) : rowF (fil2 c F n) n = rowF (outC c F) n := rowF_ext (fun j hj => by unfold fil2; rw [if_pos hj])
end Go.Proofs.Ytjjmidooikgaaaa.Rs
