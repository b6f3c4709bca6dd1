/-
  Bytes and records that came in; the table as the row lays it.
-/
import Derived.Test.YtjohnomlhcncnaaDoorGbyt
import Derived.Deep.Slices
import Derived.OpenShut
import Derived.ChangeOld
import Derived.Lib.LaidTab
namespace Go.Proofs.YtjohnomlhcncnaaDoor.G
open Go.RowKit Go.Proofs.Lys
set_option linter.unusedVariables false

open Go.ChangeShapes in
theorem open_row {H : Type} {enc : TypeId × Value → H} {w : World} {spare : Nat → Bool} {held : Bool} {base : Nat} {a0 : Option Addr} {len0 cap0 : Nat} {x : DataW H × List MemPlace} {t e : TypeId} {k : IntKind} (ht : Tryd.prog.underlying t = some (.slice e)) (he : Tryd.prog.underlying e = some (.int k)) (hc : Tryd.prog.cellsOf e = 1)
    (h : ∃ m, DataW.trod enc Tryd.prog w base spare held m t (Value.slice a0 len0 cap0).cells.toList = some x) : ∃ zs : List Int, SrcOf w (.slice a0 len0 cap0) (zs.map (Value.int k)) ∧ zs.length = len0 ∧ len0 ≤ cap0 ∧ ∀ n ∈ zs, (Lit.int k n).wf = true := by
  obtain ⟨fuel, hf⟩ := h
  rcases open_ints ht he hc hf with ⟨hcs, _⟩ | ⟨a, l, c, zs, hcs, _, hl, hm, hz, _, hcell, hwz⟩
  · simp [Value.cells] at hcs
    obtain ⟨rfl, rfl, rfl⟩ := hcs
    exact ⟨[], .inl ⟨rfl, rfl⟩, rfl, Nat.le_refl _, by simp⟩
  · simp [Value.cells] at hcs
    obtain ⟨rfl, rfl, rfl⟩ := hcs
    have hzl : len0 ≤ zs.length := by rw [hz]; split <;> omega
    have hlen : (zs.take len0).length = len0 := by rw [List.length_take]; omega
    refine ⟨zs.take len0, .inr ⟨a, cap0, by rw [List.length_map, hlen], fun j u hu => ?_⟩, hlen, hl, fun n hn => hwz n (List.mem_of_mem_take hn)⟩
    rw [List.getElem?_map, List.getElem?_take] at hu
    split at hu
    · rw [List.getElem?_eq_getElem (by omega)] at hu
      cases hu
      rw [hcell j (by omega), List.getD_eq_getElem?_getD, List.getElem?_eq_getElem (by omega)]
      rfl
    · cases hu
theorem open_bsrc {H : Type} {enc : TypeId × Value → H} {w : World} {spare : Nat → Bool} {held : Bool} {base : Nat} {a0 : Option Addr} {len0 cap0 : Nat} {x : DataW H × List MemPlace}
    (h : ∃ m, DataW.trod enc Tryd.prog w base spare held m 22 (Value.slice a0 len0 cap0).cells.toList = some x) : ∃ bs : List UInt8, BSrc w (.slice a0 len0 cap0) bs := by
  obtain ⟨zs, h1, h2, h3, h4⟩ := open_row Tryd.underlying22 Tryd.underlying5 (by kernel_rfl) h
  obtain ⟨bs, hl, hb⟩ := bytes_src h1 h4
  exact ⟨bs, hb, a0, cap0, by rw [hl, h2], by omega⟩


/-- A record: its kind, where its bytes lie, its bytes. -/
structure Rec where
  k : Int
  v : Value
  bs : List UInt8
def Rec.ok (w : World) (r : Rec) : Prop := BSrc w r.v r.bs ∧ (Lit.int .i64 r.k).wf = true
/-- Records that are read. -/
def RecsSrc (w : World) (v : Value) (l : List Rec) : Prop :=
  (∃ a c, v = .slice a 0 c ∧ l = []) ∨
  (0 < l.length ∧ ∃ b o c, v = .slice (some ⟨b, o, none⟩) l.length c ∧ ∀ i (hi : i < l.length), w.cell? ⟨b, o + i * 2, none⟩ = some (.int .i64 l[i].k) ∧ w.cell? ⟨b, o + i * 2 + 1, none⟩ = some l[i].v ∧ l[i].ok w)
theorem RecsSrc.len {w : World} {v : Value} {l : List Rec} (h : RecsSrc w v l) : ∃ a c, v = .slice a l.length c := by
  rcases h with ⟨a, c, rfl, rfl⟩ | ⟨_, b, o, c, rfl, _⟩
  · exact ⟨a, c, rfl⟩
  · exact ⟨_, c, rfl⟩
theorem RecsSrc.stay {w W : World} {v : Value} {l : List Rec} (h : RecsSrc w v l) (k : Kept w W) : RecsSrc W v l := by
  have each : ∀ a u, w.cell? a = some u → W.cell? a = some u := fun a u hc => by
    rw [World.cell?_of_block (w := w) (w' := W) (a := a) (k.block a.block (World.block_lt_of_cell? w a hc) (fun f => f))]
    exact hc
  rcases h with h | ⟨h0, b, o, c, rfl, hc⟩
  · exact .inl h
  · exact .inr ⟨h0, b, o, c, rfl, fun i hi => ⟨each _ _ (hc i hi).1, each _ _ (hc i hi).2.1, (hc i hi).2.2.1.stay k, (hc i hi).2.2.2⟩⟩
theorem Tryd.cellsRec : Tryd.prog.cellsOf 41 = 2 := by kernel_rfl
theorem Tryd.cellsInt9 : Tryd.prog.cellsOf 3 = 1 := by kernel_rfl
theorem Tryd.cellsBytes9 : Tryd.prog.cellsOf 22 = 1 := by kernel_rfl
theorem open_bytes1 {H : Type} {enc : TypeId × Value → H} {w : World} {spare : Nat → Bool} {held : Bool} {base m : Nat} {v : Value} {x : DataW H × List MemPlace}
    (h : DataW.trod enc Tryd.prog w base spare held m 22 [v] = some x) : ∃ bs : List UInt8, BSrc w v bs := by
  rcases Deep.open_slice Tryd.underlying22 h with ⟨hcs, _⟩ | ⟨a, len, cap, m', n, D, Pl, hcs, _⟩
  · simp at hcs
    subst hcs
    exact open_bsrc ⟨_, h⟩
  · simp at hcs
    subst hcs
    exact open_bsrc ⟨_, h⟩
set_option maxRecDepth 100000 in
theorem open_rec {H : Type} {enc : TypeId × Value → H} {w : World} {spare : Nat → Bool} {held : Bool} {base fuel : Nat} {cs : List Value} {x : DataW H × List MemPlace}
    (h : DataW.trod enc Tryd.prog w base spare held fuel 41 cs = some x) : ∃ r : Rec, r.ok w ∧ cs = [.int .i64 r.k, r.v] := by
  obtain ⟨xs, m, _, _, hlen, hxl, hf⟩ := DataW.trod_struct Tryd.underlying41 h
  rw [Tryd.cellsRec] at hlen
  have hxl2 : xs.length = 2 := hxl
  match cs, hlen with
  | [v0, v1], _ =>
    have g0 : DataW.trod enc Tryd.prog w base spare held m 3 ((([v0, v1] : List Value).drop 0).take (Tryd.prog.cellsOf 3)) = xs[0]? := hf 0 _ rfl
    have g1 : DataW.trod enc Tryd.prog w base spare held m 22 ((([v0, v1] : List Value).drop 1).take (Tryd.prog.cellsOf 22)) = xs[1]? := hf 1 _ rfl
    rw [Tryd.cellsInt9, List.getElem?_eq_getElem (by omega)] at g0
    rw [Tryd.cellsBytes9, List.getElem?_eq_getElem (by omega)] at g1
    obtain ⟨n0, e0, _, wf0⟩ := DataW.trod_int Tryd.underlying3 g0
    obtain ⟨bs, hb⟩ := open_bytes1 (v := v1) g1
    have f0 := List.head_eq_of_cons_eq e0
    subst f0
    exact ⟨⟨n0, v1, bs⟩, ⟨hb, wf0⟩, rfl⟩
set_option maxRecDepth 100000 in
theorem open_recs {H : Type} {enc : TypeId × Value → H} {w : World} {spare : Nat → Bool} {held : Bool} {base : Nat} {a0 : Option Addr} {len0 cap0 : Nat} {x : DataW H × List MemPlace}
    (h : ∃ m, DataW.trod enc Tryd.prog w base spare held m 37 (Value.slice a0 len0 cap0).cells.toList = some x) : ∃ l : List Rec, RecsSrc w (.slice a0 len0 cap0) l := by
  obtain ⟨fuel, hf⟩ := h
  rcases Deep.open_slice Tryd.underlying37 hf with ⟨hcs, _⟩ | ⟨a, len, cap, m, n, D, Pl, hcs, _, hl, hm, hmm, _, hx⟩
  · simp [Value.cells] at hcs
    obtain ⟨rfl, rfl, rfl⟩ := hcs
    exact ⟨[], .inl ⟨_, _, rfl, rfl⟩⟩
  · simp [Value.cells] at hcs
    obtain ⟨rfl, rfl, rfl⟩ := hcs
    have hlm : len0 ≤ m := by rw [hmm]; split <;> omega
    have each : ∀ i, i < len0 → ∃ q : Rec, w.cell? (a.add (i * 2)) = some (.int .i64 q.k) ∧ w.cell? (a.add (i * 2 + 1)) = some q.v ∧ q.ok w := by
      intro i hi
      obtain ⟨cs', h1, h2⟩ := hx i (by omega)
      rw [Tryd.cellsRec] at h1
      obtain ⟨_, hlen, hcell⟩ := World.cells?_some h1
      obtain ⟨q, hq, rfl⟩ := open_rec h2
      have c0 := hcell 0 (by omega)
      have c1 := hcell 1 (by omega)
      rw [Deep.add_add] at c0 c1
      exact ⟨q, by simpa using c0, by simpa using c1, hq⟩
    have hinh : Inhabited Rec := ⟨⟨0, .slice none 0 0, []⟩⟩
    obtain ⟨q, hq⟩ := Deep.choose_lt each
    by_cases h0 : len0 = 0
    · subst h0
      exact ⟨[], .inl ⟨_, _, rfl, rfl⟩⟩
    · refine ⟨(List.range len0).map q, .inr ⟨by simp; omega, ?_⟩⟩
      obtain ⟨b, o, spot⟩ := a
      have hs : spot = none := by simpa [Addr.add] using World.cell?_spot (hq 0 (by omega)).1
      subst hs
      refine ⟨b, o, cap0, by simp, fun i hi => ?_⟩
      have hi' : i < len0 := by simpa using hi
      have := hq i hi'
      rw [add_none, add_none, ← Nat.add_assoc] at this
      simpa using this

/-! ### The table -/
theorem steps_global : Tryd.prog.globalNamed "lysimeter/frame.steps" = some 0 := by kernel_rfl
theorem steps_type : (Tryd.prog.globals[0]?).map (·.type) = some 56 := by kernel_rfl
theorem steps_cells : Tryd.prog.cellsOf 56 = 16 := by kernel_rfl
theorem u32_cells : Tryd.prog.cellsOf 55 = 1 := by kernel_rfl
def stepI : List Int := [0, 274646895, 549293790, 820201905, 1098587580, 1361435347, 1640403810, 1905808397, 2197175160, 2460548119, 2722870694, 2987750089, 3280807620, 3553878443, 3811616794, 4084100981]
theorem tab_of {W : World} (h : laidMet Tryd.prog [("lysimeter/frame.steps", Lib.tabData .u32 stepI)] W) : Tab W := by
  have ht : Lib.TabIs Tryd.prog W "lysimeter/frame.steps" .u32 stepI := Lib.tabIs_of_head (rest := []) steps_global steps_type Tryd.underlying56 Tryd.underlying55 u32_cells steps_cells h
  intro i hi
  have e : ∀ i, i < 16 → stepI.getD i 0 = ((stepT.getD i 0 : Nat) : Int) := by decide
  rw [ht.cell steps_global i hi, e i hi]
end Go.Proofs.YtjohnomlhcncnaaDoor.G
