/-
  Rows of numbers.
-/
import Derived.Test.YtjifcgphlidimaaDoorJrchk
import Derived.OpenShut
import Derived.ChangeOld
namespace Go.Proofs.YtjifcgphlidimaaDoor.J
open Go.RowKit Go.Proofs.Lys
set_option linter.unusedVariables false

set_option linter.unusedVariables false

theorem src_cells {w : World} {b o n c : Nat} {xs : List Value} (h : SrcOf w (.slice (some ⟨b, o, none⟩) n c) xs) : ∀ j u, xs[j]? = some u → w.cell? ⟨b, o + j, none⟩ = some u := by
  intro j u hu
  rcases h with ⟨h, _⟩ | ⟨a, c', h, hc⟩
  · cases h
  · cases h
    rw [← add_none]
    exact hc j u hu
theorem int_cells {w : World} {b o n c : Nat} {l : List Int} (h : SrcOf w (.slice (some ⟨b, o, none⟩) n c) (l.map (Value.int .i64))) : ∀ j (hj : j < l.length), w.cell? ⟨b, o + j, none⟩ = some (.int .i64 l[j]) :=
  fun j hj => src_cells h j _ (by rw [List.getElem?_map, List.getElem?_eq_getElem hj]; rfl)

theorem infoI6 : (Tryd.prog.info? 3).map (fun i => (i.zero, i.size, i.bytes)) = some (some (.int .i64 0), 1, 8) := by kernel_rfl
theorem own_num {w : World} {base : Nat} {vr : Value} {lr : List Int} (hown : w.ownsRow base 3 1 vr lr.length (lr.map (Value.int .i64))) (hb : base ≤ w.heap.size) (hl : lr.length ≤ 1000000) (X : Int) :
    ∃ g cap w1, Hid ((Builtin.append_ #[42, 42] 0 #[vr, .slice (some ⟨w.heap.size, 0, none⟩) 1 1]).run Tryd.prog (w.alloc (.cells #[.int .i64 X] 3)) = .ok (.slice (some ⟨g, 0, none⟩) (lr.length + 1) cap) w1) ∧ w1.ownsRow base 3 1 (.slice (some ⟨g, 0, none⟩) (lr.length + 1) cap) (lr ++ [X]).length ((lr ++ [X]).map (Value.int .i64)) ∧ Only (fun k => vr.ownBlock = some k) w w1 ∧ (∀ k, (Value.slice (some ⟨g, 0, none⟩) (lr.length + 1) cap).ownBlock = some k → vr.ownBlock = some k ∨ k = w.heap.size + 1) := by
  obtain ⟨v', w1, hrun, hown1, hgrow, hat⟩ := append_src (P := Tryd.prog) (xv := .slice (some ⟨w.heap.size, 0, none⟩) 1 1) (ys := [.int .i64 X]) Tryd.underlying42 infoI6 rfl (by decide) (hown.alloc (.cells #[.int .i64 X] 3)) (own_src (World.ownsRow_lit w #[.int .i64 X] 1 (Nat.zero_le _) (by decide) rfl)) (by intro u hu; simp at hu; subst hu; rfl) (by simp; omega) (by simp; omega)
  obtain ⟨g, cap, rfl⟩ := own_some hown1 (by simp)
  refine ⟨g, cap, w1, hrun, ?_, ((Only.refl _ w).alloc _).grown hgrow (fun j hj _ => hj), ?_⟩
  rotate_left
  · intro k hk
    rcases hat with h | h
    · exact .inl (h ▸ hk)
    · right
      have : some k = some (w.alloc (.cells #[.int .i64 X] 3)).heap.size := hk.symm.trans h
      simpa using this
  have e1 : (lr ++ [X]).length = lr.length + [Value.int .i64 X].length := by simp
  have e2 : (lr ++ [X]).map (Value.int .i64) = lr.map (Value.int .i64) ++ [Value.int .i64 X] := by rw [List.map_append]; rfl
  rw [e1, e2]
  exact hown1

theorem ints_one (l : List Int) : ∀ u ∈ l.map (Value.int .i64), u.oneCell' = true := by
  intro u hu
  obtain ⟨x, _, rfl⟩ := List.mem_map.1 hu
  rfl

set_option maxRecDepth 100000 in
set_option maxHeartbeats 1600000 in
theorem same_any (w : World) (va vb : Value) (l : List Int) (ha : SrcOf w va (l.map (Value.int .i64))) (hb : SrcOf w vb (l.map (Value.int .i64))) (hl : l.length ≤ 1000000) :
    Calls Tryd.prog 14 #[va, vb] w fun e w' => e = .returned (.bool true) ∧ Kept w w' := by
  rcases ha.shape with ⟨hnil, a, c, rfl⟩ | ⟨hpos, b, o, c, rfl, hc⟩
  · have e0 : l = [] := List.map_eq_nil_iff.1 hnil
    subst e0
    obtain ⟨a2, c2, rfl⟩ := hb.len
    rw [List.length_map, List.length_nil]
    clear ha hb hnil
    go_enter Tryd.func14, Tryd.ntmps14
    go_wp2
    refine wp_loop_rounds 1 ?_
    rw [rounds_succ]
    go_wp2
    go_ret
    exact ⟨rfl, Only.refl _ _⟩
  · rcases hb.shape with ⟨hnil, _⟩ | ⟨_, b2, o2, c2, rfl, hc2⟩
    · rw [hnil] at hpos
      simp at hpos
    · rw [List.length_map] at hpos ha hb ⊢
      obtain ⟨L, hL⟩ : ∃ L, l.length = L := ⟨_, rfl⟩
      have HA := hid ha
      have HB := hid hb
      rw [hL] at hpos hl HA HB ⊢
      have HL := hid hL
      clear hL hc hc2 ha hb
      go_enter Tryd.func14, Tryd.ntmps14
      go_wp2
      go_loopw [5] (fun s wr => ∃ (k : Nat), k ≤ L ∧ s = .int .i64 (k : Int) ∧ Kept w wr) (fun s _ => L - (intOf s).toNat)
      case atStart => exact ⟨0, by omega, rfl, Only.refl _ _⟩
      case round =>
        obtain ⟨k, hk, rfl, kr⟩ := hrel
        by_cases hlt : k < L
        · have hkl : k < l.length := by have := HL.out; omega
          have c1 := int_cells (HA.out.stay kr) k hkl
          have c2 := int_cells (HB.out.stay kr) k hkl
          generalize l[k] = x at c1 c2
          clear hkl
          go_wp2_with fail
          go_quiet (fail)
          go_wp2_with fail
          go_roundw
          case rel => exact ⟨k + 1, by omega, by go_num, kept_drewN kr nq⟩
          case measure => simp [intOf]; omega
        · have e : k = L := by omega
          subst e
          go_wp2
          go_ret
          exact ⟨rfl, kr⟩

/-- Numbers that are read. -/
def ISrc (w : World) (v : Value) (bs : List Int) : Prop := SrcOf w v (bs.map (Value.int .i64)) ∧ ∃ a c, v = .slice a bs.length c ∧ bs.length ≤ c
theorem ISrc.stay {w w' : World} {v : Value} {bs : List Int} (h : ISrc w v bs) (k : Kept w w') : ISrc w' v bs := ⟨h.1.stay k, h.2⟩
theorem own_isrc {w : World} {base : Nat} {v : Value} {bs : List Int} (h : w.ownsRow base 3 1 v bs.length (bs.map (Value.int .i64))) : ISrc w v bs := by
  refine ⟨own_src h, ?_⟩
  rcases h.2 with ⟨rfl, h0⟩ | ⟨g, cap, cur, rfl, _, _, hcap, _⟩
  · exact ⟨none, 0, by rw [h0], by omega⟩
  · exact ⟨_, cap, rfl, by omega⟩
theorem copy_ints {w : World} {v : Value} {l : List Int} (h : SrcOf w v (l.map (Value.int .i64))) (hl : l.length ≤ 100000000) :
    ∃ v' w', Hid ((Builtin.append_ #[42, 42] 0 #[.slice none 0 0, v]).run Tryd.prog w = .ok v' w') ∧ w'.ownsRow w.heap.size 3 1 v' l.length (l.map (Value.int .i64)) ∧ Kept w w' := by
  obtain ⟨v', w', hrun, hown, hg, _⟩ := append_src (P := Tryd.prog) Tryd.underlying42 infoI6 rfl (by decide) (World.ownsRow_nil w w.heap.size 3 1) h (ints_one l) (by simp; omega) (Nat.le_refl _)
  refine ⟨v', w', hrun, ?_, (Only.refl _ w).grown hg (fun k e _ => by cases e)⟩
  simpa using hown

theorem lit_isrc (w : World) (l : List Int) (n : Nat) (hn : l.length = n) (hm : n ≤ 1000) : ISrc (w.alloc (.cells (l.map (Value.int .i64)).toArray 3)) (.slice (some ⟨w.heap.size, 0, none⟩) n n) l := by
  subst hn
  have h := World.ownsRow_lit (base := 0) (size := 1) (e := 3) w (l.map (Value.int .i64)).toArray l.length (Nat.zero_le _) (by unfold maxLen; omega) (by simp)
  exact own_isrc (by simpa using h)

open Go.ChangeShapes in
theorem open_row {H : Type} {enc : TypeId × Value → H} {w : World} {spare : Nat → Bool} {held : Bool} {base : Nat} {a0 : Option Addr} {len0 cap0 : Nat} {x : DataW H × List MemPlace} {t e : TypeId} {k : IntKind} (ht : Tryd.prog.underlying t = some (.slice e)) (he : Tryd.prog.underlying e = some (.int k)) (hc : Tryd.prog.cellsOf e = 1)
    (h : ∃ m, DataW.trod enc Tryd.prog w base spare held m t (Value.slice a0 len0 cap0).cells.toList = some x) : ∃ zs : List Int, SrcOf w (.slice a0 len0 cap0) (zs.map (Value.int k)) ∧ zs.length = len0 ∧ len0 ≤ cap0 ∧ cap0 ≤ maxLen ∧ ∀ n ∈ zs, (Lit.int k n).wf = true := by
  obtain ⟨fuel, hf⟩ := h
  rcases open_ints ht he hc hf with ⟨hcs, _⟩ | ⟨a, l, c, zs, hcs, _, hl, hm, hz, _, hcell, hwz⟩
  · simp [Value.cells] at hcs
    obtain ⟨rfl, rfl, rfl⟩ := hcs
    exact ⟨[], .inl ⟨rfl, rfl⟩, rfl, Nat.le_refl _, Nat.zero_le _, by simp⟩
  · simp [Value.cells] at hcs
    obtain ⟨rfl, rfl, rfl⟩ := hcs
    have hzl : len0 ≤ zs.length := by rw [hz]; split <;> omega
    have hlen : (zs.take len0).length = len0 := by rw [List.length_take]; omega
    refine ⟨zs.take len0, .inr ⟨a, cap0, by rw [List.length_map, hlen], fun j u hu => ?_⟩, hlen, hl, hm, fun n hn => hwz n (List.mem_of_mem_take hn)⟩
    rw [List.getElem?_map, List.getElem?_take] at hu
    split at hu
    · rw [List.getElem?_eq_getElem (by omega)] at hu
      cases hu
      rw [hcell j (by omega), List.getD_eq_getElem?_getD, List.getElem?_eq_getElem (by omega)]
      rfl
    · cases hu
/-- Numbers that came in. -/
def IIn (w : World) (v : Value) (l : List Int) : Prop := ISrc w v l ∧ l.length ≤ 9223372036854775807
theorem open_isrc {H : Type} {enc : TypeId × Value → H} {w : World} {spare : Nat → Bool} {held : Bool} {base : Nat} {a0 : Option Addr} {len0 cap0 : Nat} {x : DataW H × List MemPlace}
    (h : ∃ m, DataW.trod enc Tryd.prog w base spare held m 42 (Value.slice a0 len0 cap0).cells.toList = some x) : ∃ l : List Int, IIn w (.slice a0 len0 cap0) l := by
  obtain ⟨zs, h1, h2, h3, h4, _⟩ := open_row Tryd.underlying42 Tryd.underlying3 (by kernel_rfl) h
  have hm : maxLen = 9223372036854775807 := by decide
  exact ⟨zs, ⟨h1, a0, cap0, by rw [h2], by omega⟩, by omega⟩
end Go.Proofs.YtjifcgphlidimaaDoor.J
