/-
  The law's manifest of levels.
-/
import Derived.Test.YtjifcgphlidimaaDoorJpw
namespace Go.Proofs.YtjifcgphlidimaaDoor.J
open Go.RowKit Go.Proofs.Lys
set_option linter.unusedVariables false
set_option linter.unusedSimpArgs false

def ofL (l : List Int) (k : Nat) : List Rf := (List.range k).map (fun (i : Nat) => ((i : Int) + 1, l.getD i 0, (i : Int), (i : Int) + 1))
theorem ofL_len (l : List Int) (k : Nat) : (ofL l k).length = k := by simp [ofL]
theorem ofL_step (l : List Int) (k : Nat) : ofL l (k + 1) = ofL l k ++ [((k : Int) + 1, l.getD k 0, (k : Int), (k : Int) + 1)] := by
  unfold ofL
  rw [List.range_succ, List.map_append]
  rfl
/-- The manifest while it grows. -/
def OfA (w : World) (l : List Int) (k : Nat) (w' : World) : Prop := ∃ a c, Blk w' (w.heap.size + 1) [.slice a k c, .int .i64 ((k : Int) + 1), .int .i64 1, .int .i64 0] 24 ∧
  Blk w' w.heap.size [nilS, .int .i64 0, .int .i64 0, .int .i64 0] 24 ∧ RfAt w' (w.heap.size + 2) (.slice a k c) (ofL l k) ∧ Kept w w'
/-- What it leaves. -/
def OfP (w : World) (l : List Int) (e : Ending) (w' : World) : Prop := ∃ a c, e = .returned (.agg #[.slice a l.length c, .int .i64 ((l.length : Int) + 1), .int .i64 1, .int .i64 0]) ∧ RfAt w' w.heap.size (.slice a l.length c) (ofL l l.length) ∧ Kept w w'

set_option maxRecDepth 100000 in
set_option maxHeartbeats 4000000 in
theorem of_any (w : World) (v : Value) (l : List Int) (hs : ISrc w v l) (hl : l.length ≤ 150) :
    Calls Tryd.prog 16 #[v] w (OfP w l) := by
  obtain ⟨hs1, a, c, rfl, hc⟩ := hs
  have HS := hid hs1
  obtain ⟨L, hL⟩ : ∃ L, l.length = L := ⟨_, rfl⟩
  have HL := hid hL
  rw [hL] at hl HS ⊢
  clear hs1 hL hc
  go_enter Tryd.func16, Tryd.ntmps16
  go_wp2
  go_loopw [4] (fun s w' => ∃ (k : Nat), k ≤ L ∧ s = .int .i64 (k : Int) ∧ OfA w l k w') (fun s _ => L - (intOf s).toNat)
  case atStart =>
    refine ⟨0, by omega, rfl, none, 0, ?_, ?_, ⟨rfl, .inl ⟨rfl, rfl⟩⟩, ((Only.refl _ w).alloc _).alloc _⟩
    · have := Blk.new (w.alloc (.cells #[nilS, .int .i64 0, .int .i64 0, .int .i64 0] 24)) [nilS, .int .i64 1, .int .i64 1, .int .i64 0] 24
      simpa using this
    · exact (Blk.new w [nilS, .int .i64 0, .int .i64 0, .int .i64 0] 24).alloc _
  case round =>
    obtain ⟨k, hk, rfl, a4, c4, hM, hZ, hR, hKw⟩ := hrel
    have HM := hid hM
    have HZ := hid hZ
    have HR := hid hR
    have HK := hid hKw
    clear hM hZ hR hKw
    by_cases hlt : k < L
    · have hkl : k < l.length := by have := HL.out; omega
      obtain ⟨x, hx⟩ : ∃ x, l[k] = x := ⟨_, rfl⟩
      have HX : Hid (l.getD k 0 = x) := by show _ = _; rw [List.getD_eq_getElem?_getD, List.getElem?_eq_getElem hkl, hx]; rfl
      rcases (HS.out.stay HK.out).shape with ⟨hnil, _⟩ | ⟨hpos, b, o, c', e, hcell⟩
      · have : l = [] := List.map_eq_nil_iff.1 hnil
        rw [this] at hkl
        simp at hkl
      rw [List.length_map] at e
      simp only [Value.slice.injEq] at e
      obtain ⟨rfl, hLe, rfl⟩ := e
      clear hLe
      have hx0 : wr.cell? ⟨b, o + k, none⟩ = some (.int .i64 x) := hcell k _ (by rw [List.getElem?_map, List.getElem?_eq_getElem hkl, hx]; rfl)
      have hv0 := HM.out.cell 0 rfl
      have hb : b < wr.heap.size := World.block_lt_of_cell? wr _ hx0
      have kd : Kept wr wr.drew := (Only.refl _ wr).drew
      have hRd : RfAt wr.drew (w.heap.size + 2) (.slice a4 k c4) (ofL l k) := ownN_stay HR.out kd
      have hB2 : w.heap.size + 2 ≤ wr.drew.heap.size := by have := HM.out.lt; show _ ≤ wr.heap.size; omega
      obtain ⟨g, cap, w1, Hr0, hR1, hon⟩ := rf_one hRd hB2 ((k : Int) + 1, x, (k : Int), (k : Int) + 1) (by rw [ofL_len]; omega)
      rw [ofL_len] at Hr0 hR1
      have Hr : Hid ((Builtin.append_ #[22, 22] 0 #[.slice a4 k c4, .slice (some ⟨wr.heap.size, 0, none⟩) 1 1]).run Tryd.prog (wr.alloc (rfO ((k : Int) + 1, x, (k : Int), (k : Int) + 1))).drew = .ok (.slice (some ⟨g, 0, none⟩) (k + 1) cap) w1) := Hr0
      have hnO : ∀ q, q < w.heap.size + 2 → ¬ (Value.slice a4 k c4).ownBlock = some q := fun q hq e => by have := (ownN_lt hRd e).1; omega
      have hM1 := Only.blk hon (Only.blk kd HM.out (fun f => f)) (hnO _ (by omega))
      have hZ1 := Only.blk hon (Only.blk kd HZ.out (fun f => f)) (hnO _ (by omega))
      have hbO : ¬ (Value.slice a4 k c4).ownBlock = some b := fun e => by
        have h1 := (ownN_lt hRd e).1
        have h2 : b < w.heap.size := by
          rcases HS.out.shape with ⟨hnil, _⟩ | ⟨_, b2, o2, c2, e2, hc2⟩
          · rw [List.map_eq_nil_iff.1 hnil] at hkl
            simp at hkl
          · rw [List.length_map] at e2
            simp only [Value.slice.injEq] at e2
            obtain ⟨e3, _⟩ := e2
            cases e3
            exact World.block_lt_of_cell? w _ (hc2 k _ (by rw [List.getElem?_map, List.getElem?_eq_getElem hkl]; rfl))
        omega
      have HS1 : Hid (w1.cell? ⟨w.heap.size + 1, 0, none⟩ = some (.slice a4 k c4) ∧ w1.cell? ⟨b, o + k, none⟩ = some (.int .i64 x)) := by
        refine ⟨hM1.cell 0 rfl, ?_⟩
        rw [World.cell?_of_block (w := wr.drew) (w' := w1) (a := ⟨b, o + k, none⟩) (hon.block b hb hbO)]
        exact hx0
      have HR1 := hid hR1
      have HM1 := hid hM1
      have HZ1 := hid hZ1
      have HK1 : Hid (Kept w w1) := (HK.out.trans kd (fun _ _ f => f)).trans hon (fun q hq e => by have := (ownN_lt hRd e).1; omega)
      have hwr : IntKind.i64.wrap ((k : Int) + 1) = (k : Int) + 1 := by rw [Go.IntWalk.i64_left]; unfold wrap64; omega
      have hwr2 : IntKind.i64.wrap ((k : Int) + 1 + 1) = (k : Int) + 1 + 1 := by rw [Go.IntWalk.i64_left]; unfold wrap64; omega
      clear hR1 hM1 hZ1 hon hRd hB2 kd hnO hbO Hr0 hcell hpos
      go_wp2_with fail
      refine wp_region_noPanic ?_
      refine wp_region_last (L := 15) (S := fun w' => w'.cell? ⟨w.heap.size + 1, 0, none⟩ = some (.slice a4 k c4) ∧ w'.cell? ⟨b, o + k, none⟩ = some (.int .i64 x)) (by kernel_rfl) ?_
      have hS : (fun w' : World => w'.cell? ⟨w.heap.size + 1, 0, none⟩ = some (.slice a4 k c4) ∧ w'.cell? ⟨b, o + k, none⟩ = some (.int .i64 x)) wr.drew := ⟨hv0, hx0⟩
      refine wpAnyL_take (i := 0) (v := .pointer (some ⟨w.heap.size + 1, 0, none⟩)) rfl (by kernel_rfl) (by kernel_rfl) (by kernel_rfl) (by kernel_rfl) (by kernel_rfl) (fun _ _ _ h => h) (Or.inl ⟨by rfl, ?_⟩) hS ?_
      · (intro w' hSw; obtain ⟨s1, s2⟩ := hSw; go_simp)
      (try simp only [List.getElem_toArray, List.getElem_cons_succ, List.getElem_cons_zero])
      go_frame
      refine wpAnyL_take (i := 1) (v := .slice a4 k c4) rfl (by kernel_rfl) (by kernel_rfl) (by kernel_rfl) (by kernel_rfl) (by kernel_rfl) (fun _ _ _ h => h) (Or.inl ⟨by rfl, ?_⟩) hS ?_
      · (intro w' hSw; obtain ⟨s1, s2⟩ := hSw; go_simp)
      (try simp only [List.getElem_toArray, List.getElem_cons_succ, List.getElem_cons_zero])
      go_frame
      refine wpAnyL_take (i := 2) (v := .int .i64 (k : Int)) rfl (by kernel_rfl) (by kernel_rfl) (by kernel_rfl) (by kernel_rfl) (by kernel_rfl) (fun _ _ _ h => h) (Or.inl ⟨by rfl, ?_⟩) hS ?_
      · (intro w' hSw; obtain ⟨s1, s2⟩ := hSw; go_simp)
      (try simp only [List.getElem_toArray, List.getElem_cons_succ, List.getElem_cons_zero])
      go_frame
      refine wpAnyL_take (i := 3) (v := .int .i64 ((k : Int) + 1)) rfl (by kernel_rfl) (by kernel_rfl) (by kernel_rfl) (by kernel_rfl) (by kernel_rfl) (fun _ _ _ h => h) (Or.inl ⟨by rfl, ?_⟩) hS ?_
      · (intro w' hSw; obtain ⟨s1, s2⟩ := hSw; go_simp)
      (try simp only [List.getElem_toArray, List.getElem_cons_succ, List.getElem_cons_zero])
      go_frame
      refine wpAnyL_take (i := 4) (v := .slice (some ⟨b, o, none⟩) L c) rfl (by kernel_rfl) (by kernel_rfl) (by kernel_rfl) (by kernel_rfl) (by kernel_rfl) (fun _ _ _ h => h) (Or.inl ⟨by rfl, ?_⟩) hS ?_
      · (intro w' hSw; obtain ⟨s1, s2⟩ := hSw; go_simp)
      (try simp only [List.getElem_toArray, List.getElem_cons_succ, List.getElem_cons_zero])
      go_frame
      refine wpAnyL_take (i := 5) (v := .int .i64 (k : Int)) rfl (by kernel_rfl) (by kernel_rfl) (by kernel_rfl) (by kernel_rfl) (by kernel_rfl) (fun _ _ _ h => h) (Or.inl ⟨by rfl, ?_⟩) hS ?_
      · (intro w' hSw; obtain ⟨s1, s2⟩ := hSw; go_simp)
      (try simp only [List.getElem_toArray, List.getElem_cons_succ, List.getElem_cons_zero])
      go_frame
      refine wpAnyL_take (i := 6) (v := .pointer (some ⟨b, o + k, none⟩)) rfl (by kernel_rfl) (by kernel_rfl) (by kernel_rfl) (by kernel_rfl) (by kernel_rfl) (fun _ _ _ h => h) (Or.inl ⟨by rfl, ?_⟩) hS ?_
      · (intro w' hSw; obtain ⟨s1, s2⟩ := hSw; go_simp)
      (try simp only [List.getElem_toArray, List.getElem_cons_succ, List.getElem_cons_zero])
      go_frame
      refine wpAnyL_take (i := 7) (v := .int .i64 x) rfl (by kernel_rfl) (by kernel_rfl) (by kernel_rfl) (by kernel_rfl) (by kernel_rfl) (fun _ _ _ h => h) (Or.inl ⟨by rfl, ?_⟩) hS ?_
      · (intro w' hSw; obtain ⟨s1, s2⟩ := hSw; go_simp)
      (try simp only [List.getElem_toArray, List.getElem_cons_succ, List.getElem_cons_zero])
      go_frame
      refine wpAnyL_take (i := 8) (v := .int .i64 (k : Int)) rfl (by kernel_rfl) (by kernel_rfl) (by kernel_rfl) (by kernel_rfl) (by kernel_rfl) (fun _ _ _ h => h) (Or.inl ⟨by rfl, ?_⟩) hS ?_
      · (intro w' hSw; obtain ⟨s1, s2⟩ := hSw; go_simp)
      (try simp only [List.getElem_toArray, List.getElem_cons_succ, List.getElem_cons_zero])
      go_frame
      refine wpAnyL_take (i := 9) (v := .int .i64 (k : Int)) rfl (by kernel_rfl) (by kernel_rfl) (by kernel_rfl) (by kernel_rfl) (by kernel_rfl) (fun _ _ _ h => h) (Or.inl ⟨by rfl, ?_⟩) hS ?_
      · (intro w' hSw; obtain ⟨s1, s2⟩ := hSw; go_simp)
      (try simp only [List.getElem_toArray, List.getElem_cons_succ, List.getElem_cons_zero])
      go_frame
      refine wpAnyL_take (i := 10) (v := .int .i64 ((k : Int) + 1)) rfl (by kernel_rfl) (by kernel_rfl) (by kernel_rfl) (by kernel_rfl) (by kernel_rfl) (fun _ _ _ h => h) (Or.inl ⟨by rfl, ?_⟩) hS ?_
      · (intro w' hSw; obtain ⟨s1, s2⟩ := hSw; go_simp)
      (try simp only [List.getElem_toArray, List.getElem_cons_succ, List.getElem_cons_zero])
      go_frame
      refine wpAnyL_take (i := 11) (v := .agg #[.int .i64 ((k : Int) + 1), .int .i64 x, .int .i64 (k : Int), .int .i64 ((k : Int) + 1)]) rfl (by kernel_rfl) (by kernel_rfl) (by kernel_rfl) (by kernel_rfl) (by kernel_rfl) (fun _ _ _ h => h) (Or.inl ⟨by rfl, ?_⟩) hS ?_
      · (intro w' hSw; obtain ⟨s1, s2⟩ := hSw; go_simp)
      (try simp only [List.getElem_toArray, List.getElem_cons_succ, List.getElem_cons_zero])
      go_frame
      refine wpAnyL_one (i := 12) (by kernel_rfl) rfl rfl ?_
      go_simp
      have kz : Kept wr (wr.alloc (rfO ((k : Int) + 1, x, (k : Int), (k : Int) + 1))).drew := ((Only.refl _ wr).alloc _).drew
      first | refine ⟨⟨each_cell kz _ _ hv0, each_cell kz _ _ hx0⟩, ?_⟩ | refine ⟨each_cell kz _ _ hx0, ?_⟩ | refine ⟨each_cell kz _ _ hv0, ?_⟩
      clear kz hS hv0 hx0
      refine wpAnyL_one (i := 13) (by kernel_rfl) rfl rfl (oper_appendH _ _ _ rfl rfl rfl Hr ?_)
      refine ⟨HS1.out, ?_⟩
      (try simp only [List.getElem_toArray, List.getElem_cons_succ, List.getElem_cons_zero])
      go_frame
      refine wpAnyL_one (i := 14) (by kernel_rfl) rfl rfl ?_
      go_simp
      have hc8 := HS1.out.1
      have hf8 := HM1.out.frozen 0
      first | refine ⟨HS1.out, ?_⟩ | refine ⟨HS1.out.2, ?_⟩ | refine ⟨HS1.out.1, ?_⟩
      (try simp only [List.getElem_toArray, List.getElem_cons_succ, List.getElem_cons_zero])
      (try go_frame)
      refine wpAnyL_last (by kernel_rfl) (by kernel_rfl) rfl rfl ?_
      go_simp
      refine NoPanic.normal ?_
      have hM8 := HM1.out.set 0 (.slice (some ⟨g, 0, none⟩) (k + 1) cap)
      have hZ8 := HZ1.out.other (a := ⟨w.heap.size + 1, 0, none⟩) (by simp) (.slice (some ⟨g, 0, none⟩) (k + 1) cap)
      have hgB : ∀ q, (Value.slice (some ⟨g, 0, none⟩) (k + 1) cap).ownBlock = some q → w.heap.size + 2 ≤ q := fun q hq => (ownN_lt HR1.out hq).1
      have hR8 : RfAt (w1.setCell ⟨w.heap.size + 1, 0, none⟩ (.slice (some ⟨g, 0, none⟩) (k + 1) cap)) (w.heap.size + 2) (.slice (some ⟨g, 0, none⟩) (k + 1) cap) (ofL l (k + 1)) := by
        rw [ofL_step, HX.out]
        exact ownN_block HR1.out (fun q hq => Below.heap_setCell w1 _ _ q (fun e => by have := hgB q hq; simp at e; omega))
      have hK8 : Kept w (w1.setCell ⟨w.heap.size + 1, 0, none⟩ (.slice (some ⟨g, 0, none⟩) (k + 1) cap)) := HK1.out.setCell (fun h => by simp at h; omega) _
      clear hc8 hf8
      generalize w1.setCell ⟨w.heap.size + 1, 0, none⟩ (.slice (some ⟨g, 0, none⟩) (k + 1) cap) = w8 at hM8 hZ8 hR8 hK8 ⊢
      have hc9 := hM8.cell 1 rfl
      have hf9 := hM8.frozen 1
      have HM9 := hid (hM8.set 1 (.int .i64 ((k : Int) + 1 + 1)))
      have HZ9 := hid (hZ8.other (a := ⟨w.heap.size + 1, 1, none⟩) (by simp) (.int .i64 ((k : Int) + 1 + 1)))
      have HR9 : Hid (RfAt (w8.setCell ⟨w.heap.size + 1, 1, none⟩ (.int .i64 ((k : Int) + 1 + 1))) (w.heap.size + 2) (.slice (some ⟨g, 0, none⟩) (k + 1) cap) (ofL l (k + 1))) := ownN_block hR8 (fun q hq => Below.heap_setCell w8 _ _ q (fun e => by have := hgB q hq; simp at e; omega))
      have HK9 : Hid (Kept w (w8.setCell ⟨w.heap.size + 1, 1, none⟩ (.int .i64 ((k : Int) + 1 + 1)))) := hK8.setCell (fun h => by simp at h; omega) _
      clear hM8 hZ8 hR8 hK8 hgB hwr hwr2
      go_wp2
      go_roundw
      case rel =>
        refine ⟨k + 1, by omega, by go_num, _, _, ?_, HZ9.out, HR9.out, HK9.out⟩
        have := HM9.out
        simpa using this
      case measure => simp [intOf]; omega
    · have hke : k = L := by omega
      subst hke
      have c0 := HM.out.cell 0 rfl
      have c1 := HM.out.cell 1 rfl
      have c2 := HM.out.cell 2 rfl
      have c3 := HM.out.cell 3 rfl
      have d0 := HZ.out.cell 0 rfl
      have d1 := HZ.out.cell 1 rfl
      have d2 := HZ.out.cell 2 rfl
      have d3 := HZ.out.cell 3 rfl
      have f0 := HZ.out.frozen 0
      have f1 := HZ.out.frozen 1
      have f2 := HZ.out.frozen 2
      have f3 := HZ.out.frozen 3
      have HB := hid ((((HZ.out.set 0 (.slice a4 k c4)).set 1 (.int .i64 ((k : Int) + 1))).set 2 (.int .i64 1)).set 3 (.int .i64 0))
      have hgB : ∀ q, (Value.slice a4 k c4).ownBlock = some q → w.heap.size + 2 ≤ q := fun q hq => (ownN_lt HR.out hq).1
      have HF : Hid (OfP w l (.returned (.agg #[.slice a4 k c4, .int .i64 ((k : Int) + 1), .int .i64 1, .int .i64 0])) ((((wr.setCell ⟨w.heap.size, 0, none⟩ (.slice a4 k c4)).setCell ⟨w.heap.size, 1, none⟩ (.int .i64 ((k : Int) + 1))).setCell ⟨w.heap.size, 2, none⟩ (.int .i64 1)).setCell ⟨w.heap.size, 3, none⟩ (.int .i64 0))) := by
        refine ⟨a4, c4, by rw [HL.out], ?_, (((HK.out.setCell (fun h => by simp at h) _).setCell (fun h => by simp at h) _).setCell (fun h => by simp at h) _).setCell (fun h => by simp at h) _⟩
        rw [HL.out]
        refine ownN_base (ownN_block HR.out (fun q hq => ?_)) (Nat.le_add_right _ 2)
        have hne : ∀ p : Addr, p.block = w.heap.size → q ≠ p.block := fun p hp e => by have := hgB q hq; omega
        rw [Below.heap_setCell _ _ _ q (hne _ rfl), Below.heap_setCell _ _ _ q (hne _ rfl), Below.heap_setCell _ _ _ q (hne _ rfl), Below.heap_setCell _ _ _ q (hne _ rfl)]
      clear hgB
      go_wp2
      exact bodyPost_ret (v := .agg #[.slice a4 k c4, .int .i64 ((k : Int) + 1), .int .i64 1, .int .i64 0]) (results_cell_row rfl _ _ w.heap.size 24 #[.slice a4 k c4, .int .i64 ((k : Int) + 1), .int .i64 1, .int .i64 0] (0, 0) _ rfl HB.out Tryd.underlying24 rfl (by kernel_rfl)) rfl HF.out
end Go.Proofs.YtjifcgphlidimaaDoor.J
