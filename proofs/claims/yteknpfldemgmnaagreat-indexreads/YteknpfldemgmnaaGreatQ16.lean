/-
  Olib, Ochk.
-/
import Derived.Test.YteknpfldemgmnaaGreatQ15
import Derived.Test.YteknpfldemgmnaaGreatQ05
import Derived.BigQuiet
import Derived.Deep.WholeRow
import Derived.Deep.Slices

/-
  Rows of numbers and of bytes that are read or owned; whether two lists are one.
-/
namespace Go.Proofs.YteknpfldemgmnaaGreat.Po
open Go.RowKit Go.Proofs.Lys
set_option linter.unusedVariables false

theorem src_cells {w : World} {b o n c : Nat} {xs : List Value} (h : SrcOf w (.slice (some ⟨b, o, none⟩) n c) xs) : ∀ j u, xs[j]? = some u → w.cell? ⟨b, o + j, none⟩ = some u := by
  intro j u hu
  rcases h with ⟨h, _⟩ | ⟨a, c', h, hc⟩
  · cases h
  · cases h
    rw [← add_none]
    exact hc j u hu
theorem int_cells {w : World} {b o n c : Nat} {l : List Int} (h : SrcOf w (.slice (some ⟨b, o, none⟩) n c) (l.map (Value.int .i64))) : ∀ j (hj : j < l.length), w.cell? ⟨b, o + j, none⟩ = some (.int .i64 l[j]) :=
  fun j hj => src_cells h j _ (by rw [List.getElem?_map, List.getElem?_eq_getElem hj]; rfl)

theorem kept_drewN {w w' : World} (h : Kept w w') (n : Nat) : Kept w (w'.drewN n) := by
  induction n with
  | zero => exact h
  | succ n ih => exact ih.drew

theorem infoI6 : (Tryz.prog.info? 3).map (fun i => (i.zero, i.size, i.bytes)) = some (some (.int .i64 0), 1, 8) := by kernel_rfl
/-- One number more of a row that is owned. -/
theorem own_num {w : World} {base : Nat} {vr : Value} {lr : List Int} (hown : w.ownsRow base 3 1 vr lr.length (lr.map (Value.int .i64))) (hb : base ≤ w.heap.size) (hl : lr.length ≤ 1000000) (X : Int) :
    ∃ g cap w1, Hid ((Builtin.append_ #[45, 45] 0 #[vr, .slice (some ⟨w.heap.size, 0, none⟩) 1 1]).run Tryz.prog (w.alloc (.cells #[.int .i64 X] 3)) = .ok (.slice (some ⟨g, 0, none⟩) (lr.length + 1) cap) w1) ∧ w1.ownsRow base 3 1 (.slice (some ⟨g, 0, none⟩) (lr.length + 1) cap) (lr ++ [X]).length ((lr ++ [X]).map (Value.int .i64)) ∧ Only (fun k => vr.ownBlock = some k) w w1 := by
  obtain ⟨v', w1, hrun, hown1, hgrow, hat⟩ := append_src (P := Tryz.prog) (xv := .slice (some ⟨w.heap.size, 0, none⟩) 1 1) (ys := [.int .i64 X]) Tryz.underlying45 infoI6 rfl (by decide) (hown.alloc (.cells #[.int .i64 X] 3)) (own_src (World.ownsRow_lit w #[.int .i64 X] 1 (Nat.zero_le _) (by decide) rfl)) (by intro u hu; simp at hu; subst hu; rfl) (by simp; omega) (by simp; omega)
  obtain ⟨g, cap, rfl⟩ := own_some hown1 (by simp)
  refine ⟨g, cap, w1, hrun, ?_, ((Only.refl _ w).alloc _).grown hgrow (fun j hj _ => hj)⟩
  have e1 : (lr ++ [X]).length = lr.length + [Value.int .i64 X].length := by simp
  have e2 : (lr ++ [X]).map (Value.int .i64) = lr.map (Value.int .i64) ++ [Value.int .i64 X] := by rw [List.map_append]; rfl
  rw [e1, e2]
  exact hown1

theorem bytes_str {w : World} {v : Value} {bs : List UInt8} (h : SrcOf w v (bs.map bV)) : (convert 30 9 v).run Tryz.prog w = .ok (.string ⟨bs.toArray⟩) w := by
  rcases h with ⟨rfl, e⟩ | ⟨a, c, rfl, hc⟩
  · have : bs = [] := List.map_eq_nil_iff.1 e
    subst this
    exact run_convert_bytes_nil (P := Tryz.prog) w 30 5 Tryz.underlying30 Tryz.underlying5 0 0 9 Tryz.underlying9
  · rw [List.length_map] 
    refine run_convert_bytes_back (P := Tryz.prog) w 30 9 5 a c bs Tryz.underlying30 Tryz.underlying5 Tryz.underlying9 (fun j hj => ?_)
    exact hc j _ (by rw [List.getElem?_map, List.getElem?_eq_getElem hj]; rfl)
theorem str_eq (a b : List UInt8) : ((⟨a.toArray⟩ : ByteArray).toList == (⟨b.toArray⟩ : ByteArray).toList) = decide (a = b) := by
  rw [ByteArray.toList_eq, ByteArray.toList_eq]
  by_cases h : a = b <;> simp [h]
theorem ints_one (l : List Int) : ∀ u ∈ l.map (Value.int .i64), u.oneCell' = true := by
  intro u hu
  obtain ⟨x, _, rfl⟩ := List.mem_map.1 hu
  rfl

set_option maxRecDepth 100000 in
set_option maxHeartbeats 1600000 in
theorem same_any (w : World) (va vb : Value) (l : List Int) (ha : SrcOf w va (l.map (Value.int .i64))) (hb : SrcOf w vb (l.map (Value.int .i64))) (hl : l.length ≤ 1000000) :
    Calls Tryz.prog 18 #[va, vb] w fun e w' => e = .returned (.bool true) ∧ Kept w w' := by
  rcases ha.shape with ⟨hnil, a, c, rfl⟩ | ⟨hpos, b, o, c, rfl, hc⟩
  · have e0 : l = [] := List.map_eq_nil_iff.1 hnil
    subst e0
    obtain ⟨a2, c2, rfl⟩ := hb.len
    rw [List.length_map, List.length_nil]
    clear ha hb hnil
    go_enter Tryz.func18, Tryz.ntmps18
    go_wp2
    refine wp_loop_rounds 1 ?_
    rw [rounds_succ]
    go_wp2
    go_ret
    exact ⟨rfl, Only.refl _ _⟩
  · rcases hb.shape with ⟨hnil, _⟩ | ⟨_, b2, o2, c2, rfl, hc2⟩
    · rw [hnil] at hpos
      simp at hpos
    · rw [List.length_map] at hpos ha hb ⊢
      obtain ⟨L, hL⟩ : ∃ L, l.length = L := ⟨_, rfl⟩
      have HA := hid ha
      have HB := hid hb
      rw [hL] at hpos hl HA HB ⊢
      have HL := hid hL
      clear hL hc hc2 ha hb
      go_enter Tryz.func18, Tryz.ntmps18
      go_wp2
      go_loopw [5] (fun s wr => ∃ (k : Nat), k ≤ L ∧ s = .int .i64 (k : Int) ∧ Kept w wr) (fun s _ => L - (intOf s).toNat)
      case atStart => exact ⟨0, by omega, rfl, Only.refl _ _⟩
      case round =>
        obtain ⟨k, hk, rfl, kr⟩ := hrel
        by_cases hlt : k < L
        · have hkl : k < l.length := by have := HL.out; omega
          have c1 := int_cells (HA.out.stay kr) k hkl
          have c2 := int_cells (HB.out.stay kr) k hkl
          generalize l[k] = x at c1 c2
          clear hkl
          go_wp2_with fail
          go_quiet (fail)
          go_wp2_with fail
          go_roundw
          case rel => exact ⟨k + 1, by omega, by go_num, kept_drewN kr nq⟩
          case measure => simp [intOf]; omega
        · have e : k = L := by omega
          subst e
          go_wp2
          go_ret
          exact ⟨rfl, kr⟩

/-- Bytes that are read. -/
def BSrc (w : World) (v : Value) (bs : List UInt8) : Prop := SrcOf w v (bs.map bV) ∧ ∃ a c, v = .slice a bs.length c ∧ bs.length ≤ c
theorem BSrc.stay {w w' : World} {v : Value} {bs : List UInt8} (h : BSrc w v bs) (k : Kept w w') : BSrc w' v bs := ⟨h.1.stay k, h.2⟩
theorem own_bsrc {w : World} {base : Nat} {v : Value} {bs : List UInt8} (h : w.ownsRow base 5 1 v bs.length (bs.map bV)) : BSrc w v bs := by
  refine ⟨own_src h, ?_⟩
  rcases h.2 with ⟨rfl, h0⟩ | ⟨g, cap, cur, rfl, _, _, hcap, _⟩
  · exact ⟨none, 0, by rw [h0], by omega⟩
  · exact ⟨_, cap, rfl, by omega⟩
theorem BSrc.sub {w : World} {v : Value} {bs : List UInt8} (h : BSrc w v bs) {lo hi : Nat} (h1 : lo ≤ hi) (h2 : hi ≤ bs.length) :
    ∃ a' c', (∀ W, (Instr.sliceAt 30 v (some (.int .i64 (lo : Int))) (some (.int .i64 (hi : Int))) none).run Tryz.prog W = .ok (.slice a' (hi - lo) c') W) ∧ BSrc w (.slice a' (hi - lo) c') ((bs.take hi).drop lo) := by
  obtain ⟨hs, a, c, rfl, hc⟩ := h
  have hlen : ((bs.take hi).drop lo).length = hi - lo := by rw [List.length_drop, List.length_take]; omega
  have hz : ∀ W, (sizeOf 5).run Tryz.prog W = .ok 1 W := fun W => by kernel_rfl
  have e2 : hi ≤ c := by omega
  refine ⟨if c = lo then a else a.map (·.add (lo * 1)), c - lo, fun W => ?_, ?_, _, _, by rw [hlen], by rw [hlen]; omega⟩
  · simp [Instr.sliceAt, Instr.slice, Instr.sliceBounds, Instr.sliceBound, run_underlying Tryz.underlying30, asIntOf, h1, e2, hz, Result.andThen]
  · rcases hs with ⟨hv, hn⟩ | ⟨x, c2, hv, hcell⟩
    · simp only [Value.slice.injEq] at hv
      obtain ⟨rfl, _, rfl⟩ := hv
      have hb : bs = [] := List.map_eq_nil_iff.1 hn
      subst hb
      have h0 : hi = 0 := by simpa using h2
      have h3 : lo = 0 := by omega
      subst h0
      subst h3
      exact .inl ⟨rfl, rfl⟩
    · simp only [Value.slice.injEq] at hv
      obtain ⟨rfl, _, rfl⟩ := hv
      by_cases hcl : c = lo
      · rw [if_pos hcl]
        have h0 : (bs.take hi).drop lo = [] := List.length_eq_zero_iff.1 (by rw [hlen]; omega)
        refine .inr ⟨x, c - lo, by rw [List.length_map, hlen], fun j u hu => ?_⟩
        rw [h0] at hu
        simp at hu
      · rw [if_neg hcl]
        refine .inr ⟨x.add lo, c - lo, by rw [List.length_map, hlen, Nat.mul_one]; rfl, fun j u hu => ?_⟩
        rw [Deep.add_add]
        refine hcell (lo + j) u ?_
        rw [List.getElem?_map, List.getElem?_drop, List.getElem?_take] at hu
        rw [List.getElem?_map]
        split at hu
        · exact hu
        · cases hu
theorem BSrc.tail {w : World} {v : Value} {bs : List UInt8} (h : BSrc w v bs) {lo : Nat} (h1 : lo ≤ bs.length) :
    ∃ a' c', (∀ W, (Instr.sliceAt 30 v (some (.int .i64 (lo : Int))) none none).run Tryz.prog W = .ok (.slice a' (bs.length - lo) c') W) ∧ BSrc w (.slice a' (bs.length - lo) c') (bs.drop lo) := by
  obtain ⟨a', c', hr, hb⟩ := h.sub h1 (Nat.le_refl _)
  rw [List.take_of_length_le (Nat.le_refl _)] at hb
  refine ⟨a', c', fun W => ?_, hb⟩
  obtain ⟨hs, a, c, rfl, hc⟩ := h
  have h2 := hr W
  have hz : ∀ W, (sizeOf 5).run Tryz.prog W = .ok 1 W := fun W => by kernel_rfl
  simp [Instr.sliceAt, Instr.slice, Instr.sliceBounds, Instr.sliceBound, run_underlying Tryz.underlying30, asIntOf, h1, hc, hz, Result.andThen] at h2 ⊢
  exact h2

theorem getA_le (l : List UInt8) : ∀ i n, (getA l i n).2.1 ≤ i + l.length := by
  induction l with
  | nil => intro i n; simp [getA]
  | cons c t ih =>
    intro i n
    unfold getA
    have := ih (i + 1) (n + c.toNat % 128 * 2 ^ (7 * i))
    rw [List.length_cons]
    split
    · exact Nat.zero_le _
    · split
      · omega
      · split
        · exact Nat.zero_le _
        · show i + 1 ≤ _
          omega

/-- Numbers that are read. -/
def ISrc (w : World) (v : Value) (bs : List Int) : Prop := SrcOf w v (bs.map (Value.int .i64)) ∧ ∃ a c, v = .slice a bs.length c ∧ bs.length ≤ c
theorem ISrc.stay {w w' : World} {v : Value} {bs : List Int} (h : ISrc w v bs) (k : Kept w w') : ISrc w' v bs := ⟨h.1.stay k, h.2⟩
theorem own_isrc {w : World} {base : Nat} {v : Value} {bs : List Int} (h : w.ownsRow base 3 1 v bs.length (bs.map (Value.int .i64))) : ISrc w v bs := by
  refine ⟨own_src h, ?_⟩
  rcases h.2 with ⟨rfl, h0⟩ | ⟨g, cap, cur, rfl, _, _, hcap, _⟩
  · exact ⟨none, 0, by rw [h0], by omega⟩
  · exact ⟨_, cap, rfl, by omega⟩
theorem ISrc.sub {w : World} {v : Value} {bs : List Int} (h : ISrc w v bs) {lo hi : Nat} (h1 : lo ≤ hi) (h2 : hi ≤ bs.length) :
    ∃ a' c', (∀ W, (Instr.sliceAt 45 v (some (.int .i64 (lo : Int))) (some (.int .i64 (hi : Int))) none).run Tryz.prog W = .ok (.slice a' (hi - lo) c') W) ∧ ISrc w (.slice a' (hi - lo) c') ((bs.take hi).drop lo) := by
  obtain ⟨hs, a, c, rfl, hc⟩ := h
  have hlen : ((bs.take hi).drop lo).length = hi - lo := by rw [List.length_drop, List.length_take]; omega
  have hz : ∀ W, (sizeOf 3).run Tryz.prog W = .ok 1 W := fun W => by kernel_rfl
  have e2 : hi ≤ c := by omega
  refine ⟨if c = lo then a else a.map (·.add (lo * 1)), c - lo, fun W => ?_, ?_, _, _, by rw [hlen], by rw [hlen]; omega⟩
  · simp [Instr.sliceAt, Instr.slice, Instr.sliceBounds, Instr.sliceBound, run_underlying Tryz.underlying45, asIntOf, h1, e2, hz, Result.andThen]
  · rcases hs with ⟨hv, hn⟩ | ⟨x, c2, hv, hcell⟩
    · simp only [Value.slice.injEq] at hv
      obtain ⟨rfl, _, rfl⟩ := hv
      have hb : bs = [] := List.map_eq_nil_iff.1 hn
      subst hb
      have h0 : hi = 0 := by simpa using h2
      have h3 : lo = 0 := by omega
      subst h0
      subst h3
      exact .inl ⟨rfl, rfl⟩
    · simp only [Value.slice.injEq] at hv
      obtain ⟨rfl, _, rfl⟩ := hv
      by_cases hcl : c = lo
      · rw [if_pos hcl]
        have h0 : (bs.take hi).drop lo = [] := List.length_eq_zero_iff.1 (by rw [hlen]; omega)
        refine .inr ⟨x, c - lo, by rw [List.length_map, hlen], fun j u hu => ?_⟩
        rw [h0] at hu
        simp at hu
      · rw [if_neg hcl]
        refine .inr ⟨x.add lo, c - lo, by rw [List.length_map, hlen, Nat.mul_one]; rfl, fun j u hu => ?_⟩
        rw [Deep.add_add]
        refine hcell (lo + j) u ?_
        rw [List.getElem?_map, List.getElem?_drop, List.getElem?_take] at hu
        rw [List.getElem?_map]
        split at hu
        · exact hu
        · cases hu
theorem ISrc.tail {w : World} {v : Value} {bs : List Int} (h : ISrc w v bs) {lo : Nat} (h1 : lo ≤ bs.length) :
    ∃ a' c', (∀ W, (Instr.sliceAt 45 v (some (.int .i64 (lo : Int))) none none).run Tryz.prog W = .ok (.slice a' (bs.length - lo) c') W) ∧ ISrc w (.slice a' (bs.length - lo) c') (bs.drop lo) := by
  obtain ⟨a', c', hr, hb⟩ := h.sub h1 (Nat.le_refl _)
  rw [List.take_of_length_le (Nat.le_refl _)] at hb
  refine ⟨a', c', fun W => ?_, hb⟩
  obtain ⟨hs, a, c, rfl, hc⟩ := h
  have h2 := hr W
  have hz : ∀ W, (sizeOf 3).run Tryz.prog W = .ok 1 W := fun W => by kernel_rfl
  simp [Instr.sliceAt, Instr.slice, Instr.sliceBounds, Instr.sliceBound, run_underlying Tryz.underlying45, asIntOf, h1, hc, hz, Result.andThen] at h2 ⊢
  exact h2

end Go.Proofs.YteknpfldemgmnaaGreat.Po

/-
  Whether a list rises, by the code and by the document.
-/
namespace Go.Proofs.YteknpfldemgmnaaGreat.Po
open Go.RowKit Go.Proofs.Lys
set_option linter.unusedVariables false

set_option maxRecDepth 100000 in
set_option maxHeartbeats 1600000 in
theorem check_any (w : World) (v : Value) (l : List Int) (hs : SrcOf w v (l.map (Value.int .i64))) (hl : l.length ≤ 1000000000000000) :
    Calls Tryz.prog 51 #[v] w fun e w' => e = .returned (.bool (upB (-1) l)) ∧ w' = w := by
  rcases hs.shape with ⟨hnil, a, c, rfl⟩ | ⟨hpos, b, o, c, rfl, hc⟩
  · have e0 : l = [] := List.map_eq_nil_iff.1 hnil
    subst e0
    go_enter Tryz.func51, Tryz.ntmps51
    go_wp2
    refine wp_loop_rounds 1 ?_
    rw [rounds_succ]
    go_wp2
    go_ret
    exact ⟨rfl, rfl⟩
  · rw [List.length_map] at hpos ⊢
    obtain ⟨L, hL⟩ : ∃ L, l.length = L := ⟨_, rfl⟩
    rw [hL] at hpos hl ⊢
    have HC : Hid (∀ j (hj : j < l.length), w.cell? ⟨b, o + j, none⟩ = some (.int .i64 l[j])) := fun j hj => hc j _ (by rw [List.getElem?_map, List.getElem?_eq_getElem hj]; rfl)
    have HL := hid hL
    clear hL hc hs
    go_enter Tryz.func51, Tryz.ntmps51
    go_wp2
    go_loop [3, 8] (fun t s => ∃ (k : Nat) (last : Int), k ≤ L ∧ t = .int .i64 last ∧ s = .int .i64 (k : Int) ∧ upB last (l.drop k) = upB (-1) l) (fun t s => L - (intOf s).toNat)
    case atStart => exact ⟨0, -1, by omega, rfl, rfl, rfl⟩
    case round =>
      obtain ⟨k, last, hk, rfl, rfl, hr⟩ := hrel
      by_cases hlt : k < L
      · have hkl : k < l.length := by have := HL.out; omega
        have hcell := HC.out k hkl
        rw [List.drop_eq_getElem_cons hkl] at hr
        obtain ⟨x, hx⟩ : ∃ x, l[k] = x := ⟨_, rfl⟩
        rw [hx] at hcell hr
        clear hx
        by_cases h1 : x ≤ last
        · have HR := hid ((up_low h1).symm.trans hr)
          clear hr
          go_wp2
          go_ret
          exact ⟨by rw [← HR.out]; rfl, rfl⟩
        · by_cases h2 : 1099511627776 ≤ x
          · have HR := hid ((up_high h2).symm.trans hr)
            clear hr
            go_wp2
            go_ret
            exact ⟨by rw [← HR.out]; rfl, rfl⟩
          · have HR := hid ((up_go (by omega) (by omega)).symm.trans hr)
            clear hr
            go_wp2
            go_round
            case rel => exact ⟨k + 1, x, by omega, rfl, by go_num, HR.out⟩
            case measure => simp [intOf]; omega
      · have e0 : l.drop k = [] := List.drop_of_length_le (by have := HL.out; omega)
        rw [e0] at hr
        have HR : Hid (upB (-1) l = true) := hr.symm
        clear hr
        go_wp2
        go_ret
        exact ⟨by rw [HR.out]; rfl, rfl⟩

set_option maxRecDepth 100000 in
set_option maxHeartbeats 1600000 in
theorem rrising_any (w : World) (v : Value) (l : List Int) (hs : SrcOf w v (l.map (Value.int .i64))) (hl : l.length ≤ 9223372036854775807) :
    Calls Tryz.prog 53 #[v] w fun e w' => e = .returned (.bool (upB (-1) l)) ∧ Kept w w' := by
  rcases hs.shape with ⟨hnil, a, c, rfl⟩ | ⟨hpos, b, o, c, rfl, hc⟩
  · have e0 : l = [] := List.map_eq_nil_iff.1 hnil
    subst e0
    go_enter Tryz.func53, Tryz.ntmps53
    go_wp2
    refine wp_loop_rounds 1 ?_
    rw [rounds_succ]
    go_wp2
    go_ret
    exact ⟨rfl, Only.refl _ _⟩
  · rw [List.length_map] at hpos hs ⊢
    obtain ⟨L, hL⟩ : ∃ L, l.length = L := ⟨_, rfl⟩
    have HS := hid hs
    rw [hL] at hpos hl HS ⊢
    have HL := hid hL
    clear hL hc hs
    go_enter Tryz.func53, Tryz.ntmps53
    go_wp2
    go_loopw [3] (fun s wr => ∃ (k : Nat), k ≤ L ∧ s = .int .i64 (k : Int) ∧ Kept w wr ∧ upB (if k = 0 then -1 else l.getD (k - 1) 0) (l.drop k) = upB (-1) l) (fun s _ => L - (intOf s).toNat)
    case atStart => exact ⟨0, by omega, rfl, Only.refl _ _, rfl⟩
    case round =>
      obtain ⟨k, hk, rfl, kr, hr⟩ := hrel
      by_cases hlt : k < L
      · have hkl : k < l.length := by have := HL.out; omega
        have hcell := int_cells (HS.out.stay kr) k hkl
        rw [List.drop_eq_getElem_cons hkl] at hr
        obtain ⟨x, hx⟩ : ∃ x, l[k] = x := ⟨_, rfl⟩
        have HN : Hid (l.getD (k + 1 - 1) 0 = x) := by show _ = _; simp [List.getD_eq_getElem?_getD, List.getElem?_eq_getElem hkl, hx]
        rw [hx] at hcell hr
        clear hx
        by_cases h1 : x < 0
        · have hq : upB (-1) l = false := by
            rw [← hr]
            by_cases h0 : k = 0
            · rw [if_pos h0]
              exact up_low (by omega)
            · rw [if_neg h0]
              cases e : upB (l.getD (k - 1) 0) (x :: l.drop (k + 1)) with
              | false => rfl
              | true =>
                rw [if_neg h0, e] at hr
                have := up_mem hr.symm (x := x) (List.mem_of_getElem? (i := k) (by rw [List.getElem?_eq_getElem hkl]; have := HN.out; simp [List.getD_eq_getElem?_getD, List.getElem?_eq_getElem hkl] at this; rw [this]))
                omega
          have HR := hid hq
          have d1 : decide (x < 0) = true := by simp [h1]
          clear hr hq h1
          go_wp2_with fail
          go_quiet (fail)
          go_wp2_with fail
          go_ret
          exact ⟨by rw [HR.out]; rfl, (kept_drewN kr nq)⟩
        · have d1 : decide (x < 0) = false := by simp; omega
          by_cases h2 : 1099511627776 ≤ x
          · have d2 : decide (1099511627776 ≤ x) = true := by simp [h2]
            have HR := hid ((up_high h2).symm.trans hr)
            clear hr
            go_wp2_with fail
            go_quiet (fail)
            go_wp2_with fail
            go_ret
            exact ⟨by rw [← HR.out]; rfl, (kept_drewN kr nq)⟩
          · have d2 : decide (1099511627776 ≤ x) = false := by simp; omega
            by_cases h0 : k = 0
            · subst h0
              simp only [Nat.add_zero] at hcell
              rw [if_pos rfl, up_go (by omega) (by omega)] at hr
              have HR := hid hr
              clear hr
              go_wp2_with fail
              go_quiet (fail)
              go_wp2_with fail
              go_roundw
              case rel =>
                refine ⟨1, by omega, rfl, (kept_drewN kr nq), ?_⟩
                rw [if_neg (by omega), HN.out]
                exact HR.out
              case measure => simp [intOf]; omega
            · obtain ⟨k', rfl⟩ : ∃ k', k = k' + 1 := ⟨k - 1, by omega⟩
              have hkl' : k' < l.length := by omega
              have hcell' := int_cells (HS.out.stay kr) k' hkl'
              obtain ⟨y, hy⟩ : ∃ y, l[k'] = y := ⟨_, rfl⟩
              have hy2 : l.getD (k' + 1 - 1) 0 = y := by simp [List.getD_eq_getElem?_getD, List.getElem?_eq_getElem hkl', hy]
              rw [hy] at hcell'
              rw [if_neg h0, hy2] at hr
              clear hy hy2
              have d0 : decide ((0 : Int) < (k' : Int) + 1) = true := by simp; try omega
              by_cases h3 : x ≤ y
              · have d3 : decide (x ≤ y) = true := by simp [h3]
                have HR := hid ((up_low h3).symm.trans hr)
                clear hr
                go_wp2_with fail
                go_quiet (fail)
                go_wp2_with fail
                go_ret
                exact ⟨by rw [← HR.out]; rfl, (kept_drewN kr nq)⟩
              · have d3 : decide (x ≤ y) = false := by simp; omega
                have HR := hid ((up_go (by omega) (by omega)).symm.trans hr)
                clear hr
                go_wp2_with fail
                go_quiet (fail)
                go_wp2_with fail
                go_roundw
                case rel =>
                  refine ⟨k' + 2, by omega, by go_num, (kept_drewN kr nq), ?_⟩
                  rw [if_neg (by omega)]
                  have := HN.out
                  rw [show k' + 2 - 1 = k' + 1 + 1 - 1 by omega, this]
                  exact HR.out
                case measure => simp [intOf]; omega
      · have e0 : l.drop k = [] := List.drop_of_length_le (by have := HL.out; omega)
        rw [e0] at hr
        have HR : Hid (upB (-1) l = true) := hr.symm
        clear hr
        go_wp2
        go_ret
        exact ⟨by rw [HR.out]; rfl, kr⟩
end Go.Proofs.YteknpfldemgmnaaGreat.Po
