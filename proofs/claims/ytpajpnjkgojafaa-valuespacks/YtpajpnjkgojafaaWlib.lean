/-
  Small lemmas on rows of numbers and of bytes, that a packer of numbers wants.
-/
import Derived.Test.YtpajpnjkgojafaaWput
namespace Go.Proofs.Ytpajpnjkgojafaa
open Go.RowKit Go.Proofs.Lys
set_option linter.unusedVariables false

theorem src_cells {w : World} {b o n c : Nat} {xs : List Value} (h : SrcOf w (.slice (some ⟨b, o, none⟩) n c) xs) : ∀ j u, xs[j]? = some u → w.cell? ⟨b, o + j, none⟩ = some u := by
  intro j u hu
  rcases h with ⟨h, _⟩ | ⟨a, c', h, hc⟩
  · cases h
  · cases h
    rw [← add_none]
    exact hc j u hu
theorem int_cells {w : World} {b o n c : Nat} {l : List Int} (h : SrcOf w (.slice (some ⟨b, o, none⟩) n c) (l.map (Value.int .i64))) : ∀ j (hj : j < l.length), w.cell? ⟨b, o + j, none⟩ = some (.int .i64 l[j]) :=
  fun j hj => src_cells h j _ (by rw [List.getElem?_map, List.getElem?_eq_getElem hj]; rfl)

theorem kept_drewN {w w' : World} (h : Kept w w') (n : Nat) : Kept w (w'.drewN n) := by
  induction n with
  | zero => exact h
  | succ n ih => exact ih.drew

theorem infoI6 : (Try.prog.info? 3).map (fun i => (i.zero, i.size, i.bytes)) = some (some (.int .i64 0), 1, 8) := by kernel_rfl
/-- One number more of a row that is owned. -/
theorem own_num {w : World} {base : Nat} {vr : Value} {lr : List Int} (hown : w.ownsRow base 3 1 vr lr.length (lr.map (Value.int .i64))) (hb : base ≤ w.heap.size) (hl : lr.length ≤ 1000000) (X : Int) :
    ∃ g cap w1, Hid ((Builtin.append_ #[22, 22] 0 #[vr, .slice (some ⟨w.heap.size, 0, none⟩) 1 1]).run Try.prog (w.alloc (.cells #[.int .i64 X] 3)) = .ok (.slice (some ⟨g, 0, none⟩) (lr.length + 1) cap) w1) ∧ w1.ownsRow base 3 1 (.slice (some ⟨g, 0, none⟩) (lr.length + 1) cap) (lr ++ [X]).length ((lr ++ [X]).map (Value.int .i64)) ∧ Only (fun k => vr.ownBlock = some k) w w1 := by
  obtain ⟨v', w1, hrun, hown1, hgrow, hat⟩ := append_src (P := Try.prog) (xv := .slice (some ⟨w.heap.size, 0, none⟩) 1 1) (ys := [.int .i64 X]) Try.underlying22 infoI6 rfl (by decide) (hown.alloc (.cells #[.int .i64 X] 3)) (own_src (World.ownsRow_lit w #[.int .i64 X] 1 (Nat.zero_le _) (by decide) rfl)) (by intro u hu; simp at hu; subst hu; rfl) (by simp; omega) (by simp; omega)
  obtain ⟨g, cap, rfl⟩ := own_some hown1 (by simp)
  refine ⟨g, cap, w1, hrun, ?_, ((Only.refl _ w).alloc _).grown hgrow (fun j hj _ => hj)⟩
  have e1 : (lr ++ [X]).length = lr.length + [Value.int .i64 X].length := by simp
  have e2 : (lr ++ [X]).map (Value.int .i64) = lr.map (Value.int .i64) ++ [Value.int .i64 X] := by rw [List.map_append]; rfl
  rw [e1, e2]
  exact hown1

theorem bytes_str {w : World} {v : Value} {bs : List UInt8} (h : SrcOf w v (bs.map bV)) : (convert 24 9 v).run Try.prog w = .ok (.string ⟨bs.toArray⟩) w := by
  rcases h with ⟨rfl, e⟩ | ⟨a, c, rfl, hc⟩
  · have : bs = [] := List.map_eq_nil_iff.1 e
    subst this
    exact run_convert_bytes_nil (P := Try.prog) w 24 5 Try.underlying24 Try.underlying5 0 0 9 Try.underlying9
  · rw [List.length_map] 
    refine run_convert_bytes_back (P := Try.prog) w 24 9 5 a c bs Try.underlying24 Try.underlying5 Try.underlying9 (fun j hj => ?_)
    exact hc j _ (by rw [List.getElem?_map, List.getElem?_eq_getElem hj]; rfl)
theorem str_eq (a b : List UInt8) : ((⟨a.toArray⟩ : ByteArray).toList == (⟨b.toArray⟩ : ByteArray).toList) = decide (a = b) := by
  rw [ByteArray.toList_eq, ByteArray.toList_eq]
  by_cases h : a = b <;> simp [h]
theorem equal_any {w : World} {v u : Value} {a b : List UInt8} (h : SrcOf w v (a.map bV)) (h' : SrcOf w u (b.map bV)) :
    Calls Try.prog 30 #[v, u] w fun e w' => w' = w ∧ ((a = b ∧ e = .returned (.bool true)) ∨ (a ≠ b ∧ e = .returned (.bool false))) := by
  have c1 := bytes_str h
  have c2 := bytes_str h'
  have hs := str_eq a b
  generalize (⟨a.toArray⟩ : ByteArray) = sa at c1 hs
  generalize (⟨b.toArray⟩ : ByteArray) = sb at c2 hs
  clear h h'
  by_cases hab : a = b
  · have hs' : (sa.toList == sb.toList) = true := by rw [hs]; simp [hab]
    have HS := hid hab
    clear hs hab
    go_enter Try.func30, Try.ntmps30
    go_wp2
    go_ret
    exact ⟨rfl, .inl ⟨HS.out, rfl⟩⟩
  · have hs' : (sa.toList == sb.toList) = false := by rw [hs]; simp [hab]
    have HS := hid hab
    clear hs hab
    go_enter Try.func30, Try.ntmps30
    go_wp2
    go_ret
    exact ⟨rfl, .inr ⟨HS.out, rfl⟩⟩

theorem xor_byte6 (y : UInt8) : bits .xor .u8 (y.toNat : Int) 255 = (((UInt8.ofNat (y.toNat ^^^ 255)).toNat : Nat) : Int) := by
  rw [show (255 : Int) = ((255 : Nat) : Int) from rfl, u8_xor_nat _ _ (UInt8.toNat_lt y) (by decide), UInt8.toNat_ofNat', Nat.mod_eq_of_lt (Nat.xor_lt_two_pow (n := 8) (UInt8.toNat_lt y) (by decide))]
theorem own_turn6 {w : World} {base g n cap k : Nat} {ys : List UInt8} (h : w.ownsRow base 5 1 (.slice (some ⟨g, 0, none⟩) n cap) n (ys.map bV)) (hk : k < ys.length) :
    w.cell? ⟨g, k, none⟩ = some (.int .u8 ((ys[k].toNat : Nat) : Int)) ∧ w.frozen? ⟨g, k, none⟩ = false ∧
    (w.setCell ⟨g, k, none⟩ (.int .u8 (((UInt8.ofNat (ys[k].toNat ^^^ 255)).toNat : Nat) : Int))).ownsRow base 5 1 (.slice (some ⟨g, 0, none⟩) n cap) n ((ys.set k (UInt8.ofNat (ys[k].toNat ^^^ 255))).map bV) := by
  have hn := own_len h
  rw [List.length_map] at hn
  refine ⟨?_, h.frozenAt k, ?_⟩
  · rw [h.cellAt k (by omega), List.getElem?_map, List.getElem?_eq_getElem hk]
    rfl
  · rw [List.map_set]
    exact (h.stored k _).1
theorem cut_to (g L cap M : Nat) (hM : M ≤ cap) (hc : cap ≠ 0) (w : World) : (Instr.sliceAt 22 (.slice (some ⟨g, 0, none⟩) L cap) none (some (.int .i64 (M : Int))) none).run Try.prog w = .ok (.slice (some ⟨g, 0, none⟩) M cap) w := by
  have h1 : (0 : Int) ≤ (M : Int) ∧ (M : Int) ≤ (cap : Int) := by omega
  have hs : (sizeOf 3).run Try.prog w = .ok 1 w := by kernel_rfl
  simp [Instr.sliceAt, Instr.slice, Instr.sliceBounds, Instr.sliceBound, run_underlying Try.underlying22, asIntOf, hM, hs, Addr.add, Result.andThen]
/-- The times ahead of the one more that was laid behind them. -/
theorem cut_one {w : World} {base g cap : Nat} {l : List Int} {X : Int} (h : w.ownsRow base 3 1 (.slice (some ⟨g, 0, none⟩) (l.length + 1) cap) (l ++ [X]).length ((l ++ [X]).map (Value.int .i64))) :
    (∀ W, (Instr.sliceAt 22 (.slice (some ⟨g, 0, none⟩) (l.length + 1) cap) none (some (.int .i64 (l.length : Int))) none).run Try.prog W = .ok (.slice (some ⟨g, 0, none⟩) l.length cap) W) := by
  have hlen : (l ++ [X]).length = l.length + 1 := by simp
  rw [hlen] at h
  rcases h.2 with ⟨e, _⟩ | ⟨g', cap', cur, hv, _, _, hcap, _⟩
  · cases e
  · cases hv
    exact fun W => cut_to g (l.length + 1) cap l.length (by omega) (by omega) W
theorem cut_src {w : World} {base g cap : Nat} {l : List Int} {X : Int} (h : w.ownsRow base 3 1 (.slice (some ⟨g, 0, none⟩) (l.length + 1) cap) (l ++ [X]).length ((l ++ [X]).map (Value.int .i64))) :
    SrcOf w (.slice (some ⟨g, 0, none⟩) l.length cap) (l.map (Value.int .i64)) ∧ w.cell? ⟨g, l.length, none⟩ = some (.int .i64 X) := by
  have hc := src_cells (own_src h)
  refine ⟨.inr ⟨⟨g, 0, none⟩, cap, by rw [List.length_map], fun j u hu => ?_⟩, ?_⟩
  · have hj : j < l.length := by
      have := (List.getElem?_eq_some_iff.1 hu).1
      rwa [List.length_map] at this
    rw [add_none]
    refine hc j u ?_
    rw [List.map_append, List.getElem?_append_left (by rw [List.length_map]; exact hj)]
    exact hu
  · have := hc l.length (.int .i64 X) (by rw [List.map_append, List.getElem?_append_right (by rw [List.length_map]; exact Nat.le_refl _)]; simp)
    rw [Nat.zero_add] at this
    exact this

theorem ints_one (l : List Int) : ∀ u ∈ l.map (Value.int .i64), u.oneCell' = true := by
  intro u hu
  obtain ⟨x, _, rfl⟩ := List.mem_map.1 hu
  rfl

theorem wrap_is (x : Int) : IntKind.i64.wrap x = wrap64 x := Go.IntWalk.i64_left x
theorem one_len (X : Int) (k : Nat) (h : k = 0) : ([] ++ [X] : List Int).length = k + 1 := by subst h; rfl
theorem one_get (X : Int) (k : Nat) (h : k = 0) : ([] ++ [X] : List Int).getD (k + 1 - 1) 0 = X := by subst h; rfl
theorem snoc_len (acc : List Int) (Y : Int) (k : Nat) (h : acc.length = k) : (acc ++ [Y]).length = k + 1 := by rw [List.length_append, h]; rfl
theorem snoc_get (acc : List Int) (Y : Int) (k : Nat) (h : acc.length = k) : (acc ++ [Y]).getD (k + 1 - 1) 0 = Y := by
  subst h
  rw [List.getD_eq_getElem?_getD, Nat.add_sub_cancel]
  simp

set_option maxRecDepth 100000 in
set_option maxHeartbeats 1600000 in
theorem same_any (w : World) (va vb : Value) (l : List Int) (ha : SrcOf w va (l.map (Value.int .i64))) (hb : SrcOf w vb (l.map (Value.int .i64))) (hl : l.length ≤ 1000000) :
    Calls Try.prog 10 #[va, vb] w fun e w' => e = .returned (.bool true) ∧ Kept w w' := by
  rcases ha.shape with ⟨hnil, a, c, rfl⟩ | ⟨hpos, b, o, c, rfl, hc⟩
  · have e0 : l = [] := List.map_eq_nil_iff.1 hnil
    subst e0
    obtain ⟨a2, c2, rfl⟩ := hb.len
    rw [List.length_map, List.length_nil]
    clear ha hb hnil
    go_enter Try.func10, Try.ntmps10
    go_wp2
    refine wp_loop_rounds 1 ?_
    rw [rounds_succ]
    go_wp2
    go_ret
    exact ⟨rfl, Only.refl _ _⟩
  · rcases hb.shape with ⟨hnil, _⟩ | ⟨_, b2, o2, c2, rfl, hc2⟩
    · rw [hnil] at hpos
      simp at hpos
    · rw [List.length_map] at hpos ha hb ⊢
      obtain ⟨L, hL⟩ : ∃ L, l.length = L := ⟨_, rfl⟩
      have HA := hid ha
      have HB := hid hb
      rw [hL] at hpos hl HA HB ⊢
      have HL := hid hL
      clear hL hc hc2 ha hb
      go_enter Try.func10, Try.ntmps10
      go_wp2
      go_loopw [5] (fun s wr => ∃ (k : Nat), k ≤ L ∧ s = .int .i64 (k : Int) ∧ Kept w wr) (fun s _ => L - (intOf s).toNat)
      case atStart => exact ⟨0, by omega, rfl, Only.refl _ _⟩
      case round =>
        obtain ⟨k, hk, rfl, kr⟩ := hrel
        by_cases hlt : k < L
        · have hkl : k < l.length := by have := HL.out; omega
          have c1 := int_cells (HA.out.stay kr) k hkl
          have c2 := int_cells (HB.out.stay kr) k hkl
          generalize l[k] = x at c1 c2
          clear hkl
          go_wp2_with fail
          go_quiet (fail)
          go_wp2_with fail
          go_roundw
          case rel => exact ⟨k + 1, by omega, by go_num, kept_drewN kr nq⟩
          case measure => simp [intOf]; omega
        · have e : k = L := by omega
          subst e
          go_wp2
          go_ret
          exact ⟨rfl, kr⟩

end Go.Proofs.Ytpajpnjkgojafaa
