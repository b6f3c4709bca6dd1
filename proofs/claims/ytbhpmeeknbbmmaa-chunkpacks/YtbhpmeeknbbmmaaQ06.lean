/-
  Wlib, Csmp, Splain, Vplain, Cplain, Cref.
-/
import Derived.Test.YtbhpmeeknbbmmaaQ05
import Derived.Test.YtbhpmeeknbbmmaaQ03
import Derived.Test.YtbhpmeeknbbmmaaQ01
import Derived.RowKit

/-
  Small lemmas on rows of numbers and of bytes, that a packer of numbers wants.
-/
namespace Go.Proofs.Ytbhpmeeknbbmmaa
open Go.RowKit Go.Proofs.Lys
set_option linter.unusedVariables false

theorem src_cells {w : World} {b o n c : Nat} {xs : List Value} (h : SrcOf w (.slice (some ⟨b, o, none⟩) n c) xs) : ∀ j u, xs[j]? = some u → w.cell? ⟨b, o + j, none⟩ = some u := by
  intro j u hu
  rcases h with ⟨h, _⟩ | ⟨a, c', h, hc⟩
  · cases h
  · cases h
    rw [← add_none]
    exact hc j u hu
theorem int_cells {w : World} {b o n c : Nat} {l : List Int} (h : SrcOf w (.slice (some ⟨b, o, none⟩) n c) (l.map (Value.int .i64))) : ∀ j (hj : j < l.length), w.cell? ⟨b, o + j, none⟩ = some (.int .i64 l[j]) :=
  fun j hj => src_cells h j _ (by rw [List.getElem?_map, List.getElem?_eq_getElem hj]; rfl)

theorem kept_drewN {w w' : World} (h : Kept w w') (n : Nat) : Kept w (w'.drewN n) := by
  induction n with
  | zero => exact h
  | succ n ih => exact ih.drew

theorem infoI6 : (Try.prog.info? 3).map (fun i => (i.zero, i.size, i.bytes)) = some (some (.int .i64 0), 1, 8) := by kernel_rfl
/-- One number more of a row that is owned. -/
theorem own_num {w : World} {base : Nat} {vr : Value} {lr : List Int} (hown : w.ownsRow base 3 1 vr lr.length (lr.map (Value.int .i64))) (hb : base ≤ w.heap.size) (hl : lr.length ≤ 1000000) (X : Int) :
    ∃ g cap w1, Hid ((Builtin.append_ #[44, 44] 0 #[vr, .slice (some ⟨w.heap.size, 0, none⟩) 1 1]).run Try.prog (w.alloc (.cells #[.int .i64 X] 3)) = .ok (.slice (some ⟨g, 0, none⟩) (lr.length + 1) cap) w1) ∧ w1.ownsRow base 3 1 (.slice (some ⟨g, 0, none⟩) (lr.length + 1) cap) (lr ++ [X]).length ((lr ++ [X]).map (Value.int .i64)) ∧ Only (fun k => vr.ownBlock = some k) w w1 := by
  obtain ⟨v', w1, hrun, hown1, hgrow, hat⟩ := append_src (P := Try.prog) (xv := .slice (some ⟨w.heap.size, 0, none⟩) 1 1) (ys := [.int .i64 X]) Try.underlying44 infoI6 rfl (by decide) (hown.alloc (.cells #[.int .i64 X] 3)) (own_src (World.ownsRow_lit w #[.int .i64 X] 1 (Nat.zero_le _) (by decide) rfl)) (by intro u hu; simp at hu; subst hu; rfl) (by simp; omega) (by simp; omega)
  obtain ⟨g, cap, rfl⟩ := own_some hown1 (by simp)
  refine ⟨g, cap, w1, hrun, ?_, ((Only.refl _ w).alloc _).grown hgrow (fun j hj _ => hj)⟩
  have e1 : (lr ++ [X]).length = lr.length + [Value.int .i64 X].length := by simp
  have e2 : (lr ++ [X]).map (Value.int .i64) = lr.map (Value.int .i64) ++ [Value.int .i64 X] := by rw [List.map_append]; rfl
  rw [e1, e2]
  exact hown1

theorem bytes_str {w : World} {v : Value} {bs : List UInt8} (h : SrcOf w v (bs.map bV)) : (convert 23 9 v).run Try.prog w = .ok (.string ⟨bs.toArray⟩) w := by
  rcases h with ⟨rfl, e⟩ | ⟨a, c, rfl, hc⟩
  · have : bs = [] := List.map_eq_nil_iff.1 e
    subst this
    exact run_convert_bytes_nil (P := Try.prog) w 23 5 Try.underlying23 Try.underlying5 0 0 9 Try.underlying9
  · rw [List.length_map] 
    refine run_convert_bytes_back (P := Try.prog) w 23 9 5 a c bs Try.underlying23 Try.underlying5 Try.underlying9 (fun j hj => ?_)
    exact hc j _ (by rw [List.getElem?_map, List.getElem?_eq_getElem hj]; rfl)
theorem str_eq (a b : List UInt8) : ((⟨a.toArray⟩ : ByteArray).toList == (⟨b.toArray⟩ : ByteArray).toList) = decide (a = b) := by
  rw [ByteArray.toList_eq, ByteArray.toList_eq]
  by_cases h : a = b <;> simp [h]
theorem equal_any {w : World} {v u : Value} {a b : List UInt8} (h : SrcOf w v (a.map bV)) (h' : SrcOf w u (b.map bV)) :
    Calls Try.prog 62 #[v, u] w fun e w' => w' = w ∧ ((a = b ∧ e = .returned (.bool true)) ∨ (a ≠ b ∧ e = .returned (.bool false))) := by
  have c1 := bytes_str h
  have c2 := bytes_str h'
  have hs := str_eq a b
  generalize (⟨a.toArray⟩ : ByteArray) = sa at c1 hs
  generalize (⟨b.toArray⟩ : ByteArray) = sb at c2 hs
  clear h h'
  by_cases hab : a = b
  · have hs' : (sa.toList == sb.toList) = true := by rw [hs]; simp [hab]
    have HS := hid hab
    clear hs hab
    go_enter Try.func62, Try.ntmps62
    go_wp2
    go_ret
    exact ⟨rfl, .inl ⟨HS.out, rfl⟩⟩
  · have hs' : (sa.toList == sb.toList) = false := by rw [hs]; simp [hab]
    have HS := hid hab
    clear hs hab
    go_enter Try.func62, Try.ntmps62
    go_wp2
    go_ret
    exact ⟨rfl, .inr ⟨HS.out, rfl⟩⟩

theorem xor_byte6 (y : UInt8) : bits .xor .u8 (y.toNat : Int) 255 = (((UInt8.ofNat (y.toNat ^^^ 255)).toNat : Nat) : Int) := by
  rw [show (255 : Int) = ((255 : Nat) : Int) from rfl, u8_xor_nat _ _ (UInt8.toNat_lt y) (by decide), UInt8.toNat_ofNat', Nat.mod_eq_of_lt (Nat.xor_lt_two_pow (n := 8) (UInt8.toNat_lt y) (by decide))]
theorem own_turn6 {w : World} {base g n cap k : Nat} {ys : List UInt8} (h : w.ownsRow base 5 1 (.slice (some ⟨g, 0, none⟩) n cap) n (ys.map bV)) (hk : k < ys.length) :
    w.cell? ⟨g, k, none⟩ = some (.int .u8 ((ys[k].toNat : Nat) : Int)) ∧ w.frozen? ⟨g, k, none⟩ = false ∧
    (w.setCell ⟨g, k, none⟩ (.int .u8 (((UInt8.ofNat (ys[k].toNat ^^^ 255)).toNat : Nat) : Int))).ownsRow base 5 1 (.slice (some ⟨g, 0, none⟩) n cap) n ((ys.set k (UInt8.ofNat (ys[k].toNat ^^^ 255))).map bV) := by
  have hn := own_len h
  rw [List.length_map] at hn
  refine ⟨?_, h.frozenAt k, ?_⟩
  · rw [h.cellAt k (by omega), List.getElem?_map, List.getElem?_eq_getElem hk]
    rfl
  · rw [List.map_set]
    exact (h.stored k _).1
theorem cut_to (g L cap M : Nat) (hM : M ≤ cap) (hc : cap ≠ 0) (w : World) : (Instr.sliceAt 44 (.slice (some ⟨g, 0, none⟩) L cap) none (some (.int .i64 (M : Int))) none).run Try.prog w = .ok (.slice (some ⟨g, 0, none⟩) M cap) w := by
  have h1 : (0 : Int) ≤ (M : Int) ∧ (M : Int) ≤ (cap : Int) := by omega
  have hs : (sizeOf 3).run Try.prog w = .ok 1 w := by kernel_rfl
  simp [Instr.sliceAt, Instr.slice, Instr.sliceBounds, Instr.sliceBound, run_underlying Try.underlying44, asIntOf, hM, hs, Addr.add, Result.andThen]
/-- The times ahead of the one more that was laid behind them. -/
theorem cut_one {w : World} {base g cap : Nat} {l : List Int} {X : Int} (h : w.ownsRow base 3 1 (.slice (some ⟨g, 0, none⟩) (l.length + 1) cap) (l ++ [X]).length ((l ++ [X]).map (Value.int .i64))) :
    (∀ W, (Instr.sliceAt 44 (.slice (some ⟨g, 0, none⟩) (l.length + 1) cap) none (some (.int .i64 (l.length : Int))) none).run Try.prog W = .ok (.slice (some ⟨g, 0, none⟩) l.length cap) W) := by
  have hlen : (l ++ [X]).length = l.length + 1 := by simp
  rw [hlen] at h
  rcases h.2 with ⟨e, _⟩ | ⟨g', cap', cur, hv, _, _, hcap, _⟩
  · cases e
  · cases hv
    exact fun W => cut_to g (l.length + 1) cap l.length (by omega) (by omega) W
theorem cut_src {w : World} {base g cap : Nat} {l : List Int} {X : Int} (h : w.ownsRow base 3 1 (.slice (some ⟨g, 0, none⟩) (l.length + 1) cap) (l ++ [X]).length ((l ++ [X]).map (Value.int .i64))) :
    SrcOf w (.slice (some ⟨g, 0, none⟩) l.length cap) (l.map (Value.int .i64)) ∧ w.cell? ⟨g, l.length, none⟩ = some (.int .i64 X) := by
  have hc := src_cells (own_src h)
  refine ⟨.inr ⟨⟨g, 0, none⟩, cap, by rw [List.length_map], fun j u hu => ?_⟩, ?_⟩
  · have hj : j < l.length := by
      have := (List.getElem?_eq_some_iff.1 hu).1
      rwa [List.length_map] at this
    rw [add_none]
    refine hc j u ?_
    rw [List.map_append, List.getElem?_append_left (by rw [List.length_map]; exact hj)]
    exact hu
  · have := hc l.length (.int .i64 X) (by rw [List.map_append, List.getElem?_append_right (by rw [List.length_map]; exact Nat.le_refl _)]; simp)
    rw [Nat.zero_add] at this
    exact this

theorem ints_one (l : List Int) : ∀ u ∈ l.map (Value.int .i64), u.oneCell' = true := by
  intro u hu
  obtain ⟨x, _, rfl⟩ := List.mem_map.1 hu
  rfl

theorem wrap_is (x : Int) : IntKind.i64.wrap x = wrap64 x := Go.IntWalk.i64_left x
theorem one_len (X : Int) (k : Nat) (h : k = 0) : ([] ++ [X] : List Int).length = k + 1 := by subst h; rfl
theorem one_get (X : Int) (k : Nat) (h : k = 0) : ([] ++ [X] : List Int).getD (k + 1 - 1) 0 = X := by subst h; rfl
theorem snoc_len (acc : List Int) (Y : Int) (k : Nat) (h : acc.length = k) : (acc ++ [Y]).length = k + 1 := by rw [List.length_append, h]; rfl
theorem snoc_get (acc : List Int) (Y : Int) (k : Nat) (h : acc.length = k) : (acc ++ [Y]).getD (k + 1 - 1) 0 = Y := by
  subst h
  rw [List.getD_eq_getElem?_getD, Nat.add_sub_cancel]
  simp

end Go.Proofs.Ytbhpmeeknbbmmaa

/-
  Rows of samples: two numbers each.
-/
namespace Go.Proofs.Ytbhpmeeknbbmmaa
open Go.RowKit Go.Proofs.Lys
set_option linter.unusedVariables false

theorem Try.infoS : (Try.prog.info? 42).map (fun i => (i.zero, i.size, i.bytes)) = some (some (.agg #[.int .i64 0, .int .i64 0]), 2, 16) := by kernel_rfl
/-- Samples, cell by cell. -/
def smpL : List (Int × Int) → List Value
  | [] => []
  | p :: r => .int .i64 p.1 :: .int .i64 p.2 :: smpL r
theorem smpL_len (l : List (Int × Int)) : (smpL l).length = l.length * 2 := by
  induction l with
  | nil => rfl
  | cons p r ih => rw [smpL, List.length_cons, List.length_cons, ih, List.length_cons]; omega
theorem smpL_app (l r : List (Int × Int)) : smpL (l ++ r) = smpL l ++ smpL r := by
  induction l with
  | nil => rfl
  | cons p l ih => rw [List.cons_append, smpL, ih, smpL]; rfl
theorem smpL_at (l : List (Int × Int)) (i : Nat) (h : i < l.length) : (smpL l)[i * 2]? = some (.int .i64 l[i].1) ∧ (smpL l)[i * 2 + 1]? = some (.int .i64 l[i].2) := by
  induction l generalizing i with
  | nil => simp at h
  | cons p r ih =>
    cases i with
    | zero => exact ⟨rfl, rfl⟩
    | succ i =>
      have := ih i (by simpa using h)
      rw [show (i + 1) * 2 = i * 2 + 2 by omega]
      exact this

/-- Samples that are read. -/
def SmpSrc (w : World) (v : Value) (l : List (Int × Int)) : Prop :=
  (∃ a c, v = .slice a 0 c ∧ l = []) ∨
  (0 < l.length ∧ ∃ b o c, v = .slice (some ⟨b, o, none⟩) l.length c ∧ ∀ i (hi : i < l.length), w.cell? ⟨b, o + i * 2, none⟩ = some (.int .i64 l[i].1) ∧ w.cell? ⟨b, o + i * 2 + 1, none⟩ = some (.int .i64 l[i].2))
theorem SmpSrc.len {w : World} {v : Value} {l : List (Int × Int)} (h : SmpSrc w v l) : ∃ a c, v = .slice a l.length c := by
  rcases h with ⟨a, c, rfl, rfl⟩ | ⟨_, b, o, c, rfl, _⟩
  · exact ⟨a, c, rfl⟩
  · exact ⟨_, c, rfl⟩
theorem SmpSrc.stay {w W : World} {v : Value} {l : List (Int × Int)} (h : SmpSrc w v l) (k : Kept w W) : SmpSrc W v l := by
  have each : ∀ a u, w.cell? a = some u → W.cell? a = some u := fun a u hc => by
    rw [World.cell?_of_block (w := w) (w' := W) (a := a) (k.block a.block (World.block_lt_of_cell? w a hc) (fun f => f))]
    exact hc
  rcases h with h | ⟨h0, b, o, c, rfl, hc⟩
  · exact .inl h
  · exact .inr ⟨h0, b, o, c, rfl, fun i hi => ⟨each _ _ (hc i hi).1, each _ _ (hc i hi).2⟩⟩

theorem smpL_one (l : List (Int × Int)) : ∀ u ∈ smpL l, u.oneCell' = true := by
  induction l with
  | nil => intro u hu; cases hu
  | cons p r ih =>
    intro u hu
    rw [smpL] at hu
    simp only [List.mem_cons] at hu
    rcases hu with rfl | rfl | hu
    · rfl
    · rfl
    · exact ih u hu

section
variable {w w' : World} {base : Nat} {e : TypeId} {z : Nat} {v : Value} {n : Nat} {xs : List Value}
theorem ownN_slice (h : w.ownsRow base e z v n xs) : ∃ a cap, v = .slice a n cap := by
  rcases h.2 with ⟨rfl, rfl⟩ | ⟨g, cap, cur, rfl, _⟩
  · exact ⟨none, 0, rfl⟩
  · exact ⟨_, cap, rfl⟩
theorem ownN_some (h : w.ownsRow base e z v n xs) (h0 : 0 < n) : ∃ g cap, v = .slice (some ⟨g, 0, none⟩) n cap := by
  rcases h.2 with ⟨rfl, rfl⟩ | ⟨g, cap, cur, rfl, _⟩
  · omega
  · exact ⟨g, cap, rfl⟩
theorem ownN_block (h : w.ownsRow base e z v n xs) (hk : ∀ k, v.ownBlock = some k → w'.heap[k]? = w.heap[k]?) : w'.ownsRow base e z v n xs := by
  rcases h with ⟨hl, hn | ⟨g, cap, cur, rfl, hb, hg, rest⟩⟩
  · exact ⟨hl, .inl hn⟩
  · exact ⟨hl, .inr ⟨g, cap, cur, rfl, hb, (hk g rfl).trans hg, rest⟩⟩
theorem ownN_typed (h : w.ownsRow base e z v n xs) {k : Nat} (hk : v.ownBlock = some k) : Typed w k e := by
  rcases h.2 with ⟨rfl, _⟩ | ⟨g, cap, cur, rfl, hb, hg, _⟩
  · cases hk
  · have : g = k := by simpa [Value.ownBlock] using hk
    subst this
    exact ⟨_, _, hg⟩
theorem ownN_lt (h : w.ownsRow base e z v n xs) {k : Nat} (hk : v.ownBlock = some k) : base ≤ k ∧ k < w.heap.size := by
  rcases h.2 with ⟨rfl, _⟩ | ⟨g, cap, cur, rfl, hb, hg, _⟩
  · cases hk
  · have : g = k := by simpa [Value.ownBlock] using hk
    subst this
    exact ⟨hb, (Array.getElem?_eq_some_iff.1 hg).1⟩
theorem ownN_only {O : Nat → Prop} (h : w.ownsRow base e z v n xs) (k : Only O w w') (hO : ∀ b, v.ownBlock = some b → ¬ O b) : w'.ownsRow base e z v n xs :=
  ownN_block h (fun b hb => k.block b ((ownN_lt h hb).2) (hO b hb))
theorem ownN_stay (h : w.ownsRow base e z v n xs) (k : Kept w w') : w'.ownsRow base e z v n xs := ownN_only h k (fun _ _ f => f)
theorem ownN_base (h : w.ownsRow base e z v n xs) {b' : Nat} (hb : b' ≤ base) : w.ownsRow b' e z v n xs := by
  rcases h with ⟨hl, hn | ⟨g, cap, cur, rfl, hb', hg, rest⟩⟩
  · exact ⟨hl, .inl hn⟩
  · exact ⟨hl, .inr ⟨g, cap, cur, rfl, Nat.le_trans hb hb', hg, rest⟩⟩
end

/-- A row of samples that is owned. -/
abbrev SmpAt (w : World) (B : Nat) (v : Value) (l : List (Int × Int)) : Prop := w.ownsRow B 42 2 v l.length (smpL l)

theorem SmpAt.src {w : World} {B : Nat} {v : Value} {l : List (Int × Int)} (h : SmpAt w B v l) : SmpSrc w v l := by
  by_cases h0 : l.length = 0
  · have : l = [] := List.length_eq_zero_iff.1 h0
    subst this
    obtain ⟨a, c, rfl⟩ := ownN_slice h
    exact .inl ⟨a, c, rfl, rfl⟩
  · obtain ⟨g, cap, rfl⟩ := ownN_some h (by omega)
    refine .inr ⟨by omega, g, 0, cap, rfl, fun i hi => ?_⟩
    have hx := smpL_at l i hi
    rw [Nat.zero_add]
    exact ⟨by rw [h.cellAt (i * 2) (by omega)]; exact hx.1, by rw [h.cellAt (i * 2 + 1) (by omega)]; exact hx.2⟩

/-- What samples that are read append to a row of samples. -/
theorem smp_append {w : World} {B : Nat} {v xv : Value} {l q : List (Int × Int)} (hown : SmpAt w B v l) (hsrc : SmpSrc w xv q) (hl : l.length + q.length ≤ 1000000) (hB : B ≤ w.heap.size) :
    ∃ v' w', (Builtin.append_ #[22, 22] 0 #[v, xv]).run Try.prog w = .ok v' w' ∧ SmpAt w' B v' (l ++ q) ∧ w.grownBy w' v.ownBlock ∧ (v'.ownBlock = v.ownBlock ∨ v'.ownBlock = some w.heap.size) := by
  obtain ⟨i0, hi0, hz0, hz1, hz2⟩ := info_parts Try.infoS
  have hm : l.length + q.length ≤ maxLen := by unfold maxLen; omega
  have ht := Try.underlying22
  have hll : (l ++ q).length = l.length + q.length := List.length_append
  have main : ∀ (a : Addr) (c : Nat), xv = .slice (some a) q.length c → (∀ j u, (smpL q)[j]? = some u → w.cell? (a.add j) = some u) → ∃ v' w', (Builtin.append_ #[22, 22] 0 #[v, xv]).run Try.prog w = .ok v' w' ∧ SmpAt w' B v' (l ++ q) ∧ w.grownBy w' v.ownBlock ∧ (v'.ownBlock = v.ownBlock ∨ v'.ownBlock = some w.heap.size) := by
    intro a c e hc
    subst e
    obtain ⟨v', w', hr, h2, h3, _, h5⟩ := run_append_own_at (P := Try.prog) w B _ 0 _ i0 _ 2 16 ht hi0 hz0 hz1 hz2 rfl (by decide) v l.length (smpL l) hown a q.length c (smpL q) (smpL_len q)
      hc (smpL_one q) hm (by omega) hB
    refine ⟨v', w', hr, ?_, h3, h5⟩
    unfold SmpAt
    rw [hll, smpL_app]
    exact h2
  rcases hsrc with ⟨a, c, rfl, rfl⟩ | ⟨h0, b, o, c, rfl, hc⟩
  · cases a with
    | none =>
      refine ⟨v, w, ?_, by rw [List.append_nil]; exact hown, World.grownBy.refl _ _, .inl rfl⟩
      rcases hown.2 with ⟨rfl, h0⟩ | ⟨g, cap, cur, rfl, hbg, hg, hnc, hcm, hcs, htake⟩
      · simp [Builtin.append_, run_underlying ht, sizeOf, typeInfo, hi0, Builtin.lenOf, Builtin.firstCells]
      · simp [Builtin.append_, run_underlying ht, sizeOf, typeInfo, hi0, Builtin.lenOf, Builtin.firstCells, hnc, storeCells]
    | some a => exact main a c rfl (fun j u hu => by simp [smpL] at hu)
  · refine main _ c rfl (fun j u hu => ?_)
    rw [add_none]
    have hj : j < (smpL q).length := (List.getElem?_eq_some_iff.1 hu).1
    rw [smpL_len] at hj
    have hx := smpL_at q (j / 2) (by omega)
    have hcc := hc (j / 2) (by omega)
    rcases Nat.mod_two_eq_zero_or_one j with hp | hp
    · have ej : j = j / 2 * 2 := by omega
      rw [ej] at hu ⊢
      rw [hx.1] at hu
      cases hu
      exact hcc.1
    · have ej : j = j / 2 * 2 + 1 := by omega
      rw [ej] at hu ⊢
      rw [hx.2] at hu
      cases hu
      rw [← Nat.add_assoc]
      exact hcc.2

/-- A sample that was laid just now. -/
theorem smp_lit (w : World) (p : Int × Int) : SmpSrc (w.alloc (.cells #[.int .i64 p.1, .int .i64 p.2] 42)) (.slice (some ⟨w.heap.size, 0, none⟩) 1 1) [p] := by
  have hb := Blk.new w [.int .i64 p.1, .int .i64 p.2] 42
  refine .inr ⟨by simp, w.heap.size, 0, 1, rfl, fun i hi => ?_⟩
  have : i = 0 := by simpa using hi
  subst this
  exact ⟨hb.cell 0 rfl, hb.cell 1 rfl⟩

/-- A row grows by a sample. -/
theorem smp_step {w0 w : World} {v : Value} {l : List (Int × Int)} (hown : SmpAt w w0.heap.size v l) (hk : Kept w0 w) (p : Int × Int) (hl : l.length < 1000000) :
    ∃ g cap w', Hid ((Builtin.append_ #[22, 22] 0 #[v, .slice (some ⟨w.heap.size, 0, none⟩) 1 1]).run Try.prog (w.alloc (.cells #[.int .i64 p.1, .int .i64 p.2] 42)) = .ok (.slice (some ⟨g, 0, none⟩) (l.length + 1) cap) w') ∧ SmpAt w' w0.heap.size (.slice (some ⟨g, 0, none⟩) (l.length + 1) cap) (l ++ [p]) ∧ Kept w0 w' := by
  have k1 : Kept w (w.alloc (.cells #[.int .i64 p.1, .int .i64 p.2] 42)) := (Only.refl _ w).alloc _
  obtain ⟨v', w', hr, h1, h2, h3⟩ := smp_append (ownN_stay hown k1) (smp_lit w p) (by simp; omega) (Nat.le_trans hk.size k1.size)
  obtain ⟨g, cap, rfl⟩ := ownN_some h1 (by simp)
  have hn : (l ++ [p]).length = l.length + 1 := by simp
  rw [hn] at hr h1
  refine ⟨g, cap, w', hr, h1, ?_⟩
  · exact (hk.trans k1 (fun _ _ f => f)).grown h2 (fun j hj hlt => by have := (ownN_lt hown hj).1; omega)

theorem SmpSrc.cell {w : World} {a : Option Addr} {c M : Nat} {l : List (Int × Int)} (h : SmpSrc w (.slice a M c) l) (hM : l.length = M) (k : Nat) (hk : k < M) : ∃ b o, a = some ⟨b, o, none⟩ ∧ w.cell? ⟨b, o + k * 2, none⟩ = some (Value.int .i64 (l[k]'(by omega)).1) ∧ w.cell? ⟨b, o + k * 2 + 1, none⟩ = some (.int .i64 (l[k]'(by omega)).2) := by
  rcases h with ⟨a, c, e, e2⟩ | ⟨hpos, b, o, c, e1, hc⟩
  · subst e2
    simp at hM
    omega
  · rw [hM] at e1
    cases e1
    exact ⟨b, o, rfl, (hc k (by omega)).1, (hc k (by omega)).2⟩

theorem smp_copy {w : World} {xv : Value} {q : List (Int × Int)} (hsrc : SmpSrc w xv q) (hl : q.length ≤ 100000) :
    ∃ a cap w', Hid ((Builtin.append_ #[22, 22] 0 #[.slice none 0 0, xv]).run Try.prog w = .ok (.slice a q.length cap) w') ∧ SmpAt w' w.heap.size (.slice a q.length cap) q ∧ Kept w w' := by
  obtain ⟨v', w', hr, h1, h2, h3⟩ := smp_append (w := w) (B := w.heap.size) (v := .slice none 0 0) (l := []) ⟨rfl, .inl ⟨rfl, rfl⟩⟩ hsrc (by simp; omega) (Nat.le_refl _)
  rw [List.nil_append] at h1
  obtain ⟨a, cap, rfl⟩ := ownN_slice h1
  exact ⟨a, cap, w', hr, h1, (Only.refl _ w).grown h2 (fun j hj => by cases hj)⟩

end Go.Proofs.Ytbhpmeeknbbmmaa

/-
  Rising times as bits: what is told of each is how its distance has changed. No program is named here.
-/
namespace Go.Proofs.Ytbhpmeeknbbmmaa.S
open Go.RowKit Go.Proofs.Lys
set_option linter.unusedVariables false

/-- The bits of a change of each width, and what is added to it. -/
def wb : Nat → Nat
  | 0 => 0
  | 1 => 7
  | 2 => 9
  | 3 => 12
  | _ => 64
def ws : Nat → Int
  | 0 => 0
  | 1 => 63
  | 2 => 255
  | 3 => 2047
  | _ => 0
def mkB (k : Nat) : List Bool := List.replicate k true ++ (if k < 4 then [false] else [])
def wk (e : Int) : Nat := if e = 0 then 0 else if -63 ≤ e ∧ e ≤ 64 then 1 else if -255 ≤ e ∧ e ≤ 256 then 2 else if -2047 ≤ e ∧ e ≤ 2048 then 3 else 4
theorem wk_le (e : Int) : wk e ≤ 4 := by
  unfold wk
  repeat' split
  all_goals omega
def encE (e : Int) : List Bool := mkB (wk e) ++ bitsL (uN (e + ws (wk e))) (wb (wk e))
theorem encE_length (e : Int) : (encE e).length ≤ 68 := by
  unfold encE wk
  repeat' split
  all_goals simp [mkB, wb, bitsL_length]

/-- The bits of times behind one, with the distance ahead of it. -/
def encT : Int → Int → List Int → List Bool
  | _, _, [] => []
  | p, g, t :: r => encE (t - p - g) ++ encT t (t - p) r
theorem encT_length (r : List Int) : ∀ p g, (encT p g r).length ≤ 68 * r.length := by
  induction r with
  | nil => intro p g; simp [encT]
  | cons t r ih =>
    intro p g
    simp only [encT, List.length_append, List.length_cons]
    have := ih t (t - p)
    have := encE_length (t - p - g)
    omega
/-- The bits of times. -/
def allB : List Int → List Bool
  | [] => []
  | t :: r => bitsL (uN t) 64 ++ encT t 0 r
theorem allB_length (l : List Int) : (allB l).length ≤ 68 * l.length := by
  cases l with
  | nil => simp [allB]
  | cons t r =>
    simp only [allB, List.length_append, bitsL_length, List.length_cons]
    have := encT_length r t 0
    omega

/-- Times that are in their bounds, each above the one ahead. -/
def Rising (l : List Int) : Prop := ∀ i (h : i < l.length), -9007199254740992 ≤ l[i] ∧ l[i] ≤ 9007199254740992 ∧ (0 < i → l[i - 1] < l[i])
theorem Rising.at {l : List Int} (h : Rising l) {i : Nat} (hi : i < l.length) : -9007199254740992 ≤ l[i] ∧ l[i] ≤ 9007199254740992 := ⟨(h i hi).1, (h i hi).2.1⟩
def rise : Int → List Int → Prop
  | _, [] => True
  | p, t :: r => p < t ∧ t ≤ 9007199254740992 ∧ rise t r
theorem rise_of {l : List Int} (h : Rising l) : ∀ k i (hi : i < l.length), l.length = i + 1 + k → rise l[i] (l.drop (i + 1)) := by
  intro k
  induction k with
  | zero =>
    intro i hi e
    rw [List.drop_eq_nil_of_le (by omega)]
    trivial
  | succ k ih =>
    intro i hi e
    have hj : i + 1 < l.length := by omega
    rw [List.drop_eq_getElem_cons hj]
    have := h (i + 1) hj
    exact ⟨by simpa using this.2.2 (by omega), this.2.1, ih (i + 1) hj (by omega)⟩

/-- The next bits as a number, and what is left. -/
def getR (l : List Bool) (N : Nat) : Option (Int × List Bool) := if N ≤ l.length then some (wrap64 ((valL (l.take N) : Nat) : Int), l.drop N) else none
/-- How many ones there are, up to so many; a nought behind them is taken, too. -/
def onesR : Nat → List Bool → Option (Nat × List Bool)
  | 0, l => some (0, l)
  | _ + 1, [] => none
  | _ + 1, false :: l => some (0, l)
  | f + 1, true :: l => (onesR f l).map (fun x => (x.1 + 1, x.2))
def chgR (l : List Bool) : Option (Int × List Bool) := (onesR 4 l).bind fun x => (getR x.2 (wb x.1)).map fun y => (wrap64 (y.1 - ws x.1), y.2)
/-- So many times of bits: the distance and the time ahead, the times that are read. -/
def readT : Nat → List Bool → Int → Int → List Int → Option (List Int)
  | 0, _, _, _, acc => some acc
  | n + 1, l, g, p, acc =>
    if acc = [] then (getR l 64).bind fun x => readT n x.2 g x.1 (acc ++ [x.1])
    else (chgR l).bind fun x => readT n x.2 (wrap64 (g + x.1)) (wrap64 (p + wrap64 (g + x.1))) (acc ++ [wrap64 (p + wrap64 (g + x.1))])

theorem getR_bits (u : Nat) (n : Nat) (R : List Bool) : getR (bitsL u n ++ R) n = some (wrap64 ((u % 2 ^ n : Nat) : Int), R) := by
  unfold getR
  have e : (bitsL u n ++ R).take n = bitsL u n := by
    rw [List.take_append_of_le_length (by rw [bitsL_length]; exact Nat.le_refl _)]
    exact List.take_of_length_le (by rw [bitsL_length]; exact Nat.le_refl _)
  have e2 : (bitsL u n ++ R).drop n = R := by
    rw [List.drop_append_of_le_length (by rw [bitsL_length]; exact Nat.le_refl _), List.drop_eq_nil_of_le (by rw [bitsL_length]; exact Nat.le_refl _)]
    rfl
  rw [if_pos (by rw [List.length_append, bitsL_length]; omega), e, e2, valL_bits]
theorem uN_small (x : Int) (n : Nat) (h0 : 0 ≤ x) (h1 : x < 2 ^ n) (hn : n ≤ 63) : wrap64 ((uN x % 2 ^ n : Nat) : Int) = x := by
  have hq : (2 : Nat) ^ n ≤ 2 ^ 63 := Nat.pow_le_pow_right (by decide) hn
  have hp : (2 : Int) ^ n ≤ 2 ^ 63 := by exact_mod_cast hq
  have hp2 : (2 : Int) ^ 63 = 9223372036854775808 := by decide
  have e : uN x = x.toNat := by
    unfold uN
    rw [Int.emod_eq_of_lt h0 (by omega)]
  have e2 : x.toNat < 2 ^ n := by
    have : ((2 ^ n : Nat) : Int) = 2 ^ n := by norm_cast
    omega
  rw [e, Nat.mod_eq_of_lt e2]
  unfold wrap64
  omega
theorem uN_whole (x : Int) (h0 : -9223372036854775808 ≤ x) (h1 : x ≤ 9223372036854775807) : wrap64 ((uN x % 2 ^ 64 : Nat) : Int) = x := by
  have h := uN_lt x
  rw [Nat.mod_eq_of_lt h]
  unfold uN wrap64
  omega
theorem onesR_mk (k : Nat) (hk : k ≤ 4) (R : List Bool) : onesR 4 (mkB k ++ R) = some (k, R) := by
  rcases k with _ | _ | _ | _ | _ | k
  · rfl
  · rfl
  · rfl
  · rfl
  · rfl
  · omega
theorem chgR_enc (e : Int) (R : List Bool) (h0 : -1000000000000000000 ≤ e) (h1 : e ≤ 1000000000000000000) : chgR (encE e ++ R) = some (e, R) := by
  unfold chgR encE
  rw [List.append_assoc, onesR_mk _ (wk_le e)]
  simp only [Option.bind_some, getR_bits, Option.map_some]
  have key : wrap64 (wrap64 ((uN (e + ws (wk e)) % 2 ^ wb (wk e) : Nat) : Int) - ws (wk e)) = e := by
    unfold wk
    split
    · rename_i h; subst h; decide +kernel
    · split
      · simp only [ws, wb]
        rw [uN_small _ 7 (by omega) (by omega) (by decide)]
        unfold wrap64; omega
      · split
        · simp only [ws, wb]
          rw [uN_small _ 9 (by omega) (by omega) (by decide)]
          unfold wrap64; omega
        · split
          · simp only [ws, wb]
            rw [uN_small _ 12 (by omega) (by omega) (by decide)]
            unfold wrap64; omega
          · simp only [ws, wb]
            rw [uN_whole _ (by omega) (by omega)]
            unfold wrap64; omega
  rw [key]

/-- What was told is read again. -/
theorem readT_enc (r : List Int) : ∀ (p g : Int) (Z : List Bool) (acc : List Int), acc ≠ [] → rise p r → -9007199254740992 ≤ p → p ≤ 9007199254740992 → -18014398509481984 ≤ g → g ≤ 18014398509481984 →
    readT r.length (encT p g r ++ Z) g p acc = some (acc ++ r) := by
  induction r with
  | nil => intro p g Z acc _ _ _ _ _ _; simp [readT]
  | cons t r ih =>
    intro p g Z acc ha hr h1 h2 h3 h4
    obtain ⟨hr1, hr2, hr3⟩ := hr
    simp only [readT, encT, List.length_cons, List.append_assoc]
    rw [if_neg ha, chgR_enc _ _ (by omega) (by omega)]
    have e1 : wrap64 (g + (t - p - g)) = t - p := by unfold wrap64; omega
    have e2 : wrap64 (p + (t - p)) = t := by unfold wrap64; omega
    simp only [Option.bind_some, e1, e2]
    rw [ih t (t - p) Z (acc ++ [t]) (by simp) hr3 (by omega) hr2 (by omega) (by omega)]
    simp
theorem readT_all {l : List Int} (h : Rising l) (Z : List Bool) : readT l.length (allB l ++ Z) 0 0 [] = some l := by
  cases l with
  | nil => simp [readT]
  | cons t r =>
    have h0 := h.at (i := 0) (by simp)
    have hr := rise_of h r.length 0 (by simp) (by simp; omega)
    simp only [List.getElem_cons_zero, Nat.zero_add, List.drop_succ_cons, List.drop_zero] at h0 hr
    simp only [readT, allB, List.length_cons, List.append_assoc]
    rw [if_pos trivial, getR_bits, uN_whole _ (by omega) (by omega)]
    simp only [Option.bind_some, List.nil_append]
    exact readT_enc r t 0 Z [t] (by simp) hr h0.1 h0.2 (by omega) (by omega)

/-- What the bytes of times are, and what bytes are as times. -/
def Packs (l : List Int) (bs : List UInt8) (x : Int) : Prop :=
  (120 < l.length ∧ bs = [] ∧ x = 2) ∨ (l.length ≤ 120 ∧ ¬ Rising l ∧ bs = [] ∧ x = 21) ∨ (l.length ≤ 120 ∧ Rising l ∧ bs = packL (allB l) ∧ x = 0)
def Reads (bs : List UInt8) (n : Int) (l : List Int) (x : Int) : Prop :=
  (120 < n ∧ l = [] ∧ x = 2) ∨ (n < 0 ∧ l = [] ∧ x = 1) ∨
  (0 ≤ n ∧ n ≤ 120 ∧ ((readT n.toNat (unpackL bs) 0 0 [] = none ∧ l = [] ∧ x = 5) ∨
    ∃ m, readT n.toNat (unpackL bs) 0 0 [] = some m ∧ ((¬ Packs m bs 0 ∧ l = [] ∧ x = 5) ∨ (Packs m bs 0 ∧ l = m ∧ x = 0))))
theorem Packs.inj {l : List Int} {bs bs' : List UInt8} {x x' : Int} (h : Packs l bs x) (h' : Packs l bs' x') : bs = bs' ∧ x = x' := by
  rcases h with ⟨h1, h2, h3⟩ | ⟨h0, h1, h2, h3⟩ | ⟨h0, h1, h2, h3⟩ <;> rcases h' with ⟨k1, k2, k3⟩ | ⟨k0, k1, k2, k3⟩ | ⟨k0, k1, k2, k3⟩ <;> first | omega | (subst h2; subst k2; subst h3; subst k3; exact ⟨rfl, rfl⟩) | exact absurd h1 k1 | exact absurd k1 h1
theorem Reads.inj {bs : List UInt8} {n : Int} {l l' : List Int} {x x' : Int} (h : Reads bs n l x) (h' : Reads bs n l' x') : l = l' ∧ x = x' := by
  rcases h with ⟨h1, h2, h3⟩ | ⟨h1, h2, h3⟩ | ⟨h0, h1, ⟨h4, h2, h3⟩ | ⟨m, hm, ⟨h4, h2, h3⟩ | ⟨h4, h2, h3⟩⟩⟩ <;>
    rcases h' with ⟨k1, k2, k3⟩ | ⟨k1, k2, k3⟩ | ⟨k0, k1, ⟨k4, k2, k3⟩ | ⟨m', km, ⟨k4, k2, k3⟩ | ⟨k4, k2, k3⟩⟩⟩ <;>
    first
    | omega
    | (subst h2; subst k2; subst h3; subst k3; exact ⟨rfl, rfl⟩)
    | (rw [h4] at km; cases km)
    | (rw [k4] at hm; cases hm)
    | (rw [hm] at km; cases km; first | exact absurd h4 k4 | exact absurd k4 h4 | (subst h2; subst k2; subst h3; subst k3; exact ⟨rfl, rfl⟩))
/-- What is packed is read again. -/
theorem reads_packs {l : List Int} {bs : List UInt8} (h : Packs l bs 0) : Reads bs (l.length : Int) l 0 := by
  have h' := h
  rcases h with ⟨h1, h2, h3⟩ | ⟨h0, h1, h2, h3⟩ | ⟨h0, h1, h2, h3⟩
  · omega
  · omega
  · obtain ⟨z, hz, e⟩ := unpack_pack (allB l)
    refine .inr (.inr ⟨by omega, by omega, .inr ⟨l, ?_, .inr ⟨h', rfl, rfl⟩⟩⟩)
    rw [h2, e]
    exact readT_all h1 _

/-- Times that go by one step. -/
theorem encT_steady (s : Int) (n : Nat) : ∀ p : Int, (encT p s ((List.range n).map (fun i : Nat => p + s + (i : Int) * s))).length = n := by
  induction n with
  | zero => intro p; rfl
  | succ n ih =>
    intro p
    rw [List.range_succ_eq_map, List.map_cons, List.map_map]
    have e : ((fun i : Nat => p + s + (i : Int) * s) ∘ Nat.succ) = fun i : Nat => (p + s) + s + (i : Int) * s := by
      funext i
      have e5 : ((i.succ : Nat) : Int) * s = (i : Int) * s + s := by
        rw [show ((i.succ : Nat) : Int) = (i : Int) + 1 by omega, Int.add_mul, Int.one_mul]
      show p + s + ((i.succ : Nat) : Int) * s = _
      omega
    rw [e]
    have e3 : p + s + ((0 : Nat) : Int) * s = p + s := by simp
    rw [e3]
    simp only [encT, List.length_append]
    have e2 : p + s - p = s := by omega
    rw [e2, ih (p + s)]
    have e4 : (encE (s - s)).length = 1 := by
      rw [Int.sub_self]
      decide
    omega
end Go.Proofs.Ytbhpmeeknbbmmaa.S

/-
  Numbers in few bytes: plain functions. No program is named here.
-/
namespace Go.Proofs.Lys
open Go

/-- The bytes of a number: seven bits a byte, the lowest first; the first number is more than the bytes that are written. -/
def putF : Nat → Nat → List UInt8
  | 0, n => [UInt8.ofNat n]
  | f + 1, n => if n < 128 then [UInt8.ofNat n] else UInt8.ofNat (n % 128 + 128) :: putF f (n / 128)
theorem putF_any (f : Nat) : ∀ (g n : Nat), n ≤ f → n ≤ g → putF f n = putF g n := by
  induction f with
  | zero =>
    intro g n h _
    have : n = 0 := by omega
    subst this
    cases g <;> rfl
  | succ f ih =>
    intro g n h h'
    by_cases hn : n < 128
    · cases g with
      | zero => simp only [putF, if_pos hn]
      | succ g => simp only [putF, if_pos hn]
    · cases g with
      | zero => omega
      | succ g =>
        simp only [putF, if_neg hn]
        rw [ih g (n / 128) (by omega) (by omega)]
def putN (n : Nat) : List UInt8 := putF n n
theorem putN_eq (n : Nat) : putN n = if n < 128 then [UInt8.ofNat n] else UInt8.ofNat (n % 128 + 128) :: putN (n / 128) := by
  cases n with
  | zero => rfl
  | succ m =>
    unfold putN
    simp only [putF]
    by_cases hn : m + 1 < 128
    · rw [if_pos hn, if_pos hn]
    · rw [if_neg hn, if_neg hn, putF_any m ((m + 1) / 128) ((m + 1) / 128) (by omega) (Nat.le_refl _)]

theorem putN_small {n : Nat} (h : n < 128) : putN n = [UInt8.ofNat n] := by
  rw [putN_eq, if_pos h]
theorem putN_big {n : Nat} (h : 128 ≤ n) : putN n = UInt8.ofNat (n % 128 + 128) :: putN (n / 128) := by
  rw [putN_eq, if_neg (by omega)]
theorem putN_pos (n : Nat) : 0 < (putN n).length := by
  rw [putN_eq]
  split <;> simp
theorem putN_len : ∀ (k n : Nat), 0 < k → n < 128 ^ k → (putN n).length ≤ k := by
  intro k
  induction k with
  | zero => intro n h; omega
  | succ k ih =>
    intro n _ hn
    by_cases h : n < 128
    · rw [putN_small h]
      simp
    · rw [putN_big (by omega)]
      have hk : 0 < k := by
        rcases Nat.eq_zero_or_pos k with rfl | h0
        · simp at hn
          omega
        · exact h0
      have := ih (n / 128) hk (by
        rw [Nat.pow_succ] at hn
        exact Nat.div_lt_of_lt_mul (by rw [Nat.mul_comm]; exact hn))
      simp
      exact this
theorem putN_ten {n : Nat} (h : n < 18446744073709551616) : (putN n).length ≤ 10 := putN_len 10 n (by decide) (Nat.lt_trans h (by decide))
theorem putN_parts (n : Nat) : ∃ ini c, putN n = ini ++ [c] ∧ c.toNat < 128 ∧ ∀ x ∈ ini, 128 ≤ x.toNat := by
  induction n using Nat.strongRecOn with
  | _ n ih =>
    by_cases h : n < 128
    · exact ⟨[], UInt8.ofNat n, putN_small h, by rw [UInt8.toNat_ofNat']; omega, by simp⟩
    · obtain ⟨ini, c, h1, h2, h3⟩ := ih (n / 128) (by omega)
      refine ⟨UInt8.ofNat (n % 128 + 128) :: ini, c, by rw [putN_big (by omega), h1]; rfl, h2, ?_⟩
      intro x hx
      rcases List.mem_cons.1 hx with rfl | hx
      · rw [UInt8.toNat_ofNat']
        omega
      · exact h3 x hx

/-- What stands at the beginning of bytes: the number, how many bytes it has, what is wrong. -/
def getA : List UInt8 → Nat → Nat → Nat × Nat × Nat
  | [], _, _ => (0, 0, 5)
  | c :: t, i, n =>
    if 10 ≤ i ∨ (i = 9 ∧ 1 < c.toNat % 128) then (0, 0, 5)
    else if 128 ≤ c.toNat then getA t (i + 1) (n + c.toNat % 128 * 2 ^ (7 * i))
    else if c.toNat = 0 ∧ 0 < i then (0, 0, 5)
    else (n + c.toNat % 128 * 2 ^ (7 * i), i + 1, 0)

section
variable {c : UInt8} {t : List UInt8} {i n : Nat}
theorem getA_over (h : 10 ≤ i ∨ (i = 9 ∧ 1 < c.toNat % 128)) : getA (c :: t) i n = (0, 0, 5) := by
  rw [getA, if_pos h]
theorem getA_go (h : i ≤ 9) (h1 : i = 9 → c.toNat % 128 ≤ 1) (h2 : 128 ≤ c.toNat) : getA (c :: t) i n = getA t (i + 1) (n + c.toNat % 128 * 2 ^ (7 * i)) := by
  rw [getA, if_neg (by omega), if_pos h2]
theorem getA_nought (h : i ≤ 9) (h2 : c.toNat = 0) (h3 : 0 < i) : getA (c :: t) i n = (0, 0, 5) := by
  rw [getA, if_neg (by omega), if_neg (by omega), if_pos ⟨h2, h3⟩]
theorem getA_last (h : i ≤ 9) (h1 : i = 9 → c.toNat % 128 ≤ 1) (h2 : c.toNat < 128) (h3 : c.toNat = 0 → i = 0) : getA (c :: t) i n = (n + c.toNat % 128 * 2 ^ (7 * i), i + 1, 0) := by
  rw [getA, if_neg (by omega), if_neg (by omega), if_neg (by omega)]
end

theorem getA_more (l : List UInt8) : ∀ i n, (∀ x ∈ l, 128 ≤ x.toNat) → getA l i n = (0, 0, 5) := by
  induction l with
  | nil => intro i n _; rfl
  | cons c t ih =>
    intro i n h
    by_cases ho : 10 ≤ i ∨ (i = 9 ∧ 1 < c.toNat % 128)
    · exact getA_over ho
    · rw [getA_go (by omega) (by omega) (h c (by simp))]
      exact ih _ _ (fun x hx => h x (by simp [hx]))
theorem getA_zero (l : List UInt8) : ∀ i n, (∀ x ∈ l, 128 ≤ x.toNat) → 0 < i + l.length → getA (l ++ [0]) i n = (0, 0, 5) := by
  induction l with
  | nil =>
    intro i n _ h
    simp at h
    by_cases ho : 10 ≤ i
    · exact getA_over (.inl ho)
    · exact getA_nought (by omega) rfl h
  | cons c t ih =>
    intro i n h _
    rw [List.cons_append]
    by_cases ho : 10 ≤ i ∨ (i = 9 ∧ 1 < c.toNat % 128)
    · exact getA_over ho
    · rw [getA_go (by omega) (by omega) (h c (by simp))]
      exact ih _ _ (fun x hx => h x (by simp [hx])) (by omega)

theorem pow_ten {i : Nat} (h : 10 ≤ i) : 1180591620717411303424 ≤ 2 ^ (7 * i) := by
  have : (2 : Nat) ^ 70 ≤ 2 ^ (7 * i) := Nat.pow_le_pow_right (by decide) (by omega)
  exact Nat.le_trans (by decide) this
theorem pow_step (i : Nat) : 2 ^ (7 * (i + 1)) = 128 * 2 ^ (7 * i) := by
  rw [show 7 * (i + 1) = 7 + 7 * i by omega, Nat.pow_add]
theorem get_put (u : Nat) : ∀ i acc more, acc + u * 2 ^ (7 * i) < 18446744073709551616 → (i = 0 ∨ 0 < u) → getA (putN u ++ more) i acc = (acc + u * 2 ^ (7 * i), i + (putN u).length, 0) := by
  induction u using Nat.strongRecOn with
  | _ u ih =>
    intro i acc more hb h0
    have hi : i ≤ 9 := by
      rcases h0 with rfl | h0
      · omega
      · by_cases h : 10 ≤ i
        · have h1 := pow_ten h
          have h2 : 1 * 2 ^ (7 * i) ≤ u * 2 ^ (7 * i) := Nat.mul_le_mul_right _ h0
          omega
        · omega
    have h9 : i = 9 → u ≤ 1 := by
      rintro rfl
      rw [show (2 : Nat) ^ (7 * 9) = 9223372036854775808 by decide] at hb
      omega
    by_cases h : u < 128
    · have e : (UInt8.ofNat u).toNat = u := by rw [UInt8.toNat_ofNat']; omega
      rw [putN_small h, List.cons_append, getA_last hi (by rw [e]; omega) (by rw [e]; omega) (by rw [e]; omega), e, Nat.mod_eq_of_lt h]
      rfl
    · have e : (UInt8.ofNat (u % 128 + 128)).toNat = u % 128 + 128 := by rw [UInt8.toNat_ofNat']; omega
      have e2 : (u % 128 + 128) % 128 = u % 128 := by omega
      have e3 : acc + u % 128 * 2 ^ (7 * i) + u / 128 * 2 ^ (7 * (i + 1)) = acc + u * 2 ^ (7 * i) := by
        rw [pow_step, ← Nat.mul_assoc, Nat.add_assoc, ← Nat.add_mul, Nat.mod_add_div' u 128]
      rw [putN_big (by omega), List.cons_append, getA_go hi (by omega) (by rw [e]; omega), e, e2, ih (u / 128) (by omega) (i + 1) _ more (by rw [e3]; exact hb) (.inr (by omega)), e3, List.length_cons]
      congr 2
      omega
theorem get_put0 {u : Nat} (h : u < 18446744073709551616) (more : List UInt8) : getA (putN u ++ more) 0 0 = (u, (putN u).length, 0) := by
  have := get_put u 0 0 more (by simpa using h) (.inl rfl)
  simpa using this

/-- The bits of a byte's piece beside what is there already. -/
theorem or_piece (n p i : Nat) (h : n < 2 ^ (7 * i)) : n ||| p * 2 ^ (7 * i) = n + p * 2 ^ (7 * i) := by
  rw [Nat.or_comm, Nat.mul_comm, ← Nat.two_pow_add_eq_or_of_lt h, Nat.add_comm]
theorem piece_lt {n p i : Nat} (h : n < 2 ^ (7 * i)) (hp : p < 128) : n + p * 2 ^ (7 * i) < 2 ^ (7 * (i + 1)) := by
  rw [pow_step]
  have : p * 2 ^ (7 * i) ≤ 127 * 2 ^ (7 * i) := Nat.mul_le_mul_right _ (by omega)
  omega
theorem piece_word {n p i : Nat} (h : n < 2 ^ (7 * i)) (hp : p < 128) (hi : i ≤ 9) (h9 : i = 9 → p ≤ 1) : n + p * 2 ^ (7 * i) < 18446744073709551616 := by
  by_cases e : i = 9
  · subst e
    have := h9 rfl
    rw [show (2 : Nat) ^ (7 * 9) = 9223372036854775808 by decide] at h ⊢
    omega
  · have h1 := piece_lt h hp
    have h2 : (2 : Nat) ^ (7 * (i + 1)) ≤ 2 ^ 63 := Nat.pow_le_pow_right (by decide) (by omega)
    have h3 : (2 : Nat) ^ 63 = 9223372036854775808 := by decide
    omega
end Go.Proofs.Lys

/-
  Samples as bytes: how many, the packed times, the packed values. No program is named here.
-/
namespace Go.Proofs.Ytbhpmeeknbbmmaa.C
open Go.RowKit Go.Proofs.Lys
set_option linter.unusedVariables false

abbrev Smps := List (Int × Int)
def chunkB (l : Smps) (a c : List UInt8) : List UInt8 := putN l.length ++ (putN a.length ++ (a ++ (putN c.length ++ c)))
/-- What the bytes of samples are. -/
def Packs (l : Smps) (bs : List UInt8) (x : Int) : Prop :=
  (l = [] ∧ bs = [] ∧ x = 1) ∨
  (l ≠ [] ∧ ∃ a e, S.Packs (l.map (·.1)) a e ∧ e ≠ 0 ∧ bs = [] ∧ x = e) ∨
  (l ≠ [] ∧ ∃ a c, S.Packs (l.map (·.1)) a 0 ∧ V.Packs (l.map (·.2)) c 0 ∧ bs = chunkB l a c ∧ x = 0)
theorem Packs.inj {l : Smps} {bs bs' : List UInt8} {x x' : Int} (h : Packs l bs x) (h' : Packs l bs' x') : bs = bs' ∧ x = x' := by
  rcases h with ⟨h1, h2, h3⟩ | ⟨h1, a, e, h2, h3, h4, h5⟩ | ⟨h1, a, c, h2, h3, h4, h5⟩ <;> rcases h' with ⟨k1, k2, k3⟩ | ⟨k1, a', e', k2, k3, k4, k5⟩ | ⟨k1, a', c', k2, k3, k4, k5⟩
  · exact ⟨by rw [h2, k2], by rw [h3, k3]⟩
  · exact absurd h1 k1
  · exact absurd h1 k1
  · exact absurd k1 h1
  · have := h2.inj k2
    exact ⟨by rw [h4, k4], by rw [h5, k5, this.2]⟩
  · exact absurd (h2.inj k2).2 h3
  · exact absurd k1 h1
  · exact absurd (h2.inj k2).2.symm k3
  · have e1 := (h2.inj k2).1
    have e2 := (h3.inj k3).1
    exact ⟨by rw [h4, k4, e1, e2], by rw [h5, k5]⟩
theorem Packs.few {l : Smps} {bs : List UInt8} (h : Packs l bs 0) : 1 ≤ l.length ∧ l.length ≤ 120 := by
  rcases h with ⟨_, _, h3⟩ | ⟨_, a, e, _, h3, _, h5⟩ | ⟨h1, a, c, h2, h3, h4, h5⟩
  · cases h3
  · exact absurd h5.symm h3
  · have h6 : l.length ≠ 0 := fun h => h1 (List.length_eq_zero_iff.1 h)
    rcases h3 with ⟨_, _, h⟩ | ⟨h, _⟩
    · cases h
    · rw [List.length_map] at h
      omega

/-- The bytes that a number tells of, and what is left. -/
def cutR (bs : List UInt8) : Option (List UInt8 × List UInt8) :=
  if (getA bs 0 0).2.2 ≠ 0 ∨ wrap64 ((getA bs 0 0).1 : Int) < 0 ∨ (bs.length : Int) - ((getA bs 0 0).2.1 : Int) < wrap64 ((getA bs 0 0).1 : Int) then none
  else some ((bs.drop (getA bs 0 0).2.1).take (wrap64 ((getA bs 0 0).1 : Int)).toNat, (bs.drop (getA bs 0 0).2.1).drop (wrap64 ((getA bs 0 0).1 : Int)).toNat)
/-- How many samples, the bytes of their times and values, how many bytes in all. -/
def headC (bs : List UInt8) : Option (Nat × List UInt8 × List UInt8 × Nat) :=
  if (getA bs 0 0).2.2 ≠ 0 ∨ wrap64 ((getA bs 0 0).1 : Int) < 1 ∨ 120 < wrap64 ((getA bs 0 0).1 : Int) then none
  else (cutR (bs.drop (getA bs 0 0).2.1)).bind fun a => (cutR a.2).map fun c => ((wrap64 ((getA bs 0 0).1 : Int)).toNat, a.1, c.1, bs.length - c.2.length)
/-- What stands at the beginning of bytes. -/
def Reads (bs : List UInt8) (l : Smps) (n : Nat) (x : Int) : Prop :=
  (headC bs = none ∧ l = [] ∧ n = 0 ∧ x = 5) ∨
  ∃ N a c k, headC bs = some (N, a, c, k) ∧ ∃ t e v f, S.Reads a (N : Int) t e ∧ V.Reads c (N : Int) v f ∧
    (((e ≠ 0 ∨ f ≠ 0) ∧ l = [] ∧ n = 0 ∧ x = 5) ∨ (e = 0 ∧ f = 0 ∧ l = t.zip v ∧ n = k ∧ x = 0))
theorem Reads.inj {bs : List UInt8} {l l' : Smps} {n n' : Nat} {x x' : Int} (h : Reads bs l n x) (h' : Reads bs l' n' x') : l = l' ∧ n = n' ∧ x = x' := by
  rcases h with ⟨h1, h2, h3, h4⟩ | ⟨N, a, c, k, h1, t, e, v, f, hs, hv, h2⟩ <;> rcases h' with ⟨k1, k2, k3, k4⟩ | ⟨N', a', c', k', k1, t', e', v', f', ks, kv, k2⟩
  · exact ⟨by rw [h2, k2], by rw [h3, k3], by rw [h4, k4]⟩
  · rw [h1] at k1; cases k1
  · rw [h1] at k1; cases k1
  · rw [h1] at k1
    cases k1
    obtain ⟨rfl, rfl⟩ := hs.inj ks
    obtain ⟨rfl, rfl⟩ := hv.inj kv
    rcases h2 with ⟨p1, p2, p3, p4⟩ | ⟨p1, p2, p3, p4, p5⟩ <;> rcases k2 with ⟨q1, q2, q3, q4⟩ | ⟨q1, q2, q3, q4, q5⟩
    · exact ⟨by rw [p2, q2], by rw [p3, q3], by rw [p4, q4]⟩
    · rcases p1 with p1 | p1
      · exact absurd q1 p1
      · exact absurd q2 p1
    · rcases q1 with q1 | q1
      · exact absurd p1 q1
      · exact absurd p2 q1
    · exact ⟨by rw [p3, q3], by rw [p4, q4], by rw [p5, q5]⟩

theorem wrap_small {n : Nat} (h : n < 9223372036854775808) : wrap64 (n : Int) = (n : Int) := by unfold wrap64; omega
theorem cut_put (a R : List UInt8) (h : a.length < 4294967296) : cutR (putN a.length ++ (a ++ R)) = some (a, R) := by
  have hg := get_put0 (u := a.length) (by omega) (a ++ R)
  unfold cutR
  rw [hg]
  simp only
  rw [wrap_small (by omega), if_neg (by simp only [List.length_append]; omega), List.drop_left, Int.toNat_natCast, List.take_left, List.drop_left]
theorem head_put (l : Smps) (a c more : List UInt8) (h1 : 1 ≤ l.length) (h2 : l.length ≤ 120) (ha : a.length < 4294967296) (hc : c.length < 4294967296) : headC (chunkB l a c ++ more) = some (l.length, a, c, (chunkB l a c).length) := by
  have e0 : chunkB l a c ++ more = putN l.length ++ (putN a.length ++ (a ++ (putN c.length ++ (c ++ more)))) := by
    unfold chunkB
    simp only [List.append_assoc]
  have hg := get_put0 (u := l.length) (by omega) (putN a.length ++ (a ++ (putN c.length ++ (c ++ more))))
  unfold headC
  rw [e0, hg]
  simp only
  rw [wrap_small (by omega), if_neg (by omega), List.drop_left, cut_put a _ ha]
  simp only [Option.bind_some]
  rw [cut_put c more hc]
  simp only [Option.map_some, Int.toNat_natCast, chunkB, List.length_append]
  congr 4
  omega
theorem zip_maps (l : Smps) : (l.map (·.1)).zip (l.map (·.2)) = l := by
  induction l with
  | nil => rfl
  | cons p r ih => rw [List.map_cons, List.map_cons, List.zip_cons_cons, ih]
/-- What is packed is read again, whatever stands behind it. -/
theorem reads_packs {l : Smps} {bs : List UInt8} (h : Packs l bs 0) (hl : V.In64 (l.map (·.2))) (more : List UInt8) : Reads (bs ++ more) l bs.length 0 := by
  have hf := h.few
  rcases h with ⟨_, _, h3⟩ | ⟨_, a, e, _, h3, _, h5⟩ | ⟨h1, a, c, h2, h3, h4, h5⟩
  · cases h3
  · exact absurd h5.symm h3
  · have r1 := S.reads_packs h2
    have r2 := V.reads_packs h3 hl
    rw [List.length_map] at r1 r2
    have ha : a.length < 4294967296 := by
      rcases h2 with ⟨_, h, _⟩ | ⟨_, _, h, _⟩ | ⟨h0, _, h, _⟩
      · simp [h]
      · simp [h]
      · rw [h, packL_length]
        have := S.allB_length (l.map (·.1))
        omega
    have hc : c.length < 4294967296 := by have := h3.small; omega
    subst h4
    exact .inr ⟨_, _, _, _, head_put l a c more hf.1 hf.2 ha hc, _, _, _, _, r1, r2, .inr ⟨rfl, rfl, (zip_maps l).symm, rfl, rfl⟩⟩

/-- So many numbers are read as were asked for. -/
theorem readS_len (n : Nat) : ∀ L g p acc m, S.readT n L g p acc = some m → m.length = acc.length + n := by
  induction n with
  | zero =>
    intro L g p acc m h
    simp only [S.readT, Option.some.injEq] at h
    rw [h, Nat.add_zero]
  | succ n ih =>
    intro L g p acc m h
    simp only [S.readT] at h
    split at h
    · cases hg : S.getR L 64 with
      | none => rw [hg] at h; cases h
      | some x =>
        rw [hg, Option.bind_some] at h
        have := ih _ _ _ _ _ h
        rw [List.length_append, List.length_singleton] at this
        omega
    · cases hg : S.chgR L with
      | none => rw [hg] at h; cases h
      | some x =>
        rw [hg, Option.bind_some] at h
        have := ih _ _ _ _ _ h
        rw [List.length_append, List.length_singleton] at this
        omega
theorem readV_len (n : Nat) : ∀ L p z t acc m, V.readT n L p z t acc = some m → m.length = acc.length + n := by
  induction n with
  | zero =>
    intro L p z t acc m h
    simp only [V.readT, Option.some.injEq] at h
    rw [h, Nat.add_zero]
  | succ n ih =>
    intro L p z t acc m h
    simp only [V.readT] at h
    split at h
    · cases hg : V.getN L 64 with
      | none => rw [hg] at h; cases h
      | some x =>
        rw [hg, Option.bind_some] at h
        have := ih _ _ _ _ _ _ h
        rw [List.length_append, List.length_singleton] at this
        omega
    · cases hg : V.chgR z t L with
      | none => rw [hg] at h; cases h
      | some x =>
        rw [hg, Option.bind_some] at h
        have := ih _ _ _ _ _ _ h
        rw [List.length_append, List.length_singleton] at this
        omega
theorem readsS_len {a : List UInt8} {N : Nat} {t : List Int} (h : S.Reads a (N : Int) t 0) : t.length = N := by
  rcases h with ⟨_, _, h⟩ | ⟨_, _, h⟩ | ⟨_, _, ⟨_, _, h⟩ | ⟨m, hm, ⟨_, _, h⟩ | ⟨_, rfl, _⟩⟩⟩
  · cases h
  · cases h
  · cases h
  · cases h
  · have := readS_len _ _ _ _ _ _ hm
    simpa using this
theorem readsV_len {a : List UInt8} {N : Nat} {t : List Int} (h : V.Reads a (N : Int) t 0) : t.length = N := by
  rcases h with ⟨_, _, h⟩ | ⟨_, _, h⟩ | ⟨_, _, ⟨_, _, h⟩ | ⟨m, hm, ⟨_, _, h⟩ | ⟨_, rfl, _⟩⟩⟩
  · cases h
  · cases h
  · cases h
  · cases h
  · have := readV_len _ _ _ _ _ _ _ hm
    simpa using this

/-- Samples, 120 each. -/
def splitF : Nat → Smps → List Smps
  | 0, _ => []
  | f + 1, l => if l = [] then [] else l.take 120 :: splitF f (l.drop 120)
def splitL (l : Smps) : List Smps := splitF l.length l
theorem splitF_nil (f : Nat) : splitF f [] = [] := by cases f <;> rfl
theorem splitF_more (f : Nat) : ∀ (g : Nat) (l : Smps), l.length ≤ f → l.length ≤ g → splitF f l = splitF g l := by
  induction f with
  | zero =>
    intro g l h _
    have : l = [] := List.length_eq_zero_iff.1 (by omega)
    rw [this, splitF_nil, splitF_nil]
  | succ f ih =>
    intro g l h hg
    cases l with
    | nil => rw [splitF_nil, splitF_nil]
    | cons p r =>
      rw [List.length_cons] at h hg
      obtain ⟨g, rfl⟩ : ∃ g', g = g' + 1 := ⟨g - 1, by omega⟩
      have hd : ((p :: r).drop 120).length ≤ r.length := by rw [List.length_drop, List.length_cons]; omega
      unfold splitF
      rw [if_neg (by simp), if_neg (by simp), ih g _ (by omega) (by omega)]
theorem splitL_nil : splitL [] = [] := rfl
theorem splitL_cons {l : Smps} (h : l ≠ []) : splitL l = l.take 120 :: splitL (l.drop 120) := by
  cases l with
  | nil => exact absurd rfl h
  | cons p r =>
    have hd : ((p :: r).drop 120).length ≤ r.length := by rw [List.length_drop, List.length_cons]; omega
    show splitF (r.length + 1) (p :: r) = _
    unfold splitF
    rw [if_neg (by simp)]
    exact congrArg _ (splitF_more _ _ _ hd (Nat.le_refl _))
theorem splitL_len (n : Nat) : ∀ l : Smps, l.length = n → (splitL l).length = (n + 119) / 120 := by
  induction n using Nat.strongRecOn with
  | ind n ih =>
    intro l hl
    by_cases h : l = []
    · subst h
      rw [splitL_nil, ← hl]
      rfl
    · rw [splitL_cons h, List.length_cons, ih (n - 120) (by have : l.length ≠ 0 := fun e => h (List.length_eq_zero_iff.1 e); omega) _ (by rw [List.length_drop, hl])]
      have : l.length ≠ 0 := fun e => h (List.length_eq_zero_iff.1 e)
      omega
end Go.Proofs.Ytbhpmeeknbbmmaa.C

/-
  The document's own: the times and the values of samples; whether samples are the same.
-/
namespace Go.Proofs.Ytbhpmeeknbbmmaa.C
open Go.RowKit Go.Proofs.Lys
set_option linter.unusedVariables false

/-- One number more of a row, and where it lies then. -/
theorem own_num2 {w : World} {base : Nat} {vr : Value} {lr : List Int} (hown : w.ownsRow base 3 1 vr lr.length (lr.map (Value.int .i64))) (hb : base ≤ w.heap.size) (hl : lr.length ≤ 1000000) (X : Int) :
    ∃ g cap w1, Hid ((Builtin.append_ #[44, 44] 0 #[vr, .slice (some ⟨w.heap.size, 0, none⟩) 1 1]).run Try.prog (w.alloc (.cells #[.int .i64 X] 3)) = .ok (.slice (some ⟨g, 0, none⟩) (lr.length + 1) cap) w1) ∧ w1.ownsRow base 3 1 (.slice (some ⟨g, 0, none⟩) (lr.length + 1) cap) (lr ++ [X]).length ((lr ++ [X]).map (Value.int .i64)) ∧ Only (fun k => vr.ownBlock = some k) w w1 ∧ (vr.ownBlock = some g ∨ w.heap.size ≤ g) := by
  obtain ⟨v', w1, hrun, hown1, hgrow, hat⟩ := append_src (P := Try.prog) (xv := .slice (some ⟨w.heap.size, 0, none⟩) 1 1) (ys := [.int .i64 X]) Try.underlying44 infoI6 rfl (by decide) (hown.alloc (.cells #[.int .i64 X] 3)) (own_src (World.ownsRow_lit w #[.int .i64 X] 1 (Nat.zero_le _) (by decide) rfl)) (by intro u hu; simp at hu; subst hu; rfl) (by simp; omega) (by simp; omega)
  obtain ⟨g, cap, rfl⟩ := own_some hown1 (by simp)
  refine ⟨g, cap, w1, hrun, ?_, ((Only.refl _ w).alloc _).grown hgrow (fun j hj _ => hj), ?_⟩
  · have e1 : (lr ++ [X]).length = lr.length + [Value.int .i64 X].length := by simp
    have e2 : (lr ++ [X]).map (Value.int .i64) = lr.map (Value.int .i64) ++ [Value.int .i64 X] := by rw [List.map_append]; rfl
    rw [e1, e2]
    exact hown1
  · rcases hat with e | e
    · exact .inl e.symm
    · have : g = w.heap.size + 1 := by simpa [Value.ownBlock] using e
      exact .inr (by omega)
/-- Two rows of numbers that are made side by side. -/
structure TwoN (w1 wr : World) (xs ys : List Int) (s t : Value) : Prop where
  one : wr.ownsRow w1.heap.size 3 1 s xs.length (xs.map (Value.int .i64))
  two : wr.ownsRow w1.heap.size 3 1 t ys.length (ys.map (Value.int .i64))
  kept : Kept w1 wr
  apart : ∀ j, s.ownBlock = some j → t.ownBlock ≠ some j
theorem TwoN.step {w1 wr : World} {xs ys : List Int} {s t : Value} (h : TwoN w1 wr xs ys s t) (hx : xs.length ≤ 1000) (hy : ys.length ≤ 1000) (X Y : Int) :
    ∃ g cap w2, Hid ((Builtin.append_ #[44, 44] 0 #[s, .slice (some ⟨wr.heap.size, 0, none⟩) 1 1]).run Try.prog (wr.alloc (.cells #[.int .i64 X] 3)) = .ok (.slice (some ⟨g, 0, none⟩) (xs.length + 1) cap) w2) ∧ Kept w1 w2 ∧
    ∃ g2 cap2 w3, Hid ((Builtin.append_ #[44, 44] 0 #[t, .slice (some ⟨w2.heap.size, 0, none⟩) 1 1]).run Try.prog (w2.alloc (.cells #[.int .i64 Y] 3)) = .ok (.slice (some ⟨g2, 0, none⟩) (ys.length + 1) cap2) w3) ∧
    TwoN w1 w3 (xs ++ [X]) (ys ++ [Y]) (.slice (some ⟨g, 0, none⟩) (xs.length + 1) cap) (.slice (some ⟨g2, 0, none⟩) (ys.length + 1) cap2) := by
  obtain ⟨g, cap, w2, Hr, o2, k2, n2⟩ := own_num2 h.one h.kept.size (by omega) X
  have hlow : ∀ j, s.ownBlock = some j → w1.heap.size ≤ j := fun j hj => (h.one.lt j hj).1
  have hlow2 : ∀ j, t.ownBlock = some j → w1.heap.size ≤ j ∧ j < wr.heap.size := fun j hj => h.two.lt j hj
  have kk2 : Kept w1 w2 := h.kept.trans k2 (fun j hj e => by have := hlow j e; omega)
  have ht2 := own_only h.two k2 (fun j hj e => h.apart j e hj)
  obtain ⟨g2, cap2, w3, Hr2, o3, k3, n3⟩ := own_num2 ht2 kk2.size (by omega) Y
  refine ⟨g, cap, w2, Hr, kk2, g2, cap2, w3, Hr2, ?_, o3, kk2.trans k3 (fun j hj e => by have := (hlow2 j e).1; omega), ?_⟩
  · refine own_only o2 k3 (fun j hj e => ?_)
    have hj' : g = j := by simpa [Value.ownBlock] using hj
    subst hj'
    rcases n2 with e2 | e2
    · exact h.apart g e2 e
    · have := (hlow2 g e).2
      omega
  · intro j hj hj2
    have h1 : g = j := by simpa [Value.ownBlock] using hj
    have h2 : g2 = j := by simpa [Value.ownBlock] using hj2
    have hg : g < w2.heap.size := (o2.lt g rfl).2
    have e : g = g2 := h1.trans h2.symm
    rcases n3 with e3 | e3
    · rcases n2 with e2 | e2
      · exact h.apart g e2 (by rw [e]; exact e3)
      · have := (hlow2 g2 e3).2
        omega
    · omega

set_option maxRecDepth 100000 in
set_option maxHeartbeats 1600000 in
theorem parts_any (w : World) (v : Value) (l : Smps) (hs : SmpSrc w v l) (hl : l.length ≤ 1000) :
    Calls Try.prog 21 #[v] w fun e w' => ∃ s t, e = .returned (.tuple #[s, t]) ∧ TwoN w w' (l.map (·.1)) (l.map (·.2)) s t := by
  obtain ⟨a0, c0, e0⟩ := hs.len
  obtain ⟨L, hL⟩ : ∃ L, l.length = L := ⟨_, rfl⟩
  rw [hL] at e0 hl
  subst e0
  have HS := hid hs
  have HL := hid hL
  clear hs hL
  go_enter Try.func21, Try.ntmps21
  go_wp2_with fail
  go_loopw [4, 5, 6] (fun s t i wr => ∃ (k : Nat), k ≤ L ∧ i = .int .i64 (k : Int) ∧ TwoN w wr ((l.take k).map (·.1)) ((l.take k).map (·.2)) s t) (fun _ _ i _ => L - (intOf i).toNat)
  case atStart => exact ⟨0, by omega, rfl, World.ownsRow_nil _ _ _ _, World.ownsRow_nil _ _ _ _, Only.refl _ _, fun j hj => by cases hj⟩
  case round =>
    obtain ⟨k, hk, rfl, hT⟩ := hrel
    by_cases hlt : k < L
    · have hkl : k < l.length := by have := HL.out; omega
      have hlen : (l.take k).length = k := by rw [List.length_take]; omega
      obtain ⟨b, o, rfl, x0, x1⟩ := (HS.out.stay hT.kept).cell HL.out k hlt
      have eX : (l.take (k + 1)).map (·.1) = (l.take k).map (·.1) ++ [l[k].1] := by rw [List.take_succ_eq_append_getElem hkl, List.map_append]; rfl
      have eY : (l.take (k + 1)).map (·.2) = (l.take k).map (·.2) ++ [l[k].2] := by rw [List.take_succ_eq_append_getElem hkl, List.map_append]; rfl
      obtain ⟨X, hX⟩ : ∃ X, l[k].1 = X := ⟨_, rfl⟩
      obtain ⟨Y, hY⟩ : ∃ Y, l[k].2 = Y := ⟨_, rfl⟩
      rw [hX] at x0 eX
      rw [hY] at x1 eY
      obtain ⟨g, cap, w2, Hr, kk2, g2, cap2, w3, Hr2, hT3⟩ := hT.step (by rw [List.length_map, hlen]; omega) (by rw [List.length_map, hlen]; omega) X Y
      obtain ⟨b', o', e', _, y1⟩ := (HS.out.stay kk2).cell HL.out k hlt
      cases e'
      rw [hY] at y1
      rw [← eX, ← eY] at hT3
      simp only [List.length_map, hlen] at Hr Hr2 hT3
      have HT3 := hid hT3
      clear hT3 hT hX hY eX eY kk2 hlen hkl
      go_wp2_with (at_builtin; first | refine wpList_append_run rfl _ _ _ rfl rfl rfl Hr ?_ | refine wpList_append_run rfl _ _ _ rfl rfl rfl Hr2 ?_)
      go_roundw
      case rel => exact ⟨k + 1, by omega, by go_num, HT3.out⟩
      case measure => simp [intOf]; omega
    · have e : k = L := by omega
      have HE : Hid (TwoN w wr (l.map (·.1)) (l.map (·.2)) u4 u5) := by
        have h2 := hT
        rw [List.take_of_length_le (by have := HL.out; omega)] at h2
        exact h2
      clear hT
      go_wp2_with fail
      go_ret2
      exact ⟨_, _, rfl, HE.out⟩
end Go.Proofs.Ytbhpmeeknbbmmaa.C
