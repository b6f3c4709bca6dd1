/-
  Package season's laws: what came in, the document's example, SeasonCasts.
-/
import Derived.Test.YtkhbkjnjhojnbaaSermiss
import Derived.Deep.Slices
import Derived.OpenShut
import Derived.ChangeOld
namespace Go.Proofs.Ytkhbkjnjhojnbaa.Se
open Go Go.RowKit Go.Proofs.Lys
set_option linter.unusedVariables false
set_option linter.unusedSimpArgs false

theorem in64_wf {n : Int} (h : (Lit.int .i64 n).wf = true) : In64 n := by
  simp only [Lit.wf, Bool.and_eq_true, decide_eq_true_eq] at h
  have m0 : IntKind.i64.min = -9223372036854775808 := by decide
  have m1 : IntKind.i64.max = 9223372036854775807 := by decide
  rw [m0, m1] at h
  exact h
open Go.ChangeShapes in
theorem open_row {H : Type} {enc : TypeId × Value → H} {w : World} {spare : Nat → Bool} {held : Bool} {base : Nat} {a0 : Option Addr} {len0 cap0 : Nat} {x : DataW H × List MemPlace} {t e : TypeId} {k : IntKind} (ht : Try.prog.underlying t = some (.slice e)) (he : Try.prog.underlying e = some (.int k)) (hc : Try.prog.cellsOf e = 1)
    (h : ∃ m, DataW.trod enc Try.prog w base spare held m t (Value.slice a0 len0 cap0).cells.toList = some x) : ∃ zs : List Int, SrcOf w (.slice a0 len0 cap0) (zs.map (Value.int k)) ∧ zs.length = len0 ∧ len0 ≤ cap0 ∧ cap0 ≤ maxLen ∧ ∀ n ∈ zs, (Lit.int k n).wf = true := by
  obtain ⟨fuel, hf⟩ := h
  rcases open_ints ht he hc hf with ⟨hcs, _⟩ | ⟨a, l, c, zs, hcs, _, hl, hm, hz, _, hcell, hwz⟩
  · simp [Value.cells] at hcs
    obtain ⟨rfl, rfl, rfl⟩ := hcs
    exact ⟨[], .inl ⟨rfl, rfl⟩, rfl, Nat.le_refl _, Nat.zero_le _, by simp⟩
  · simp [Value.cells] at hcs
    obtain ⟨rfl, rfl, rfl⟩ := hcs
    have hzl : len0 ≤ zs.length := by rw [hz]; split <;> omega
    have hlen : (zs.take len0).length = len0 := by rw [List.length_take]; omega
    refine ⟨zs.take len0, .inr ⟨a, cap0, by rw [List.length_map, hlen], fun j u hu => ?_⟩, hlen, hl, hm, fun n hn => hwz n (List.mem_of_mem_take hn)⟩
    rw [List.getElem?_map, List.getElem?_take] at hu
    split at hu
    · rw [List.getElem?_eq_getElem (by omega)] at hu
      cases hu
      rw [hcell j (by omega), List.getD_eq_getElem?_getD, List.getElem?_eq_getElem (by omega)]
      rfl
    · cases hu
/-- Numbers that came in. -/
def IIn (w : World) (v : Value) (l : List Int) : Prop := PtSrc w v l ∧ (∃ a c, v = .slice a l.length c ∧ l.length ≤ c) ∧ l.length ≤ 9223372036854775807 ∧ ∀ i, In64 (l.getD i 0)
theorem mem_getD {l : List Int} (h : ∀ n ∈ l, In64 n) (i : Nat) : In64 (l.getD i 0) := by
  rw [List.getD_eq_getElem?_getD]
  cases hi : l[i]? with
  | none => exact ⟨by decide, by decide⟩
  | some x => exact h x (List.mem_of_getElem? hi)
theorem open_ints22 {H : Type} {enc : TypeId × Value → H} {w : World} {spare : Nat → Bool} {held : Bool} {base : Nat} {a0 : Option Addr} {len0 cap0 : Nat} {x : DataW H × List MemPlace}
    (h : ∃ m, DataW.trod enc Try.prog w base spare held m 22 (Value.slice a0 len0 cap0).cells.toList = some x) : ∃ l : List Int, IIn w (.slice a0 len0 cap0) l := by
  obtain ⟨zs, h1, h2, h3, h4, h5⟩ := open_row Try.underlying22 Try.underlying3 (by kernel_rfl) h
  have hm : maxLen = 9223372036854775807 := by decide
  exact ⟨zs, h1, ⟨a0, cap0, by rw [h2], by omega⟩, by omega, mem_getD (fun n hn => in64_wf (h5 n hn))⟩
theorem lit_src (w : World) (l : List Int) (n : Nat) (hn : l.length = n) (hm : n ≤ 1000) : PtSrc (w.alloc (.cells (l.map (Value.int .i64)).toArray 3)) (.slice (some ⟨w.heap.size, 0, none⟩) n n) l := by
  subst hn
  exact own_src (World.ownsRow_lit w (l.map (Value.int .i64)).toArray l.length (Nat.le_refl _) (by unfold maxLen; omega) (by simp))
theorem ex_cast (w : World) (d v : Int) (hd : castV [1, 2, 3] 2 d = v) (he : castE 3 2 d = 0) : Calls Try.prog 6 #[.slice (some ⟨w.heap.size, 0, none⟩) 3 3, .int .i64 2, .int .i64 d] (w.alloc (.cells #[.int .i64 1, .int .i64 2, .int .i64 3] 3)) fun e w' => e = .returned (.tuple #[.int .i64 v, .int .i64 0]) ∧ w' = w.alloc (.cells #[.int .i64 1, .int .i64 2, .int .i64 3] 3) := by
  have h := cast_any (w.alloc (.cells #[.int .i64 1, .int .i64 2, .int .i64 3] 3)) (some ⟨w.heap.size, 0, none⟩) 3 3 [1, 2, 3] 2 d (lit_src w [1, 2, 3] 3 rfl (by decide)) rfl (by decide)
  unfold CastR at h
  rw [hd, he] at h
  exact h
set_option maxRecDepth 100000 in
set_option maxHeartbeats 1600000 in
theorem alive_any (w : World) : Calls Try.prog 5 #[] w fun e w' => e = .returned (.bool true) ∧ Kept w w' := by
  have H1 := hid (fun W => ex_cast W 1 2 (by decide) (by decide))
  have H2 := hid (fun W => ex_cast W 2 3 (by decide) (by decide))
  have H3 := hid (fun W => ex_cast W 3 2 (by decide) (by decide))
  have HN := hid (fun W => num_any 0 W ⟨by decide, by decide⟩)
  have K3 : Hid (Kept w (((w.alloc (.cells #[.int .i64 1, .int .i64 2, .int .i64 3] 3)).alloc (.cells #[.int .i64 1, .int .i64 2, .int .i64 3] 3)).alloc (.cells #[.int .i64 1, .int .i64 2, .int .i64 3] 3))) := hid ((((Only.refl _ w).alloc _).alloc _).alloc _)
  go_enter Try.func5, Try.ntmps5
  go_wp2_with fail
  refine (H1.out _).mono ?_
  rintro e w1 ⟨rfl, hw1⟩
  rw [hw1]
  clear hw1
  obtain ⟨W1, hW1⟩ : ∃ W1, w.alloc (.cells #[.int .i64 1, .int .i64 2, .int .i64 3] 3) = W1 := ⟨_, rfl⟩
  rw [hW1] at K3 ⊢
  clear hW1
  go_wp2_with fail
  refine (H2.out _).mono ?_
  rintro e w2 ⟨rfl, hw2⟩
  rw [hw2]
  clear hw2
  obtain ⟨W2, hW2⟩ : ∃ W2, W1.alloc (.cells #[.int .i64 1, .int .i64 2, .int .i64 3] 3) = W2 := ⟨_, rfl⟩
  rw [hW2] at K3 ⊢
  clear hW2
  go_wp2_with fail
  refine (H3.out _).mono ?_
  rintro e w3 ⟨rfl, hw3⟩
  rw [hw3]
  clear hw3
  obtain ⟨W3, hW3⟩ : ∃ W3, W2.alloc (.cells #[.int .i64 1, .int .i64 2, .int .i64 3] 3) = W3 := ⟨_, rfl⟩
  rw [hW3] at K3 ⊢
  clear hW3
  go_wp2_with fail
  refine (HN.out _).mono ?_
  rintro e w4 ⟨rfl, rfl⟩
  go_wp2_with fail
  refine (HN.out _).mono ?_
  rintro e w4 ⟨rfl, rfl⟩
  go_wp2_with fail
  refine (HN.out _).mono ?_
  rintro e w4 ⟨rfl, rfl⟩
  go_wp2
  go_ret
  exact ⟨rfl, K3.out⟩

set_option maxRecDepth 100000 in
set_option maxHeartbeats 1600000 in
theorem casts_walk (W : World) (v : Value) (l : List Int) (s d n : Int) (h : IIn W v l) : Calls Try.prog 3 #[v, .int .i64 s, .int .i64 d, .int .i64 n] W fun e w' => e = .returned (.bool true) ∧ Kept W w' := by
  obtain ⟨hs, ⟨a, c, rfl, hc⟩, hl, hin⟩ := h
  obtain ⟨L, hL⟩ : ∃ L, l.length = L := ⟨_, rfl⟩
  rw [hL] at hs hc hl ⊢
  have HC := hid (fun W' (k : Kept W W') => cast_any W' a L c l s d (SrcOf.stay hs k) hL hl)
  have HR := hid (fun W' (k : Kept W W') => rcast_any W' a L c l s d (SrcOf.stay hs k) hL hl)
  have HM := hid (fun W' (k : Kept W W') => miss_any W' a L c l s n (SrcOf.stay hs k) hL hc hl hin)
  have HQ := hid (fun W' (k : Kept W W') => rmiss_any W' a L c l s n (SrcOf.stay hs k) hL hl hin)
  have HN1 := hid (fun W => num_any _ W (castE_01 L s d))
  have HN2 := hid (fun W => num_any _ W (missE_01 L s n))
  unfold CastR at HC HR
  unfold MissR at HM HQ
  generalize castV l s d = cv at *
  generalize castE L s d = ce at *
  generalize missV l s n = mv at *
  generalize missE L s n = me at *
  have HA := hid (fun w => alive_any w)
  clear hs hc hL hin
  by_cases h2 : 2000 < L
  · go_enter Try.func3, Try.ntmps3
    go_wp2_with fail
    refine (HA.out _).mono ?_
    rintro e w1 ⟨rfl, k1⟩
    have K1 := hid k1
    clear k1
    go_wp2
    go_ret
    exact ⟨rfl, K1.out⟩
  · go_enter Try.func3, Try.ntmps3
    go_wp2_with fail
    refine (HA.out _).mono ?_
    rintro e w1 ⟨rfl, k1⟩
    have K1 := hid k1
    clear k1
    go_wp2_with fail
    refine (HC.out _ K1.out).mono ?_
    rintro e w2 ⟨rfl, rfl⟩
    go_wp2_with fail
    refine (HR.out _ K1.out).mono ?_
    rintro e w3 ⟨rfl, rfl⟩
    go_wp2_with fail
    refine (HM.out _ K1.out).mono ?_
    rintro e w4 ⟨rfl, k4⟩
    have K4 := hid (K1.out.trans k4 (fun _ _ f => f))
    clear k4
    go_wp2_with fail
    refine (HQ.out _ K4.out).mono ?_
    rintro e w5 ⟨rfl, k5⟩
    have K5 := hid (K4.out.trans k5 (fun _ _ f => f))
    clear k5
    go_wp2_with fail
    refine (HN1.out _).mono ?_
    rintro e w6 ⟨rfl, rfl⟩
    go_wp2_with fail
    refine (HN2.out _).mono ?_
    rintro e w6 ⟨rfl, rfl⟩
    go_wp2
    go_ret
    exact ⟨rfl, K5.out⟩
end Go.Proofs.Ytkhbkjnjhojnbaa.Se
