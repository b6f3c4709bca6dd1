/-
  cut: the samples ahead of a time are taken away from a series.
-/
import Derived.Test.YtnbfbnhiikliaaaGreatHgather
import Derived.Test.YtnbfbnhiikliaaaGreatNrmake
namespace Go.Proofs.YtnbfbnhiikliaaaGreat.Hd
open Go.RowKit Go.Proofs.Lys Go.Maps Go.Proofs.YtnbfbnhiikliaaaGreat.N
set_option linter.unusedVariables false
set_option linter.unusedSimpArgs false

theorem append_step {ops : Array Oper} {o : Oper} {a : Act} {w : World} {K : Act → World → Prop} {Q : Exit → Act → World → Prop} {E : Prop}
    (hg : o.guard = none) (d x : Operand) (dT sT : TypeId) (hop : o.op = Op.call { callee := Callee.builtin Builtin.append, args := #[d, x], argTypes := #[dT, sT] })
    (v u : Value) (hd : a.eval d = v) (hx : a.eval x = u) {v' : Value} {w' : World} (hr : (Builtin.append_ #[dT, sT] o.type #[v, u]).run Tryz.prog w = .ok v' w') (hK : K (a.put o.dst v') w') :
    if Region.wanted o (yielded ops a.tmps) = true then Oper.wp Tryz.prog o a w K Q else E := by
  rw [if_pos (by simp [Region.wanted, hg])]
  unfold Oper.wp
  simp [execOp, hop, resolve, invoke, builtin, hd, hx, hr, Result.andThen]
  exact hK
theorem clear_run (w : World) (ty : TypeId) (g o m c : Nat) (cur : Array Value) (hg : w.heap[g]? = some (.cells cur 38 (0, 0))) (hfit : o + (m + 1) * 2 ≤ cur.size) :
    ∃ Z : List Value, Z.length = (m + 1) * 2 ∧ (Builtin.clear_ #[54] ty #[.slice (some ⟨g, o, none⟩) (m + 1) c]).run Tryz.prog w = .ok (.tuple #[]) (w.setRow g (cur.toList.take o ++ Z ++ cur.toList.drop (o + Z.length)).toArray) := by
  have hv : ∀ w, (zeroValue 38).run Tryz.prog w = .ok (.agg #[.int .i64 0, .int .i64 0]) w := fun w => by kernel_rfl
  have hzc : (Value.agg #[.int .i64 0, .int .i64 0]).cells.size = 2 := rfl
  have hlen : (Builtin.zeroCells (Value.agg #[.int .i64 0, .int .i64 0]).cells (m + 1)).toList.length = (m + 1) * 2 := by
    rw [Array.length_toList, size_zeroCells, hzc]
  have hone : ∀ u ∈ (Builtin.zeroCells (Value.agg #[.int .i64 0, .int .i64 0]).cells (m + 1)).toList, u.oneCell' = true := by
    intro u hu
    have hcc : (Value.agg #[.int .i64 0, .int .i64 0]).cells = #[.int .i64 0, .int .i64 0] := rfl
    rw [hcc] at hu
    simp [Builtin.zeroCells] at hu
    obtain ⟨j, _, rfl⟩ := hu
    rcases (show j % 2 = 0 ∨ j % 2 = 1 by omega) with e | e
    · simp [e]; rfl
    · simp [e]; rfl
  have hst := run_storeCells_at Tryz.prog g o 38 _ 0 cur w hg (by rw [hlen]; simpa using hfit) hone
  simp only [Nat.add_zero] at hst
  refine ⟨_, hlen, ?_⟩
  simp [Builtin.clear_, run_underlying Tryz.underlying54, hv, hst]

def shrinkV : Value → Nat → Value
  | .slice a n c, k => .slice a (n - k) c
  | v, _ => v
theorem shrink_own (v : Value) (k : Nat) : (shrinkV v k).ownBlock = v.ownBlock := by
  cases v with
  | slice a n c =>
    rcases a with _ | ⟨b, _ | o, _ | s⟩ <;> rfl
  | _ => rfl

theorem slice3z {g n cap k : Nat} (hk : k ≤ n) (hn : n ≤ cap) (h0 : 0 < n) (W : World) :
    ∃ q, (Instr.sliceAt 54 (.slice (some ⟨g, 0, none⟩) n cap) (some (.int .i64 0)) (some (.int .i64 (k : Int))) (some (.int .i64 (n : Int)))).run Tryz.prog W = .ok q W := by
  have h1 : ¬ n = 0 := by omega
  exact ⟨_, by simp [Instr.sliceAt, Instr.slice, Instr.sliceBounds, Instr.sliceBound, run_underlying Tryz.underlying54, asIntOf, hk, hn, h1, Tryz.sizeSmpR, add_none, Result.andThen]; rfl⟩

set_option maxRecDepth 100000 in
set_option maxHeartbeats 4000000 in
theorem del_any {w : World} {v : Value} {l : Smps} {k : Nat} (h : SmpAt w 0 v l) (hk : k ≤ l.length) (hl : l.length ≤ 100000) :
    Calls Tryz.prog 66 #[v, .int .i64 0, .int .i64 (k : Int)] w fun e w' => e = .returned (shrinkV v k) ∧ SmpAt w' 0 (shrinkV v k) (l.drop k) ∧ Only (fun j => v.ownBlock = some j) w w' := by
  by_cases h0 : k = 0
  · subst h0
    obtain ⟨a, c, rfl⟩ := ownN_slice h
    have hs3 : ∃ q, ∀ W, (Instr.sliceAt 54 (.slice a l.length c) (some (.int .i64 0)) (some (.int .i64 0)) (some (.int .i64 (l.length : Int)))).run Tryz.prog W = .ok q W := by
      rcases h.2 with ⟨e, h0⟩ | ⟨g, cap, cur, e, hb, hg, hnc, _⟩
      · rw [h0] at e ⊢
        cases e
        exact ⟨.slice none 0 0, fun W => by kernel_rfl⟩
      · simp only [Value.slice.injEq] at e
        obtain ⟨rfl, _, rfl⟩ := e
        by_cases hl0 : l.length = 0
        · rw [hl0]
          exact ⟨.slice (some ⟨g, 0, none⟩) 0 0, fun W => by simp [Instr.sliceAt, Instr.slice, Instr.sliceBounds, Instr.sliceBound, run_underlying Tryz.underlying54, asIntOf, Tryz.sizeSmpR, add_none, Result.andThen]⟩
        · exact ⟨.slice (some ⟨g, 0, none⟩) 0 l.length, fun W => by
            simp [Instr.sliceAt, Instr.slice, Instr.sliceBounds, Instr.sliceBound, run_underlying Tryz.underlying54, asIntOf, hnc, hl0, Tryz.sizeSmpR, add_none, Result.andThen]⟩
    obtain ⟨q, hs3⟩ := hs3
    have HF := hid (show SmpAt w 0 (shrinkV (.slice a l.length c) 0) (l.drop 0) from h)
    have hsv : shrinkV (.slice a l.length c) 0 = .slice a l.length c := rfl
    rw [hsv] at HF ⊢
    clear h hsv
    generalize l.length = n at *
    go_enter Tryz.func66, Tryz.ntmps66
    go_wp2
    go_ret
    exact ⟨rfl, HF.out, Only.refl _ _⟩
  · obtain ⟨g, cap, rfl⟩ := ownN_some h (by omega)
    obtain ⟨hll, hrest⟩ := h
    obtain ⟨cur, hg, hnc, hcm, hcs, htake⟩ : ∃ cur, w.heap[g]? = some (.cells cur 38 (0, 0)) ∧ l.length ≤ cap ∧ cap ≤ maxLen ∧ cur.size = cap * 2 ∧ cur.toList.take (l.length * 2) = smpL l := by
      rcases hrest with ⟨e, _⟩ | ⟨g', cap', cur, hv, hb, hg, hnc, hm, hs, ht⟩
      · cases e
      · simp only [Value.slice.injEq, Option.some.injEq, Addr.mk.injEq] at hv
        obtain ⟨⟨rfl, _⟩, _, rfl⟩ := hv
        exact ⟨cur, hg, hnc, hm, hs, ht⟩
    clear hrest
    have hdl : (smpL (l.drop k)).length = (l.length - k) * 2 := by rw [smpL_len, List.length_drop]
    have cellw : ∀ j v, (smpL l)[j]? = some v → w.cell? ⟨g, j, none⟩ = some v := fun j v hj => by
      have hj2 : j < (smpL l).length := (List.getElem?_eq_some_iff.1 hj).1
      rw [smpL_len] at hj2
      rw [← htake, List.getElem?_take, if_pos (by omega)] at hj
      simp [World.cell?, hg]
      simpa using hj
    -- the part that stays, and where it lies
    obtain ⟨A, hA, hcA⟩ : ∃ A, (if cap = k then some (⟨g, 0, none⟩ : Addr) else some ⟨g, k * 2, none⟩) = some A ∧ ∀ j u, (smpL (l.drop k))[j]? = some u → w.drew.cell? (A.add j) = some u := by
      by_cases hc : cap = k
      · refine ⟨⟨g, 0, none⟩, by rw [if_pos hc], fun j u hj => ?_⟩
        rw [List.drop_of_length_le (by omega)] at hj
        cases hj
      · refine ⟨⟨g, k * 2, none⟩, by rw [if_neg hc], fun j u hj => ?_⟩
        rw [add_none]
        refine cellw (k * 2 + j) u ?_
        rw [← smpL_drop, List.getElem?_drop] at hj
        exact hj
    obtain ⟨i0, hi0, hz0, hz1, hz2⟩ := info_parts Tryz.infoS
    have hap := fun ty => run_append_room (P := Tryz.prog) w.drew 54 ty 38 i0 Tryz.underlying54 hi0 g 0 cap cur hg A (l.length - k) (cap - k) (smpL (l.drop k)) (by rw [hz1, hdl]) hcA (smpL_one _) (by omega) (by rw [hdl]; omega)
    simp only [Nat.zero_mul, Nat.zero_add, List.take_zero, List.nil_append] at hap
    generalize hC1 : smpL (l.drop k) ++ cur.toList.drop (smpL (l.drop k)).length = C1 at hap
    have hC1l : C1.length = cap * 2 := by
      have h1 : cur.toList.length = cap * 2 := by rw [Array.length_toList]; exact hcs
      rw [← hC1, List.length_append, List.length_drop, hdl, h1]
      have : (l.length - k) * 2 ≤ cap * 2 := Nat.mul_le_mul_right _ (by omega)
      omega
    have hC1t : C1.take ((l.length - k) * 2) = smpL (l.drop k) := by
      rw [← hC1, ← hdl]
      exact List.take_left
    obtain ⟨W1, hW1⟩ : ∃ W1, W1 = w.drew.setRow g C1.toArray := ⟨_, rfl⟩
    rw [← hW1] at hap
    have hg1 : W1.heap[g]? = some (.cells C1.toArray 38 (0, 0)) := by rw [hW1]; exact setRow_heap w.drew g cur _ _ _ hg
    obtain ⟨k', rfl⟩ : ∃ k', k = k' + 1 := ⟨k - 1, by omega⟩
    have hcl := fun ty c => clear_run W1 ty g ((l.length - (k' + 1)) * 2) k' c C1.toArray hg1 (by simp [hC1l]; omega)
    obtain ⟨q3, hq3⟩ : ∃ q, ∀ W, (Instr.sliceAt 54 (.slice (some ⟨g, 0, none⟩) l.length cap) (some (.int .i64 0)) (some (.int .i64 (((k' + 1 : Nat) : Int)))) (some (.int .i64 (l.length : Int)))).run Tryz.prog W = .ok q W := by
      have h1 : ¬ l.length = 0 := by omega
      have hbb : (0 : Int) ≤ (k' : Int) + 1 ∧ (k' : Int) + 1 ≤ (l.length : Int) := by omega
      exact ⟨.slice (some ⟨g, 0, none⟩) (k' + 1) l.length, fun W => by simp [Instr.sliceAt, Instr.slice, Instr.sliceBounds, Instr.sliceBound, run_underlying Tryz.underlying54, asIntOf, hk, hnc, h1, hbb, Tryz.sizeSmpR, add_none, Result.andThen]⟩
    have hs0 : ∀ W, (Instr.sliceAt 54 (.slice (some ⟨g, 0, none⟩) l.length cap) none (some (.int .i64 0)) none).run Tryz.prog W = .ok (.slice (some ⟨g, 0, none⟩) 0 cap) W := fun W => slice_hi (n := l.length) (hi := 0) (Nat.zero_le _) (by omega) W
    obtain ⟨n1, hn1⟩ : ∃ n1, l.length = n1 + (k' + 1) := ⟨l.length - (k' + 1), by omega⟩
    have hsub : l.length - (k' + 1) = n1 := by omega
    have hs2 : ∀ W, (Instr.sliceAt 54 (.slice (some ⟨g, 0, none⟩) n1 cap) (some (.int .i64 (n1 : Int))) (some (.int .i64 (l.length : Int))) none).run Tryz.prog W = .ok (.slice (some ⟨g, n1 * 2, none⟩) (k' + 1) (cap - n1)) W := fun W => by
      have h1 : ¬ cap = n1 := by omega
      have h2 : (n1 : Int) ≤ (l.length : Int) := by omega
      have h3 : n1 ≤ l.length := by omega
      have h4 : l.length - n1 = k' + 1 := by omega
      simp [Instr.sliceAt, Instr.slice, Instr.sliceBounds, Instr.sliceBound, run_underlying Tryz.underlying54, asIntOf, hnc, h1, h2, h3, h4, Tryz.sizeSmpR, add_none, Result.andThen]
    rw [hsub] at hap hcl hC1t hdl
    obtain ⟨Z, hZl, hZr⟩ : ∃ Z : List Value, Z.length = (k' + 1) * 2 ∧ ∀ ty, (Builtin.clear_ #[54] ty #[.slice (some ⟨g, n1 * 2, none⟩) (k' + 1) (cap - n1)]).run Tryz.prog W1 = .ok (.tuple #[]) (W1.setRow g (C1.toArray.toList.take (n1 * 2) ++ Z ++ C1.toArray.toList.drop (n1 * 2 + Z.length)).toArray) := by
      obtain ⟨Z, h1, h2⟩ := hcl 0 (cap - n1)
      exact ⟨Z, h1, fun ty => h2⟩
    generalize hC2 : C1.toArray.toList.take (n1 * 2) ++ Z ++ C1.toArray.toList.drop (n1 * 2 + Z.length) = C2 at hZr
    have HF : Hid (∀ W, W = W1.setRow g C2.toArray → SmpAt W 0 (.slice (some ⟨g, 0, none⟩) n1 cap) (l.drop (k' + 1)) ∧ Only (fun j => (Value.slice (some ⟨g, 0, none⟩) l.length cap).ownBlock = some j) w W) := fun W hW => by
      have hlen : (l.drop (k' + 1)).length = n1 := by rw [List.length_drop]; omega
      have h2l : C2.length = cap * 2 := by
        rw [← hC2]
        simp only [List.length_append, List.length_take, List.length_drop, hZl, hC1l]
        have : n1 * 2 + (k' + 1) * 2 ≤ cap * 2 := by omega
        omega
      have h2t : C2.take (n1 * 2) = smpL (l.drop (k' + 1)) := by
        rw [← hC2, List.append_assoc, List.take_left' (by rw [List.length_take]; simp only [hC1l]; omega)]
        exact hC1t
      refine ⟨⟨smpL_len _, .inr ⟨g, cap, _, by rw [hlen], Nat.zero_le _, by rw [hW]; exact setRow_heap W1 g _ _ _ _ hg1, by rw [hlen]; omega, hcm, by simpa using h2l, by rw [hlen]; exact h2t⟩⟩, ?_⟩
      rw [hW, hW1]
      refine ⟨rfl, rfl, rfl, by simp, fun j hj hn => ?_⟩
      have hne : j ≠ g := fun e => hn (by rw [e]; rfl)
      rw [setRow_other _ _ _ _ hne, setRow_other _ _ _ _ hne]
      rfl
    have hsh : shrinkV (.slice (some ⟨g, 0, none⟩) l.length cap) (k' + 1) = .slice (some ⟨g, 0, none⟩) n1 cap := by
      show Value.slice _ (l.length - (k' + 1)) _ = _
      rw [hsub]
    rw [hsh]
    have HAP := hid hap
    have HAV := hid hA
    have HSUB := hid hsub
    have h00 : (0 : Int) ≤ (k' : Int) + 1 := by omega
    clear hA hap hcl hC1 hC2 hC1t hC1l hdl cellw hg hg1 htake hcs hll hcm hcA hsub hsh hZl hW1
    generalize hLL : l.length = n at *
    have hzz : n - (k' + 1) = n1 := HSUB.out
    have HZZ := hid hzz
    clear hzz HSUB
    have hkn : (k' : Int) + 1 ≤ (n : Int) := by omega
    have hk0 : decide ((0 : Int) = (k' : Int) + 1) = false := decide_eq_false (by omega)
    have hk1 : ¬ ((0 : Int) = (k' : Int) + 1) := by omega
    clear hLL hn1
    go_enter Tryz.func66, Tryz.ntmps66
    go_wp2_with fail
    refine wp_region_noPanic ?_
    refine wp_region_last (L := 1000) (S := fun _ => True) (by kernel_rfl) ?_
    have hS : (fun _ : World => True) w.drew := trivial
    refine wpAnyN_take (i := 0) (v := .slice (some ⟨g, 0, none⟩) n cap) rfl (by kernel_rfl) (by kernel_rfl) (by kernel_rfl) (by decide) (by kernel_rfl) (fun _ _ _ h => h) (Or.inl ⟨by rfl, ?_⟩) hS ?_
    · (intro w' hSw; go_simp)
    go_frame
    refine wpAnyN_take (i := 1) (v := .int .i64 0) rfl (by kernel_rfl) (by kernel_rfl) (by kernel_rfl) (by decide) (by kernel_rfl) (fun _ _ _ h => h) (Or.inl ⟨by rfl, ?_⟩) hS ?_
    · (intro w' hSw; go_simp)
    go_frame
    refine wpAnyN_take (i := 2) (v := .slice (some ⟨g, 0, none⟩) 0 cap) rfl (by kernel_rfl) (by kernel_rfl) (by kernel_rfl) (by decide) (by kernel_rfl) (fun _ _ _ h => h) (Or.inl ⟨by rfl, ?_⟩) hS ?_
    · (intro w' hSw; go_simp)
    go_frame
    refine wpAnyN_take (i := 3) (v := .slice (some ⟨g, 0, none⟩) n cap) rfl (by kernel_rfl) (by kernel_rfl) (by kernel_rfl) (by decide) (by kernel_rfl) (fun _ _ _ h => h) (Or.inl ⟨by rfl, ?_⟩) hS ?_
    · (intro w' hSw; go_simp)
    go_frame
    refine wpAnyN_take (i := 4) (v := .int .i64 ((k' + 1 : Nat) : Int)) rfl (by kernel_rfl) (by kernel_rfl) (by kernel_rfl) (by decide) (by kernel_rfl) (fun _ _ _ h => h) (Or.inl ⟨by rfl, ?_⟩) hS ?_
    · (intro w' hSw; go_simp)
    go_frame
    refine wpAnyN_take (i := 5) (v := .slice (some A) n1 (cap - (k' + 1))) rfl (by kernel_rfl) (by kernel_rfl) (by kernel_rfl) (by decide) (by kernel_rfl) (fun _ _ _ h => h) (Or.inl ⟨by rfl, ?_⟩) hS ?_
    · (intro w' hSw; go_simp; (exact ⟨HAV.out, HZZ.out⟩))
    go_frame
    refine wpAnyL_one (i := 6) (by kernel_rfl) rfl rfl ?_
    refine oper_append _ _ _ rfl (by rfl) (by rfl) (hid (HAP.out 0)) ⟨trivial, ?_⟩
    (try go_frame)
    refine wpAnyL_one (i := 7) (by kernel_rfl) rfl rfl ?_
    go_simp
    (try go_frame)
    refine wpAnyN_done (by kernel_rfl) ?_
    refine NoPanic.normal ?_
    clear hS
    go_wp2
    go_ret
    exact ⟨rfl, HF.out _ rfl⟩
end Go.Proofs.YtnbfbnhiikliaaaGreat.Hd
