/-
  What is put together once more is the same; samples that are the same; the example.
-/
import Derived.Test.YtcacoanhiphbiaaZsamp
namespace Go.Proofs.Ytcacoanhiphbiaa.Mg
open Go Go.RowKit Go.Proofs.Lys
set_option linter.unusedVariables false
set_option linter.unusedSimpArgs false

theorem put_over {x y : Smp} (h : y.1 = x.1) : ∀ o : Smps, putS x (putS y o) = putS x o := by
  intro o
  induction o with
  | nil =>
    simp only [putS]
    rw [if_neg (by omega), if_pos h]
  | cons z r ih =>
    by_cases h1 : z.1 < x.1
    · have h2 : z.1 < y.1 := by omega
      simp only [putS, if_pos h1, if_pos h2, ih]
    · have h2 : ¬ z.1 < y.1 := by omega
      have h5 : ¬ y.1 < x.1 := by omega
      by_cases h3 : z.1 = x.1
      · have h4 : z.1 = y.1 := by omega
        simp only [putS, if_neg h1, if_neg h2, if_pos h3, if_pos h4, if_neg h5, if_pos h]
      · have h4 : ¬ z.1 = y.1 := by omega
        simp only [putS, if_neg h1, if_neg h2, if_neg h3, if_neg h4, if_neg h5, if_pos h]
theorem putAll_put {x : Smp} : ∀ (m o : Smps), RiseS m → putAll o (putS x m) = putS x (putAll o m) := by
  intro m
  induction m with
  | nil => intro o _; rfl
  | cons y r ih =>
    intro o hr
    have hr2 := List.pairwise_cons.1 hr
    by_cases h1 : y.1 < x.1
    · rw [putS, if_pos h1, putAll_cons, putAll_cons]
      exact ih (putS y o) hr2.2
    · by_cases h2 : y.1 = x.1
      · rw [putS, if_neg h1, if_pos h2, putAll_cons, putAll_cons, putAll_first r (putS y o) (fun z hz => by have := hr2.1 z hz; omega), put_over h2]
      · rw [putS, if_neg h1, if_neg h2, putAll_cons]
        exact (putAll_first (y :: r) o (fun z hz => by
          rcases List.mem_cons.1 hz with rfl | hz
          · exact h2
          · have := hr2.1 z hz; omega)).symm
theorem put_rise {x : Smp} : ∀ {o : Smps}, RiseS o → RiseS (putS x o) ∧ ∀ y ∈ putS x o, y = x ∨ y ∈ o := by
  intro o
  induction o with
  | nil => intro _; exact ⟨List.pairwise_singleton _ _, fun y hy => .inl (List.mem_singleton.1 hy)⟩
  | cons z r ih =>
    intro h
    have h2 := List.pairwise_cons.1 h
    have h3 := ih h2.2
    rw [putS]
    by_cases h1 : z.1 < x.1
    · rw [if_pos h1]
      refine ⟨List.pairwise_cons.2 ⟨fun y hy => ?_, h3.1⟩, fun y hy => ?_⟩
      · rcases h3.2 y hy with rfl | hy
        · exact h1
        · exact h2.1 y hy
      · rcases List.mem_cons.1 hy with rfl | hy
        · exact .inr List.mem_cons_self
        · rcases h3.2 y hy with e | e
          · exact .inl e
          · exact .inr (List.mem_cons_of_mem _ e)
    · rw [if_neg h1]
      by_cases h4 : z.1 = x.1
      · rw [if_pos h4]
        refine ⟨List.pairwise_cons.2 ⟨fun y hy => by have := h2.1 y hy; omega, h2.2⟩, fun y hy => ?_⟩
        rcases List.mem_cons.1 hy with rfl | hy
        · exact .inl rfl
        · exact .inr (List.mem_cons_of_mem _ hy)
      · rw [if_neg h4]
        refine ⟨List.pairwise_cons.2 ⟨fun y hy => ?_, h⟩, fun y hy => ?_⟩
        · rcases List.mem_cons.1 hy with rfl | hy
          · omega
          · have := h2.1 y hy; omega
        · rcases List.mem_cons.1 hy with rfl | hy
          · exact .inl rfl
          · exact .inr hy
theorem putAll_rise : ∀ (l o : Smps), RiseS o → RiseS (putAll o l) := by
  intro l
  induction l with
  | nil => intro o h; exact h
  | cons x r ih => intro o h; rw [putAll_cons]; exact ih _ (put_rise h).1
theorem mrg_rise (s : Smps) : RiseS (mrg s) := putAll_rise s [] List.Pairwise.nil
theorem putAll_mrgN (o : Smps) : ∀ (n : Nat) (s : Smps), s.length = n → putAll o (mrg s) = putAll o s := by
  intro n
  induction n with
  | zero =>
    intro s hs
    have : s = [] := List.length_eq_zero_iff.1 hs
    subst this
    rfl
  | succ n ih =>
    intro s hs
    rcases List.eq_nil_or_concat s with rfl | ⟨t, x, e⟩
    · rfl
    · rw [List.concat_eq_append] at e
      subst e
      have h1 : mrg (t ++ [x]) = putS x (mrg t) := putAll_app [] t [x]
      have h2 : putAll o (t ++ [x]) = putS x (putAll o t) := putAll_app o t [x]
      rw [h1, h2, putAll_put _ o (mrg_rise t), ih t (by simpa using hs)]
theorem putAll_mrg (o s : Smps) : putAll o (mrg s) = putAll o s := putAll_mrgN o s.length s rfl
theorem put_mem {x : Smp} : ∀ {m : Smps}, RiseS m → x ∈ m → putS x m = m := by
  intro m
  induction m with
  | nil => intro _ h; cases h
  | cons z r ih =>
    intro h hx
    have h2 := List.pairwise_cons.1 h
    rcases List.mem_cons.1 hx with rfl | hx
    · rw [putS, if_neg (by omega), if_pos rfl]
    · rw [putS, if_pos (h2.1 x hx), ih h2.2 hx]
theorem putAll_mem {m : Smps} (hm : RiseS m) : ∀ l : Smps, (∀ x ∈ l, x ∈ m) → putAll m l = m := by
  intro l
  induction l with
  | nil => intro _; rfl
  | cons x r ih =>
    intro h
    rw [putAll_cons, put_mem hm (h x List.mem_cons_self)]
    exact ih (fun y hy => h y (List.mem_cons_of_mem _ hy))
theorem mrg_app (a b : Smps) : mrg (a ++ b) = putAll (mrg a) b := putAll_app [] a b
theorem mrg_left (a b c : Smps) : mrg (mrg (a ++ b) ++ c) = mrg (a ++ b ++ c) := by
  rw [mrg_app, mrg_app (a ++ b) c]
  congr 1
  exact putAll_mrg [] (a ++ b)
theorem mrg_right (a b c : Smps) : mrg (a ++ mrg (b ++ c)) = mrg (a ++ b ++ c) := by
  rw [mrg_app, putAll_mrg, List.append_assoc, mrg_app]
theorem mrg_again (s : Smps) : mrg (mrg s ++ mrg s) = mrg s := by
  rw [mrg_app]
  have h : mrg (mrg s) = mrg s := putAll_mrg [] s
  rw [h]
  exact putAll_mem (mrg_rise s) _ (fun x hx => hx)
theorem putS_len (x : Smp) : ∀ o : Smps, (putS x o).length ≤ o.length + 1 := by
  intro o
  induction o with
  | nil => exact Nat.le_refl _
  | cons z r ih =>
    rw [putS]
    split
    · simp only [List.length_cons]; omega
    · split
      · simp only [List.length_cons]; omega
      · simp only [List.length_cons]; omega
theorem putAll_len : ∀ (l o : Smps), (putAll o l).length ≤ o.length + l.length := by
  intro l
  induction l with
  | nil => intro o; exact Nat.le_refl _
  | cons x r ih =>
    intro o
    rw [putAll_cons, List.length_cons]
    have h1 := ih (putS x o)
    have h2 := putS_len x o
    omega
theorem mrg_len (s : Smps) : (mrg s).length ≤ s.length := by
  have h := putAll_len s []
  rw [List.length_nil, Nat.zero_add] at h
  exact h
theorem smpAt_ssrc {w : World} {B : Nat} {v : Value} {l : Smps} (h : SmpAt w B v l) : SSrc w v l := by
  refine ⟨h.src, ?_⟩
  rcases h.2 with ⟨rfl, h0⟩ | ⟨g, cap, cur, rfl, _, _, hcap, _⟩
  · exact ⟨none, 0, by rw [h0], by omega⟩
  · exact ⟨_, cap, rfl, hcap⟩
set_option maxRecDepth 100000 in
set_option maxHeartbeats 1600000 in
theorem ssame_any (w : World) (va vb : Value) (l : Smps) (ha : SmpSrc w va l) (hb : SmpSrc w vb l) (hl : l.length ≤ 1000000) :
    Calls Try.prog 19 #[va, vb] w fun e w' => e = .returned (.bool true) ∧ Kept w w' := by
  obtain ⟨a1, c1, rfl⟩ := ha.len
  obtain ⟨a2, c2, rfl⟩ := hb.len
  obtain ⟨L, hL⟩ : ∃ L, l.length = L := ⟨_, rfl⟩
  rw [hL] at ha hb hl ⊢
  have HA := hid ha
  have HB := hid hb
  have HL := hid hL
  clear ha hb hL
  go_enter Try.func19, Try.ntmps19
  go_wp2
  go_loopw [5] (fun s wr => ∃ (k : Nat), k ≤ L ∧ s = .int .i64 (k : Int) ∧ Kept w wr) (fun s _ => L - (intOf s).toNat)
  case atStart => exact ⟨0, by omega, rfl, Only.refl _ _⟩
  case round =>
    obtain ⟨k, hk, rfl, kr⟩ := hrel
    by_cases hlt : k < L
    · obtain ⟨b1, o1, rfl, x1, y1⟩ := (HA.out.stay kr).cell HL.out k hlt
      obtain ⟨b2, o2, rfl, x2, y2⟩ := (HB.out.stay kr).cell HL.out k hlt
      generalize (l[k]'(by have := HL.out; omega)).1 = X at x1 x2
      generalize (l[k]'(by have := HL.out; omega)).2 = Y at y1 y2
      go_wp2_with fail
      go_quiet (fail)
      go_wp2_with fail
      go_roundw
      case rel => exact ⟨k + 1, by omega, by go_num, kept_drewN kr nq⟩
      case measure => simp [intOf]; omega
    · have e : k = L := by omega
      subst e
      go_wp2
      go_ret
      exact ⟨rfl, kr⟩
/-- Two lists in a literal. -/
theorem samples2 (w : World) (v1 v2 : Value) (l1 l2 : Smps) (h1 : SSrc w v1 l1) (h2 : SSrc w v2 l2) (hl : l1.length + l2.length ≤ 100000) :
    Calls Try.prog 10 #[.slice (some ⟨w.heap.size, 0, none⟩) 2 2] (w.alloc (.cells #[v1, v2] 27)) fun e w' => ∃ v, e = .returned v ∧ SmpAt w' w.heap.size v (mrg (l1 ++ l2)) ∧ Kept w w' := by
  have k : Kept w (w.alloc (.cells #[v1, v2] 27)) := (Only.refl _ w).alloc _
  have hb := Blk.new w [v1, v2] 27
  have hs : LLSrc (w.alloc (.cells #[v1, v2] 27)) (.slice (some ⟨w.heap.size, 0, none⟩) 2 2) [v1, v2] [l1, l2] := by
    refine ⟨.inr ⟨⟨w.heap.size, 0, none⟩, 2, rfl, fun j u hu => by rw [add_none, Nat.zero_add]; exact hb.cell j hu⟩, rfl, fun i hi hi' => ?_⟩
    match i, hi with
    | 0, _ => exact h1.stay k
    | 1, _ => exact h2.stay k
  have hf : ([l1, l2] : List Smps).flatten = l1 ++ l2 := by simp
  refine (samples_any _ _ _ _ hs (by rw [hf, List.length_append]; exact hl) (by show 2 ≤ 100000; decide)).mono ?_
  rintro e w' ⟨v, rfl, h3, k3⟩
  rw [hf] at h3
  exact ⟨v, rfl, ownN_base h3 k.size, k.trans k3 (fun _ _ f => f)⟩
/-- Three. -/
theorem samples3 (w : World) (v1 v2 v3 : Value) (l1 l2 l3 : Smps) (h1 : SSrc w v1 l1) (h2 : SSrc w v2 l2) (h3 : SSrc w v3 l3) (hl : l1.length + l2.length + l3.length ≤ 100000) :
    Calls Try.prog 10 #[.slice (some ⟨w.heap.size, 0, none⟩) 3 3] (w.alloc (.cells #[v1, v2, v3] 27)) fun e w' => ∃ v, e = .returned v ∧ SmpAt w' w.heap.size v (mrg (l1 ++ l2 ++ l3)) ∧ Kept w w' := by
  have k : Kept w (w.alloc (.cells #[v1, v2, v3] 27)) := (Only.refl _ w).alloc _
  have hb := Blk.new w [v1, v2, v3] 27
  have hs : LLSrc (w.alloc (.cells #[v1, v2, v3] 27)) (.slice (some ⟨w.heap.size, 0, none⟩) 3 3) [v1, v2, v3] [l1, l2, l3] := by
    refine ⟨.inr ⟨⟨w.heap.size, 0, none⟩, 3, rfl, fun j u hu => by rw [add_none, Nat.zero_add]; exact hb.cell j hu⟩, rfl, fun i hi hi' => ?_⟩
    match i, hi with
    | 0, _ => exact h1.stay k
    | 1, _ => exact h2.stay k
    | 2, _ => exact h3.stay k
  have hf : ([l1, l2, l3] : List Smps).flatten = l1 ++ l2 ++ l3 := by simp
  refine (samples_any _ _ _ _ hs (by rw [hf, List.length_append, List.length_append]; exact hl) (by show 3 ≤ 100000; decide)).mono ?_
  rintro e w' ⟨v, rfl, h4, k4⟩
  rw [hf] at h4
  exact ⟨v, rfl, ownN_base h4 k.size, k.trans k4 (fun _ _ f => f)⟩
set_option maxRecDepth 100000 in
set_option maxHeartbeats 1600000 in
theorem alive18_any (w : World) : Calls Try.prog 4 #[] w fun e w' => e = .returned (.bool true) ∧ Kept w w' := by
  obtain ⟨w2, hw2⟩ : ∃ W, (w.alloc (.cells #[.int .i64 1, .int .i64 1, .int .i64 2, .int .i64 2] 36)).alloc (.cells #[.int .i64 2, .int .i64 3] 36) = W := ⟨_, rfl⟩
  have k2 : Kept w w2 := by rw [← hw2]; exact ((Only.refl _ w).alloc _).alloc _
  have hsz : w2.heap.size = w.heap.size + 1 + 1 := by rw [← hw2]; simp
  have hbA : Blk w2 w.heap.size [.int .i64 1, .int .i64 1, .int .i64 2, .int .i64 2] 36 := by rw [← hw2]; exact (Blk.new w [.int .i64 1, .int .i64 1, .int .i64 2, .int .i64 2] 36).alloc _
  have hbB : Blk w2 (w.heap.size + 1) [.int .i64 2, .int .i64 3] 36 := by
    rw [← hw2]
    have := Blk.new (w.alloc (.cells #[.int .i64 1, .int .i64 1, .int .i64 2, .int .i64 2] 36)) [.int .i64 2, .int .i64 3] 36
    rw [World.size_alloc] at this
    exact this
  have h1 : SSrc w2 (.slice (some ⟨w.heap.size, 0, none⟩) 2 2) [(1, 1), (2, 2)] := by
    refine ⟨.inr ⟨by decide, w.heap.size, 0, 2, rfl, fun i hi => ?_⟩, _, 2, rfl, Nat.le_refl _⟩
    match i, hi with
    | 0, _ => exact ⟨hbA.cell 0 rfl, hbA.cell 1 rfl⟩
    | 1, _ => exact ⟨hbA.cell 2 rfl, hbA.cell 3 rfl⟩
  have h2 : SSrc w2 (.slice (some ⟨w.heap.size + 1, 0, none⟩) 1 1) [(2, 3)] := by
    refine ⟨.inr ⟨by decide, w.heap.size + 1, 0, 1, rfl, fun i hi => ?_⟩, _, 1, rfl, Nat.le_refl _⟩
    match i, hi with
    | 0, _ => exact ⟨hbB.cell 0 rfl, hbB.cell 1 rfl⟩
  have HS := hid (samples2 w2 _ _ _ _ h1 h2 (by decide))
  rw [show mrg ([(1, 1), (2, 2)] ++ [(2, 3)]) = [(1, 1), (2, 3)] from by decide, hsz] at HS
  have HW2 := hid hw2
  have K2 := hid k2
  clear h1 h2 hbA hbB hw2 k2 hsz
  go_enter Try.func4, Try.ntmps4
  go_wp2_with fail
  rw [HW2.out]
  refine HS.out.mono ?_
  rintro e w3 ⟨v3, rfl, h3, k3⟩
  obtain ⟨g, cap, rfl⟩ := ownN_some h3 (by decide)
  have c0 : w3.cell? ⟨g, 0, none⟩ = some (.int .i64 1) := h3.cellAt 0 (by decide)
  have c1 : w3.cell? ⟨g, 1, none⟩ = some (.int .i64 1) := h3.cellAt 1 (by decide)
  have c2 : w3.cell? ⟨g, 2, none⟩ = some (.int .i64 2) := h3.cellAt 2 (by decide)
  have c3 : w3.cell? ⟨g, 3, none⟩ = some (.int .i64 3) := h3.cellAt 3 (by decide)
  have hlg := (ownN_lt h3 rfl).2
  have K3 := hid (K2.out.trans k3 (fun _ _ f => f))
  clear HS h3 k3
  go_wp2
  go_ret
  exact ⟨rfl, K3.out⟩
end Go.Proofs.Ytcacoanhiphbiaa.Mg
