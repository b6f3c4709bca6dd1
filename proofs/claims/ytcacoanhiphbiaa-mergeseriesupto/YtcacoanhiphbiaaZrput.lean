/-
  The document's own PutSample.
-/
import Derived.Test.YtcacoanhiphbiaaZlaw
import Derived.Deep.RegionHeld3
namespace Go.Proofs.Ytcacoanhiphbiaa.Mg
open Go Go.RowKit Go.Proofs.Lys
set_option linter.unusedVariables false
set_option linter.unusedSimpArgs false

theorem wp_region_then {P : Program} {id : Nat} {ops : Array Oper} {b : Bool} {Q : Exit → Act → World → Prop} {a : Act} {w : World} {A : Nat → Nat → Value → Value → Value → Act} (D : Value → World → Prop)
    (h1 : (Code.region id ops b).wp P (fun e a' w' => e = .normal ∧ ∃ bl br v3 v4 v5, a' = A bl br v3 v4 v5 ∧ D v5 w') a w) (h2 : ∀ bl br v3 v4 v5 w', D v5 w' → Q .normal (A bl br v3 v4 v5) w') : (Code.region id ops b).wp P Q a w :=
  Code.wp_mono (fun e a' w' h => by obtain ⟨rfl, bl, br, v3, v4, v5, rfl, hD⟩ := h; exact h2 bl br v3 v4 v5 w' hD) h1
theorem only_cell {w W : World} {O : Nat → Prop} (k : Only O w W) {a : Addr} (hO : ¬ O a.block) {u : Value} (h : w.cell? a = some u) : W.cell? a = some u := by
  rw [World.cell?_of_block (w := w) (w' := W) (a := a) (k.block a.block (World.block_lt_of_cell? w a h) hO)]
  exact h
def placeS (t : Int) : Smps → Nat
  | [] => 0
  | y :: r => if y.1 < t then placeS t r + 1 else 0
/-- One sample more, at its place, or instead of the one of its time. -/
theorem placeS_le (t : Int) (l : Smps) : placeS t l ≤ l.length := by
  induction l with
  | nil => exact Nat.le_refl _
  | cons y r ih =>
    unfold placeS
    split
    · simpa using ih
    · exact Nat.zero_le _
theorem placeS_lt {t : Int} {l : Smps} {i : Nat} (h : i < placeS t l) (hi : i < l.length) : l[i].1 < t := by
  induction l generalizing i with
  | nil => simp at hi
  | cons y r ih =>
    unfold placeS at h
    split at h
    · rename_i hy
      cases i with
      | zero => exact hy
      | succ i => exact ih (by omega) (by simpa using hi)
    · omega
theorem placeS_at {t : Int} {l : Smps} (h : placeS t l < l.length) : ¬ l[placeS t l].1 < t := by
  induction l with
  | nil => simp at h
  | cons y r ih =>
    by_cases hy : y.1 < t
    · have e : placeS t (y :: r) = placeS t r + 1 := by rw [placeS, if_pos hy]
      have h2 : placeS t r < r.length := by rw [e] at h; simpa using h
      have := ih h2
      simp only [e, List.getElem_cons_succ]
      exact this
    · have e : placeS t (y :: r) = 0 := by rw [placeS, if_neg hy]
      simp only [e, List.getElem_cons_zero]
      exact hy
theorem putS_eq (x : Smp) (l : Smps) : putS x l = if h : placeS x.1 l < l.length ∧ (l.getD (placeS x.1 l) (0, 0)).1 = x.1 then l.set (placeS x.1 l) x else l.take (placeS x.1 l) ++ x :: l.drop (placeS x.1 l) := by
  induction l with
  | nil => simp [putS, placeS]
  | cons y r ih =>
    by_cases hy : y.1 < x.1
    · have e : placeS x.1 (y :: r) = placeS x.1 r + 1 := by rw [placeS, if_pos hy]
      have e2 : putS x (y :: r) = y :: putS x r := by rw [putS, if_pos hy]
      rw [e, e2, ih]
      by_cases c : placeS x.1 r < r.length ∧ (r.getD (placeS x.1 r) (0, 0)).1 = x.1
      · rw [dif_pos c, dif_pos (by simpa using c)]
        rfl
      · rw [dif_neg c, dif_neg (by simpa using c)]
        rfl
    · have e : placeS x.1 (y :: r) = 0 := by rw [placeS, if_neg hy]
      rw [e]
      by_cases c : y.1 = x.1
      · have e2 : putS x (y :: r) = x :: r := by rw [putS, if_neg hy, if_pos c]
        rw [e2, dif_pos (by simp [c])]
        rfl
      · have e2 : putS x (y :: r) = x :: y :: r := by rw [putS, if_neg hy, if_neg c]
        rw [e2, dif_neg (by simp [c])]
        rfl
theorem Try.sizeSm2 (W : World) : (sizeOf 36).run Try.prog W = .ok 2 W := by kernel_rfl
theorem smp_part {w : World} {a : Option Addr} {c : Nat} {l : Smps} (hs : SmpSrc w (.slice a l.length c) l) (hc : l.length ≤ c) {lo hi : Nat} (h1 : lo ≤ hi) (h2 : hi ≤ l.length) :
    SmpSrc w (.slice (if c = lo then a else a.map (·.add (lo * 2))) (hi - lo) (c - lo)) ((l.take hi).drop lo) := by
  have hlen : ((l.take hi).drop lo).length = hi - lo := by rw [List.length_drop, List.length_take]; omega
  by_cases h0 : hi - lo = 0
  · have hn : (l.take hi).drop lo = [] := List.length_eq_zero_iff.1 (by rw [hlen]; exact h0)
    rw [hn, h0]
    exact .inl ⟨_, _, rfl, rfl⟩
  · rcases hs with ⟨x, y, hv, hn⟩ | ⟨hp, b, o, c2, hv, hcell⟩
    · rw [hn] at h2
      simp at h2
      omega
    · simp only [Value.slice.injEq] at hv
      obtain ⟨rfl, _, rfl⟩ := hv
      rw [if_neg (by omega)]
      refine .inr ⟨by rw [hlen]; omega, b, o + lo * 2, c - lo, by rw [hlen, Option.map_some, add_none], fun i hi' => ?_⟩
      rw [hlen] at hi'
      have := hcell (lo + i) (by omega)
      have e5 : ((l.take hi).drop lo)[i]'(by rw [hlen]; exact hi') = l[lo + i]'(by omega) := by
        rw [List.getElem_drop, List.getElem_take]
      rw [e5, show o + lo * 2 + i * 2 = o + (lo + i) * 2 by omega]
      exact this
theorem smp_to {w : World} {a : Option Addr} {c : Nat} {l : Smps} (hs : SmpSrc w (.slice a l.length c) l) (hc : l.length ≤ c) {hi : Nat} (h2 : hi ≤ l.length) :
    ∃ a' c', (∀ W, (Instr.sliceAt 27 (.slice a l.length c) none (some (.int .i64 (hi : Int))) none).run Try.prog W = .ok (.slice a' hi c') W) ∧ SmpSrc w (.slice a' hi c') (l.take hi) := by
  have e2 : hi ≤ c := by omega
  refine ⟨_, _, fun W => ?_, by have := smp_part hs hc (Nat.zero_le hi) h2; simpa using this⟩
  simp [Instr.sliceAt, Instr.slice, Instr.sliceBounds, Instr.sliceBound, run_underlying Try.underlying27, asIntOf, e2, Try.sizeSm2, Result.andThen]
theorem smp_from {w : World} {a : Option Addr} {c : Nat} {l : Smps} (hs : SmpSrc w (.slice a l.length c) l) (hc : l.length ≤ c) {lo : Nat} (h2 : lo ≤ l.length) :
    ∃ a' c', (∀ W, (Instr.sliceAt 27 (.slice a l.length c) (some (.int .i64 (lo : Int))) none none).run Try.prog W = .ok (.slice a' (l.length - lo) c') W) ∧ SmpSrc w (.slice a' (l.length - lo) c') (l.drop lo) := by
  refine ⟨_, _, fun W => ?_, by have := smp_part hs hc h2 (Nat.le_refl _); rw [List.take_length] at this; exact this⟩
  simp [Instr.sliceAt, Instr.slice, Instr.sliceBounds, Instr.sliceBound, run_underlying Try.underlying27, asIntOf, h2, hc, Try.sizeSm2, Result.andThen]

theorem place_is {T : Int} {l : Smps} {k : Nat} (hk : k ≤ l.length) (hp : ∀ i (hi : i < k) (hi' : i < l.length), l[i].1 < T) (he : ∀ h : k < l.length, ¬ l[k].1 < T) : placeS T l = k := by
  have h1 := placeS_le T l
  rcases Nat.lt_trichotomy (placeS T l) k with h | h | h
  · exact absurd (hp _ h (by omega)) (placeS_at (by omega))
  · exact h
  · exact absurd (placeS_lt h (by omega)) (he (by omega))
theorem put_no {T V : Int} {l : Smps} {k : Nat} (hk : k ≤ l.length) (hp : ∀ i (hi : i < k) (hi' : i < l.length), l[i].1 < T) (he : ∀ h : k < l.length, ¬ l[k].1 < T) (hne : ∀ h : k < l.length, l[k].1 ≠ T) : l.take k ++ [(T, V)] ++ l.drop k = putS (T, V) l := by
  rw [putS_eq, place_is hk hp he, dif_neg]
  · simp
  · rintro ⟨h1, h2⟩
    simp only [List.getD_eq_getElem?_getD, List.getElem?_eq_getElem h1, Option.getD_some] at h2
    exact hne h1 h2
theorem put_yes {T V : Int} {l : Smps} {k : Nat} (hk : k < l.length) (hp : ∀ i (hi : i < k) (hi' : i < l.length), l[i].1 < T) (he : l[k].1 = T) : l.take k ++ [(T, V)] ++ l.drop (k + 1) = putS (T, V) l := by
  rw [putS_eq, place_is (by omega) hp (fun _ => by omega), dif_pos ⟨hk, by simp only [List.getD_eq_getElem?_getD, List.getElem?_eq_getElem hk, Option.getD_some]; exact he⟩]
  rw [List.set_eq_take_append_cons_drop, if_pos hk]
  simp
/-- What stands when the parts of the new row lie there. -/
structure RPutP (w1 : World) (l1 : Smps) (x : Smp) (v : Value) (br : Nat) (X : World) : Prop where
  own : SmpAt X w1.heap.size v l1
  kept : Kept w1 X
  row : Blk X br [.int .i64 x.1, .int .i64 x.2] 36
theorem put_copy {w1 : World} {v1 : Value} {l1 : Smps} (hs : SmpSrc w1 v1 l1) (hl : l1.length ≤ 100000) (X : World) (kk : Kept w1 X) :
    ∃ v X', Hid ((Builtin.append_ #[27, 27] 0 #[.slice none 0 0, v1]).run Try.prog X = .ok v X') ∧ SmpAt X' w1.heap.size v l1 ∧ Kept X X' := by
  obtain ⟨v, X', hr, h1, h2, h3⟩ := smp_append (w := X) (B := X.heap.size) (v := .slice none 0 0) (l := []) ⟨rfl, .inl ⟨rfl, rfl⟩⟩ (hs.stay kk) (by simp; omega) (Nat.le_refl _)
  rw [List.nil_append] at h1
  exact ⟨v, X', hr, ownN_base h1 kk.size, (Only.refl _ X).grown h2 (fun j hj => by cases hj)⟩
theorem put_join {w1 : World} {l1 : Smps} {x : Smp} (hl : l1.length ≤ 100000) (v : Value) (br : Nat) (X : World) (hP : RPutP w1 l1 x v br X) :
    ∃ v4 X4, Hid ((Builtin.append_ #[27, 27] 0 #[v, .slice (some ⟨br, 0, none⟩) 1 1]).run Try.prog X = .ok v4 X4) ∧ SmpAt X4 w1.heap.size v4 (l1 ++ [x]) ∧ Kept w1 X4 := by
  have hsrc : SmpSrc X (.slice (some ⟨br, 0, none⟩) 1 1) [x] := .inr ⟨by simp, br, 0, 1, rfl, fun i hi => by
    have : i = 0 := by simpa using hi
    subst this
    exact ⟨hP.row.cell 0 rfl, hP.row.cell 1 rfl⟩⟩
  obtain ⟨v4, X4, hr, h1, h2, h3⟩ := smp_append hP.own hsrc (by simp; omega) hP.kept.size
  refine ⟨v4, X4, hr, h1, hP.kept.grown h2 (fun j hj hlt => ?_)⟩
  have := (ownN_lt hP.own hj).1
  omega
theorem put_last {w1 : World} {l1 q : Smps} {X : World} {v xv : Value} (hown : SmpAt X w1.heap.size v l1) (hk : Kept w1 X) (hs : SmpSrc X xv q) (hl : l1.length + q.length ≤ 1000000) :
    ∃ v4 X4, Hid ((Builtin.append_ #[27, 27] 0 #[v, xv]).run Try.prog X = .ok v4 X4) ∧ SmpAt X4 w1.heap.size v4 (l1 ++ q) ∧ Kept w1 X4 := by
  obtain ⟨v4, X4, hr, h1, h2, h3⟩ := smp_append hown hs hl hk.size
  refine ⟨v4, X4, hr, h1, hk.grown h2 (fun j hj hlt => ?_)⟩
  have := (ownN_lt hown hj).1
  omega
def PutA (w : World) (x : Smp) (l : Smps) (e : Ending) (w' : World) : Prop := ∃ u, e = .returned u ∧ SmpAt w' w.heap.size u (putS x l) ∧ Kept w w'
set_option maxRecDepth 100000 in
set_option maxHeartbeats 4000000 in
theorem rput_any (w : World) (v : Value) (l : Smps) (T V : Int) (hs : SmpSrc w v l) (hc : ∃ a c, v = .slice a l.length c ∧ l.length ≤ c) (hl : l.length ≤ 100000) :
    Calls Try.prog 30 #[v, .agg #[.int .i64 T, .int .i64 V]] w (PutA w (T, V) l) := by
  obtain ⟨ra, rc, rfl, hcap⟩ := hc
  obtain ⟨L, hL⟩ : ∃ L, l.length = L := ⟨_, rfl⟩
  obtain ⟨w1, hw1⟩ : ∃ w1, w.alloc (.cells #[.int .i64 T, .int .i64 V] 36) = w1 := ⟨_, rfl⟩
  have k1 : Kept w w1 := by rw [← hw1]; exact (Only.refl _ w).alloc _
  have hbx : Blk w1 w.heap.size [.int .i64 T, .int .i64 V] 36 := by rw [← hw1]; exact Blk.new w [.int .i64 T, .int .i64 V] 36
  have S0 : Hid (∀ W, Kept w1 W → W.cell? ⟨w.heap.size, 0, none⟩ = some (.int .i64 T) ∧ W.cell? ⟨w.heap.size, 1, none⟩ = some (.int .i64 V)) := fun W kW => ⟨only_cell kW (fun f => f) (hbx.cell 0 rfl), only_cell kW (fun f => f) (hbx.cell 1 rfl)⟩
  have HS := hid (hs.stay k1)
  have HCAP := hid hcap
  have HL := hid hL
  have HK1 := hid k1
  have FIN : Hid (∀ u W, SmpAt W w1.heap.size u (putS (T, V) l) → Kept w1 W → PutA w (T, V) l (.returned u) W) := fun u W h1 h2 => ⟨u, rfl, ownN_base h1 HK1.out.size, HK1.out.trans h2 (fun _ _ f => f)⟩
  rw [hL] at HS hl ⊢
  clear hs hcap hL k1 hbx
  go_enter Try.func30, Try.ntmps30
  go_wp2_with fail
  clear hw1
  go_loopw [5] (fun s wr => ∃ (k : Nat), k ≤ L ∧ s = .int .i64 (k : Int) ∧ (∀ i (hi : i < k) (hi' : i < l.length), l[i].1 < T) ∧ Kept w1 wr) (fun s _ => L - (intOf s).toNat)
  case atStart => exact ⟨0, by omega, rfl, fun i hi => (by omega), Only.refl _ _⟩
  case round =>
    obtain ⟨k, hk, rfl, hp, kr⟩ := hrel
    have HP := hid hp
    have HKr := hid kr
    obtain ⟨s0, s1'⟩ := S0.out _ kr
    clear hp
    by_cases hgo : ∃ h : k < l.length, l[k].1 < T
    · obtain ⟨hkl, hkt⟩ := hgo
      have hlt : k < L := by have := HL.out; omega
      obtain ⟨b1, o1, rfl, x1, y1⟩ := (HS.out.stay kr).cell HL.out k hlt
      have HP2 : Hid (∀ i (hi : i < k + 1) (hi' : i < l.length), l[i].1 < T) := fun i hi hi' => by
        rcases Nat.lt_or_eq_of_le (Nat.le_of_lt_succ hi) with h | h
        · exact HP.out i h hi'
        · subst h
          exact hkt
      generalize (l[k]'hkl).1 = X at *
      have dk : decide ((k : Int) < (L : Int)) = true := decide_eq_true (by omega)
      have dx : decide (X < T) = true := decide_eq_true hkt
      clear kr y1
      go_wp2_with fail
      go_quiet (fail)
      go_wp2_with fail
      go_roundw
      case rel => exact ⟨k + 1, by omega, by go_num, HP2.out, kept_drewN HKr.out nq⟩
      case measure => simp [intOf]; omega
    · have hno : ∀ h : k < l.length, ¬ l[k].1 < T := fun h h2 => hgo ⟨h, h2⟩
      obtain ⟨a1, c1, s1, hs1⟩ := smp_to (l := l) (a := ra) (c := rc) (by rw [HL.out]; exact HS.out) HCAP.out (hi := k) (by rw [HL.out]; exact hk)
      rw [HL.out] at s1
      have HCP := hid (put_copy hs1 (by rw [List.length_take]; omega))
      have HTL := hid (put_join (w1 := w1) (l1 := l.take k) (x := (T, V)) (by rw [List.length_take]; omega))
      have HNO := hid hno
      clear hs1 hno
      obtain ⟨wq, hwq⟩ : ∃ wq, Kept w1 wq ∧ wq = wq := ⟨wr, kr, rfl⟩
      by_cases hlt : k < L
      · have hkl : k < l.length := by have := HL.out; omega
        obtain ⟨b1, o1, rfl, x1, y1⟩ := (HS.out.stay kr).cell HL.out k hlt
        have HCL : Hid (∀ W, Kept w1 W → W.cell? ⟨b1, o1 + k * 2, none⟩ = some (.int .i64 (l[k]'hkl).1)) := fun W kW => by
          obtain ⟨b, o, e, h1, h2⟩ := (HS.out.stay kW).cell HL.out k hlt
          simp only [Option.some.injEq, Addr.mk.injEq] at e
          obtain ⟨rfl, rfl, _⟩ := e
          exact h1
        have hnx := HNO.out hkl
        have HEQ := hid (fun he => put_yes (V := V) hkl HP.out he)
        have HNE := hid (fun (he : (l[k]'hkl).1 ≠ T) => put_no (V := V) (by omega) HP.out HNO.out (fun _ => he))
        generalize (l[k]'hkl).1 = X at *
        have dk : decide ((k : Int) < (L : Int)) = true := decide_eq_true (by omega)
        have dx : decide (X < T) = false := decide_eq_false hnx
        clear kr y1 hgo
        go_wp2_with fail
        go_quiet (fail)
        have HKq := hid (kept_drewN HKr.out nq)
        clear s0 s1' x1 hwq wq
        generalize wr.drewN nq = wq at HKq ⊢
        go_wp2_with fail
        apply wp_region_then (D := fun v5 X5 => SmpAt X5 w1.heap.size v5 (l.take k ++ [(T, V)]) ∧ Kept w1 X5)
        case h1 =>
          refine wp_region_noPanic ?_
          refine wp_region_last (L := 1000) (S := fun w' => Kept w1 w') (by kernel_rfl) ?_
          have hS : (fun w' : World => Kept w1 w') wq.drew := HKq.out.drew
          refine wpAnyN_take (i := 0) (v := .slice (some ⟨b1, o1, none⟩) L rc) rfl (by kernel_rfl) (by kernel_rfl) (by kernel_rfl) (by decide) (by kernel_rfl) (fun _ _ _ h => h) (Or.inl ⟨by rfl, ?_⟩) hS ?_
          · (intro w' hSw; obtain ⟨s0, s1'⟩ := S0.out w' hSw; clear hSw; go_simp)
          go_frame
          refine wpAnyN_take (i := 1) (v := .int .i64 (k : Int)) rfl (by kernel_rfl) (by kernel_rfl) (by kernel_rfl) (by decide) (by kernel_rfl) (fun _ _ _ h => h) (Or.inl ⟨by rfl, ?_⟩) hS ?_
          · (intro w' hSw; obtain ⟨s0, s1'⟩ := S0.out w' hSw; clear hSw; go_simp)
          go_frame
          refine wpAnyN_take (i := 2) (v := .slice a1 k c1) rfl (by kernel_rfl) (by kernel_rfl) (by kernel_rfl) (by decide) (by kernel_rfl) (fun _ _ _ h => h) (Or.inl ⟨by rfl, ?_⟩) hS ?_
          · (intro w' hSw; obtain ⟨s0, s1'⟩ := S0.out w' hSw; clear hSw; go_simp)
          go_frame
          refine wpAnyN_take (i := 4) (v := .agg #[.int .i64 T, .int .i64 V]) rfl (by kernel_rfl) (by kernel_rfl) (by kernel_rfl) (by decide) (by kernel_rfl) (fun _ _ _ h => h) (Or.inl ⟨by rfl, ?_⟩) hS ?_
          · (intro w' hSw; obtain ⟨s0, s1'⟩ := S0.out w' hSw; clear hSw; go_simp)
          go_frame
          refine wpAnyL_two (i := 3) (j := 5) (by kernel_rfl) rfl rfl rfl rfl ?_ ?_
          · obtain ⟨v3, X3, R3, hv3, k3⟩ := HCP.out wq.drew HKq.out.drew
            have K3 := hid (show Kept w1 X3 from HKq.out.drew.trans k3 (fun _ _ f => f))
            refine oper_appendH _ _ _ rfl rfl rfl R3 ?_
            refine ⟨K3.out, ?_⟩
            go_frame
            refine wpAnyL_one (i := 5) (by kernel_rfl) rfl rfl ?_
            go_simp
            have ka : Kept X3 (X3.alloc (.cells #[.int .i64 T, .int .i64 V] 36)) := (Only.refl _ X3).alloc _
            refine ⟨K3.out.alloc _, ?_⟩
            (try go_frame)
            have hp : RPutP w1 (l.take k) (T, V) v3 X3.heap.size (X3.alloc (.cells #[.int .i64 T, .int .i64 V] 36)) := ⟨ownN_stay hv3 ka, K3.out.alloc _, Blk.new X3 [.int .i64 T, .int .i64 V] 36⟩
            clear ka hv3 k3
            obtain ⟨v4, X4, R4, hd4⟩ := HTL.out _ _ _ hp
            have HD4 := hid hd4
            have KX4 := hid hd4.2
            clear hd4 hp
            refine wpAnyL_one (i := 6) (by kernel_rfl) rfl rfl (oper_appendH _ _ _ rfl rfl rfl R4 ?_)
            refine ⟨KX4.out, ?_⟩
            go_frame
            refine wpAnyL_one (i := 7) (by kernel_rfl) rfl rfl ?_
            go_simp
            refine ⟨KX4.out, ?_⟩
            refine wpAnyN_done (by kernel_rfl) ?_
            refine NoPanic.normal ?_
            obtain ⟨br, _⟩ : ∃ br : Nat, True := ⟨0, trivial⟩
            obtain ⟨v9, _⟩ : ∃ v9 : Value, True := ⟨.slice none 0 0, trivial⟩
            generalize X3.heap.size = bl
            exact ⟨rfl, bl, br, v3, v9, v4, rfl, HD4.out⟩
          · go_simp
            refine ⟨HKq.out.drew.alloc _, ?_⟩
            (try go_frame)
            obtain ⟨v3, X3, R3, hv3, k3⟩ := HCP.out (wq.drew.alloc (.cells #[.int .i64 T, .int .i64 V] 36)) (HKq.out.drew.alloc _)
            have K3 := hid (show Kept w1 X3 from (HKq.out.drew.alloc _).trans k3 (fun _ _ f => f))
            refine wpAnyL_one (i := 3) (by kernel_rfl) rfl rfl (oper_appendH _ _ _ rfl rfl rfl R3 ?_)
            refine ⟨K3.out, ?_⟩
            go_frame
            have hp : RPutP w1 (l.take k) (T, V) v3 wq.heap.size X3 := ⟨hv3, K3.out, k3.blk (Blk.new wq.drew [.int .i64 T, .int .i64 V] 36) (fun f => f)⟩
            clear hv3 k3
            obtain ⟨v4, X4, R4, hd4⟩ := HTL.out _ _ _ hp
            have HD4 := hid hd4
            have KX4 := hid hd4.2
            clear hd4 hp
            refine wpAnyL_one (i := 6) (by kernel_rfl) rfl rfl (oper_appendH _ _ _ rfl rfl rfl R4 ?_)
            refine ⟨KX4.out, ?_⟩
            go_frame
            refine wpAnyL_one (i := 7) (by kernel_rfl) rfl rfl ?_
            go_simp
            refine ⟨KX4.out, ?_⟩
            refine wpAnyN_done (by kernel_rfl) ?_
            refine NoPanic.normal ?_
            obtain ⟨br, _⟩ : ∃ br : Nat, True := ⟨0, trivial⟩
            obtain ⟨v9, _⟩ : ∃ v9 : Value, True := ⟨.slice none 0 0, trivial⟩
            exact ⟨rfl, wq.heap.size, v3, v4, rfl, HD4.out⟩
        case h2 =>
          intro bl br v3 v9 v5 X5 hD
          obtain ⟨hv5, k5⟩ := hD
          have K5 := hid k5
          have HV5 := hid hv5
          obtain ⟨s0, s1'⟩ := S0.out _ k5
          have x1 := HCL.out _ k5
          clear hv5 k5
          by_cases he : X = T
          · have de : decide (X = T) = true := decide_eq_true he
            have de' : (X == T) = true := by simpa using he
            go_wp2_with fail
            go_quiet (fail)
            have HK6 := hid (kept_drewN K5.out nq)
            have HV6 := hid (ownN_stay HV5.out (kept_drewN (Only.refl (fun _ => False) X5) nq))
            clear s0 s1' K5 HV5
            clear x1
            generalize X5.drewN nq = X6 at HK6 HV6 ⊢
            obtain ⟨a2, c2, s2, hs2⟩ := smp_from (l := l) (a := (some ⟨b1, o1, none⟩)) (c := rc) (by rw [HL.out]; exact HS.out) HCAP.out (lo := k + 1) (by have := HL.out; omega)
            rw [HL.out] at s2 hs2
            have s2' : ∀ W, (Instr.sliceAt 27 (.slice (some ⟨b1, o1, none⟩) L rc) (some (.int .i64 ((k : Int) + 1))) none none).run Try.prog W = .ok (.slice a2 (L - (k + 1)) c2) W := fun W => s2 W
            obtain ⟨v7, X7, R7, hv7, k7⟩ := put_last HV6.out HK6.out (hs2.stay HK6.out) (by simp [List.length_take, List.length_drop]; have := HL.out; omega)
            rw [HEQ.out he] at hv7
            have HF := hid (FIN.out v7 X7 hv7 k7)
            clear s2 hs2 hv7 k7
            go_wp2_with (at_builtin; refine Lys.wpList_append_run rfl _ _ _ rfl rfl rfl R7 ?_)
            go_ret
            exact HF.out
          · have de : decide (X = T) = false := decide_eq_false he
            have de' : (X == T) = false := by simpa using he
            go_wp2_with fail
            go_quiet (fail)
            have HK6 := hid (kept_drewN K5.out nq)
            have HV6 := hid (ownN_stay HV5.out (kept_drewN (Only.refl (fun _ => False) X5) nq))
            clear s0 s1' K5 HV5
            clear x1
            generalize X5.drewN nq = X6 at HK6 HV6 ⊢
            obtain ⟨a2, c2, s2, hs2⟩ := smp_from (l := l) (a := (some ⟨b1, o1, none⟩)) (c := rc) (by rw [HL.out]; exact HS.out) HCAP.out (lo := k) (by have := HL.out; omega)
            rw [HL.out] at s2 hs2
            have s2' : ∀ W, (Instr.sliceAt 27 (.slice (some ⟨b1, o1, none⟩) L rc) (some (.int .i64 (k : Int))) none none).run Try.prog W = .ok (.slice a2 (L - k) c2) W := fun W => s2 W
            obtain ⟨v7, X7, R7, hv7, k7⟩ := put_last HV6.out HK6.out (hs2.stay HK6.out) (by simp [List.length_take, List.length_drop]; have := HL.out; omega)
            rw [HNE.out he] at hv7
            have HF := hid (FIN.out v7 X7 hv7 k7)
            clear s2 hs2 hv7 k7
            go_wp2_with (at_builtin; refine Lys.wpList_append_run rfl _ _ _ rfl rfl rfl R7 ?_)
            go_ret
            exact HF.out
      · have dk : decide ((k : Int) < (L : Int)) = false := decide_eq_false (by omega)
        have HNE := hid (put_no (V := V) (k := k) (by have := HL.out; omega) HP.out HNO.out (fun h => by have := HL.out; omega))
        clear kr hgo
        go_wp2_with fail
        go_quiet (fail)
        have HKq := hid (kept_drewN HKr.out nq)
        clear s0 s1' hwq wq
        generalize wr.drewN nq = wq at HKq ⊢
        go_wp2_with fail
        apply wp_region_then (D := fun v5 X5 => SmpAt X5 w1.heap.size v5 (l.take k ++ [(T, V)]) ∧ Kept w1 X5)
        case h1 =>
          refine wp_region_noPanic ?_
          refine wp_region_last (L := 1000) (S := fun w' => Kept w1 w') (by kernel_rfl) ?_
          have hS : (fun w' : World => Kept w1 w') wq.drew := HKq.out.drew
          refine wpAnyN_take (i := 0) (v := .slice ra L rc) rfl (by kernel_rfl) (by kernel_rfl) (by kernel_rfl) (by decide) (by kernel_rfl) (fun _ _ _ h => h) (Or.inl ⟨by rfl, ?_⟩) hS ?_
          · (intro w' hSw; obtain ⟨s0, s1'⟩ := S0.out w' hSw; clear hSw; go_simp)
          go_frame
          refine wpAnyN_take (i := 1) (v := .int .i64 (k : Int)) rfl (by kernel_rfl) (by kernel_rfl) (by kernel_rfl) (by decide) (by kernel_rfl) (fun _ _ _ h => h) (Or.inl ⟨by rfl, ?_⟩) hS ?_
          · (intro w' hSw; obtain ⟨s0, s1'⟩ := S0.out w' hSw; clear hSw; go_simp)
          go_frame
          refine wpAnyN_take (i := 2) (v := .slice a1 k c1) rfl (by kernel_rfl) (by kernel_rfl) (by kernel_rfl) (by decide) (by kernel_rfl) (fun _ _ _ h => h) (Or.inl ⟨by rfl, ?_⟩) hS ?_
          · (intro w' hSw; obtain ⟨s0, s1'⟩ := S0.out w' hSw; clear hSw; go_simp)
          go_frame
          refine wpAnyN_take (i := 4) (v := .agg #[.int .i64 T, .int .i64 V]) rfl (by kernel_rfl) (by kernel_rfl) (by kernel_rfl) (by decide) (by kernel_rfl) (fun _ _ _ h => h) (Or.inl ⟨by rfl, ?_⟩) hS ?_
          · (intro w' hSw; obtain ⟨s0, s1'⟩ := S0.out w' hSw; clear hSw; go_simp)
          go_frame
          refine wpAnyL_two (i := 3) (j := 5) (by kernel_rfl) rfl rfl rfl rfl ?_ ?_
          · obtain ⟨v3, X3, R3, hv3, k3⟩ := HCP.out wq.drew HKq.out.drew
            have K3 := hid (show Kept w1 X3 from HKq.out.drew.trans k3 (fun _ _ f => f))
            refine oper_appendH _ _ _ rfl rfl rfl R3 ?_
            refine ⟨K3.out, ?_⟩
            go_frame
            refine wpAnyL_one (i := 5) (by kernel_rfl) rfl rfl ?_
            go_simp
            have ka : Kept X3 (X3.alloc (.cells #[.int .i64 T, .int .i64 V] 36)) := (Only.refl _ X3).alloc _
            refine ⟨K3.out.alloc _, ?_⟩
            (try go_frame)
            have hp : RPutP w1 (l.take k) (T, V) v3 X3.heap.size (X3.alloc (.cells #[.int .i64 T, .int .i64 V] 36)) := ⟨ownN_stay hv3 ka, K3.out.alloc _, Blk.new X3 [.int .i64 T, .int .i64 V] 36⟩
            clear ka hv3 k3
            obtain ⟨v4, X4, R4, hd4⟩ := HTL.out _ _ _ hp
            have HD4 := hid hd4
            have KX4 := hid hd4.2
            clear hd4 hp
            refine wpAnyL_one (i := 6) (by kernel_rfl) rfl rfl (oper_appendH _ _ _ rfl rfl rfl R4 ?_)
            refine ⟨KX4.out, ?_⟩
            go_frame
            refine wpAnyL_one (i := 7) (by kernel_rfl) rfl rfl ?_
            go_simp
            refine ⟨KX4.out, ?_⟩
            refine wpAnyN_done (by kernel_rfl) ?_
            refine NoPanic.normal ?_
            obtain ⟨br, _⟩ : ∃ br : Nat, True := ⟨0, trivial⟩
            obtain ⟨v9, _⟩ : ∃ v9 : Value, True := ⟨.slice none 0 0, trivial⟩
            generalize X3.heap.size = bl
            exact ⟨rfl, bl, br, v3, v9, v4, rfl, HD4.out⟩
          · go_simp
            refine ⟨HKq.out.drew.alloc _, ?_⟩
            (try go_frame)
            obtain ⟨v3, X3, R3, hv3, k3⟩ := HCP.out (wq.drew.alloc (.cells #[.int .i64 T, .int .i64 V] 36)) (HKq.out.drew.alloc _)
            have K3 := hid (show Kept w1 X3 from (HKq.out.drew.alloc _).trans k3 (fun _ _ f => f))
            refine wpAnyL_one (i := 3) (by kernel_rfl) rfl rfl (oper_appendH _ _ _ rfl rfl rfl R3 ?_)
            refine ⟨K3.out, ?_⟩
            go_frame
            have hp : RPutP w1 (l.take k) (T, V) v3 wq.heap.size X3 := ⟨hv3, K3.out, k3.blk (Blk.new wq.drew [.int .i64 T, .int .i64 V] 36) (fun f => f)⟩
            clear hv3 k3
            obtain ⟨v4, X4, R4, hd4⟩ := HTL.out _ _ _ hp
            have HD4 := hid hd4
            have KX4 := hid hd4.2
            clear hd4 hp
            refine wpAnyL_one (i := 6) (by kernel_rfl) rfl rfl (oper_appendH _ _ _ rfl rfl rfl R4 ?_)
            refine ⟨KX4.out, ?_⟩
            go_frame
            refine wpAnyL_one (i := 7) (by kernel_rfl) rfl rfl ?_
            go_simp
            refine ⟨KX4.out, ?_⟩
            refine wpAnyN_done (by kernel_rfl) ?_
            refine NoPanic.normal ?_
            obtain ⟨br, _⟩ : ∃ br : Nat, True := ⟨0, trivial⟩
            obtain ⟨v9, _⟩ : ∃ v9 : Value, True := ⟨.slice none 0 0, trivial⟩
            exact ⟨rfl, wq.heap.size, v3, v4, rfl, HD4.out⟩
        case h2 =>
          intro bl br v3 v9 v5 X5 hD
          obtain ⟨hv5, k5⟩ := hD
          have K5 := hid k5
          have HV5 := hid hv5
          obtain ⟨s0, s1'⟩ := S0.out _ k5
          clear hv5 k5
          go_wp2_with fail
          go_quiet (fail)
          have HK6 := hid (kept_drewN K5.out nq)
          have HV6 := hid (ownN_stay HV5.out (kept_drewN (Only.refl (fun _ => False) X5) nq))
          clear s0 s1' K5 HV5
          generalize X5.drewN nq = X6 at HK6 HV6 ⊢
          obtain ⟨a2, c2, s2, hs2⟩ := smp_from (l := l) (a := ra) (c := rc) (by rw [HL.out]; exact HS.out) HCAP.out (lo := k) (by have := HL.out; omega)
          rw [HL.out] at s2 hs2
          have s2' : ∀ W, (Instr.sliceAt 27 (.slice ra L rc) (some (.int .i64 (k : Int))) none none).run Try.prog W = .ok (.slice a2 (L - k) c2) W := fun W => s2 W
          obtain ⟨v7, X7, R7, hv7, k7⟩ := put_last HV6.out HK6.out (hs2.stay HK6.out) (by simp [List.length_take, List.length_drop]; have := HL.out; omega)
          rw [HNE.out] at hv7
          have HF := hid (FIN.out v7 X7 hv7 k7)
          clear s2 hs2 hv7 k7
          go_wp2_with (at_builtin; refine Lys.wpList_append_run rfl _ _ _ rfl rfl rfl R7 ?_)
          go_ret
          exact HF.out
end Go.Proofs.Ytcacoanhiphbiaa.Mg
