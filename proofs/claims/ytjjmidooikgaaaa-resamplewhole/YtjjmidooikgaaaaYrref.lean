/-
  Package rollup: the document's own: times, and whether they rise.
-/
import Derived.Test.YtjjmidooikgaaaaYsame
namespace Go.Proofs.Ytjjmidooikgaaaa.Ru
open Go Go.RowKit Go.Proofs.Lys
set_option linter.unusedVariables false
set_option linter.unusedSimpArgs false

theorem src_cells {w : World} {b o n c : Nat} {xs : List Value} (h : SrcOf w (.slice (some ⟨b, o, none⟩) n c) xs) : ∀ j u, xs[j]? = some u → w.cell? ⟨b, o + j, none⟩ = some u := by
  intro j u hu
  rcases h with ⟨h, _⟩ | ⟨a, c', h, hc⟩
  · cases h
  · cases h
    rw [← add_none]
    exact hc j u hu
theorem int_cells {w : World} {b o n c : Nat} {l : List Int} (h : SrcOf w (.slice (some ⟨b, o, none⟩) n c) (l.map (Value.int .i64))) : ∀ j (hj : j < l.length), w.cell? ⟨b, o + j, none⟩ = some (.int .i64 l[j]) :=
  fun j hj => src_cells h j _ (by rw [List.getElem?_map, List.getElem?_eq_getElem hj]; rfl)

theorem infoI6 : (Try.prog.info? 3).map (fun i => (i.zero, i.size, i.bytes)) = some (some (.int .i64 0), 1, 8) := by kernel_rfl
theorem own_num {w : World} {base : Nat} {vr : Value} {lr : List Int} (hown : w.ownsRow base 3 1 vr lr.length (lr.map (Value.int .i64))) (hb : base ≤ w.heap.size) (hl : lr.length ≤ 1000000) (X : Int) :
    ∃ g cap w1, Hid ((Builtin.append_ #[24, 24] 0 #[vr, .slice (some ⟨w.heap.size, 0, none⟩) 1 1]).run Try.prog (w.alloc (.cells #[.int .i64 X] 3)) = .ok (.slice (some ⟨g, 0, none⟩) (lr.length + 1) cap) w1) ∧ w1.ownsRow base 3 1 (.slice (some ⟨g, 0, none⟩) (lr.length + 1) cap) (lr ++ [X]).length ((lr ++ [X]).map (Value.int .i64)) ∧ Only (fun k => vr.ownBlock = some k) w w1 ∧ (∀ k, (Value.slice (some ⟨g, 0, none⟩) (lr.length + 1) cap).ownBlock = some k → vr.ownBlock = some k ∨ k = w.heap.size + 1) := by
  obtain ⟨v', w1, hrun, hown1, hgrow, hat⟩ := append_src (P := Try.prog) (xv := .slice (some ⟨w.heap.size, 0, none⟩) 1 1) (ys := [.int .i64 X]) Try.underlying24 infoI6 rfl (by decide) (hown.alloc (.cells #[.int .i64 X] 3)) (own_src (World.ownsRow_lit w #[.int .i64 X] 1 (Nat.zero_le _) (by decide) rfl)) (by intro u hu; simp at hu; subst hu; rfl) (by simp; omega) (by simp; omega)
  obtain ⟨g, cap, rfl⟩ := own_some hown1 (by simp)
  refine ⟨g, cap, w1, hrun, ?_, ((Only.refl _ w).alloc _).grown hgrow (fun j hj _ => hj), ?_⟩
  rotate_left
  · intro k hk
    rcases hat with h | h
    · exact .inl (h ▸ hk)
    · right
      have : some k = some (w.alloc (.cells #[.int .i64 X] 3)).heap.size := hk.symm.trans h
      simpa using this
  have e1 : (lr ++ [X]).length = lr.length + [Value.int .i64 X].length := by simp
  have e2 : (lr ++ [X]).map (Value.int .i64) = lr.map (Value.int .i64) ++ [Value.int .i64 X] := by rw [List.map_append]; rfl
  rw [e1, e2]
  exact hown1

def Rising (l : List Int) : Prop := ∀ i (h : i < l.length), -9007199254740992 ≤ l[i] ∧ l[i] ≤ 9007199254740992 ∧ (0 < i → l[i - 1] < l[i])
theorem rising_snoc (l : List Int) (t : Int) : Rising (l ++ [t]) ↔ Rising l ∧ -9007199254740992 ≤ t ∧ t ≤ 9007199254740992 ∧ (∀ h : 0 < l.length, l[l.length - 1] < t) := by
  constructor
  · intro h
    refine ⟨fun i hi => ?_, ?_⟩
    · have h1 := h i (by simp; omega)
      rw [List.getElem_append_left hi] at h1
      refine ⟨h1.1, h1.2.1, fun h0 => ?_⟩
      have h2 := h1.2.2 h0
      rw [List.getElem_append_left (by omega)] at h2
      exact h2
    · have h1 := h l.length (by simp)
      simp at h1
      refine ⟨h1.1, h1.2.1, fun h0 => ?_⟩
      have h2 := h1.2.2 h0
      rw [List.getElem_append_left (by omega)] at h2
      exact h2
  · rintro ⟨h, h1, h2, h3⟩ i hi
    by_cases e : i < l.length
    · have g := h i e
      rw [List.getElem_append_left e]
      refine ⟨g.1, g.2.1, fun h0 => ?_⟩
      rw [List.getElem_append_left (by omega)]
      exact g.2.2 h0
    · have e2 : i = l.length := by simp at hi; omega
      subst e2
      simp only [List.getElem_concat_length]
      refine ⟨h1, h2, fun h0 => ?_⟩
      rw [List.getElem_append_left (by omega)]
      exact h3 h0
theorem ahd_last (l : Smps) (h : 0 < l.length) : ahd T0 (l.map one) = (l.map (·.1))[l.length - 1]'(by simp; omega) := by
  rcases List.eq_nil_or_concat l with rfl | ⟨t, x, e⟩
  · simp at h
  · rw [List.concat_eq_append] at e
    subst e
    rw [List.map_append, List.map_cons, List.map_nil, ahd_snoc]
    simp [one]
theorem rising_okT : ∀ (n : Nat) (l : Smps), l.length = n → (Rising (l.map (·.1)) ↔ okT T0 (l.map one)) := by
  intro n
  induction n with
  | zero =>
    intro l hl
    have : l = [] := List.length_eq_zero_iff.1 hl
    subst this
    exact ⟨fun _ => trivial, fun _ i hi => absurd hi (Nat.not_lt_zero i)⟩
  | succ n ih =>
    intro l hl
    rcases List.eq_nil_or_concat l with rfl | ⟨t, x, e⟩
    · simp at hl
    · rw [List.concat_eq_append] at e
      subst e
      have hI := ih t (by simpa using hl)
      rw [List.map_append, List.map_append, List.map_cons, List.map_nil, List.map_cons, List.map_nil, rising_snoc, okT_snoc, hI]
      have ht0 : T0 = -9007199254740993 := rfl
      have hox : (one x).t = x.1 := rfl
      rw [hox]
      by_cases h0 : 0 < t.length
      · have ha := ahd_last t h0
        constructor
        · rintro ⟨h1, h2, h3, h4⟩
          refine ⟨h1, ?_, h3⟩
          rw [ha]
          have h5 := h4 (by simp; omega)
          simp only [List.length_map] at h5
          exact h5
        · rintro ⟨h1, h2, h3⟩
          have hg := ahd_ge T0 _ h1 (by omega)
          refine ⟨h1, by omega, h3, fun h => ?_⟩
          rw [ha] at h2
          simp only [List.length_map]
          exact h2
      · have hn : t = [] := List.length_eq_zero_iff.1 (by omega)
        subst hn
        constructor
        · rintro ⟨h1, h2, h3, h4⟩
          exact ⟨h1, by show T0 < x.1; omega, h3⟩
        · rintro ⟨h1, h2, h3⟩
          have h2' : T0 < x.1 := h2
          exact ⟨h1, by omega, h3, fun h => absurd h (by simp)⟩

set_option maxRecDepth 100000 in
set_option maxHeartbeats 1600000 in
theorem rrising_any (w : World) (v : Value) (l : List Int) (hs : SrcOf w v (l.map (Value.int .i64))) (hl : l.length ≤ 100000) :
    Calls Try.prog 14 #[v] w fun e w' => Kept w w' ∧ ((e = .returned (.bool true) ∧ Rising l) ∨ (e = .returned (.bool false) ∧ ¬ Rising l)) := by
  rcases hs.shape with ⟨hnil, a, c, rfl⟩ | ⟨hpos, b, o, c, rfl, hc⟩
  · have e0 : l = [] := List.map_eq_nil_iff.1 hnil
    subst e0
    go_enter Try.func14, Try.ntmps14
    go_wp2
    refine wp_loop_rounds 1 ?_
    rw [rounds_succ]
    go_wp2
    go_ret
    exact ⟨Only.refl _ _, .inl ⟨rfl, fun i hi => absurd hi (Nat.not_lt_zero i)⟩⟩
  · rw [List.length_map] at hpos hs ⊢
    obtain ⟨L, hL⟩ : ∃ L, l.length = L := ⟨_, rfl⟩
    have HS := hid hs
    rw [hL] at hpos hl HS ⊢
    have HL := hid hL
    clear hL hc hs
    go_enter Try.func14, Try.ntmps14
    go_wp2
    go_loopw [3] (fun s wr => ∃ (k : Nat), k ≤ L ∧ s = .int .i64 (k : Int) ∧ Kept w wr ∧ (∀ i (h : i < l.length), i < k → -9007199254740992 ≤ l[i] ∧ l[i] ≤ 9007199254740992 ∧ (0 < i → l[i - 1] < l[i]))) (fun s _ => L - (intOf s).toNat)
    case atStart => exact ⟨0, by omega, rfl, Only.refl _ _, fun i _ h => absurd h (Nat.not_lt_zero i)⟩
    case round =>
      obtain ⟨k, hk, rfl, kr, hr⟩ := hrel
      have HR := hid hr
      clear hr
      by_cases hlt : k < L
      · have hkl : k < l.length := by have := HL.out; omega
        have hcell := int_cells (HS.out.stay kr) k hkl
        obtain ⟨x, hx⟩ : ∃ x, l[k] = x := ⟨_, rfl⟩
        rw [hx] at hcell
        have HX := hid hx
        clear hx
        by_cases h1 : x < -9007199254740992
        · have d1 : decide (x < -9007199254740992) = true := by simp [h1]
          clear h1
          go_wp2_with fail
          go_quiet (fail)
          go_wp2_with fail
          go_ret
          simp at d1
          exact ⟨(kept_drewN kr nq), .inr ⟨rfl, fun hR => by have := (hR k hkl).1; rw [HX.out] at this; omega⟩⟩
        · have d1 : decide (x < -9007199254740992) = false := by simp; omega
          by_cases h2 : 9007199254740992 < x
          · have d2 : decide (9007199254740992 < x) = true := by simp [h2]
            go_wp2_with fail
            go_quiet (fail)
            go_wp2_with fail
            go_ret
            exact ⟨(kept_drewN kr nq), .inr ⟨rfl, fun hR => by have := (hR k hkl).2.1; rw [HX.out] at this; omega⟩⟩
          · have d2 : decide (9007199254740992 < x) = false := by simp; omega
            by_cases h0 : k = 0
            · subst h0
              simp only [Nat.add_zero] at hcell
              go_wp2_with fail
              go_quiet (fail)
              go_wp2_with fail
              go_roundw
              case rel =>
                refine ⟨1, by omega, rfl, (kept_drewN kr nq), fun i hi h => ?_⟩
                have e : i = 0 := by omega
                subst e
                rw [HX.out]
                exact ⟨by omega, by omega, fun h => absurd h (Nat.lt_irrefl 0)⟩
              case measure => simp [intOf]; omega
            · obtain ⟨k', rfl⟩ : ∃ k', k = k' + 1 := ⟨k - 1, by omega⟩
              have hkl' : k' < l.length := by omega
              have hcell' := int_cells (HS.out.stay kr) k' hkl'
              obtain ⟨y, hy⟩ : ∃ y, l[k'] = y := ⟨_, rfl⟩
              rw [hy] at hcell'
              have HY := hid hy
              clear hy
              have d0 : decide ((0 : Int) < (k' : Int) + 1) = true := by simp; try omega
              by_cases h3 : x ≤ y
              · have d3 : decide (x ≤ y) = true := by simp [h3]
                go_wp2_with fail
                go_quiet (fail)
                go_wp2_with fail
                go_ret
                exact ⟨(kept_drewN kr nq), .inr ⟨rfl, fun hR => by
                  have := (hR (k' + 1) hkl).2.2 (by omega)
                  rw [HX.out] at this
                  simp only [Nat.add_sub_cancel, HY.out] at this
                  omega⟩⟩
              · have d3 : decide (x ≤ y) = false := by simp; omega
                go_wp2_with fail
                go_quiet (fail)
                go_wp2_with fail
                go_roundw
                case rel =>
                  refine ⟨k' + 2, by omega, by go_num, (kept_drewN kr nq), fun i hi h => ?_⟩
                  by_cases e : i = k' + 1
                  · subst e
                    rw [HX.out]
                    exact ⟨by omega, by omega, fun _ => by simp only [Nat.add_sub_cancel, HY.out]; omega⟩
                  · exact HR.out i hi (by omega)
                case measure => simp [intOf]; omega
      · have e : k = L := by omega
        subst e
        go_wp2
        go_ret
        exact ⟨kr, .inl ⟨rfl, fun i hi => HR.out i hi (by have := HL.out; omega)⟩⟩


set_option maxRecDepth 100000 in
set_option maxHeartbeats 1600000 in
theorem rtimes_any (w : World) (a : Option Addr) (c L : Nat) (l : Smps) (hs : SmpSrc w (.slice a L c) l) (hL : l.length = L) (hl : L ≤ 100000) :
    Calls Try.prog 15 #[.slice a L c] w fun e w' => ∃ v, e = .returned v ∧ SrcOf w' v ((l.map (·.1)).map (Value.int .i64)) ∧ Kept w w' := by
  have HS := hid hs
  have HL := hid hL
  clear hs hL
  go_enter Try.func15, Try.ntmps15
  go_wp2
  go_loopw [3, 4] (fun v s wr => ∃ (i : Nat) (u : Value), i ≤ L ∧ s = .int .i64 (i : Int) ∧ u = v ∧ Hid (wr.ownsRow w.heap.size 3 1 u i (((l.take i).map (·.1)).map (Value.int .i64))) ∧ Kept w wr) (fun _ s _ => L - (intOf s).toNat)
  case atStart => exact ⟨0, _, by omega, rfl, rfl, hid (World.ownsRow_nil _ _ _ _), Only.refl _ _⟩
  case round =>
    obtain ⟨i, u, hi, rfl, rfl, hv, kr⟩ := hrel
    have KR := hid kr
    by_cases hlt : i < L
    · have hil : i < l.length := by have := HL.out; omega
      obtain ⟨b, o, rfl, c0, c1⟩ := (HS.out.stay kr).cell HL.out i hlt
      obtain ⟨T, hT⟩ : ∃ T, (l[i]).1 = T := ⟨_, rfl⟩
      rw [hT] at c0
      have hln : ((l.take i).map (·.1)).length = i := by simp; omega
      obtain ⟨g, cap, w1, HR, h1, o1, _⟩ := own_num (lr := (l.take i).map (·.1)) (by rw [hln]; exact hv.out) kr.size (by rw [hln]; omega) T
      rw [hln] at HR h1
      have htk : (l.take (i + 1)).map (·.1) = (l.take i).map (·.1) ++ [T] := by
        rw [← List.take_append_getElem hil, List.map_append, List.map_cons, List.map_nil, hT]
      have hln2 : ((l.take i).map (·.1) ++ [T]).length = i + 1 := by rw [List.length_append, hln]; rfl
      rw [hln2] at h1
      have H1 : Hid (w1.ownsRow w.heap.size 3 1 (.slice (some ⟨g, 0, none⟩) (i + 1) cap) (i + 1) (((l.take (i + 1)).map (·.1)).map (Value.int .i64))) := hid (by rw [htk]; exact h1)
      have K1 : Hid (Kept w w1) := hid (KR.out.trans o1 (fun j hj h => by have := (hv.out.lt j h).1; omega))
      obtain ⟨va, vc, hve⟩ := own_slice hv.out
      subst hve
      clear kr hT htk h1 o1 hln hln2 hv
      go_wp2_with (at_builtin; refine wpList_append_run rfl _ _ _ rfl rfl rfl HR ?_)
      go_roundw
      case rel => exact ⟨i + 1, _, by omega, by go_num, rfl, H1, K1.out⟩
      case measure => simp [intOf]; omega
    · have e : i = L := by omega
      have HF : Hid (SrcOf wr u ((l.map (·.1)).map (Value.int .i64))) := hid (by
        have h := own_src hv.out
        rw [List.take_of_length_le (by have := HL.out; omega)] at h
        exact h)
      subst e
      clear kr hv
      go_wp2
      go_ret
      exact ⟨_, rfl, HF.out, KR.out⟩
end Go.Proofs.Ytjjmidooikgaaaa.Ru
