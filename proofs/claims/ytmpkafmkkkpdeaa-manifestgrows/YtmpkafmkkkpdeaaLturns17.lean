/-
  The law ManifestTurns.
-/
import Derived.Test.YtmpkafmkkkpdeaaJsame
import Derived.Test.YtmpkafmkkkpdeaaJal
import Derived.Test.YtmpkafmkkkpdeaaJopen
import Derived.Test.YtmpkafmkkkpdeaaWlast
namespace Go.Proofs.Lys
open Go Go.RowKit
theorem wp_region_meet5 {P : Program} {id : Nat} {ops : Array Oper} {b : Bool} {Q : Exit → Act → World → Prop} {a : Act} {w : World} {A : Nat → Option Addr → Nat → Nat → Nat → Act} (D : Nat → Option Addr → Nat → Nat → Nat → World → Prop)
    (h1 : (Code.region id ops b).wp P (fun e a' w' => e = .normal ∧ ∃ n x c g k, a' = A n x c g k ∧ D n x c g k w') a w) (h2 : ∀ n x c g k w', D n x c g k w' → Q .normal (A n x c g k) w') : (Code.region id ops b).wp P Q a w :=
  Code.wp_mono (fun e a' w' h => by obtain ⟨rfl, n, x, c, g, k, rfl, hD⟩ := h; exact h2 n x c g k w' hD) h1
theorem wp_region_meetS {P : Program} {id : Nat} {ops : Array Oper} {b : Bool} {Q : Exit → Act → World → Prop} {a : Act} {w : World} {A : Nat → Option Addr → Nat → Option Addr → Nat → Act} (D : Nat → Option Addr → Nat → Option Addr → Nat → World → Prop)
    (h1 : (Code.region id ops b).wp P (fun e a' w' => e = .normal ∧ ∃ n x c g k, a' = A n x c g k ∧ D n x c g k w') a w) (h2 : ∀ n x c g k w', D n x c g k w' → Q .normal (A n x c g k) w') : (Code.region id ops b).wp P Q a w :=
  Code.wp_mono (fun e a' w' h => by obtain ⟨rfl, n, x, c, g, k, rfl, hD⟩ := h; exact h2 n x c g k w' hD) h1
end Go.Proofs.Lys
namespace Go.Proofs.Ytmpkafmkkkpdeaa.J
open Go.RowKit Go.Proofs.Lys
set_option linter.unusedVariables false
set_option linter.unusedSimpArgs false

abbrev zL : Rf := (-71, 0, 0, 0)
theorem Try.sizeRefW (W : World) : (sizeOf 28).run Try.prog W = .ok 4 W := by kernel_rfl
/-- What a law lends: the blocks, and one behind them. -/
theorem own_pre {w : World} {B g L cap : Nat} {l : List Rf} (hL : l.length = L) (h : RfAt w B (.slice (some ⟨g, 0, none⟩) (L + 1) cap) (l ++ [zL])) :
    (∀ W, (Instr.sliceAt 22 (.slice (some ⟨g, 0, none⟩) (L + 1) cap) none (some (.int .i64 (L : Int))) none).run Try.prog W = .ok (.slice (some ⟨g, 0, none⟩) L cap) W) ∧
    (∀ W, (Instr.sliceAt 22 (.slice (some ⟨g, 0, none⟩) L cap) none (some (.int .i64 ((L : Int) + 1))) none).run Try.prog W = .ok (.slice (some ⟨g, 0, none⟩) (L + 1) cap) W) ∧
    RfSrc w (.slice (some ⟨g, 0, none⟩) L cap) l ∧ w.cell? ⟨g, L * 4, none⟩ = some (.int .i64 (-71)) := by
  have hlen : (l ++ [zL]).length = L + 1 := by rw [List.length_append, hL]; rfl
  have hcap : L + 1 ≤ cap := by
    rcases h.2 with ⟨e, _⟩ | ⟨g', cap', cur, hv, _, _, hc, _⟩
    · cases e
    · simp only [Value.slice.injEq] at hv
      obtain ⟨_, _, rfl⟩ := hv
      rw [hlen] at hc
      exact hc
  have hs := h.src
  refine ⟨fun W => ?_, fun W => ?_, ?_, ?_⟩
  · have e2 : L ≤ cap := by omega
    simp [Instr.sliceAt, Instr.slice, Instr.sliceBounds, Instr.sliceBound, run_underlying Try.underlying22, asIntOf, e2, Try.sizeRefW, Result.andThen, Addr.add]
  · have e2 : (L : Int) + 1 ≤ (cap : Int) := by omega
    have e3 : ¬ ((L : Int) + 1 < 0) := by omega
    have e4 : ((L : Int) + 1).toNat = L + 1 := by omega
    have e5 : (0 : Int) ≤ (L : Int) + 1 := by omega
    simp [Instr.sliceAt, Instr.slice, Instr.sliceBounds, Instr.sliceBound, run_underlying Try.underlying22, asIntOf, e2, e3, e4, e5, Try.sizeRefW, Result.andThen, Addr.add]
  · by_cases h0 : L = 0
    · subst h0
      have : l = [] := List.length_eq_zero_iff.1 hL
      subst this
      exact .inl ⟨_, _, rfl, rfl⟩
    · refine .inr ⟨by omega, g, 0, cap, by rw [hL], fun i hi => ?_⟩
      obtain ⟨b, o, e, hc⟩ := hs.cell hlen i (by omega)
      cases e
      rw [List.getElem_append_left hi] at hc
      exact hc
  · obtain ⟨b, o, e, hc⟩ := hs.cell hlen L (by omega)
    cases e
    have : (l ++ [zL])[L]'(by omega) = zL := by
      rw [List.getElem_append_right (by omega)]
      simp [hL]
    rw [this, Nat.zero_add] at hc
    exact hc.1
theorem add_len (m : Man) (lv f t : Int) : (addQ m lv f t).1.bl.length ≤ 200 := by
  unfold addQ newQ
  split
  · split
    · rename_i h
      exact chk_len h
    · exact Nat.zero_le _
  · exact Nat.zero_le _
theorem swap_len (m : Man) (ids : List Int) (lv f t : Int) : (swapQ m ids lv f t).1.bl.length ≤ 200 := by
  unfold swapQ newQ
  split
  · split
    · split
      · rename_i h
        exact chk_len h
      · exact Nat.zero_le _
    · exact Nat.zero_le _
  · exact Nat.zero_le _
/-- The lent manifest. -/
def LendD (w : World) (ob : Nat) (l : List Rf) (L : Nat) (N G Lo : Int) (n : Nat) (x : Option Addr) (c g cap : Nat) (w' : World) : Prop :=
  RfAt w' w.heap.size (.slice (some ⟨g, 0, none⟩) (L + 1) cap) (l ++ [zL]) ∧ Blk w' ob [.slice (some ⟨g, 0, none⟩) L cap, .int .i64 N, .int .i64 G, .int .i64 Lo] 24 ∧ Only (fun q => q = ob) w w'

theorem num17_any (n : Int) (w : World) : Calls Try.prog 12 #[.int .i64 n] w fun e w' => e = .returned (.int .i64 n) ∧ w' = w := by
  go_enter Try.func12, Try.ntmps12
  go_wp2
  go_ret
  exact ⟨rfl, rfl⟩
/-- What Swap leaves, and a block that holds it. -/
def SwapD (w : World) (l2 : List Rf) (L2 : Nat) (N2 G2 Lo2 : Int) (n : Nat) (x : Option Addr) (cc : Nat) (a6 : Option Addr) (c6 : Nat) (w' : World) : Prop :=
  RfSrc w' (.slice a6 L2 c6) l2 ∧ Blk w' n [.slice a6 L2 c6, .int .i64 N2, .int .i64 G2, .int .i64 Lo2] 24 ∧ Kept w w'
theorem icopy {w : World} {a2 : Option Addr} {M c2 : Nat} {ids : List Int} (h : SrcOf w (.slice a2 M c2) (ids.map (Value.int .i64))) (hM : ids.length = M) (hm : M ≤ 400) :
    ∃ x cc w', Hid ((Builtin.append_ #[25, 25] 0 #[.slice none 0 0, .slice a2 M c2]).run Try.prog w = .ok (.slice x M cc) w') ∧ SrcOf w' (.slice x M cc) (ids.map (Value.int .i64)) ∧ Kept w w' := by
  obtain ⟨v', w', hr, ho, hk⟩ := copy_ints h (by omega)
  obtain ⟨x, cc, rfl⟩ := own_slice ho
  have hs := own_src ho
  rw [hM] at hr hs
  exact ⟨x, cc, w', hr, hs, hk⟩

set_option maxRecDepth 100000 in
set_option maxHeartbeats 6400000 in
theorem turns_walk (w : World) (xm : ManC) (v : Value) (ids : List Int) (lv f t : Int) (hm : ManIn w xm) (hi : IIn w v ids) :
    Calls Try.prog 3 #[xm.v, v, .int .i64 lv, .int .i64 f, .int .i64 t] w fun e w' => e = .returned (.bool true) ∧ Kept w w' := by
  obtain ⟨a, c, l, N, G, Lo⟩ := xm
  obtain ⟨⟨hs0, a2, c2, rfl, hc2⟩, hl2⟩ := hi
  obtain ⟨hr, hr1, hr2⟩ := hm
  unfold ManC.v manV
  simp only at hr hr1 hr2 ⊢
  obtain ⟨L, hL⟩ : ∃ L, l.length = L := ⟨_, rfl⟩
  obtain ⟨M, hM⟩ : ∃ M, ids.length = M := ⟨_, rfl⟩
  have HL := hid hL
  have HM := hid hM
  have HR := hid hr
  have HS := hid hs0
  rw [hL] at hr1 HR ⊢
  rw [hM] at HS hl2 ⊢
  have hL9 : L ≤ 9223372036854775807 := by omega
  have HAD : Hid (∀ W a c, RfSrc W (.slice a L c) l → Calls Try.prog 7 #[.agg #[.slice a L c, .int .i64 N, .int .i64 G, .int .i64 Lo], .int .i64 lv, .int .i64 f, .int .i64 t] W (TurnP W (addQ ⟨l, N, G, Lo⟩ lv f t))) := hid (fun W a c h => by
    have := add_any W a c ⟨l, N, G, Lo⟩ lv f t (by show RfSrc W (.slice a l.length c) l; rw [HL.out]; exact h)
    unfold manV at this
    simp only at this
    rw [HL.out] at this
    exact this)
  have HRA : Hid (∀ W a c, RfSrc W (.slice a L c) l → Calls Try.prog 8 #[.agg #[.slice a L c, .int .i64 N, .int .i64 G, .int .i64 Lo], .int .i64 lv, .int .i64 f, .int .i64 t] W (TurnP W (addQ ⟨l, N, G, Lo⟩ lv f t))) := hid (fun W a c h => by
    have := radd_any W a c ⟨l, N, G, Lo⟩ lv f t (by show RfSrc W (.slice a l.length c) l; rw [HL.out]; exact h)
    unfold manV at this
    simp only at this
    rw [HL.out] at this
    exact this)
  have HSW : Hid (M ≤ 400 → ∀ W a c u, RfSrc W (.slice a L c) l → SrcOf W u (ids.map (Value.int .i64)) → Calls Try.prog 9 #[.agg #[.slice a L c, .int .i64 N, .int .i64 G, .int .i64 Lo], u, .int .i64 lv, .int .i64 f, .int .i64 t] W (TurnP W (swapQ ⟨l, N, G, Lo⟩ ids lv f t))) := hid (fun hm W a c u h hu => by
    have := swap_any W a c ⟨l, N, G, Lo⟩ u ids lv f t (by show RfSrc W (.slice a l.length c) l; rw [HL.out]; exact h) hu (by rw [HM.out]; omega)
    unfold manV at this
    simp only at this
    rw [HL.out] at this
    exact this)
  have HRS : Hid (M ≤ 400 → ∀ W a c u, RfSrc W (.slice a L c) l → SrcOf W u (ids.map (Value.int .i64)) → Calls Try.prog 10 #[.agg #[.slice a L c, .int .i64 N, .int .i64 G, .int .i64 Lo], u, .int .i64 lv, .int .i64 f, .int .i64 t] W (TurnP W (swapQ ⟨l, N, G, Lo⟩ ids lv f t))) := hid (fun hm W a c u h hu => by
    have := rswap_any W a c ⟨l, N, G, Lo⟩ u ids lv f t (by show RfSrc W (.slice a l.length c) l; rw [HL.out]; exact h) hu (by rw [HM.out]; omega)
    unfold manV at this
    simp only at this
    rw [HL.out] at this
    exact this)
  have HQ1 := hid (add_len ⟨l, N, G, Lo⟩ lv f t)
  have HQ2 := hid (swap_len ⟨l, N, G, Lo⟩ ids lv f t)
  generalize addQ ⟨l, N, G, Lo⟩ lv f t = q1 at HAD HRA HQ1
  generalize swapQ ⟨l, N, G, Lo⟩ ids lv f t = q2 at HSW HRS HQ2
  obtain ⟨⟨l1, N1, G1, Lo1⟩, id1, x1⟩ := q1
  obtain ⟨⟨l2, N2, G2, Lo2⟩, id2, x2⟩ := q2
  obtain ⟨L1, hL1⟩ : ∃ L1, l1.length = L1 := ⟨_, rfl⟩
  obtain ⟨L2, hL2⟩ : ∃ L2, l2.length = L2 := ⟨_, rfl⟩
  have HL1 := hid hL1
  have HL2 := hid hL2
  unfold TurnP manV at HAD HRA HSW HRS
  simp only at HAD HRA HSW HRS HQ1 HQ2
  rw [hL1] at HQ1
  rw [hL2] at HQ2
  clear hL1 hL2
  clear hr hs0 hc2 hr1 hr2 hL hM
  have K0 := hid (show Kept w (w.alloc (manO a L c N G Lo)) from (Only.refl _ w).alloc _)
  have HB := hid (Blk.new w [.slice a L c, .int .i64 N, .int .i64 G, .int .i64 Lo] 24)
  have HA := hid (alive17_any (w.alloc (manO a L c N G Lo)))
  by_cases h1 : 400 < L
  · go_enter Try.func3, Try.ntmps3
    go_wp2_with fail
    refine HA.out.mono ?_
    rintro e w1 ⟨rfl, k1⟩
    have hB1 := Only.blk k1 HB.out (fun f => f)
    have m0 := hB1.cell 0 rfl
    have hsz := hB1.lt
    have K1 := hid (K0.out.trans k1 (fun _ _ f => f))
    clear HA k1 hB1
    go_wp2
    go_ret
    exact ⟨rfl, K1.out⟩
  · by_cases h2 : 400 < M
    · go_enter Try.func3, Try.ntmps3
      go_wp2_with fail
      refine HA.out.mono ?_
      rintro e w1 ⟨rfl, k1⟩
      have hB1 := Only.blk k1 HB.out (fun f => f)
      have m0 := hB1.cell 0 rfl
      have hsz := hB1.lt
      have K1 := hid (K0.out.trans k1 (fun _ _ f => f))
      clear HA k1 hB1
      go_wp2
      go_ret
      exact ⟨rfl, K1.out⟩
    · have HM4 := hid (show M ≤ 400 by omega)
      have HL4 := hid (show L ≤ 400 by omega)
      go_enter Try.func3, Try.ntmps3
      go_wp2_with fail
      refine HA.out.mono ?_
      rintro e w1 ⟨rfl, k1⟩
      have hB1 := Only.blk k1 HB.out (fun f => f)
      have m0 := hB1.cell 0 rfl
      have m1 := hB1.cell 1 rfl
      have m2 := hB1.cell 2 rfl
      have m3 := hB1.cell 3 rfl
      have hsz := hB1.lt
      have K1 := hid (K0.out.trans k1 (fun _ _ f => f))
      have HBO := hid hB1
      clear HA k1 hB1
      go_wp2_with fail
      have KN := hid (show Kept w1 (w1.alloc (manO a L c N G Lo)) from (Only.refl _ w1).alloc _)
      have HO1 := hid (Blk.new w1 [.slice a L c, .int .i64 N, .int .i64 G, .int .i64 Lo] 24)
      obtain ⟨ob, hob⟩ : ∃ ob, w1.heap.size = ob := ⟨_, rfl⟩
      have HB1 := hid (Only.blk KN.out HBO.out (fun f => f))
      have K3 := hid (K1.out.trans KN.out (fun _ _ f => f))
      have HOB := hid (show w.heap.size < ob by rw [← hob]; exact hsz)
      have HO1S := hid HO1.out.lt
      rw [hob] at HO1 HO1S ⊢
      generalize w1.alloc (manO a L c N G Lo) = w3 at KN HO1 HB1 K3 HO1S ⊢
      clear hob hsz m0 m1 m2 m3 HB HBO K0 KN
      apply wp_region_meet5 (D := LendD w3 ob l L N G Lo)
      case h1 =>
        have KA := hid (show Kept w3 w3.drew from (Only.refl _ _).drew)
        refine wp_region_noPanic ?_
        refine wp_region_last (L := 11) (S := fun w' => Kept w3 w') (by kernel_rfl) ?_
        refine wpAnyL_take (i := 0) (v := .pointer (some ⟨w.heap.size, 0, none⟩)) rfl (by kernel_rfl) (by kernel_rfl) (by kernel_rfl) (by kernel_rfl) (by kernel_rfl) (fun _ _ _ h => h) (Or.inl ⟨by kernel_rfl, ?_⟩) KA.out ?_
        · (intro w' hSw; obtain ⟨s0, s1, s2, s3⟩ := blk_all HB1.out hSw; have hz4 := Nat.lt_of_lt_of_le HB1.out.lt hSw.size; clear hSw; go_simp)
        (try simp only [List.getElem_toArray, List.getElem_cons_succ, List.getElem_cons_zero])
        go_frame
        refine wpAnyL_take (i := 1) (v := .slice a L c) rfl (by kernel_rfl) (by kernel_rfl) (by kernel_rfl) (by kernel_rfl) (by kernel_rfl) (fun _ _ _ h => h) (Or.inl ⟨by kernel_rfl, ?_⟩) KA.out ?_
        · (intro w' hSw; obtain ⟨s0, s1, s2, s3⟩ := blk_all HB1.out hSw; have hz4 := Nat.lt_of_lt_of_le HB1.out.lt hSw.size; clear hSw; go_simp)
        (try simp only [List.getElem_toArray, List.getElem_cons_succ, List.getElem_cons_zero])
        go_frame
        refine wpAnyL_take (i := 3) (v := .agg #[.int .i64 (-71), .int .i64 0, .int .i64 0, .int .i64 0]) rfl (by kernel_rfl) (by kernel_rfl) (by kernel_rfl) (by kernel_rfl) (by kernel_rfl) (fun _ _ _ h => h) (Or.inl ⟨by kernel_rfl, ?_⟩) KA.out ?_
        · (intro w' hSw; obtain ⟨s0, s1, s2, s3⟩ := blk_all HB1.out hSw; have hz4 := Nat.lt_of_lt_of_le HB1.out.lt hSw.size; clear hSw; go_simp)
        (try simp only [List.getElem_toArray, List.getElem_cons_succ, List.getElem_cons_zero])
        go_frame
        refine wpAnyL_take (i := 6) (v := .pointer (some ⟨w.heap.size, 0, none⟩)) rfl (by kernel_rfl) (by kernel_rfl) (by kernel_rfl) (by kernel_rfl) (by kernel_rfl) (fun _ _ _ h => h) (Or.inl ⟨by kernel_rfl, ?_⟩) KA.out ?_
        · (intro w' hSw; obtain ⟨s0, s1, s2, s3⟩ := blk_all HB1.out hSw; have hz4 := Nat.lt_of_lt_of_le HB1.out.lt hSw.size; clear hSw; go_simp)
        (try simp only [List.getElem_toArray, List.getElem_cons_succ, List.getElem_cons_zero])
        go_frame
        refine wpAnyL_take (i := 7) (v := .slice a L c) rfl (by kernel_rfl) (by kernel_rfl) (by kernel_rfl) (by kernel_rfl) (by kernel_rfl) (fun _ _ _ h => h) (Or.inl ⟨by kernel_rfl, ?_⟩) KA.out ?_
        · (intro w' hSw; obtain ⟨s0, s1, s2, s3⟩ := blk_all HB1.out hSw; have hz4 := Nat.lt_of_lt_of_le HB1.out.lt hSw.size; clear hSw; go_simp)
        (try simp only [List.getElem_toArray, List.getElem_cons_succ, List.getElem_cons_zero])
        go_frame
        refine wpAnyL_take (i := 8) (v := .int .i64 (L : Int)) rfl (by kernel_rfl) (by kernel_rfl) (by kernel_rfl) (by kernel_rfl) (by kernel_rfl) (fun _ _ _ h => h) (Or.inl ⟨by kernel_rfl, ?_⟩) KA.out ?_
        · (intro w' hSw; obtain ⟨s0, s1, s2, s3⟩ := blk_all HB1.out hSw; have hz4 := Nat.lt_of_lt_of_le HB1.out.lt hSw.size; clear hSw; go_simp)
        (try simp only [List.getElem_toArray, List.getElem_cons_succ, List.getElem_cons_zero])
        go_frame
        refine wpAnyL_two (i := 2) (j := 4) (by kernel_rfl) rfl rfl (by kernel_rfl) (by kernel_rfl) ?_ ?_
        · obtain ⟨x, cc, W6, R6, h6, k6⟩ := rf_copy (HR.out.stay (K3.out.trans KA.out (fun _ _ f => f))) (by have := HL.out; have := HL4.out; omega)
          rw [HL.out] at R6 h6
          have KB := hid (show Kept w3 W6 from KA.out.trans k6 (fun _ _ f => f))
          obtain ⟨g, cap, W7, R7, h7, o7⟩ := rf_one h6 k6.size zL (by have := HL.out; have := HL4.out; omega)
          rw [HL.out] at R7 h7
          have KC := hid (show Kept w3 W7 from KB.out.trans o7 (fun q hq e => by have := (ownN_lt h6 e).1; have := KA.out.size; omega))
          refine oper_appendH _ _ _ rfl rfl rfl R6 ?_
          refine ⟨KB.out, ?_⟩
          go_frame
          refine wpAnyL_one (i := 4) (by kernel_rfl) rfl rfl ?_
          go_simp
          refine ⟨KB.out.alloc _, ?_⟩
          (try go_frame)
          refine wpAnyL_one (i := 5) (by kernel_rfl) rfl rfl (oper_appendH _ _ _ rfl rfl rfl R7 ?_)
          refine ⟨KC.out, ?_⟩
          go_frame
          have H7 : Hid (RfAt W7 w3.heap.size (.slice (some ⟨g, 0, none⟩) (L + 1) cap) (l ++ [zL])) := hid (ownN_base h7 (Nat.le_refl _))
          clear R6 R7 h6 h7 k6 o7 KB
          generalize W6.heap.size = nb
          have hp := own_pre HL.out H7.out
          have hsl := hp.1
          have hO7 := Only.blk KC.out HO1.out (fun f => f)
          have hf := hO7.frozen 0
          have hc0 := hO7.cell 0 rfl
          have hltO := hO7.lt
          have HD := hid (show LendD w3 ob l L N G Lo nb x cc g cap (W7.setCell ⟨ob, 0, none⟩ (.slice (some ⟨g, 0, none⟩) L cap)) from ⟨ownN_block H7.out (fun q hq => Below.heap_setCell W7 _ _ q (Typed.ne (ownN_typed H7.out hq) hO7.typed (by decide))), hO7.set 0 _, (KC.out.mono (O' := fun q => q = ob) (fun _ _ f => f.elim)).setCell (p := ⟨ob, 0, none⟩) (fun _ => rfl) _⟩)
          clear hp H7
          refine wpAnyL_one (i := 9) (by kernel_rfl) rfl rfl ?_
          go_simp
          refine ⟨KC.out, ?_⟩
          (try simp only [List.getElem_toArray, List.getElem_cons_succ, List.getElem_cons_zero])
          (try go_frame)
          refine wpAnyL_one (i := 10) (by kernel_rfl) rfl rfl ?_
          go_simp
          refine ⟨KC.out, ?_⟩
          (try simp only [List.getElem_toArray, List.getElem_cons_succ, List.getElem_cons_zero])
          (try go_frame)
          refine wpAnyL_last (by kernel_rfl) (by kernel_rfl) rfl rfl ?_
          go_simp
          refine NoPanic.normal ?_
          exact ⟨rfl, nb, x, cc, g, cap, rfl, HD.out⟩
        · go_simp
          have KY := hid (show Kept w3 (w3.drew.alloc (rfO zL)) from KA.out.alloc _)
          refine ⟨KY.out, ?_⟩
          (try go_frame)
          obtain ⟨x, cc, W6, R6, h6, k6⟩ := rf_copy (HR.out.stay (K3.out.trans KY.out (fun _ _ f => f))) (by have := HL.out; have := HL4.out; omega)
          rw [HL.out] at R6 h6
          have KB := hid (show Kept w3 W6 from KY.out.trans k6 (fun _ _ f => f))
          have hlit : RfSrc W6 (.slice (some ⟨w3.heap.size, 0, none⟩) 1 1) [zL] := (rf_lit w3.drew zL).stay k6
          obtain ⟨v7, W7, R7, h7, g7, _⟩ := rf_append h6 hlit (by have := HL.out; have := HL4.out; simp; omega) k6.size
          obtain ⟨g, cap, e7⟩ := ownN_some h7 (by simp)
          have hlen : (l ++ [zL]).length = L + 1 := by rw [List.length_append, HL.out]; rfl
          rw [hlen] at e7
          subst e7
          have R7 := hid R7
          have KC := hid (show Kept w3 W7 from KB.out.grown g7 (fun q e hq => by have := (ownN_lt h6 e).1; have := KY.out.size; omega))
          refine wpAnyL_one (i := 2) (by kernel_rfl) rfl rfl (oper_appendH _ _ _ rfl rfl rfl R6 ?_)
          refine ⟨KB.out, ?_⟩
          go_frame
          refine wpAnyL_one (i := 5) (by kernel_rfl) rfl rfl (oper_appendH _ _ _ rfl rfl rfl R7 ?_)
          refine ⟨KC.out, ?_⟩
          go_frame
          have H7 : Hid (RfAt W7 w3.heap.size (.slice (some ⟨g, 0, none⟩) (L + 1) cap) (l ++ [zL])) := hid (ownN_base h7 KY.out.size)
          clear R6 R7 h6 h7 k6 g7 KB hlit hlen KY
          have hp := own_pre HL.out H7.out
          have hsl := hp.1
          have hO7 := Only.blk KC.out HO1.out (fun f => f)
          have hf := hO7.frozen 0
          have hc0 := hO7.cell 0 rfl
          have hltO := hO7.lt
          have HD := hid (show LendD w3 ob l L N G Lo w3.heap.size x cc g cap (W7.setCell ⟨ob, 0, none⟩ (.slice (some ⟨g, 0, none⟩) L cap)) from ⟨ownN_block H7.out (fun q hq => Below.heap_setCell W7 _ _ q (Typed.ne (ownN_typed H7.out hq) hO7.typed (by decide))), hO7.set 0 _, (KC.out.mono (O' := fun q => q = ob) (fun _ _ f => f.elim)).setCell (p := ⟨ob, 0, none⟩) (fun _ => rfl) _⟩)
          clear hp H7
          refine wpAnyL_one (i := 9) (by kernel_rfl) rfl rfl ?_
          go_simp
          refine ⟨KC.out, ?_⟩
          (try simp only [List.getElem_toArray, List.getElem_cons_succ, List.getElem_cons_zero])
          (try go_frame)
          refine wpAnyL_one (i := 10) (by kernel_rfl) rfl rfl ?_
          go_simp
          refine ⟨KC.out, ?_⟩
          (try simp only [List.getElem_toArray, List.getElem_cons_succ, List.getElem_cons_zero])
          (try go_frame)
          refine wpAnyL_last (by kernel_rfl) (by kernel_rfl) rfl rfl ?_
          go_simp
          refine NoPanic.normal ?_
          exact ⟨rfl, w3.heap.size, x, cc, g, cap, rfl, HD.out⟩
      case h2 =>
        intro nb x5 c5 g cap w5 hD
        obtain ⟨h5, hO5, o5⟩ := hD
        have K5 := hid (show Kept w w5 from K3.out.trans o5 (fun q hq e => by have := HOB.out; omega))
        have HB5 := hid (Only.blk o5 HB1.out (by have := HOB.out; omega))
        have HO5 := hid hO5
        have hp := own_pre HL.out h5
        have HPL := hid hp.2.1
        have HPS := hid hp.2.2.1
        have HPC := hid hp.2.2.2
        have HGT : Hid (g < w5.heap.size) := hid (ownN_lt h5 rfl).2
        clear hp h5 o5
        have n0 := hO5.cell 0 rfl
        have n1 := hO5.cell 1 rfl
        have n2 := hO5.cell 2 rfl
        have n3 := hO5.cell 3 rfl
        have hlto := hO5.lt
        have HC6 := hid (HAD.out w5 _ _ HPS.out)
        clear hO5
        go_wp2_with fail
        refine HC6.out.mono ?_
        rintro e w6 ⟨v6, rfl, h6, k6⟩
        unfold RfAt at h6
        try simp only at h6
        rw [HL1.out] at h6
        obtain ⟨a6, c6, rfl⟩ := ownN_slice h6
        obtain ⟨w7, hw7⟩ : ∃ W, w6.alloc (manO a6 L1 c6 N1 G1 Lo1) = W := ⟨_, rfl⟩
        have HW7 := hid hw7
        have k7 : Kept w6 w7 := by rw [← hw7]; exact (Only.refl _ w6).alloc _
        have HY7 := hid (show Blk w7 w6.heap.size [.slice a6 L1 c6, .int .i64 N1, .int .i64 G1, .int .i64 Lo1] 24 by rw [← hw7]; exact Blk.new w6 [.slice a6 L1 c6, .int .i64 N1, .int .i64 G1, .int .i64 Lo1] 24)
        have K57 := hid (k6.trans k7 (fun _ _ f => f))
        have HA7 := hid (RfAt.src (B := w5.heap.size) (l := l1) (v := .slice a6 L1 c6) (w := w7) (by unfold RfAt; rw [HL1.out]; exact ownN_stay h6 k7))
        have hB7 := Only.blk k6 HB5.out (fun f => f)
        have m0 := hB7.cell 0 rfl
        have m1 := hB7.cell 1 rfl
        have m2 := hB7.cell 2 rfl
        have m3 := hB7.cell 3 rfl
        have hltm := hB7.lt
        have HC8 := hid (HRA.out w7 a c (HR.out.stay (K5.out.trans K57.out (fun _ _ f => f))))
        obtain ⟨ya, hya⟩ : ∃ ya, w6.heap.size = ya := ⟨_, rfl⟩
        have HYA := hid hya
        rw [hya] at HY7
        have HB7 := hid (Only.blk K57.out HB5.out (fun f => f))
        clear HC6 k6 k7 h6 hw7 n0 n1 n2 n3 hlto hB7 hya
        go_wp2_with fail
        rw [HW7.out, HYA.out]
        refine HC8.out.mono ?_
        rintro e w8 ⟨v8, rfl, h8, k8⟩
        unfold RfAt at h8
        try simp only at h8
        rw [HL1.out] at h8
        obtain ⟨a8, c8, rfl⟩ := ownN_slice h8
        obtain ⟨w9, hw9⟩ : ∃ W, w8.alloc (manO a8 L1 c8 N1 G1 Lo1) = W := ⟨_, rfl⟩
        have HW9 := hid hw9
        have k9 : Kept w8 w9 := by rw [← hw9]; exact (Only.refl _ w8).alloc _
        have HZ9 := hid (show Blk w9 w8.heap.size [.slice a8 L1 c8, .int .i64 N1, .int .i64 G1, .int .i64 Lo1] 24 by rw [← hw9]; exact Blk.new w8 [.slice a8 L1 c8, .int .i64 N1, .int .i64 G1, .int .i64 Lo1] 24)
        have K79 := hid (k8.trans k9 (fun _ _ f => f))
        have K59 := hid (K57.out.trans K79.out (fun _ _ f => f))
        have HA9 := hid (HA7.out.stay K79.out)
        have HZS9 := hid (RfAt.src (B := w7.heap.size) (l := l1) (v := .slice a8 L1 c8) (w := w9) (by unfold RfAt; rw [HL1.out]; exact ownN_stay h8 k9))
        have HY9 := hid (Only.blk K79.out HY7.out (fun f => f))
        have HO9 := hid (Only.blk K59.out HO5.out (fun f => f))
        have HB9 := hid (Only.blk K59.out HB5.out (fun f => f))
        have HPS9 := hid (HPS.out.stay K59.out)
        have HR9 := hid (HR.out.stay (K5.out.trans K59.out (fun _ _ f => f)))
        have HS9 := hid (HS.out.stay (K5.out.trans K59.out (fun _ _ f => f)))
        obtain ⟨zb, hzb⟩ : ∃ zb, w8.heap.size = zb := ⟨_, rfl⟩
        have HZB := hid hzb
        rw [hzb] at HZ9
        clear HC8 k8 k9 h8 hw9 m0 m1 m2 m3 hltm hzb HA7 HY7 HB7 HYA HW7 K57 K79
        go_wp2_with fail
        rw [HW9.out, HZB.out]
        apply wp_region_meetS (D := SwapD w9 l2 L2 N2 G2 Lo2)
        case h1 =>
          have KA := hid (show Kept w9 w9.drew from (Only.refl _ _).drew)
          refine wp_region_noPanic ?_
          refine wp_region_last (L := 1000) (S := fun w' => Kept w9 w') (by kernel_rfl) ?_
          refine wpAnyN_take (i := 0) (v := .agg #[.slice (some ⟨g, 0, none⟩) L cap, .int .i64 N, .int .i64 G, .int .i64 Lo]) rfl (by kernel_rfl) (by kernel_rfl) (by kernel_rfl) (by decide) (by kernel_rfl) (fun _ _ _ h => h) (Or.inl ⟨by kernel_rfl, ?_⟩) KA.out ?_
          · (intro w' hSw; obtain ⟨s0, s1, s2, s3⟩ := blk_all HO9.out hSw; have hz4 := Nat.lt_of_lt_of_le HO9.out.lt hSw.size; clear hSw; go_simp)
          (try simp only [List.getElem_toArray, List.getElem_cons_succ, List.getElem_cons_zero])
          go_frame
          refine wpAnyN_take (i := 1) (v := .slice a2 M c2) rfl (by kernel_rfl) (by kernel_rfl) (by kernel_rfl) (by decide) (by kernel_rfl) (fun _ _ _ h => h) (Or.inl ⟨by kernel_rfl, ?_⟩) KA.out ?_
          · (intro w' hSw; obtain ⟨s0, s1, s2, s3⟩ := blk_all HO9.out hSw; have hz4 := Nat.lt_of_lt_of_le HO9.out.lt hSw.size; clear hSw; go_simp)
          (try simp only [List.getElem_toArray, List.getElem_cons_succ, List.getElem_cons_zero])
          go_frame
          refine wpAnyN_take (i := 3) (v := .int .i64 lv) rfl (by kernel_rfl) (by kernel_rfl) (by kernel_rfl) (by decide) (by kernel_rfl) (fun _ _ _ h => h) (Or.inl ⟨by kernel_rfl, ?_⟩) KA.out ?_
          · (intro w' hSw; obtain ⟨s0, s1, s2, s3⟩ := blk_all HO9.out hSw; have hz4 := Nat.lt_of_lt_of_le HO9.out.lt hSw.size; clear hSw; go_simp)
          (try simp only [List.getElem_toArray, List.getElem_cons_succ, List.getElem_cons_zero])
          go_frame
          refine wpAnyN_take (i := 4) (v := .int .i64 f) rfl (by kernel_rfl) (by kernel_rfl) (by kernel_rfl) (by decide) (by kernel_rfl) (fun _ _ _ h => h) (Or.inl ⟨by kernel_rfl, ?_⟩) KA.out ?_
          · (intro w' hSw; obtain ⟨s0, s1, s2, s3⟩ := blk_all HO9.out hSw; have hz4 := Nat.lt_of_lt_of_le HO9.out.lt hSw.size; clear hSw; go_simp)
          (try simp only [List.getElem_toArray, List.getElem_cons_succ, List.getElem_cons_zero])
          go_frame
          refine wpAnyN_take (i := 5) (v := .int .i64 t) rfl (by kernel_rfl) (by kernel_rfl) (by kernel_rfl) (by decide) (by kernel_rfl) (fun _ _ _ h => h) (Or.inl ⟨by kernel_rfl, ?_⟩) KA.out ?_
          · (intro w' hSw; obtain ⟨s0, s1, s2, s3⟩ := blk_all HO9.out hSw; have hz4 := Nat.lt_of_lt_of_le HO9.out.lt hSw.size; clear hSw; go_simp)
          (try simp only [List.getElem_toArray, List.getElem_cons_succ, List.getElem_cons_zero])
          go_frame
          refine wpAnyL_two (i := 2) (j := 11) (by kernel_rfl) rfl rfl (by kernel_rfl) (by kernel_rfl) ?_ ?_
          · obtain ⟨x, cc, W6, R6, h6, k6⟩ := icopy (HS9.out.stay KA.out) HM.out HM4.out
            have KB := hid (show Kept w9 W6 from KA.out.trans k6 (fun _ _ f => f))
            have HU := hid h6
            refine oper_appendH _ _ _ rfl rfl rfl R6 ?_
            refine ⟨KB.out, ?_⟩
            go_frame
            clear R6 h6 k6
            refine wpAnyL_two (i := 6) (j := 11) (by kernel_rfl) rfl rfl (by kernel_rfl) (by kernel_rfl) ?_ ?_
            · have HC := hid (HSW.out HM4.out W6 _ _ _ (HPS9.out.stay KB.out) HU.out)
              go_simp
              refine HC.out.mono ?_
              rintro e W7 ⟨v7, rfl, h7, k7⟩
              unfold RfAt at h7
              try simp only at h7
              rw [HL2.out] at h7
              obtain ⟨a7, c7, rfl⟩ := ownN_slice h7
              have KC := hid (show Kept w9 W7 from KB.out.trans k7 (fun _ _ f => f))
              have H7 := hid (RfAt.src (B := W6.heap.size) (l := l2) (v := .slice a7 L2 c7) (w := W7) (by unfold RfAt; rw [HL2.out]; exact h7))
              clear HC h7 k7
              refine ⟨KC.out, ?_⟩
              (try simp only [List.getElem_toArray, List.getElem_cons_succ, List.getElem_cons_zero])
              (try go_frame)
              refine wpAnyN_take (i := 7) (v := .tuple #[.agg #[.slice a7 L2 c7, .int .i64 N2, .int .i64 G2, .int .i64 Lo2], .int .i64 id2, .int .i64 x2]) rfl (by kernel_rfl) (by kernel_rfl) (by kernel_rfl) (by decide) (by kernel_rfl) (fun _ _ _ h => h) (Or.inl ⟨by kernel_rfl, ?_⟩) KC.out ?_
              · (intro w' hSw; go_simp)
              (try simp only [List.getElem_toArray, List.getElem_cons_succ, List.getElem_cons_zero])
              go_frame
              refine wpAnyN_take (i := 8) (v := .agg #[.slice a7 L2 c7, .int .i64 N2, .int .i64 G2, .int .i64 Lo2]) rfl (by kernel_rfl) (by kernel_rfl) (by kernel_rfl) (by decide) (by kernel_rfl) (fun _ _ _ h => h) (Or.inl ⟨by kernel_rfl, ?_⟩) KC.out ?_
              · (intro w' hSw; go_simp)
              (try simp only [List.getElem_toArray, List.getElem_cons_succ, List.getElem_cons_zero])
              go_frame
              refine wpAnyN_take (i := 9) (v := .int .i64 id2) rfl (by kernel_rfl) (by kernel_rfl) (by kernel_rfl) (by decide) (by kernel_rfl) (fun _ _ _ h => h) (Or.inl ⟨by kernel_rfl, ?_⟩) KC.out ?_
              · (intro w' hSw; go_simp)
              (try simp only [List.getElem_toArray, List.getElem_cons_succ, List.getElem_cons_zero])
              go_frame
              refine wpAnyN_take (i := 10) (v := .int .i64 x2) rfl (by kernel_rfl) (by kernel_rfl) (by kernel_rfl) (by decide) (by kernel_rfl) (fun _ _ _ h => h) (Or.inl ⟨by kernel_rfl, ?_⟩) KC.out ?_
              · (intro w' hSw; go_simp)
              (try simp only [List.getElem_toArray, List.getElem_cons_succ, List.getElem_cons_zero])
              go_frame
              refine wpAnyL_one (i := 11) (by kernel_rfl) rfl rfl ?_
              go_simp
              refine ⟨KC.out.alloc _, ?_⟩
              (try go_frame)
              refine wpAnyL_one (i := 12) (by kernel_rfl) rfl rfl ?_
              go_simp
              have HD : Hid (SwapD w9 l2 L2 N2 G2 Lo2 W7.heap.size x cc a7 c7 (W7.alloc (manO a7 L2 c7 N2 G2 Lo2))) := hid ⟨H7.out.stay ((Only.refl _ W7).alloc _), Blk.new W7 [.slice a7 L2 c7, .int .i64 N2, .int .i64 G2, .int .i64 Lo2] 24, KC.out.alloc _⟩
              refine ⟨KC.out.alloc _, ?_⟩
              (try go_frame)
              refine wpAnyL_one (i := 13) (by kernel_rfl) rfl rfl ?_
              go_simp
              refine ⟨HD.out.2.2, ?_⟩
              (try go_frame)
              refine wpAnyL_one (i := 14) (by kernel_rfl) rfl rfl ?_
              go_simp
              refine ⟨HD.out.2.2, ?_⟩
              (try go_frame)
              refine wpAnyN_done (by kernel_rfl) ?_
              refine NoPanic.normal ?_
              generalize W7.heap.size = ub at HD ⊢
              exact ⟨rfl, ub, x, cc, a7, c7, rfl, HD.out⟩
            · go_simp
              have KY := hid (show Kept w9 (W6.alloc (manO none 0 0 0 0 0)) from KB.out.alloc _)
              refine ⟨KY.out, ?_⟩
              (try go_frame)
              have hY := Blk.new W6 [.slice none 0 0, .int .i64 0, .int .i64 0, .int .i64 0] 24
              obtain ⟨wy, hwy⟩ : ∃ W, W6.alloc (manO none 0 0 0 0 0) = W := ⟨_, rfl⟩
              have HWY := hid hwy
              have HUY : Hid (SrcOf wy (.slice x M cc) (ids.map (Value.int .i64))) := hid (by rw [← hwy]; exact HU.out.stay ((Only.refl _ W6).alloc _))
              obtain ⟨yb, hyb⟩ : ∃ yb, W6.heap.size = yb := ⟨_, rfl⟩
              have HYB := hid (show w9.heap.size ≤ yb by rw [← hyb]; exact KB.out.size)
              rw [hyb]
              rw [hyb] at hY
              rw [hwy] at KY hY
              have HY := hid hY
              rw [HWY.out]
              clear hwy hyb hY HWY
              have HC := hid (HSW.out HM4.out wy _ _ _ (HPS9.out.stay KY.out) HUY.out)
              refine wpAnyL_one (i := 6) (by kernel_rfl) rfl rfl ?_
              go_simp
              refine HC.out.mono ?_
              rintro e W7 ⟨v7, rfl, h7, k7⟩
              unfold RfAt at h7
              try simp only at h7
              rw [HL2.out] at h7
              obtain ⟨a7, c7, rfl⟩ := ownN_slice h7
              have KC := hid (show Kept w9 W7 from KY.out.trans k7 (fun _ _ f => f))
              have hY7 := Only.blk k7 HY.out (fun f => f)
              have hylt := HY.out.lt
              have HD : Hid (SwapD w9 l2 L2 N2 G2 Lo2 yb x cc a7 c7 ((((W7.setCell ⟨yb, 0, none⟩ (.slice a7 L2 c7)).setCell ⟨yb, 1, none⟩ (.int .i64 N2)).setCell ⟨yb, 2, none⟩ (.int .i64 G2)).setCell ⟨yb, 3, none⟩ (.int .i64 Lo2))) := by
                refine hid ⟨RfAt.src (B := wy.heap.size) (l := l2) (by unfold RfAt; rw [HL2.out]; exact (set4_row (by unfold RfAt; rw [HL2.out]; exact h7) _ _ _ _ hylt : RfAt _ _ _ l2) |> fun h => by unfold RfAt at h; rw [HL2.out] at h; exact h), (((hY7.set 0 (.slice a7 L2 c7)).set 1 (.int .i64 N2)).set 2 (.int .i64 G2)).set 3 (.int .i64 Lo2), set4 _ _ _ _ _ _ KC.out HYB.out⟩
              have y0 := hY7.cell 0 rfl
              have y1 := hY7.cell 1 rfl
              have y2 := hY7.cell 2 rfl
              have y3 := hY7.cell 3 rfl
              have f0 := hY7.frozen 0
              have f1 := hY7.frozen 1
              have f2 := hY7.frozen 2
              have f3 := hY7.frozen 3
              have hylt7 := hY7.lt
              clear HC h7 k7 hY7 hylt HY HUY
              refine ⟨KC.out, ?_⟩
              (try simp only [List.getElem_toArray, List.getElem_cons_succ, List.getElem_cons_zero])
              (try go_frame)
              refine wpAnyN_take (i := 7) (v := .tuple #[.agg #[.slice a7 L2 c7, .int .i64 N2, .int .i64 G2, .int .i64 Lo2], .int .i64 id2, .int .i64 x2]) rfl (by kernel_rfl) (by kernel_rfl) (by kernel_rfl) (by decide) (by kernel_rfl) (fun _ _ _ h => h) (Or.inl ⟨by kernel_rfl, ?_⟩) KC.out ?_
              · (intro w' hSw; go_simp)
              (try simp only [List.getElem_toArray, List.getElem_cons_succ, List.getElem_cons_zero])
              go_frame
              refine wpAnyN_take (i := 8) (v := .agg #[.slice a7 L2 c7, .int .i64 N2, .int .i64 G2, .int .i64 Lo2]) rfl (by kernel_rfl) (by kernel_rfl) (by kernel_rfl) (by decide) (by kernel_rfl) (fun _ _ _ h => h) (Or.inl ⟨by kernel_rfl, ?_⟩) KC.out ?_
              · (intro w' hSw; go_simp)
              (try simp only [List.getElem_toArray, List.getElem_cons_succ, List.getElem_cons_zero])
              go_frame
              refine wpAnyN_take (i := 9) (v := .int .i64 id2) rfl (by kernel_rfl) (by kernel_rfl) (by kernel_rfl) (by decide) (by kernel_rfl) (fun _ _ _ h => h) (Or.inl ⟨by kernel_rfl, ?_⟩) KC.out ?_
              · (intro w' hSw; go_simp)
              (try simp only [List.getElem_toArray, List.getElem_cons_succ, List.getElem_cons_zero])
              go_frame
              refine wpAnyN_take (i := 10) (v := .int .i64 x2) rfl (by kernel_rfl) (by kernel_rfl) (by kernel_rfl) (by decide) (by kernel_rfl) (fun _ _ _ h => h) (Or.inl ⟨by kernel_rfl, ?_⟩) KC.out ?_
              · (intro w' hSw; go_simp)
              (try simp only [List.getElem_toArray, List.getElem_cons_succ, List.getElem_cons_zero])
              go_frame
              refine wpAnyL_one (i := 12) (by kernel_rfl) rfl rfl ?_
              go_simp
              refine ⟨HD.out.2.2, ?_⟩
              (try go_frame)
              refine wpAnyL_one (i := 13) (by kernel_rfl) rfl rfl ?_
              go_simp
              refine ⟨HD.out.2.2, ?_⟩
              (try go_frame)
              refine wpAnyL_one (i := 14) (by kernel_rfl) rfl rfl ?_
              go_simp
              refine ⟨HD.out.2.2, ?_⟩
              (try go_frame)
              refine wpAnyN_done (by kernel_rfl) ?_
              refine NoPanic.normal ?_
              exact ⟨rfl, yb, x, cc, a7, c7, rfl, HD.out⟩
          · go_simp
            have KY := hid (show Kept w9 (w9.drew.alloc (manO none 0 0 0 0 0)) from KA.out.alloc _)
            refine ⟨KY.out, ?_⟩
            (try go_frame)
            have hY := Blk.new w9.drew [.slice none 0 0, .int .i64 0, .int .i64 0, .int .i64 0] 24
            obtain ⟨x, cc, wy, R6, h6, k6⟩ := icopy (HS9.out.stay KY.out) HM.out HM4.out
            have HUY := hid h6
            have hY6 := Only.blk k6 hY (fun f => f)
            have KY := hid (show Kept w9 wy from KY.out.trans k6 (fun _ _ f => f))
            refine wpAnyL_one (i := 2) (by kernel_rfl) rfl rfl (oper_appendH _ _ _ rfl rfl rfl R6 ?_)
            refine ⟨KY.out, ?_⟩
            go_frame
            have HY : Hid (Blk wy w9.heap.size [.slice none 0 0, .int .i64 0, .int .i64 0, .int .i64 0] 24) := hid hY6
            clear R6 h6 k6 hY hY6
            have HYB : Hid (w9.heap.size ≤ w9.heap.size) := hid (Nat.le_refl _)
            have HC := hid (HSW.out HM4.out wy _ _ _ (HPS9.out.stay KY.out) HUY.out)
            refine wpAnyL_one (i := 6) (by kernel_rfl) rfl rfl ?_
            go_simp
            refine HC.out.mono ?_
            rintro e W7 ⟨v7, rfl, h7, k7⟩
            unfold RfAt at h7
            try simp only at h7
            rw [HL2.out] at h7
            obtain ⟨a7, c7, rfl⟩ := ownN_slice h7
            have KC := hid (show Kept w9 W7 from KY.out.trans k7 (fun _ _ f => f))
            have hY7 := Only.blk k7 HY.out (fun f => f)
            have hylt := HY.out.lt
            have HD : Hid (SwapD w9 l2 L2 N2 G2 Lo2 w9.heap.size x cc a7 c7 ((((W7.setCell ⟨w9.heap.size, 0, none⟩ (.slice a7 L2 c7)).setCell ⟨w9.heap.size, 1, none⟩ (.int .i64 N2)).setCell ⟨w9.heap.size, 2, none⟩ (.int .i64 G2)).setCell ⟨w9.heap.size, 3, none⟩ (.int .i64 Lo2))) := by
              refine hid ⟨RfAt.src (B := wy.heap.size) (l := l2) (by unfold RfAt; rw [HL2.out]; exact (set4_row (by unfold RfAt; rw [HL2.out]; exact h7) _ _ _ _ hylt : RfAt _ _ _ l2) |> fun h => by unfold RfAt at h; rw [HL2.out] at h; exact h), (((hY7.set 0 (.slice a7 L2 c7)).set 1 (.int .i64 N2)).set 2 (.int .i64 G2)).set 3 (.int .i64 Lo2), set4 _ _ _ _ _ _ KC.out HYB.out⟩
            have y0 := hY7.cell 0 rfl
            have y1 := hY7.cell 1 rfl
            have y2 := hY7.cell 2 rfl
            have y3 := hY7.cell 3 rfl
            have f0 := hY7.frozen 0
            have f1 := hY7.frozen 1
            have f2 := hY7.frozen 2
            have f3 := hY7.frozen 3
            have hylt7 := hY7.lt
            clear HC h7 k7 hY7 hylt HY HUY
            refine ⟨KC.out, ?_⟩
            (try simp only [List.getElem_toArray, List.getElem_cons_succ, List.getElem_cons_zero])
            (try go_frame)
            refine wpAnyN_take (i := 7) (v := .tuple #[.agg #[.slice a7 L2 c7, .int .i64 N2, .int .i64 G2, .int .i64 Lo2], .int .i64 id2, .int .i64 x2]) rfl (by kernel_rfl) (by kernel_rfl) (by kernel_rfl) (by decide) (by kernel_rfl) (fun _ _ _ h => h) (Or.inl ⟨by kernel_rfl, ?_⟩) KC.out ?_
            · (intro w' hSw; go_simp)
            (try simp only [List.getElem_toArray, List.getElem_cons_succ, List.getElem_cons_zero])
            go_frame
            refine wpAnyN_take (i := 8) (v := .agg #[.slice a7 L2 c7, .int .i64 N2, .int .i64 G2, .int .i64 Lo2]) rfl (by kernel_rfl) (by kernel_rfl) (by kernel_rfl) (by decide) (by kernel_rfl) (fun _ _ _ h => h) (Or.inl ⟨by kernel_rfl, ?_⟩) KC.out ?_
            · (intro w' hSw; go_simp)
            (try simp only [List.getElem_toArray, List.getElem_cons_succ, List.getElem_cons_zero])
            go_frame
            refine wpAnyN_take (i := 9) (v := .int .i64 id2) rfl (by kernel_rfl) (by kernel_rfl) (by kernel_rfl) (by decide) (by kernel_rfl) (fun _ _ _ h => h) (Or.inl ⟨by kernel_rfl, ?_⟩) KC.out ?_
            · (intro w' hSw; go_simp)
            (try simp only [List.getElem_toArray, List.getElem_cons_succ, List.getElem_cons_zero])
            go_frame
            refine wpAnyN_take (i := 10) (v := .int .i64 x2) rfl (by kernel_rfl) (by kernel_rfl) (by kernel_rfl) (by decide) (by kernel_rfl) (fun _ _ _ h => h) (Or.inl ⟨by kernel_rfl, ?_⟩) KC.out ?_
            · (intro w' hSw; go_simp)
            (try simp only [List.getElem_toArray, List.getElem_cons_succ, List.getElem_cons_zero])
            go_frame
            refine wpAnyL_one (i := 12) (by kernel_rfl) rfl rfl ?_
            go_simp
            refine ⟨HD.out.2.2, ?_⟩
            (try go_frame)
            refine wpAnyL_one (i := 13) (by kernel_rfl) rfl rfl ?_
            go_simp
            refine ⟨HD.out.2.2, ?_⟩
            (try go_frame)
            refine wpAnyL_one (i := 14) (by kernel_rfl) rfl rfl ?_
            go_simp
            refine ⟨HD.out.2.2, ?_⟩
            (try go_frame)
            refine wpAnyN_done (by kernel_rfl) ?_
            refine NoPanic.normal ?_
            exact ⟨rfl, w9.heap.size, x, cc, a7, c7, rfl, HD.out⟩
        case h2 =>
          intro ub x6 c6 a7 c7 w10 hD
          obtain ⟨hu, hU, k10⟩ := hD
          have HB10 := hid (Only.blk k10 HB9.out (fun f => f))
          have hB10 := HB10.out
          have m0 := hB10.cell 0 rfl
          have m1 := hB10.cell 1 rfl
          have m2 := hB10.cell 2 rfl
          have m3 := hB10.cell 3 rfl
          have hltm := hB10.lt
          have HU := hid hu
          have HUB := hid hU
          have K10 := hid k10
          have HC11 := hid (HRS.out HM4.out w10 a c _ (HR9.out.stay k10) (HS9.out.stay k10))
          clear hB10 hu hU k10
          go_wp2_with fail
          refine HC11.out.mono ?_
          rintro e w11 ⟨v11, rfl, h11, k11⟩
          unfold RfAt at h11
          try simp only at h11
          rw [HL2.out] at h11
          obtain ⟨a11, c11, rfl⟩ := ownN_slice h11
          obtain ⟨w12, hw12⟩ : ∃ W, w11.alloc (manO a11 L2 c11 N2 G2 Lo2) = W := ⟨_, rfl⟩
          have HW12 := hid hw12
          have k12 : Kept w11 w12 := by rw [← hw12]; exact (Only.refl _ w11).alloc _
          have HVB := hid (show Blk w12 w11.heap.size [.slice a11 L2 c11, .int .i64 N2, .int .i64 G2, .int .i64 Lo2] 24 by rw [← hw12]; exact Blk.new w11 [.slice a11 L2 c11, .int .i64 N2, .int .i64 G2, .int .i64 Lo2] 24)
          have hk := k11.trans k12 (fun _ _ f => f)
          have hk9 := K10.out.trans hk (fun _ _ f => f)
          have HUB12 := hid (Only.blk hk HUB.out (fun f => f))
          have HU12 := hid (HU.out.stay hk)
          have HV12 := hid (RfAt.src (B := w10.heap.size) (l := l2) (v := .slice a11 L2 c11) (w := w12) (by unfold RfAt; rw [HL2.out]; exact ownN_stay h11 k12))
          have HA12 := hid (HA9.out.stay hk9)
          have HZ12 := hid (HZS9.out.stay hk9)
          have HYB12 := hid (Only.blk hk9 HY9.out (fun f => f))
          have HZB12 := hid (Only.blk hk9 HZ9.out (fun f => f))
          have HO12 := hid (Only.blk hk9 HO9.out (fun f => f))
          have HB12 := hid (Only.blk hk9 HB9.out (fun f => f))
          have HP12 := hid (HPS9.out.stay hk9)
          have HR12 := hid (HR9.out.stay hk9)
          have hk5 := K59.out.trans hk9 (fun _ _ f => f)
          have HPC12 := hid (each_cell hk5 _ _ HPC.out)
          have K12 := hid (K5.out.trans hk5 (fun _ _ f => f))
          obtain ⟨vb, hvb⟩ : ∃ vb, w11.heap.size = vb := ⟨_, rfl⟩
          have HVBE := hid hvb
          rw [hvb] at HVB
          clear HC11 h11 k11 k12 hk hk9 hk5 hw12 m0 m1 m2 m3 hltm hvb
          go_wp2
          rw [HW12.out, HVBE.out]
          have hL1b := HQ1.out
          go_loopw [25] (fun s wr => ∃ (k : Nat), k ≤ L1 ∧ s = .int .i64 (k : Int) ∧ Kept w12 wr) (fun s _ => L1 - (intOf s).toNat)
          case atStart => exact ⟨0, by omega, rfl, Only.refl _ _⟩
          case round =>
            obtain ⟨k, hk, rfl, kr⟩ := hrel
            have KR := hid kr
            by_cases hlt : k < L1
            · have hX := Only.blk kr HYB12.out (fun f => f)
              have hY := Only.blk kr HZB12.out (fun f => f)
              have x0 := hX.cell 0 rfl
              have y0 := hY.cell 0 rfl
              have hlx := hX.lt
              have hly := hY.lt
              clear hX hY
              obtain ⟨b1, o1, rfl, p0, p1, p2, p3⟩ := (HA12.out.stay kr).cell HL1.out k hlt
              obtain ⟨b3, o3, rfl, q0, q1, q2, q3⟩ := (HZ12.out.stay kr).cell HL1.out k hlt
              have hkl : k < l1.length := by have := HL1.out; omega
              generalize l1[k] = x at p0 p1 p2 p3 q0 q1 q2 q3
              obtain ⟨i, lv', f', t'⟩ := x
              simp only at p0 p1 p2 p3 q0 q1 q2 q3
              clear kr
              go_wp2_with fail
              go_quiet (fail)
              go_wp2_with fail
              go_roundw
              case rel => exact ⟨k + 1, by omega, by go_num, kept_drewN KR.out nq⟩
              case measure => simp [intOf]; omega
            · have hke : k = L1 := by omega
              subst hke
              have hX := Only.blk kr HYB12.out (fun f => f)
              have x0 := hX.cell 0 rfl
              have hlx := hX.lt
              have HO15 := hid (Only.blk kr HO12.out (fun f => f))
              have HB15 := hid (Only.blk kr HB12.out (fun f => f))
              have HPC15 := hid (each_cell kr _ _ HPC12.out)
              clear hX kr
              go_wp2_with fail
              have KA := hid (show Kept wr wr.drew from (Only.refl _ _).drew)
              refine wp_region_noPanic ?_
              refine wp_region_last (L := 1000) (S := fun w' => Kept wr w') (by kernel_rfl) ?_
              refine wpAnyN_take (i := 0) (v := .agg #[.slice (some ⟨g, 0, none⟩) L cap, .int .i64 N, .int .i64 G, .int .i64 Lo]) rfl (by kernel_rfl) (by kernel_rfl) (by kernel_rfl) (by decide) (by kernel_rfl) (fun _ _ _ h => h) (Or.inl ⟨by kernel_rfl, ?_⟩) KA.out ?_
              · (intro w' hSw; obtain ⟨s0, s1, s2, s3⟩ := blk_all HO15.out hSw; have hz4 := Nat.lt_of_lt_of_le HO15.out.lt hSw.size; clear hSw; go_simp)
              (try simp only [List.getElem_toArray, List.getElem_cons_succ, List.getElem_cons_zero])
              go_frame
              refine wpAnyN_take (i := 1) (v := .agg #[.slice a L c, .int .i64 N, .int .i64 G, .int .i64 Lo]) rfl (by kernel_rfl) (by kernel_rfl) (by kernel_rfl) (by decide) (by kernel_rfl) (fun _ _ _ h => h) (Or.inl ⟨by kernel_rfl, ?_⟩) KA.out ?_
              · (intro w' hSw; obtain ⟨s0, s1, s2, s3⟩ := blk_all HB15.out hSw; have hz4 := Nat.lt_of_lt_of_le HB15.out.lt hSw.size; clear hSw; go_simp)
              (try simp only [List.getElem_toArray, List.getElem_cons_succ, List.getElem_cons_zero])
              go_frame
              have HSM := hid (rsame_any wr.drew (some ⟨g, 0, none⟩) a cap c L l N G Lo ((HP12.out.stay KR.out).stay KA.out) ((HR12.out.stay KR.out).stay KA.out) HL.out (by have := HL4.out; omega))
              refine wpAnyL_one (i := 2) (by kernel_rfl) rfl rfl ?_
              go_simp
              refine HSM.out.mono ?_
              rintro e wb ⟨rfl, kk⟩
              have KB := hid (show Kept wr wb from KA.out.trans kk (fun _ _ f => f))
              have hsl := HPL.out
              have hwL : IntKind.i64.wrap ((L : Int) + 1) = (L : Int) + 1 := by have := HL4.out; rw [IntKind.wrap_i64]; omega
              clear kk HSM
              refine ⟨KB.out, ?_⟩
              (try simp only [List.getElem_toArray, List.getElem_cons_succ, List.getElem_cons_zero])
              (try go_frame)
              refine wpAnyN_take (i := 3) (v := .bool true) rfl (by kernel_rfl) (by kernel_rfl) (by kernel_rfl) (by decide) (by kernel_rfl) (fun _ _ _ h => h) (Or.inl ⟨by kernel_rfl, ?_⟩) KB.out ?_
              · (intro w' hSw; go_simp)
              (try simp only [List.getElem_toArray, List.getElem_cons_succ, List.getElem_cons_zero])
              go_frame
              refine wpAnyN_take (i := 4) (v := .pointer (some ⟨ob, 0, none⟩)) rfl (by kernel_rfl) (by kernel_rfl) (by kernel_rfl) (by decide) (by kernel_rfl) (fun _ _ _ h => h) (Or.inl ⟨by kernel_rfl, ?_⟩) KB.out ?_
              · (intro w' hSw; obtain ⟨s0, s1, s2, s3⟩ := blk_all HO15.out hSw; have hz4 := Nat.lt_of_lt_of_le HO15.out.lt hSw.size; clear hSw; go_simp)
              (try simp only [List.getElem_toArray, List.getElem_cons_succ, List.getElem_cons_zero])
              go_frame
              refine wpAnyN_take (i := 5) (v := .slice (some ⟨g, 0, none⟩) L cap) rfl (by kernel_rfl) (by kernel_rfl) (by kernel_rfl) (by decide) (by kernel_rfl) (fun _ _ _ h => h) (Or.inl ⟨by kernel_rfl, ?_⟩) KB.out ?_
              · (intro w' hSw; obtain ⟨s0, s1, s2, s3⟩ := blk_all HO15.out hSw; have hz4 := Nat.lt_of_lt_of_le HO15.out.lt hSw.size; clear hSw; go_simp)
              (try simp only [List.getElem_toArray, List.getElem_cons_succ, List.getElem_cons_zero])
              go_frame
              refine wpAnyN_take (i := 6) (v := .pointer (some ⟨w.heap.size, 0, none⟩)) rfl (by kernel_rfl) (by kernel_rfl) (by kernel_rfl) (by decide) (by kernel_rfl) (fun _ _ _ h => h) (Or.inl ⟨by kernel_rfl, ?_⟩) KB.out ?_
              · (intro w' hSw; obtain ⟨s0, s1, s2, s3⟩ := blk_all HB15.out hSw; have hz4 := Nat.lt_of_lt_of_le HB15.out.lt hSw.size; clear hSw; go_simp)
              (try simp only [List.getElem_toArray, List.getElem_cons_succ, List.getElem_cons_zero])
              go_frame
              refine wpAnyN_take (i := 7) (v := .slice a L c) rfl (by kernel_rfl) (by kernel_rfl) (by kernel_rfl) (by decide) (by kernel_rfl) (fun _ _ _ h => h) (Or.inl ⟨by kernel_rfl, ?_⟩) KB.out ?_
              · (intro w' hSw; obtain ⟨s0, s1, s2, s3⟩ := blk_all HB15.out hSw; have hz4 := Nat.lt_of_lt_of_le HB15.out.lt hSw.size; clear hSw; go_simp)
              (try simp only [List.getElem_toArray, List.getElem_cons_succ, List.getElem_cons_zero])
              go_frame
              refine wpAnyN_take (i := 8) (v := .int .i64 (L : Int)) rfl (by kernel_rfl) (by kernel_rfl) (by kernel_rfl) (by decide) (by kernel_rfl) (fun _ _ _ h => h) (Or.inl ⟨by kernel_rfl, ?_⟩) KB.out ?_
              · (intro w' hSw; go_simp)
              (try simp only [List.getElem_toArray, List.getElem_cons_succ, List.getElem_cons_zero])
              go_frame
              refine wpAnyN_take (i := 9) (v := .int .i64 ((L : Int) + 1)) rfl (by kernel_rfl) (by kernel_rfl) (by kernel_rfl) (by decide) (by kernel_rfl) (fun _ _ _ h => h) (Or.inl ⟨by kernel_rfl, ?_⟩) KB.out ?_
              · (intro w' hSw; go_simp)
              (try simp only [List.getElem_toArray, List.getElem_cons_succ, List.getElem_cons_zero])
              go_frame
              refine wpAnyN_take (i := 10) (v := .slice (some ⟨g, 0, none⟩) (L + 1) cap) rfl (by kernel_rfl) (by kernel_rfl) (by kernel_rfl) (by decide) (by kernel_rfl) (fun _ _ _ h => h) (Or.inl ⟨by kernel_rfl, ?_⟩) KB.out ?_
              · (intro w' hSw; go_simp)
              (try simp only [List.getElem_toArray, List.getElem_cons_succ, List.getElem_cons_zero])
              go_frame
              refine wpAnyN_take (i := 11) (v := .pointer (some ⟨w.heap.size, 0, none⟩)) rfl (by kernel_rfl) (by kernel_rfl) (by kernel_rfl) (by decide) (by kernel_rfl) (fun _ _ _ h => h) (Or.inl ⟨by kernel_rfl, ?_⟩) KB.out ?_
              · (intro w' hSw; obtain ⟨s0, s1, s2, s3⟩ := blk_all HB15.out hSw; have hz4 := Nat.lt_of_lt_of_le HB15.out.lt hSw.size; clear hSw; go_simp)
              (try simp only [List.getElem_toArray, List.getElem_cons_succ, List.getElem_cons_zero])
              go_frame
              refine wpAnyN_take (i := 12) (v := .slice a L c) rfl (by kernel_rfl) (by kernel_rfl) (by kernel_rfl) (by decide) (by kernel_rfl) (fun _ _ _ h => h) (Or.inl ⟨by kernel_rfl, ?_⟩) KB.out ?_
              · (intro w' hSw; obtain ⟨s0, s1, s2, s3⟩ := blk_all HB15.out hSw; have hz4 := Nat.lt_of_lt_of_le HB15.out.lt hSw.size; clear hSw; go_simp)
              (try simp only [List.getElem_toArray, List.getElem_cons_succ, List.getElem_cons_zero])
              go_frame
              refine wpAnyN_take (i := 13) (v := .int .i64 (L : Int)) rfl (by kernel_rfl) (by kernel_rfl) (by kernel_rfl) (by decide) (by kernel_rfl) (fun _ _ _ h => h) (Or.inl ⟨by kernel_rfl, ?_⟩) KB.out ?_
              · (intro w' hSw; go_simp)
              (try simp only [List.getElem_toArray, List.getElem_cons_succ, List.getElem_cons_zero])
              go_frame
              refine wpAnyN_take (i := 14) (v := .pointer (some ⟨g, L * 4, none⟩)) rfl (by kernel_rfl) (by kernel_rfl) (by kernel_rfl) (by decide) (by kernel_rfl) (fun _ _ _ h => h) (Or.inl ⟨by kernel_rfl, ?_⟩) KB.out ?_
              · (intro w' hSw; (try go_simp); (try (intro h; omega)))
              (try simp only [List.getElem_toArray, List.getElem_cons_succ, List.getElem_cons_zero])
              go_frame
              refine wpAnyN_take (i := 15) (v := .pointer (some ⟨g, L * 4, none⟩)) rfl (by kernel_rfl) (by kernel_rfl) (by kernel_rfl) (by decide) (by kernel_rfl) (fun _ _ _ h => h) (Or.inl ⟨by kernel_rfl, ?_⟩) KB.out ?_
              · (intro w' hSw; go_simp)
              (try simp only [List.getElem_toArray, List.getElem_cons_succ, List.getElem_cons_zero])
              go_frame
              refine wpAnyN_take (i := 16) (v := .int .i64 (-71)) rfl (by kernel_rfl) (by kernel_rfl) (by kernel_rfl) (by decide) (by kernel_rfl) (fun _ _ _ h => h) (Or.inl ⟨by kernel_rfl, ?_⟩) KB.out ?_
              · (intro w' hSw; have s0 := each_cell hSw _ _ HPC15.out; clear hSw; go_simp)
              (try simp only [List.getElem_toArray, List.getElem_cons_succ, List.getElem_cons_zero])
              go_frame
              refine wpAnyN_take (i := 17) (v := .bool true) rfl (by kernel_rfl) (by kernel_rfl) (by kernel_rfl) (by decide) (by kernel_rfl) (fun _ _ _ h => h) (Or.inl ⟨by kernel_rfl, ?_⟩) KB.out ?_
              · (intro w' hSw; go_simp)
              (try simp only [List.getElem_toArray, List.getElem_cons_succ, List.getElem_cons_zero])
              go_frame
              refine wpAnyN_take (i := 18) (v := .bool true) rfl (by kernel_rfl) (by kernel_rfl) (by kernel_rfl) (by decide) (by kernel_rfl) (fun _ _ _ h => h) (Or.inl ⟨by kernel_rfl, ?_⟩) KB.out ?_
              · (intro w' hSw; go_simp)
              (try simp only [List.getElem_toArray, List.getElem_cons_succ, List.getElem_cons_zero])
              go_frame
              refine wpAnyL_one (i := 19) (by kernel_rfl) rfl rfl ?_
              go_simp
              refine ⟨KB.out, ?_⟩
              (try go_frame)
              refine wpAnyN_done (by kernel_rfl) ?_
              refine NoPanic.normal ?_
              have KBB := hid (show Kept w12 wb from KR.out.trans KB.out (fun _ _ f => f))
              obtain ⟨y0, y1, y2, y3⟩ := blk_all HYB12.out KBB.out
              obtain ⟨z0, z1, z2, z3⟩ := blk_all HZB12.out KBB.out
              have hly := Nat.lt_of_lt_of_le HYB12.out.lt KBB.out.size
              have hlz := Nat.lt_of_lt_of_le HZB12.out.lt KBB.out.size
              have HSM1 := hid (rsame_any wb _ _ _ _ k l1 N1 G1 Lo1 (HA12.out.stay KBB.out) (HZ12.out.stay KBB.out) HL1.out (by omega))
              clear x0 hlx hsl hwL
              go_wp2_with (go_at_call 12; refine (num17_any _ _).mono ?_; rintro e w' ⟨rfl, hw⟩; replace hw := hw.symm; subst hw)
              refine HSM1.out.mono ?_
              rintro e wc ⟨rfl, kk⟩
              have KCC := hid (show Kept w12 wc from KBB.out.trans kk (fun _ _ f => f))
              obtain ⟨u0, u1, u2, u3⟩ := blk_all HUB12.out KCC.out
              obtain ⟨v0, v1, v2, v3⟩ := blk_all HVB.out KCC.out
              have hlu := Nat.lt_of_lt_of_le HUB12.out.lt KCC.out.size
              have hlv := Nat.lt_of_lt_of_le HVB.out.lt KCC.out.size
              have HSM2 := hid (rsame_any wc _ _ _ _ L2 l2 N2 G2 Lo2 (HU12.out.stay KCC.out) (HV12.out.stay KCC.out) HL2.out (by have := HQ2.out; omega))
              clear kk HSM1 y0 y1 y2 y3 z0 z1 z2 z3 hly hlz
              go_wp2_with (go_at_call 12; refine (num17_any _ _).mono ?_; rintro e w' ⟨rfl, hw⟩; replace hw := hw.symm; subst hw)
              refine HSM2.out.mono ?_
              rintro e wd ⟨rfl, kk⟩
              have KDD := hid (show Kept w wd from K12.out.trans (KCC.out.trans kk (fun _ _ f => f)) (fun _ _ f => f))
              clear kk HSM2 u0 u1 u2 u3 v0 v1 v2 v3 hlu hlv
              go_wp2
              go_ret
              exact ⟨rfl, KDD.out⟩
end Go.Proofs.Ytmpkafmkkkpdeaa.J
