/-
  head, filled, take.
-/
import Derived.Test.YtcacoanhiphbiaaZss
namespace Go.Proofs.Ytcacoanhiphbiaa.Ms
open Go Go.RowKit Go.Proofs.Lys
set_option linter.unusedVariables false
set_option linter.unusedSimpArgs false

set_option maxRecDepth 100000 in
set_option maxHeartbeats 1600000 in
theorem head_any {RK : Rank} {w0 : World} {hb : Nat} {r0 : Run} {t : List Run} {g cap : Nat} (w : World) (H : HeapW RK w0 hb (r0 :: t) g cap w) (hne : r0.2.1 ≠ []) (hlen : t.length ≤ 1000000) :
    Calls Try.prog 16 #[.pointer (some ⟨hb, 0, none⟩)] w fun e w' => e = .returned (.agg #[(r0.2.1.headD d0).2.lv, (r0.2.1.headD d0).2.sv]) ∧ Kept w w' := by
  obtain ⟨b, o, n, c, ⟨T, X⟩, e, hn, hc, -, tc, vc, hd, -⟩ := run_head (H.src r0 List.mem_cons_self) H.kept hne
  have hce := H.cells (i := 0) (by simp)
  have hcb := H.blk
  rw [hd]
  simp only [List.length_cons] at hcb
  have b0 := hcb.cell 0 rfl
  have hltb := hcb.lt
  have i0 : w.cell? ⟨g, 0, none⟩ = some (.slice (some ⟨b, o, none⟩) n c) := by rw [← e]; exact hce.1
  have hltg : g < w.heap.size := World.block_lt_of_cell? w _ i0
  have hlti : b < w.heap.size := World.block_lt_of_cell? w _ tc
  obtain ⟨N, hN⟩ : ∃ N, t.length = N := ⟨_, rfl⟩
  rw [hN] at b0 hlen
  obtain ⟨la, ln, lc, sa, sn, sc, _, _⟩ := X
  simp only [SVc.lv, SVc.sv] at tc vc ⊢
  have hE : Hid (Blk (w.alloc (.cells #[.slice la ln lc, .slice sa sn sc] 29)) w.heap.size [.slice la ln lc, .slice sa sn sc] 29) := hid (Blk.new w [.slice la ln lc, .slice sa sn sc] 29)
  clear hce hcb H hd e hne hN
  go_enter Try.func16, Try.ntmps16
  go_wp2
  exact bodyPost_ret (v := .agg #[.slice la ln lc, .slice sa sn sc]) (results_cell_row rfl _ _ w.heap.size 29 #[.slice la ln lc, .slice sa sn sc] (0, 0) _ rfl hE.out Try.underlying29 rfl (by kernel_rfl)) rfl ⟨rfl, (Only.refl _ w).alloc _⟩
set_option maxRecDepth 100000 in
theorem filled_any {hb N cap : Nat} {a : Option Addr} {f : Value} (w : World) (H : Blk w hb [.slice a N cap, f] 55) (hN : N ≤ 1000000) :
    Calls Try.prog 14 #[.pointer (some ⟨hb, 0, none⟩)] w fun e w' => e = .returned (.bool (decide (0 < N))) ∧ w' = w := by
  have b0 := H.cell 0 rfl
  have hltb := H.lt
  clear H
  go_enter Try.func14, Try.ntmps14
  go_wp2
  go_ret
  exact ⟨by simp, rfl⟩

/-- The items behind the first. -/
theorem ssrc_tail {RK : Rank} {w : World} {b o n c : Nat} {x : Smp} {xs : Smps} (h : SSrc RK w (.slice (some ⟨b, o, none⟩) n c) (x :: xs)) :
    ∃ a', (∀ W, (Instr.sliceAt 25 (.slice (some ⟨b, o, none⟩) n c) (some (.int .i64 1)) none none).run Try.prog W = .ok (.slice a' xs.length (c - 1)) W) ∧ SSrc RK w (.slice a' xs.length (c - 1)) xs := by
  obtain ⟨hs, a, c2, e, hc⟩ := h
  simp only [Value.slice.injEq, List.length_cons] at e hc
  obtain ⟨rfl, hn, rfl⟩ := e
  have hz : ∀ W, (sizeOf 29).run Try.prog W = .ok 2 W := fun W => by kernel_rfl
  refine ⟨if c = 1 then some ⟨b, o, none⟩ else some (Addr.add ⟨b, o, none⟩ 2), fun W => ?_, ?_, _, c - 1, rfl, by omega⟩
  · have e1 : (1 : Int) ≤ (n : Int) := by omega
    have e2 : n - 1 = xs.length := by omega
    simp [Instr.sliceAt, Instr.slice, Instr.sliceBounds, Instr.sliceBound, run_underlying Try.underlying25, asIntOf, e1, e2, hz, Result.andThen]
  · rcases hs with ⟨y, z, _, hnil⟩ | ⟨hp, b', o', c', hv, hcell⟩
    · cases hnil
    · simp only [Value.slice.injEq, Option.some.injEq, Addr.mk.injEq, and_true] at hv
      obtain ⟨⟨rfl, rfl⟩, _, rfl⟩ := hv
      by_cases h0 : xs.length = 0
      · have : xs = [] := List.length_eq_zero_iff.1 h0
        subst this
        exact .inl ⟨_, _, rfl, rfl⟩
      · rw [if_neg (by omega), add_none]
        refine .inr ⟨by omega, b, o + 2, c - 1, rfl, fun i hi => ?_⟩
        have := hcell (i + 1) (by simp; omega)
        rw [show o + (i + 1) * 2 = o + 2 + i * 2 by omega] at this
        exact this
/-- A row is cut. -/
theorem own_cut {w : World} {base g n cap m z : Nat} {e : TypeId} {xs : List Value} (h : w.ownsRow base e z (.slice (some ⟨g, 0, none⟩) n cap) n xs) (hm : m ≤ n) : w.ownsRow base e z (.slice (some ⟨g, 0, none⟩) m cap) m (xs.take (m * z)) := by
  have hle : m * z ≤ n * z := Nat.mul_le_mul_right z hm
  rcases h with ⟨hl, ⟨e1, _⟩ | ⟨g', cap', cur, hv, hb, hg, hnc, hcm, hcs, htake⟩⟩
  · cases e1
  · simp only [Value.slice.injEq, Option.some.injEq, Addr.mk.injEq, and_true, true_and] at hv
    obtain ⟨rfl, rfl⟩ := hv
    refine ⟨by rw [List.length_take]; omega, .inr ⟨g, cap, cur, rfl, hb, hg, by omega, hcm, hcs, ?_⟩⟩
    rw [← htake, List.take_take, Nat.min_eq_left hle]

/-- What take leaves. -/
def TakeP (RK : Rank) (w0 : World) (hb g cap : Nat) (x : Smp) (n : Nat) (out tgt : Smps) (w : World) (e : Ending) (w' : World) : Prop :=
  e = .returned (.agg #[x.2.lv, x.2.sv]) ∧ ∃ h2, HeapW RK w0 hb h2 g cap w' ∧ MrgI h2 (putS x out) tgt ∧ Only (fun k => k = hb ∨ k = g) w w' ∧ (flat h2).length = n
theorem flat_perm {a b : List Run} (h : a.Perm b) : (flat a).length = (flat b).length := by
  induction h with
  | nil => rfl
  | cons x _ ih => rw [flat_cons, flat_cons, List.length_append, List.length_append, ih]
  | swap x y l => rw [flat_cons, flat_cons, flat_cons, flat_cons, List.length_append, List.length_append, List.length_append, List.length_append]; omega
  | trans _ _ h1 h2 => exact h1.trans h2
theorem HeapW.len_cap {RK : Rank} {w0 : World} {hb : Nat} {h : List Run} {g cap : Nat} {w : World} (H : HeapW RK w0 hb h g cap w) : h.length ≤ cap := by
  rcases H.row.2 with ⟨e, _⟩ | ⟨g', cap', cur, hv, _, _, hnc, _⟩
  · cases e
  · simp only [Value.slice.injEq] at hv
    obtain ⟨_, _, rfl⟩ := hv
    exact hnc
theorem HeapW.ne {RK : Rank} {w0 : World} {hb : Nat} {h : List Run} {g cap : Nat} {w : World} (H : HeapW RK w0 hb h g cap w) : hb ≠ g := Typed.ne H.blk.typed (ownN_typed H.row rfl) (by decide)
theorem HeapW.glt {RK : Rank} {w0 : World} {hb : Nat} {h : List Run} {g cap : Nat} {w : World} (H : HeapW RK w0 hb h g cap w) : w0.heap.size ≤ g ∧ g < w.heap.size := ownN_lt H.row rfl
/-- The first run gives up its first item. -/
theorem HeapW.rest {RK : Rank} {w0 : World} {hb : Nat} {v v' : Value} {s xs : Smps} {p : Nat} {t : List Run} {g cap : Nat} {w : World} (H : HeapW RK w0 hb ((v, s, p) :: t) g cap w) (hs : SSrc RK w0 v' xs) :
    HeapW RK w0 hb ((v', xs, p) :: t) g cap (w.setCell ⟨g, 0, none⟩ v') ∧ Only (fun k => k = g) w (w.setCell ⟨g, 0, none⟩ v') := by
  have hO : Only (fun k => k = g) w (w.setCell ⟨g, 0, none⟩ v') := (Only.refl (fun k => k = g) w).setCell (p := ⟨g, 0, none⟩) (fun _ => rfl) _
  refine ⟨⟨Only.blk hO H.blk H.ne, (H.row.stored 0 v').1, fun r hr => ?_, H.kept.trans hO (fun k hk e => by have := H.glt.1; have e' : k = g := e; omega), H.base⟩, hO⟩
  rcases List.mem_cons.1 hr with rfl | hr
  · exact hs
  · exact H.src r (List.mem_cons_of_mem _ hr)
/-- The last run takes the place of the first. -/
theorem HeapW.drop {RK : Rank} {w0 : World} {hb : Nat} {r0 rl : Run} {t : List Run} {g cap : Nat} {w : World} (H : HeapW RK w0 hb (r0 :: t) g cap w) (hl : (r0 :: t)[t.length]'(by simp) = rl) :
    HeapW RK w0 hb (if t = [] then [] else rl :: t.dropLast) g cap (((w.setCell ⟨g, 0, none⟩ rl.1).setCell ⟨g, 1, none⟩ (.int .i64 (rl.2.2 : Int))).setCell ⟨hb, 0, none⟩ (.slice (some ⟨g, 0, none⟩) t.length cap)) ∧
    Only (fun k => k = hb ∨ k = g) w (((w.setCell ⟨g, 0, none⟩ rl.1).setCell ⟨g, 1, none⟩ (.int .i64 (rl.2.2 : Int))).setCell ⟨hb, 0, none⟩ (.slice (some ⟨g, 0, none⟩) t.length cap)) := by
  have hO2 : Only (fun k => k = g) w ((w.setCell ⟨g, 0, none⟩ rl.1).setCell ⟨g, 1, none⟩ (.int .i64 (rl.2.2 : Int))) := ((Only.refl (fun k => k = g) w).setCell (p := ⟨g, 0, none⟩) (fun _ => rfl) _).setCell (p := ⟨g, 1, none⟩) (fun _ => rfl) _
  have hO : Only (fun k => k = hb ∨ k = g) w (((w.setCell ⟨g, 0, none⟩ rl.1).setCell ⟨g, 1, none⟩ (.int .i64 (rl.2.2 : Int))).setCell ⟨hb, 0, none⟩ (.slice (some ⟨g, 0, none⟩) t.length cap)) := (hO2.mono (fun _ _ e => .inr e)).setCell (p := ⟨hb, 0, none⟩) (fun _ => .inl rfl) _
  have hlen : (if t = [] then [] else rl :: t.dropLast : List Run).length = t.length := by
    split
    · rename_i e; rw [e]; try rfl
    · rename_i e
      have := List.length_pos_iff.2 e
      rw [List.length_cons, List.length_dropLast]
      omega
  have hrow : runL (if t = [] then [] else rl :: t.dropLast : List Run) = (((runL (r0 :: t)).set 0 rl.1).set 1 (.int .i64 (rl.2.2 : Int))).take (t.length * 2) := by
    have e1 : ((runL (r0 :: t)).set 0 rl.1).set 1 (.int .i64 (rl.2.2 : Int)) = runL (rl :: t) := rfl
    rw [e1, runL_take]
    split
    · rename_i e; rw [e]; try rfl
    · rename_i e
      congr 1
      have := List.length_pos_iff.2 e
      obtain ⟨m, hm⟩ : ∃ m, t.length = m + 1 := ⟨t.length - 1, by omega⟩
      rw [hm, List.take_succ_cons, List.dropLast_eq_take, hm]
      rfl
  refine ⟨⟨?_, ?_, fun r hr => ?_, H.kept.trans hO (fun k hk e => by have := H.glt.1; have := H.base; have e' : k = hb ∨ k = g := e; omega), H.base⟩, hO⟩
  · rw [hlen]
    have := (Only.blk hO2 H.blk H.ne).set 0 (.slice (some ⟨g, 0, none⟩) t.length cap)
    exact this
  · rw [hlen, hrow]
    have h1 := (H.row.stored 0 rl.1).1
    have h2 := (h1.stored 1 (.int .i64 (rl.2.2 : Int))).1
    have h3 := own_cut h2 (m := t.length) (by simp)
    exact ownN_block h3 (fun q hq => Below.heap_setCell _ _ _ q (fun e => H.ne (by have : g = q := by simpa [Value.ownBlock] using hq
                                                                                   rw [this]; exact e.symm)))
  · have hmem : rl ∈ r0 :: t := by rw [← hl]; exact List.getElem_mem _
    split at hr
    · cases hr
    · rcases List.mem_cons.1 hr with rfl | hr
      · exact H.src _ hmem
      · exact H.src r (List.mem_cons_of_mem _ (List.dropLast_subset t hr))
theorem HeapW.other {RK : Rank} {w0 : World} {hb : Nat} {h : List Run} {g cap rb : Nat} {w : World} (H : HeapW RK w0 hb h g cap w) (h1 : ¬ hb = rb) (h2 : ¬ g = rb) (x y : Value) (h3 : w0.heap.size ≤ rb := by omega) :
    HeapW RK w0 hb h g cap ((w.setCell ⟨rb, 0, none⟩ x).setCell ⟨rb, 1, none⟩ y) := by
  have hO : Only (fun k => k = rb) w ((w.setCell ⟨rb, 0, none⟩ x).setCell ⟨rb, 1, none⟩ y) := ((Only.refl (fun k => k = rb) w).setCell (p := ⟨rb, 0, none⟩) (fun _ => rfl) _).setCell (p := ⟨rb, 1, none⟩) (fun _ => rfl) _
  refine ⟨Only.blk hO H.blk h1, ownN_only H.row hO (fun b hb' e => h2 ?_), H.src, H.kept.trans hO (fun k hk e => by have e' : k = rb := e; omega), H.base⟩
  have : g = b := by simpa [Value.ownBlock] using hb'
  rw [this]
  exact e
theorem last_perm {r0 rl : Run} {t : List Run} (hl : (r0 :: t)[t.length]'(by simp) = rl) : (if t = [] then [] else rl :: t.dropLast : List Run).Perm t := by
  split
  · rename_i e; rw [e]
  · rename_i e
    have h1 : t.getLast e = rl := by
      rw [← hl]
      have := List.getLast_cons (a := r0) e
      rw [← this, List.getLast_eq_getElem]
      rfl
    have h2 := List.dropLast_concat_getLast e
    rw [h1] at h2
    have h3 : (rl :: t.dropLast).Perm (t.dropLast ++ [rl]) := (List.perm_append_singleton rl t.dropLast).symm
    rw [h2] at h3
    exact h3

set_option maxRecDepth 100000 in
set_option maxHeartbeats 3200000 in
theorem take_any {RK : Rank} {w0 : World} {hb : Nat} {v : Value} {x : Smp} {xs : Smps} {p : Nat} {t : List Run} {g cap : Nat} {out tgt : Smps} (w : World) (H : HeapW RK w0 hb ((v, x :: xs, p) :: t) g cap w) (hM : MrgI ((v, x :: xs, p) :: t) out tgt) (hlen : t.length ≤ 100000) (hxl : xs.length ≤ 100000000) :
    Calls Try.prog 15 #[.pointer (some ⟨hb, 0, none⟩)] w (TakeP RK w0 hb g cap x (xs.length + (flat t).length) out tgt w) := by
  obtain ⟨R, hR⟩ : ∃ R, TakeP RK w0 hb g cap x (xs.length + (flat t).length) out tgt w = R := ⟨_, rfl⟩
  rw [hR]
  have HRR := hid hR
  have HM := hid hM
  have hs0 := H.src _ List.mem_cons_self
  obtain ⟨b, o, n, c, X0, e, hn, hc, -, tc, vc, hd, -⟩ := run_head hs0 H.kept (by simp)
  simp only at e
  subst e
  obtain ⟨a', hsl, hs1⟩ := ssrc_tail hs0
  have HHD := hid (fun W (k : Kept w W) => head_any W (H.keep k) (by simp) (by omega))
  simp only [List.headD_cons] at HHD
  obtain ⟨la, hla⟩ : ∃ v, x.2.la = v := ⟨_, rfl⟩
  obtain ⟨ln, hln⟩ : ∃ v, x.2.ln = v := ⟨_, rfl⟩
  obtain ⟨lc, hlc⟩ : ∃ v, x.2.lc = v := ⟨_, rfl⟩
  obtain ⟨sa, hsa⟩ : ∃ v, x.2.sa = v := ⟨_, rfl⟩
  obtain ⟨sn, hsn⟩ : ∃ v, x.2.sn = v := ⟨_, rfl⟩
  obtain ⟨sc, hsc⟩ : ∃ v, x.2.sc = v := ⟨_, rfl⟩
  have HXL : Hid (x.2.lv = .slice la ln lc) := hid (by unfold SVc.lv; rw [hla, hln, hlc])
  have HXS : Hid (x.2.sv = .slice sa sn sc) := hid (by unfold SVc.sv; rw [hsa, hsn, hsc])
  rw [HXL.out, HXS.out] at HHD
  clear hla hln hlc hsa hsn hsc
  have hne : ∀ r ∈ t, r.2.1 ≠ [] := by
    obtain ⟨rem, hp, _, hr, _, _⟩ := hM.rest
    exact fun r hr2 => (hr r (hp.subset (List.mem_cons_of_mem _ hr2))).1
  obtain ⟨T, hT⟩ : ∃ T, t.length = T := ⟨_, rfl⟩
  obtain ⟨XL, hXL⟩ : ∃ XL, xs.length = XL := ⟨_, rfl⟩
  have HX := hid hXL
  have HT := hid hT
  have HNE := hid hne
  have HS1 := hid hs1
  obtain ⟨w1, hw1⟩ : ∃ W, w.alloc (.cells #[.slice none 0 0, .slice none 0 0] 29) = W := ⟨_, rfl⟩
  have HW1 := hid hw1
  have k1 : Kept w w1 := by rw [← hw1]; exact (Only.refl _ w).alloc _
  have HR1 := hid (show Blk w1 w.heap.size [.slice none 0 0, .slice none 0 0] 29 by rw [← hw1]; exact Blk.new w [.slice none 0 0, .slice none 0 0] 29)
  have HK1 := hid k1
  have HH := hid H
  have HHD1 := hid (HHD.out w1 k1)
  clear hs0 tc vc hd hM hR hne hw1 k1 H hs1 HHD hc hn
  go_enter Try.func15, Try.ntmps15
  go_wp2_with fail
  rw [HW1.out]
  refine HHD1.out.mono ?_
  rintro e w2 ⟨rfl, k2⟩
  have k02 := HK1.out.trans k2 (fun _ _ f => f)
  have H2 := hid (HH.out.keep k02)
  have K02 := hid k02
  have HRB := hid (Only.blk k2 HR1.out (fun f => f))
  have HWS : Hid (w0.heap.size ≤ w.heap.size) := hid HH.out.kept.size
  have HGR : Hid (¬ g = w.heap.size) := hid (fun e => by have := HH.out.glt.2; omega)
  have HGR2 : Hid (¬ hb = w.heap.size) := hid (fun e => by have := HH.out.blk.lt; omega)
  obtain ⟨V1, hV1⟩ : ∃ V, Value.slice a' XL (c - 1) = V := ⟨_, rfl⟩
  have HV1 := hid hV1
  have H3 := hid (H2.out.rest HS1.out)
  rw [hXL] at H3 hsl
  have hcb := H2.out.blk
  rw [List.length_cons, hT] at hcb
  have b0 := hcb.cell 0 rfl
  have hfb := hcb.frozen 0
  have hltb := hcb.lt
  have hce := H2.out.cells (i := 0) (by simp)
  have i0 : w2.cell? ⟨g, 0, none⟩ = some (.slice (some ⟨b, o, none⟩) n c) := hce.1
  have hfz := H2.out.row.frozenAt 0
  have hfz1 := H2.out.row.frozenAt 1
  have hltg := H2.out.glt.2
  have HSG0 : Hid (¬ w2.heap.size = g ∧ ¬ w2.heap.size = hb) := hid ⟨fun e => by omega, fun e => by omega⟩
  have HCAP := hid H2.out.len_cap
  rw [List.length_cons, hT] at HCAP
  clear hce hcb HHD1 HW1 k2 k02 hT hXL hV1
  by_cases hx0 : XL = 0
  · have hxe : xs = [] := List.length_eq_zero_iff.1 (by rw [HX.out]; exact hx0)
    obtain ⟨rl, hrl⟩ : ∃ rl, (((.slice a' XL (c - 1), xs, p) : Run) :: t)[t.length]'(by simp) = rl := ⟨_, rfl⟩
    have H5 := hid (H3.out.1.drop hrl)
    have hcl := H3.out.1.cells (i := t.length) (by simp)
    have hsr := (H3.out.1.src _ (List.getElem_mem (show t.length < (((.slice a' XL (c - 1), xs, p) : Run) :: t).length by simp))).2
    have HPR := hid (last_perm hrl)
    have HTL : Hid (∀ k, 1 ≤ k → k < (if t = [] then [] else rl :: t.dropLast : List Run).length → (if t = [] then [] else rl :: t.dropLast : List Run).getD k dR = (((.slice (some ⟨b, o, none⟩) n c, x :: xs, p) : Run) :: t).getD k dR) := hid (fun k hk hkl => by
      obtain ⟨m, rfl⟩ : ∃ m, k = m + 1 := ⟨k - 1, by omega⟩
      by_cases ht0 : t = []
      · rw [if_pos ht0] at hkl; simp at hkl
      · rw [if_neg ht0] at hkl ⊢
        rw [List.length_cons, List.length_dropLast] at hkl
        show t.dropLast.getD m dR = t.getD m dR
        rw [List.getD_eq_getElem?_getD, List.getD_eq_getElem?_getD, List.getElem?_dropLast, if_pos (by omega)])
    have HLL : Hid ((if t = [] then [] else rl :: t.dropLast : List Run).length ≤ t.length + 1) := hid (by
      have := HPR.out.length_eq
      omega)
    rw [hrl] at hcl hsr
    rw [HT.out] at hcl
    obtain ⟨vr, sr, pr⟩ := rl
    simp only at hcl hsr
    obtain ⟨xr, cr, rfl, -⟩ := hsr
    obtain ⟨lr, hlr⟩ : ∃ lr, sr.length = lr := ⟨_, rfl⟩
    rw [hlr] at hcl H5 HPR HTL HLL
    have HRL := hid hrl
    have HLR := hid hlr
    simp only at H5
    rw [HT.out] at H5
    have HCL : Hid (T ≠ 0 → w2.cell? ⟨g, T * 2, none⟩ = some (.slice xr lr cr) ∧ w2.cell? ⟨g, T * 2 + 1, none⟩ = some (.int .i64 (pr : Int))) := hid (fun hT0 => by
      have h1 := H2.out.cells (i := t.length) (by simp)
      have h2 : (((.slice (some ⟨b, o, none⟩) n c, x :: xs, p) : Run) :: t)[t.length]'(by simp) = (((.slice a' XL (c - 1), xs, p) : Run) :: t)[t.length]'(by simp) := by
        obtain ⟨m, hm⟩ : ∃ m, t.length = m + 1 := ⟨t.length - 1, by have := HT.out; omega⟩
        simp only [hm]
        rfl
      rw [h2, hrl, HT.out] at h1
      simp only at h1
      rw [hlr] at h1
      exact h1)
    clear hcl hrl hlr
    have hcut : ∀ W, (Instr.sliceAt 53 (.slice (some ⟨g, 0, none⟩) (T + 1) cap) none (some (.int .i64 (T : Int))) none).run Try.prog W = .ok (.slice (some ⟨g, 0, none⟩) T cap) W := fun W => by
      have hz : (sizeOf 59).run Try.prog W = .ok 2 W := by kernel_rfl
      have e2 : T ≤ cap := by have := HCAP.out; omega
      simp [Instr.sliceAt, Instr.slice, Instr.sliceBounds, Instr.sliceBound, run_underlying Try.underlying53, asIntOf, e2, hz, Result.andThen, Addr.add]
    obtain ⟨w3, hw3⟩ : ∃ W, w2.setCell ⟨g, 0, none⟩ (.slice a' XL (c - 1)) = W := ⟨_, rfl⟩
    have HW3 := hid hw3
    have i1 : w2.cell? ⟨g, 1, none⟩ = some (.int .i64 (p : Int)) := (H2.out.cells (i := 0) (by simp)).2
    obtain ⟨w4, hw4⟩ : ∃ W, ((((w2.setCell ⟨g, 0, none⟩ (.slice a' XL (c - 1))).setCell ⟨g, 0, none⟩ (.slice xr lr cr)).setCell ⟨g, 1, none⟩ (.int .i64 (pr : Int))).setCell ⟨hb, 0, none⟩ (.slice (some ⟨g, 0, none⟩) T cap)).alloc (.cells #[.slice la ln lc, .slice sa sn sc] 29) = W := ⟨_, rfl⟩
    have ka : Kept ((((w2.setCell ⟨g, 0, none⟩ (.slice a' XL (c - 1))).setCell ⟨g, 0, none⟩ (.slice xr lr cr)).setCell ⟨g, 1, none⟩ (.int .i64 (pr : Int))).setCell ⟨hb, 0, none⟩ (.slice (some ⟨g, 0, none⟩) T cap)) w4 := by rw [← hw4]; exact (Only.refl _ _).alloc _
    have H4 := hid (H5.out.1.keep ka)
    have HSK := hid (sink_any w4 H4.out (by have := HLL.out; have := HT.out; omega) (fun r hr => HNE.out r (HPR.out.subset hr)) 0 0 (heap_tail HM.out.heap (by simp only [List.length_cons]; exact HLL.out) HTL.out) (Nat.le_refl _) (by decide))
    unfold SinkP at HSK
    have hO34 : Only (fun k => k = hb ∨ k = g) w2 w4 := (((H3.out.2.mono (O' := fun k => k = hb ∨ k = g) (fun _ _ e => .inr e)).trans H5.out.2 (fun _ _ e => e)).trans ka (fun _ _ f => f.elim))
    have HO4 : Hid (Only (fun k => k = hb ∨ k = g) w w4) := hid ((K02.out.mono (O' := fun k => k = hb ∨ k = g) (fun _ _ f => f.elim)).trans hO34 (fun _ _ e => e))
    have HRB4 := hid (Only.blk hO34 HRB.out (fun e => by rcases e with e | e; exact HGR2.out e.symm; exact HGR.out e.symm))
    have HSB : Hid (Blk w4 w2.heap.size [.slice la ln lc, .slice sa sn sc] 29) := hid (by
      rw [← hw4]
      have := Blk.new ((((w2.setCell ⟨g, 0, none⟩ (.slice a' XL (c - 1))).setCell ⟨g, 0, none⟩ (.slice xr lr cr)).setCell ⟨g, 1, none⟩ (.int .i64 (pr : Int))).setCell ⟨hb, 0, none⟩ (.slice (some ⟨g, 0, none⟩) T cap)) [.slice la ln lc, .slice sa sn sc] 29
      simpa using this)
    have HSG : Hid (¬ w2.heap.size = g) := hid HSG0.out.1
    have HW4 := hid hw4
    have hne3 := H2.out.ne
    by_cases hT0 : T = 0
    · have ht0 : t = [] := List.length_eq_zero_iff.1 (by rw [HT.out]; exact hT0)
      have he : xr = a' ∧ lr = 0 ∧ cr = c - 1 ∧ pr = p := by
        have e := HRL.out
        have e2 := HLR.out
        subst ht0
        simp only [List.length_nil, List.getElem_cons_zero, Prod.mk.injEq, Value.slice.injEq] at e
        obtain ⟨⟨e3, e4, e5⟩, e6, e7⟩ := e
        exact ⟨e3.symm, by rw [← e2, ← e6, hxe]; rfl, e5.symm, e7.symm⟩
      obtain ⟨rfl, rfl, rfl, rfl⟩ := he
      subst hx0 hT0
      have HXE := hid hxe
      have HT0 := hid ht0
      clear hw4 ka hO34 hw3 hxe ht0
      go_wp2_with fail
      rw [HW4.out]
      refine HSK.out.mono ?_
      have hxe := HXE.out
      rintro e w5 ⟨rfl, h2, hp2, hI2, hw2', o5⟩
      have HF5 : Hid (∀ W, Only (fun k => k = w.heap.size) w5 W → HeapW RK w0 hb h2 g cap W → R (.returned (.agg #[.slice la ln lc, .slice sa sn sc])) W) := hid (fun W k hh => by
        rw [← HRR.out]
        exact ⟨by rw [HXL.out, HXS.out], h2, hh, mrg_next (v' := .slice none 0 0) HM.out (by rw [if_pos hxe]; exact hp2.trans HPR.out) hI2, (HO4.out.trans o5 (fun _ _ e => .inr e)).trans k (fun j hj e => by have e' : j = w.heap.size := e; omega), by rw [flat_perm (hp2.trans HPR.out), hxe]; simp⟩)
      have hnr : ¬ w.heap.size = g := fun e => by have := H2.out.glt.2; have := HRB.out; exact HGR.out e.symm
      have hS5 := Only.blk o5 HSB.out HSG.out
      have hR5 := Only.blk o5 HRB4.out hnr
      have s0 := hS5.cell 0 rfl
      have s1 := hS5.cell 1 rfl
      have r0 := hR5.cell 0 rfl
      have r1 := hR5.cell 1 rfl
      have g0 := hR5.frozen 0
      have g1 := hR5.frozen 1
      have hltr := hR5.lt
      have hlts := hS5.lt
      have HE := hid ((hR5.set 0 (.slice la ln lc)).set 1 (.slice sa sn sc))
      have HWE := hid (hw2'.other HGR2.out HGR.out (.slice la ln lc) (.slice sa sn sc) HWS.out)
      clear HSK o5 hS5 hR5 hw2' hp2
      go_wp2
      exact bodyPost_ret (v := .agg #[.slice la ln lc, .slice sa sn sc]) (results_cell_row rfl _ _ w.heap.size 29 #[.slice la ln lc, .slice sa sn sc] (0, 0) _ rfl HE.out Try.underlying29 rfl (by kernel_rfl)) rfl (HF5.out _ (((Only.refl (fun k => k = w.heap.size) w5).setCell (p := ⟨w.heap.size, 0, none⟩) (fun _ => rfl) _).setCell (p := ⟨w.heap.size, 1, none⟩) (fun _ => rfl) _) HWE.out)
    · obtain ⟨j0, j1⟩ := HCL.out hT0
      subst hx0
      have HXE := hid hxe
      have HT0 := hid hT0
      have hTT : ¬ (0 = T * 2) := by omega
      have hTb : T ≤ 100000 := by rw [← HT.out]; exact hlen
      clear hw4 ka hO34 hw3 hxe
      go_wp2_with fail
      rw [HW4.out]
      refine HSK.out.mono ?_
      have hxe := HXE.out
      rintro e w5 ⟨rfl, h2, hp2, hI2, hw2', o5⟩
      have HF5 : Hid (∀ W, Only (fun k => k = w.heap.size) w5 W → HeapW RK w0 hb h2 g cap W → R (.returned (.agg #[.slice la ln lc, .slice sa sn sc])) W) := hid (fun W k hh => by
        rw [← HRR.out]
        exact ⟨by rw [HXL.out, HXS.out], h2, hh, mrg_next (v' := .slice none 0 0) HM.out (by rw [if_pos hxe]; exact hp2.trans HPR.out) hI2, (HO4.out.trans o5 (fun _ _ e => .inr e)).trans k (fun j hj e => by have e' : j = w.heap.size := e; omega), by rw [flat_perm (hp2.trans HPR.out), hxe]; simp⟩)
      have hnr : ¬ w.heap.size = g := fun e => by have := H2.out.glt.2; have := HRB.out; exact HGR.out e.symm
      have hS5 := Only.blk o5 HSB.out HSG.out
      have hR5 := Only.blk o5 HRB4.out hnr
      have s0 := hS5.cell 0 rfl
      have s1 := hS5.cell 1 rfl
      have r0 := hR5.cell 0 rfl
      have r1 := hR5.cell 1 rfl
      have g0 := hR5.frozen 0
      have g1 := hR5.frozen 1
      have hltr := hR5.lt
      have hlts := hS5.lt
      have HE := hid ((hR5.set 0 (.slice la ln lc)).set 1 (.slice sa sn sc))
      have HWE := hid (hw2'.other HGR2.out HGR.out (.slice la ln lc) (.slice sa sn sc) HWS.out)
      clear HSK o5 hS5 hR5 hw2' hp2
      go_wp2
      exact bodyPost_ret (v := .agg #[.slice la ln lc, .slice sa sn sc]) (results_cell_row rfl _ _ w.heap.size 29 #[.slice la ln lc, .slice sa sn sc] (0, 0) _ rfl HE.out Try.underlying29 rfl (by kernel_rfl)) rfl (HF5.out _ (((Only.refl (fun k => k = w.heap.size) w5).setCell (p := ⟨w.heap.size, 0, none⟩) (fun _ => rfl) _).setCell (p := ⟨w.heap.size, 1, none⟩) (fun _ => rfl) _) HWE.out)
  · have hxb : ((XL : Int) == 0) = false := by simpa using hx0
    have hxn : xs ≠ [] := fun e => hx0 (by rw [← HX.out, e]; rfl)
    obtain ⟨w4, hw4⟩ : ∃ W, (w2.setCell ⟨g, 0, none⟩ (.slice a' XL (c - 1))).alloc (.cells #[.slice la ln lc, .slice sa sn sc] 29) = W := ⟨_, rfl⟩
    have ka : Kept (w2.setCell ⟨g, 0, none⟩ (.slice a' XL (c - 1))) w4 := by rw [← hw4]; exact (Only.refl _ _).alloc _
    have H4 := hid (H3.out.1.keep ka)
    have HSK := hid (sink_any w4 H4.out (by simp; have := HT.out; omega) (fun r hr => by rcases List.mem_cons.1 hr with rfl | hr; exact hxn; exact HNE.out r hr) 0 0 (heap_tail HM.out.heap (by simp) (fun k hk _ => by obtain ⟨m, rfl⟩ : ∃ m, k = m + 1 := ⟨k - 1, by omega⟩; rfl)) (Nat.le_refl _) (by decide))
    unfold SinkP at HSK
    have HO4 : Hid (Only (fun k => k = hb ∨ k = g) w w4) := hid ((K02.out.mono (O' := fun k => k = hb ∨ k = g) (fun _ _ f => f.elim)).trans (H3.out.2.trans ka (fun _ _ f => f.elim)) (fun _ _ e => .inr e))
    have HRB4 := hid (Only.blk ka (Only.blk H3.out.2 HRB.out (fun e => HGR.out e.symm)) (fun f => f))
    have HSB : Hid (Blk w4 w2.heap.size [.slice la ln lc, .slice sa sn sc] 29) := hid (by
      rw [← hw4]
      have := Blk.new (w2.setCell ⟨g, 0, none⟩ (.slice a' XL (c - 1))) [.slice la ln lc, .slice sa sn sc] 29
      simpa using this)
    have HSG : Hid (¬ w2.heap.size = g) := hid HSG0.out.1
    have HW4 := hid hw4
    clear hw4 ka hx0
    go_wp2_with fail
    rw [HW4.out]
    refine HSK.out.mono ?_
    rintro e w5 ⟨rfl, h2, hp2, hI2, hw2', o5⟩
    have HF5 : Hid (∀ W, Only (fun k => k = w.heap.size) w5 W → HeapW RK w0 hb h2 g cap W → R (.returned (.agg #[.slice la ln lc, .slice sa sn sc])) W) := hid (fun W k hh => by
      rw [← HRR.out]
      exact ⟨by rw [HXL.out, HXS.out], h2, hh, mrg_next (v' := .slice a' XL (c - 1)) HM.out (by rw [if_neg hxn]; exact hp2) hI2, (HO4.out.trans o5 (fun _ _ e => .inr e)).trans k (fun j hj e => by have e' : j = w.heap.size := e; omega), by rw [flat_perm hp2, flat_cons, List.length_append]⟩)
    have hnr : ¬ w.heap.size = g := fun e => by have := H2.out.glt.2; have := HRB.out; exact HGR.out e.symm
    have hS5 := Only.blk o5 HSB.out HSG.out
    have hR5 := Only.blk o5 HRB4.out hnr
    have s0 := hS5.cell 0 rfl
    have s1 := hS5.cell 1 rfl
    have r0 := hR5.cell 0 rfl
    have r1 := hR5.cell 1 rfl
    have g0 := hR5.frozen 0
    have g1 := hR5.frozen 1
    have hltr := hR5.lt
    have hlts := hS5.lt
    have HE := hid ((hR5.set 0 (.slice la ln lc)).set 1 (.slice sa sn sc))
    have HWE := hid (hw2'.other HGR2.out HGR.out (.slice la ln lc) (.slice sa sn sc) HWS.out)
    clear HSK o5 hS5 hR5 hw2' hp2
    go_wp2
    exact bodyPost_ret (v := .agg #[.slice la ln lc, .slice sa sn sc]) (results_cell_row rfl _ _ w.heap.size 29 #[.slice la ln lc, .slice sa sn sc] (0, 0) _ rfl HE.out Try.underlying29 rfl (by kernel_rfl)) rfl (HF5.out _ (((Only.refl (fun k => k = w.heap.size) w5).setCell (p := ⟨w.heap.size, 0, none⟩) (fun _ => rfl) _).setCell (p := ⟨w.heap.size, 1, none⟩) (fun _ => rfl) _) HWE.out)
end Go.Proofs.Ytcacoanhiphbiaa.Ms
