/-
  Runs of series in memory; which of two stands ahead.
-/
import Derived.Test.YtcacoanhiphbiaaZsplain
import Derived.Test.YtcacoanhiphbiaaZrun
import Derived.Test.YtcacoanhiphbiaaNcmp
namespace Go.Proofs.Ytcacoanhiphbiaa.Ms
open Go Go.RowKit Go.Proofs.Lys
open Go.Proofs.Ytcacoanhiphbiaa.Mg (cmpZ orZ or_lt compare_any or_any enters_own)
open Go.Proofs.Ytcacoanhiphbiaa.N (Labs LabSrc cmpL)
set_option linter.unusedVariables false
set_option linter.unusedSimpArgs false

/-- Ranks of labels. -/
structure Rank where
  ls : List Labs
  rk : Labs → Int
  ok : ∀ a ∈ ls, ∀ b ∈ ls, cmpL a b = cmpZ (rk a) (rk b)
  len : ∀ a ∈ ls, a.length ≤ 1000000
/-- An item's cells hold a series, and its rank is that of the labels. -/
def Fit (RK : Rank) (w : World) (x : Smp) : Prop := x.2.labs ∈ RK.ls ∧ LabSrc w x.2.lv x.2.labs ∧ Mg.SSrc w x.2.sv x.2.smps ∧ RK.rk x.2.labs = x.1
theorem Fit.stay {RK : Rank} {w w' : World} {x : Smp} (h : Fit RK w x) (k : Kept w w') : Fit RK w' x := by
  obtain ⟨h1, h2, h3, h4⟩ := h
  exact ⟨h1, h2.stay k, h3.stay k, h4⟩
/-- Items that are read. -/
def ItSrc (RK : Rank) (w : World) (v : Value) (l : Smps) : Prop :=
  (∃ a c, v = .slice a 0 c ∧ l = []) ∨
  (0 < l.length ∧ ∃ b o c, v = .slice (some ⟨b, o, none⟩) l.length c ∧ ∀ i (hi : i < l.length), w.cell? ⟨b, o + i * 2, none⟩ = some l[i].2.lv ∧ w.cell? ⟨b, o + i * 2 + 1, none⟩ = some l[i].2.sv ∧ Fit RK w l[i])
theorem ItSrc.stay {RK : Rank} {w W : World} {v : Value} {l : Smps} (h : ItSrc RK w v l) (k : Kept w W) : ItSrc RK W v l := by
  rcases h with h | ⟨h0, b, o, c, rfl, hc⟩
  · exact .inl h
  · exact .inr ⟨h0, b, o, c, rfl, fun i hi => ⟨each_cell k _ _ (hc i hi).1, each_cell k _ _ (hc i hi).2.1, (hc i hi).2.2.stay k⟩⟩
theorem ItSrc.cell {RK : Rank} {w : World} {a : Option Addr} {c M : Nat} {l : Smps} (h : ItSrc RK w (.slice a M c) l) (hM : l.length = M) (k : Nat) (hk : k < M) : ∃ b o, a = some ⟨b, o, none⟩ ∧ w.cell? ⟨b, o + k * 2, none⟩ = some (l[k]'(by omega)).2.lv ∧ w.cell? ⟨b, o + k * 2 + 1, none⟩ = some (l[k]'(by omega)).2.sv ∧ Fit RK w (l[k]'(by omega)) := by
  rcases h with ⟨a', c', e, h0⟩ | ⟨_, b, o, c', e, hc⟩
  · rw [h0] at hM
    simp at hM
    omega
  · simp only [Value.slice.injEq] at e
    obtain ⟨rfl, _, rfl⟩ := e
    exact ⟨b, o, rfl, hc k (by omega)⟩
abbrev runT : Nat := 59
abbrev heapT : Nat := 55
abbrev fnV : Value := .func (.func 13) #[] #[]
theorem Try.infoRun : (Try.prog.info? 59).map (fun i => (i.zero, i.size, i.bytes)) = some (some (.agg #[.slice none 0 0, .int .i64 0]), 2, 32) := by kernel_rfl
def runL : List Run → List Value
  | [] => []
  | r :: t => r.1 :: .int .i64 (r.2.2 : Int) :: runL t
theorem runL_len (l : List Run) : (runL l).length = l.length * 2 := by
  induction l with
  | nil => rfl
  | cons p r ih => rw [runL, List.length_cons, List.length_cons, ih, List.length_cons]; omega
theorem runL_app (l r : List Run) : runL (l ++ r) = runL l ++ runL r := by
  induction l with
  | nil => rfl
  | cons p l ih => rw [List.cons_append, runL, ih, runL]; rfl
theorem runL_at (l : List Run) (i : Nat) (h : i < l.length) : (runL l)[i * 2]? = some l[i].1 ∧ (runL l)[i * 2 + 1]? = some (.int .i64 (l[i].2.2 : Int)) := by
  induction l generalizing i with
  | nil => simp at h
  | cons p r ih =>
    cases i with
    | zero => exact ⟨rfl, rfl⟩
    | succ i =>
      have := ih i (by simpa using h)
      rw [show (i + 1) * 2 = i * 2 + 2 by omega]
      exact this
theorem runL_set (l : List Run) (i : Nat) (r : Run) : ((runL l).set (i * 2) r.1).set (i * 2 + 1) (.int .i64 (r.2.2 : Int)) = runL (l.set i r) := by
  induction l generalizing i with
  | nil => rfl
  | cons p t ih =>
    cases i with
    | zero => rfl
    | succ i =>
      rw [show (i + 1) * 2 = i * 2 + 1 + 1 by omega]
      show _ = runL (p :: t.set i r)
      rw [runL, runL, ← ih i]
      rfl
theorem runL_take (l : List Run) (n : Nat) : (runL l).take (n * 2) = runL (l.take n) := by
  induction l generalizing n with
  | nil => simp [runL]
  | cons p t ih =>
    cases n with
    | zero => rfl
    | succ n =>
      rw [show (n + 1) * 2 = n * 2 + 1 + 1 by omega, runL, List.take_succ_cons, List.take_succ_cons, ih n]
      rfl
/-- Items that are read, with room for them. -/
def SSrc (RK : Rank) (w : World) (v : Value) (l : Smps) : Prop := ItSrc RK w v l ∧ ∃ a c, v = .slice a l.length c ∧ l.length ≤ c
theorem SSrc.stay {RK : Rank} {w w' : World} {v : Value} {l : Smps} (h : SSrc RK w v l) (k : Kept w w') : SSrc RK w' v l := ⟨h.1.stay k, h.2⟩
/-- A heap in memory. -/
structure HeapW (RK : Rank) (w0 : World) (hb : Nat) (h : List Run) (g cap : Nat) (w' : World) : Prop where
  blk : Blk w' hb [.slice (some ⟨g, 0, none⟩) h.length cap, fnV] 55
  row : w'.ownsRow w0.heap.size 59 2 (.slice (some ⟨g, 0, none⟩) h.length cap) h.length (runL h)
  src : ∀ r ∈ h, SSrc RK w0 r.1 r.2.1
  kept : Kept w0 w'
  base : w0.heap.size ≤ hb
theorem HeapW.keep {RK : Rank} {w0 : World} {hb : Nat} {h : List Run} {g cap : Nat} {w' w'' : World} (H : HeapW RK w0 hb h g cap w') (k : Kept w' w'') : HeapW RK w0 hb h g cap w'' :=
  ⟨Only.blk k H.blk (fun f => f), ownN_stay H.row k, H.src, H.kept.trans k (fun _ _ f => f), H.base⟩
theorem getD_at {h : List Run} {i : Nat} (hi : i < h.length) : h.getD i dR = h[i] := by rw [List.getD_eq_getElem?_getD, List.getElem?_eq_getElem hi]; rfl
/-- A run of the heap: its two cells. -/
theorem HeapW.cells {RK : Rank} {w0 : World} {hb : Nat} {h : List Run} {g cap : Nat} {w' : World} (H : HeapW RK w0 hb h g cap w') {i : Nat} (hi : i < h.length) : w'.cell? ⟨g, i * 2, none⟩ = some h[i].1 ∧ w'.cell? ⟨g, i * 2 + 1, none⟩ = some (.int .i64 (h[i].2.2 : Int)) := by
  have := runL_at h i hi
  exact ⟨by rw [H.row.cellAt (i * 2) (by omega)]; exact this.1, by rw [H.row.cellAt (i * 2 + 1) (by omega)]; exact this.2⟩
/-- The first item of a run that has some. -/
theorem run_head {RK : Rank} {w0 w' : World} {r : Run} (hs : SSrc RK w0 r.1 r.2.1) (k : Kept w0 w') (hne : r.2.1 ≠ []) : ∃ b o n c x, r.1 = .slice (some ⟨b, o, none⟩) n c ∧ 0 < n ∧ n ≤ c ∧ n = r.2.1.length ∧ w'.cell? ⟨b, o, none⟩ = some x.2.lv ∧ w'.cell? ⟨b, o + 1, none⟩ = some x.2.sv ∧ r.2.1.headD d0 = x ∧ Fit RK w0 x := by
  have hs0 := hs
  obtain ⟨h1, a, c, e, hc⟩ := hs.stay k
  rcases h1 with ⟨x, y, _, hn⟩ | ⟨hp, b, o, c2, hv, hcell⟩
  · exact absurd hn hne
  · rw [e] at hv
    simp only [Value.slice.injEq] at hv
    obtain ⟨rfl, _, rfl⟩ := hv
    have h0 := hcell 0 hp
    have hf : Fit RK w0 r.2.1[0] := by
      rcases hs0.1 with ⟨x, y, _, hn⟩ | ⟨_, b', o', c', _, hcell'⟩
      · exact absurd hn hne
      · exact (hcell' 0 hp).2.2
    obtain ⟨v, l, p⟩ := r
    cases l with
    | nil => exact absurd rfl hne
    | cons x t => exact ⟨b, o, _, c, x, e, hp, hc, rfl, h0.1, h0.2.1, rfl, hf⟩
theorem ahd_or (a b : Run) : decide (orZ (cmpZ (hdT a) (hdT b)) (cmpZ (a.2.2 : Int) (b.2.2 : Int)) < 0) = ahdB a b := by
  have := or_lt (hdT a) (hdT b) (a.2.2 : Int) (b.2.2 : Int)
  unfold ahdB
  rw [Bool.eq_iff_iff]
  simp only [decide_eq_true_eq, Bool.or_eq_true, Bool.and_eq_true]
  rw [this]
  omega
theorem bylabels_any {RK : Rank} (w : World) (x y : Smp) (hx : Fit RK w x) (hy : Fit RK w y) : Calls Try.prog 13 #[.agg #[x.2.lv, x.2.sv], .agg #[y.2.lv, y.2.sv]] w fun e w' => e = .returned (.int .i64 (cmpZ x.1 y.1)) ∧ Kept w w' := by
  obtain ⟨hl1, hs1, _, e1⟩ := hx
  obtain ⟨hl2, hs2, _, e2⟩ := hy
  obtain ⟨x1, x2⟩ := x
  obtain ⟨y1, y2⟩ := y
  obtain ⟨la, ln, lc, sa, sn, sc, l1, s1⟩ := x2
  obtain ⟨lb, lm, ld, sb, sm, sd, l2, s2⟩ := y2
  simp only [SVc.lv, SVc.sv] at hl1 hl2 hs1 hs2 e1 e2 ⊢
  have HK := hid (show Kept w ((w.alloc (.cells #[.slice la ln lc, .slice sa sn sc] 29)).alloc (.cells #[.slice lb lm ld, .slice sb sm sd] 29)) from ((Only.refl _ w).alloc _).alloc _)
  have HC := hid (fun W (k : Kept w W) => N.cmp_any W _ _ l1 l2 (hs1.stay k) (hs2.stay k) (RK.len _ hl1) (RK.len _ hl2))
  rw [RK.ok _ hl1 _ hl2, e1, e2] at HC
  have HCC := hid (HC.out _ HK.out)
  generalize cmpZ x1 y1 = Z at HCC
  clear hs1 hs2 e1 e2 hl1 hl2 HC
  go_enter Try.func13, Try.ntmps13
  go_wp2_with fail
  refine HCC.out.mono ?_
  rintro e w' ⟨rfl, k2⟩
  have HK2 := hid (HK.out.trans k2 (fun _ _ f => f))
  clear k2 HCC
  go_wp2
  go_ret
  exact ⟨rfl, HK2.out⟩
theorem eg_time : ∀ args w, (callFunc 13 args).run Try.prog w = .ok (.enter 13 args) w := enters_own Try.func13 (by kernel_rfl) rfl
/-- Two runs, laid anew. -/
def TwoD (w : World) (x y : Value) (p q : Nat) (na nb : Nat) (w' : World) : Prop :=
  Blk w' na [x, .int .i64 (p : Int)] 59 ∧ Blk w' nb [y, .int .i64 (q : Int)] 59 ∧ Kept w w'
theorem kblk {w w' : World} {b T : Nat} {c0 c1 : Value} (h : Blk w b [c0, c1] T) (k : Kept w w') : w'.cell? ⟨b, 0, none⟩ = some c0 ∧ w'.cell? ⟨b, 1, none⟩ = some c1 :=
  have h' := Only.blk k h (fun f => f)
  ⟨h'.cell 0 rfl, h'.cell 1 rfl⟩

set_option maxRecDepth 100000 in
set_option maxHeartbeats 3200000 in
theorem ahead_any {RK : Rank} {w0 : World} {hb : Nat} {h : List Run} {g cap : Nat} (w : World) (H : HeapW RK w0 hb h g cap w) (hlen : h.length ≤ 1000000) (hne : ∀ r ∈ h, r.2.1 ≠ []) (i j : Nat) (hi : i < h.length) (hj : j < h.length) :
    Calls Try.prog 35 #[.pointer (some ⟨hb, 0, none⟩), .int .i64 (i : Int), .int .i64 (j : Int)] w fun e w' => e = .returned (.bool (ahdB (h.getD i dR) (h.getD j dR))) ∧ Kept w w' := by
  rw [getD_at hi, getD_at hj]
  have hmi := List.getElem_mem hi
  have hmj := List.getElem_mem hj
  obtain ⟨bi, oi, ni, ci, ⟨Ti, Xi⟩, ei, hni, hci, -, ti, vi, hxi, fi⟩ := run_head (H.src _ hmi) H.kept (hne _ hmi)
  obtain ⟨bj, oj, nj, cj, ⟨Tj, Xj⟩, ej, hnj, hcj, -, tj, vj, hxj, fj⟩ := run_head (H.src _ hmj) H.kept (hne _ hmj)
  have hci' := H.cells hi
  have hcj' := H.cells hj
  rw [ei] at hci'
  rw [ej] at hcj'
  have HV := hid (ahd_or h[i] h[j])
  have hcb := H.blk
  generalize ahdB h[i] h[j] = AB at HV ⊢
  have hti : hdT h[i] = Ti := by unfold hdT; rw [hxi]
  have htj : hdT h[j] = Tj := by unfold hdT; rw [hxj]
  rw [hti, htj] at HV
  have HBT := hid (fun W (k : Kept w W) => bylabels_any W (Ti, Xi) (Tj, Xj) (fi.stay (H.kept.trans k (fun _ _ f => f))) (fj.stay (H.kept.trans k (fun _ _ f => f))))
  obtain ⟨la, ln, lc, sa, sn, sc, _, _⟩ := Xi
  obtain ⟨lb, lm, ld, sb, sm, sd, _, _⟩ := Xj
  simp only [SVc.lv, SVc.sv] at ti vi tj vj HBT
  clear hti htj hxi hxj fi fj
  generalize h[i].2.2 = pi at hci' HV
  generalize h[j].2.2 = pj at hcj' HV
  obtain ⟨N, hN⟩ : ∃ N, h.length = N := ⟨_, rfl⟩
  rw [hN] at hi hj hcb hlen
  have b0 := hcb.cell 0 rfl
  have b1 := hcb.cell 1 rfl
  have hltb := hcb.lt
  obtain ⟨i0, i1⟩ := hci'
  obtain ⟨j0, j1⟩ := hcj'
  have hltg : g < w.heap.size := World.block_lt_of_cell? w _ i0
  have hlti : bi < w.heap.size := World.block_lt_of_cell? w _ ti
  have hltj : bj < w.heap.size := World.block_lt_of_cell? w _ tj
  have B0 := hid b0
  have B1 := hid b1
  have I0 := hid i0
  have I1 := hid i1
  have J0 := hid j0
  have J1 := hid j1
  have TI := hid ti
  have VI := hid vi
  have TJ := hid tj
  have VJ := hid vj
  have HO := hid (or_any)
  have HC := hid (compare_any)
  have eg := eg_time
  clear H hne hcb hN hmi hmj ei ej i0 i1 j0 j1 ti vi tj vj b0 b1
  go_enter Try.func35, Try.ntmps35
  go_wp2_with fail
  apply wp_region_meet2 (D := TwoD w (.slice (some ⟨bi, oi, none⟩) ni ci) (.slice (some ⟨bj, oj, none⟩) nj cj) pi pj)
  case h1 =>
    have KA := hid (show Kept w w.drew from (Only.refl _ _).drew)
    refine wp_region_noPanic ?_
    refine wp_region_last (L := 1000) (S := fun w' => Kept w w') (by kernel_rfl) ?_
    refine wpAnyN_take (i := 0) (v := .pointer (some ⟨hb, 0, none⟩)) rfl (by kernel_rfl) (by kernel_rfl) (by kernel_rfl) (by decide) (by kernel_rfl) (fun _ _ _ h => h) (Or.inl ⟨by kernel_rfl, ?_⟩) KA.out ?_
    · (intro w' hSw; go_simp)
    (try simp only [List.getElem_toArray, List.getElem_cons_succ, List.getElem_cons_zero])
    go_frame
    refine wpAnyN_take (i := 1) (v := .pointer (some ⟨hb, 0, none⟩)) rfl (by kernel_rfl) (by kernel_rfl) (by kernel_rfl) (by decide) (by kernel_rfl) (fun _ _ _ h => h) (Or.inl ⟨by kernel_rfl, ?_⟩) KA.out ?_
    · (intro w' hSw; go_simp)
    (try simp only [List.getElem_toArray, List.getElem_cons_succ, List.getElem_cons_zero])
    go_frame
    refine wpAnyN_take (i := 2) (v := .pointer (some ⟨hb, 0, none⟩)) rfl (by kernel_rfl) (by kernel_rfl) (by kernel_rfl) (by decide) (by kernel_rfl) (fun _ _ _ h => h) (Or.inl ⟨by kernel_rfl, ?_⟩) KA.out ?_
    · (intro w' hSw; go_simp)
    (try simp only [List.getElem_toArray, List.getElem_cons_succ, List.getElem_cons_zero])
    go_frame
    refine wpAnyN_take (i := 3) (v := .slice (some ⟨g, 0, none⟩) N cap) rfl (by kernel_rfl) (by kernel_rfl) (by kernel_rfl) (by decide) (by kernel_rfl) (fun _ _ _ h => h) (Or.inl ⟨by kernel_rfl, ?_⟩) KA.out ?_
    · (intro w' hSw; have s0 := each_cell hSw _ _ B0.out; clear hSw; go_simp)
    (try simp only [List.getElem_toArray, List.getElem_cons_succ, List.getElem_cons_zero])
    go_frame
    refine wpAnyN_take (i := 4) (v := .int .i64 (i : Int)) rfl (by kernel_rfl) (by kernel_rfl) (by kernel_rfl) (by decide) (by kernel_rfl) (fun _ _ _ h => h) (Or.inl ⟨by kernel_rfl, ?_⟩) KA.out ?_
    · (intro w' hSw; go_simp)
    (try simp only [List.getElem_toArray, List.getElem_cons_succ, List.getElem_cons_zero])
    go_frame
    refine wpAnyN_take (i := 5) (v := .pointer (some ⟨g, i * 2, none⟩)) rfl (by kernel_rfl) (by kernel_rfl) (by kernel_rfl) (by decide) (by kernel_rfl) (fun _ _ _ h => h) (Or.inl ⟨by kernel_rfl, ?_⟩) KA.out ?_
    · (intro w' hSw; go_simp)
    (try simp only [List.getElem_toArray, List.getElem_cons_succ, List.getElem_cons_zero])
    go_frame
    refine wpAnyN_take (i := 6) (v := .agg #[.slice (some ⟨bi, oi, none⟩) ni ci, .int .i64 (pi : Int)]) rfl (by kernel_rfl) (by kernel_rfl) (by kernel_rfl) (by decide) (by kernel_rfl) (fun _ _ _ h => h) (Or.inl ⟨by kernel_rfl, ?_⟩) KA.out ?_
    · (intro w' hSw; have s0 := each_cell hSw _ _ I0.out; have s1 := each_cell hSw _ _ I1.out; clear hSw; go_simp)
    (try simp only [List.getElem_toArray, List.getElem_cons_succ, List.getElem_cons_zero])
    go_frame
    refine wpAnyN_take (i := 7) (v := .pointer (some ⟨hb, 0, none⟩)) rfl (by kernel_rfl) (by kernel_rfl) (by kernel_rfl) (by decide) (by kernel_rfl) (fun _ _ _ h => h) (Or.inl ⟨by kernel_rfl, ?_⟩) KA.out ?_
    · (intro w' hSw; go_simp)
    (try simp only [List.getElem_toArray, List.getElem_cons_succ, List.getElem_cons_zero])
    go_frame
    refine wpAnyN_take (i := 8) (v := .pointer (some ⟨hb, 0, none⟩)) rfl (by kernel_rfl) (by kernel_rfl) (by kernel_rfl) (by decide) (by kernel_rfl) (fun _ _ _ h => h) (Or.inl ⟨by kernel_rfl, ?_⟩) KA.out ?_
    · (intro w' hSw; go_simp)
    (try simp only [List.getElem_toArray, List.getElem_cons_succ, List.getElem_cons_zero])
    go_frame
    refine wpAnyN_take (i := 9) (v := .pointer (some ⟨hb, 0, none⟩)) rfl (by kernel_rfl) (by kernel_rfl) (by kernel_rfl) (by decide) (by kernel_rfl) (fun _ _ _ h => h) (Or.inl ⟨by kernel_rfl, ?_⟩) KA.out ?_
    · (intro w' hSw; go_simp)
    (try simp only [List.getElem_toArray, List.getElem_cons_succ, List.getElem_cons_zero])
    go_frame
    refine wpAnyN_take (i := 10) (v := .slice (some ⟨g, 0, none⟩) N cap) rfl (by kernel_rfl) (by kernel_rfl) (by kernel_rfl) (by decide) (by kernel_rfl) (fun _ _ _ h => h) (Or.inl ⟨by kernel_rfl, ?_⟩) KA.out ?_
    · (intro w' hSw; have s0 := each_cell hSw _ _ B0.out; clear hSw; go_simp)
    (try simp only [List.getElem_toArray, List.getElem_cons_succ, List.getElem_cons_zero])
    go_frame
    refine wpAnyN_take (i := 11) (v := .int .i64 (j : Int)) rfl (by kernel_rfl) (by kernel_rfl) (by kernel_rfl) (by decide) (by kernel_rfl) (fun _ _ _ h => h) (Or.inl ⟨by kernel_rfl, ?_⟩) KA.out ?_
    · (intro w' hSw; go_simp)
    (try simp only [List.getElem_toArray, List.getElem_cons_succ, List.getElem_cons_zero])
    go_frame
    refine wpAnyN_take (i := 12) (v := .pointer (some ⟨g, j * 2, none⟩)) rfl (by kernel_rfl) (by kernel_rfl) (by kernel_rfl) (by decide) (by kernel_rfl) (fun _ _ _ h => h) (Or.inl ⟨by kernel_rfl, ?_⟩) KA.out ?_
    · (intro w' hSw; go_simp)
    (try simp only [List.getElem_toArray, List.getElem_cons_succ, List.getElem_cons_zero])
    go_frame
    refine wpAnyN_take (i := 13) (v := .agg #[.slice (some ⟨bj, oj, none⟩) nj cj, .int .i64 (pj : Int)]) rfl (by kernel_rfl) (by kernel_rfl) (by kernel_rfl) (by decide) (by kernel_rfl) (fun _ _ _ h => h) (Or.inl ⟨by kernel_rfl, ?_⟩) KA.out ?_
    · (intro w' hSw; have s0 := each_cell hSw _ _ J0.out; have s1 := each_cell hSw _ _ J1.out; clear hSw; go_simp)
    (try simp only [List.getElem_toArray, List.getElem_cons_succ, List.getElem_cons_zero])
    go_frame
    refine wpAnyL_two (i := 14) (j := 15) (by kernel_rfl) rfl rfl (by kernel_rfl) (by kernel_rfl) ?_ ?_
    · go_simp
      refine ⟨KA.out.alloc _, ?_⟩
      (try go_frame)
      refine wpAnyL_one (i := 15) (by kernel_rfl) rfl rfl ?_
      go_simp
      refine ⟨(KA.out.alloc _).alloc _, ?_⟩
      (try go_frame)
      refine wpAnyL_one (i := 16) (by kernel_rfl) rfl rfl ?_
      go_simp
      refine ⟨(((Only.refl _ w).alloc _).alloc _).drew, ?_⟩
      (try go_frame)
      refine wpAnyL_one (i := 17) (by kernel_rfl) rfl rfl ?_
      go_simp
      refine ⟨(((Only.refl _ w).alloc _).alloc _).drew, ?_⟩
      (try go_frame)
      refine wpAnyN_done (by kernel_rfl) ?_
      refine NoPanic.normal ?_
      have hD : TwoD w (.slice (some ⟨bi, oi, none⟩) ni ci) (.slice (some ⟨bj, oj, none⟩) nj cj) pi pj w.heap.size (w.heap.size + 1) ((w.alloc (.cells #[.slice (some ⟨bi, oi, none⟩) ni ci, .int .i64 (pi : Int)] 59)).alloc (.cells #[.slice (some ⟨bj, oj, none⟩) nj cj, .int .i64 (pj : Int)] 59)).drew := by
        refine ⟨(Blk.new w [.slice (some ⟨bi, oi, none⟩) ni ci, .int .i64 (pi : Int)] 59).alloc _, ?_, (((Only.refl _ w).alloc _).alloc _).drew⟩
        have := Blk.new (w.alloc (.cells #[.slice (some ⟨bi, oi, none⟩) ni ci, .int .i64 (pi : Int)] 59)) [.slice (some ⟨bj, oj, none⟩) nj cj, .int .i64 (pj : Int)] 59
        rw [World.size_alloc] at this
        exact this
      generalize ((w.alloc (.cells #[.slice (some ⟨bi, oi, none⟩) ni ci, .int .i64 (pi : Int)] 59)).alloc (.cells #[.slice (some ⟨bj, oj, none⟩) nj cj, .int .i64 (pj : Int)] 59)).drew = w9 at hD ⊢
      generalize w.heap.size + 1 = xb at hD ⊢
      generalize w.heap.size = xa at hD ⊢
      exact ⟨rfl, xa, xb, rfl, hD⟩
    · go_simp
      refine ⟨KA.out.alloc _, ?_⟩
      (try go_frame)
      refine wpAnyL_one (i := 14) (by kernel_rfl) rfl rfl ?_
      go_simp
      refine ⟨(KA.out.alloc _).alloc _, ?_⟩
      (try go_frame)
      refine wpAnyL_one (i := 16) (by kernel_rfl) rfl rfl ?_
      go_simp
      refine ⟨(((Only.refl _ w).alloc _).alloc _).drew, ?_⟩
      (try go_frame)
      refine wpAnyL_one (i := 17) (by kernel_rfl) rfl rfl ?_
      go_simp
      refine ⟨(((Only.refl _ w).alloc _).alloc _).drew, ?_⟩
      (try go_frame)
      refine wpAnyN_done (by kernel_rfl) ?_
      refine NoPanic.normal ?_
      have hD : TwoD w (.slice (some ⟨bi, oi, none⟩) ni ci) (.slice (some ⟨bj, oj, none⟩) nj cj) pi pj (w.heap.size + 1) w.heap.size ((w.alloc (.cells #[.slice (some ⟨bj, oj, none⟩) nj cj, .int .i64 (pj : Int)] 59)).alloc (.cells #[.slice (some ⟨bi, oi, none⟩) ni ci, .int .i64 (pi : Int)] 59)).drew := by
        refine ⟨?_, (Blk.new w [.slice (some ⟨bj, oj, none⟩) nj cj, .int .i64 (pj : Int)] 59).alloc _, (((Only.refl _ w).alloc _).alloc _).drew⟩
        have := Blk.new (w.alloc (.cells #[.slice (some ⟨bj, oj, none⟩) nj cj, .int .i64 (pj : Int)] 59)) [.slice (some ⟨bi, oi, none⟩) ni ci, .int .i64 (pi : Int)] 59
        rw [World.size_alloc] at this
        exact this
      exact ⟨rfl, w.heap.size + 1, w.heap.size, rfl, hD⟩
  case h2 =>
    intro na nb w5 hD
    obtain ⟨hA, hB, k5⟩ := hD
    have K5 := hid k5
    have HNA := hid hA
    have HNB := hid hB
    clear hA hB k5
    go_wp2_with fail
    have KA := hid (show Kept w5 w5.drew from (Only.refl _ _).drew)
    refine wp_region_noPanic ?_
    refine wp_region_last (L := 1000) (S := fun w' => Kept w5 w') (by kernel_rfl) ?_
    refine wpAnyN_take (i := 0) (v := .pointer (some ⟨hb, 0, none⟩)) rfl (by kernel_rfl) (by kernel_rfl) (by kernel_rfl) (by decide) (by kernel_rfl) (fun _ _ _ h => h) (Or.inl ⟨by kernel_rfl, ?_⟩) KA.out ?_
    · (intro w' hSw; go_simp)
    (try simp only [List.getElem_toArray, List.getElem_cons_succ, List.getElem_cons_zero])
    go_frame
    refine wpAnyN_take (i := 1) (v := .pointer (some ⟨hb, 0, none⟩)) rfl (by kernel_rfl) (by kernel_rfl) (by kernel_rfl) (by decide) (by kernel_rfl) (fun _ _ _ h => h) (Or.inl ⟨by kernel_rfl, ?_⟩) KA.out ?_
    · (intro w' hSw; go_simp)
    (try simp only [List.getElem_toArray, List.getElem_cons_succ, List.getElem_cons_zero])
    go_frame
    refine wpAnyN_take (i := 2) (v := .pointer (some ⟨hb, 1, none⟩)) rfl (by kernel_rfl) (by kernel_rfl) (by kernel_rfl) (by decide) (by kernel_rfl) (fun _ _ _ h => h) (Or.inl ⟨by kernel_rfl, ?_⟩) KA.out ?_
    · (intro w' hSw; go_simp)
    (try simp only [List.getElem_toArray, List.getElem_cons_succ, List.getElem_cons_zero])
    go_frame
    refine wpAnyN_take (i := 3) (v := fnV) rfl (by kernel_rfl) (by kernel_rfl) (by kernel_rfl) (by decide) (by kernel_rfl) (fun _ _ _ h => h) (Or.inl ⟨by kernel_rfl, ?_⟩) KA.out ?_
    · (intro w' hSw; have t0 := each_cell (K5.out.trans hSw (fun _ _ f => f)) _ _ B1.out; clear hSw; go_simp)
    (try simp only [List.getElem_toArray, List.getElem_cons_succ, List.getElem_cons_zero])
    go_frame
    refine wpAnyN_take (i := 4) (v := .pointer (some ⟨na, 0, none⟩)) rfl (by kernel_rfl) (by kernel_rfl) (by kernel_rfl) (by decide) (by kernel_rfl) (fun _ _ _ h => h) (Or.inl ⟨by kernel_rfl, ?_⟩) KA.out ?_
    · (intro w' hSw; go_simp)
    (try simp only [List.getElem_toArray, List.getElem_cons_succ, List.getElem_cons_zero])
    go_frame
    refine wpAnyN_take (i := 5) (v := .slice (some ⟨bi, oi, none⟩) ni ci) rfl (by kernel_rfl) (by kernel_rfl) (by kernel_rfl) (by decide) (by kernel_rfl) (fun _ _ _ h => h) (Or.inl ⟨by kernel_rfl, ?_⟩) KA.out ?_
    · (intro w' hSw; obtain ⟨s0, s1⟩ := kblk HNA.out hSw; clear hSw; go_simp)
    (try simp only [List.getElem_toArray, List.getElem_cons_succ, List.getElem_cons_zero])
    go_frame
    refine wpAnyN_take (i := 6) (v := .pointer (some ⟨bi, oi, none⟩)) rfl (by kernel_rfl) (by kernel_rfl) (by kernel_rfl) (by decide) (by kernel_rfl) (fun _ _ _ h => h) (Or.inl ⟨by kernel_rfl, ?_⟩) KA.out ?_
    · (intro w' hSw; go_simp)
    (try simp only [List.getElem_toArray, List.getElem_cons_succ, List.getElem_cons_zero])
    go_frame
    refine wpAnyN_take (i := 7) (v := .agg #[.slice la ln lc, .slice sa sn sc]) rfl (by kernel_rfl) (by kernel_rfl) (by kernel_rfl) (by decide) (by kernel_rfl) (fun _ _ _ h => h) (Or.inl ⟨by kernel_rfl, ?_⟩) KA.out ?_
    · (intro w' hSw; obtain ⟨s0, s1⟩ := kblk HNA.out hSw; have t0 := each_cell (K5.out.trans hSw (fun _ _ f => f)) _ _ TI.out; have t1 := each_cell (K5.out.trans hSw (fun _ _ f => f)) _ _ VI.out; clear hSw; go_simp)
    (try simp only [List.getElem_toArray, List.getElem_cons_succ, List.getElem_cons_zero])
    go_frame
    refine wpAnyN_take (i := 8) (v := .pointer (some ⟨nb, 0, none⟩)) rfl (by kernel_rfl) (by kernel_rfl) (by kernel_rfl) (by decide) (by kernel_rfl) (fun _ _ _ h => h) (Or.inl ⟨by kernel_rfl, ?_⟩) KA.out ?_
    · (intro w' hSw; go_simp)
    (try simp only [List.getElem_toArray, List.getElem_cons_succ, List.getElem_cons_zero])
    go_frame
    refine wpAnyN_take (i := 9) (v := .slice (some ⟨bj, oj, none⟩) nj cj) rfl (by kernel_rfl) (by kernel_rfl) (by kernel_rfl) (by decide) (by kernel_rfl) (fun _ _ _ h => h) (Or.inl ⟨by kernel_rfl, ?_⟩) KA.out ?_
    · (intro w' hSw; obtain ⟨s0, s1⟩ := kblk HNB.out hSw; clear hSw; go_simp)
    (try simp only [List.getElem_toArray, List.getElem_cons_succ, List.getElem_cons_zero])
    go_frame
    refine wpAnyN_take (i := 10) (v := .pointer (some ⟨bj, oj, none⟩)) rfl (by kernel_rfl) (by kernel_rfl) (by kernel_rfl) (by decide) (by kernel_rfl) (fun _ _ _ h => h) (Or.inl ⟨by kernel_rfl, ?_⟩) KA.out ?_
    · (intro w' hSw; go_simp)
    (try simp only [List.getElem_toArray, List.getElem_cons_succ, List.getElem_cons_zero])
    go_frame
    refine wpAnyN_take (i := 11) (v := .agg #[.slice lb lm ld, .slice sb sm sd]) rfl (by kernel_rfl) (by kernel_rfl) (by kernel_rfl) (by decide) (by kernel_rfl) (fun _ _ _ h => h) (Or.inl ⟨by kernel_rfl, ?_⟩) KA.out ?_
    · (intro w' hSw; obtain ⟨s0, s1⟩ := kblk HNB.out hSw; have t0 := each_cell (K5.out.trans hSw (fun _ _ f => f)) _ _ TJ.out; have t1 := each_cell (K5.out.trans hSw (fun _ _ f => f)) _ _ VJ.out; clear hSw; go_simp)
    (try simp only [List.getElem_toArray, List.getElem_cons_succ, List.getElem_cons_zero])
    go_frame
    refine wpAnyN_take (i := 13) (v := .pointer (some ⟨na, 1, none⟩)) rfl (by kernel_rfl) (by kernel_rfl) (by kernel_rfl) (by decide) (by kernel_rfl) (fun _ _ _ h => h) (Or.inl ⟨by kernel_rfl, ?_⟩) KA.out ?_
    · (intro w' hSw; go_simp)
    (try simp only [List.getElem_toArray, List.getElem_cons_succ, List.getElem_cons_zero])
    go_frame
    refine wpAnyN_take (i := 14) (v := .int .i64 (pi : Int)) rfl (by kernel_rfl) (by kernel_rfl) (by kernel_rfl) (by decide) (by kernel_rfl) (fun _ _ _ h => h) (Or.inl ⟨by kernel_rfl, ?_⟩) KA.out ?_
    · (intro w' hSw; obtain ⟨s0, s1⟩ := kblk HNA.out hSw; clear hSw; go_simp)
    (try simp only [List.getElem_toArray, List.getElem_cons_succ, List.getElem_cons_zero])
    go_frame
    refine wpAnyN_take (i := 15) (v := .pointer (some ⟨nb, 1, none⟩)) rfl (by kernel_rfl) (by kernel_rfl) (by kernel_rfl) (by decide) (by kernel_rfl) (fun _ _ _ h => h) (Or.inl ⟨by kernel_rfl, ?_⟩) KA.out ?_
    · (intro w' hSw; go_simp)
    (try simp only [List.getElem_toArray, List.getElem_cons_succ, List.getElem_cons_zero])
    go_frame
    refine wpAnyN_take (i := 16) (v := .int .i64 (pj : Int)) rfl (by kernel_rfl) (by kernel_rfl) (by kernel_rfl) (by decide) (by kernel_rfl) (fun _ _ _ h => h) (Or.inl ⟨by kernel_rfl, ?_⟩) KA.out ?_
    · (intro w' hSw; obtain ⟨s0, s1⟩ := kblk HNB.out hSw; clear hSw; go_simp)
    (try simp only [List.getElem_toArray, List.getElem_cons_succ, List.getElem_cons_zero])
    go_frame
    have HBT2 := hid (HBT.out w5.drew (K5.out.trans KA.out (fun _ _ f => f)))
    refine wpAnyL_one (i := 12) (by kernel_rfl) rfl rfl ?_
    go_simp
    refine HBT2.out.mono ?_
    rintro e wb ⟨rfl, kk⟩
    have KB := hid (show Kept w5 wb from KA.out.trans kk (fun _ _ f => f))
    clear kk HBT2
    refine ⟨KB.out, ?_⟩
    (try simp only [List.getElem_toArray, List.getElem_cons_succ, List.getElem_cons_zero])
    (try go_frame)
    refine wpAnyL_one (i := 17) (by kernel_rfl) rfl rfl ?_
    go_simp
    refine (HC.out _ _ _).mono ?_
    rintro e wc ⟨rfl, hw⟩
    replace hw := hw.symm
    subst hw
    refine ⟨KB.out, ?_⟩
    (try simp only [List.getElem_toArray, List.getElem_cons_succ, List.getElem_cons_zero])
    (try go_frame)
    refine wpAnyL_one (i := 18) (by kernel_rfl) rfl rfl ?_
    go_simp
    refine ⟨KB.out.alloc _, ?_⟩
    (try go_frame)
    have KD := hid (KB.out.alloc (.cells #[.int .i64 (cmpZ Ti Tj), .int .i64 (cmpZ (pi : Int) (pj : Int))] 3))
    have HOR := hid (HO.out (wb.alloc (.cells #[.int .i64 (cmpZ Ti Tj), .int .i64 (cmpZ (pi : Int) (pj : Int))] 3)) wb.heap.size (cmpZ Ti Tj) (cmpZ (pi : Int) (pj : Int)) (Blk.new wb [.int .i64 (cmpZ Ti Tj), .int .i64 (cmpZ (pi : Int) (pj : Int))] 3))
    refine wpAnyL_one (i := 19) (by kernel_rfl) rfl rfl ?_
    go_simp
    refine HOR.out.mono ?_
    rintro e wd ⟨rfl, kk⟩
    have KE := hid (show Kept w5 wd from KD.out.trans kk (fun _ _ f => f))
    clear kk HOR KD
    refine ⟨KE.out, ?_⟩
    (try simp only [List.getElem_toArray, List.getElem_cons_succ, List.getElem_cons_zero])
    (try go_frame)
    refine wpAnyL_one (i := 20) (by kernel_rfl) rfl rfl ?_
    go_simp
    refine ⟨KE.out, ?_⟩
    (try simp only [List.getElem_toArray, List.getElem_cons_succ, List.getElem_cons_zero])
    (try go_frame)
    refine wpAnyL_one (i := 21) (by kernel_rfl) rfl rfl ?_
    go_simp
    refine ⟨KE.out, ?_⟩
    (try go_frame)
    refine wpAnyN_done (by kernel_rfl) ?_
    refine NoPanic.normal ?_
    have HZ : Hid (decide (orZ (cmpZ Ti Tj) (cmpZ (pi : Int) (pj : Int)) < 0) = AB) := HV
    generalize orZ (cmpZ Ti Tj) (cmpZ (pi : Int) (pj : Int)) = Z at HZ ⊢
    go_wp2
    go_ret
    exact ⟨by rw [← HZ.out]; rfl, K5.out.trans KE.out (fun _ _ f => f)⟩
end Go.Proofs.Ytcacoanhiphbiaa.Ms
