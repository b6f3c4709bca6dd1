/-
  Runs in memory; which of two stands ahead.
-/
import Derived.Test.YtcacoanhiphbiaaZplain
import Derived.Test.YtcacoanhiphbiaaZsmp
import Derived.Test.YtcacoanhiphbiaaWlast
import Derived.Laws.Rows
import Derived.WalkSpells
import Derived.BigRegion
namespace Go.Proofs.Lys
open Go Go.RowKit
section
variable {P : Program} {ops : Array Oper} {Q : Exit → Act → World → Prop} {md : Region.Mode} {S : World → Prop} {L : Nat}
/-- Two may come up. -/
theorem wpAnyL_two {i j : Nat} {oi oj : Oper} {fuel : Nat} {listed : Array Bool} {a : Act} {w : World} (hr : Region.ready md ops listed = [i, j]) (hoi : ops[i]? = some oi) (hoj : ops[j]? = some oj) (hwi : Region.wanted oi (yielded ops a.tmps) = true) (hwj : Region.wanted oj (yielded ops a.tmps) = true)
    (h1 : Oper.wp P oi a w (fun a' w' => S w' ∧ wpAnyL P md ops Q S L fuel (listed.setIfInBounds i true) a' w') Q)
    (h2 : Oper.wp P oj a w (fun a' w' => S w' ∧ wpAnyL P md ops Q S L fuel (listed.setIfInBounds j true) a' w') Q) : wpAnyL P md ops Q S L (fuel + 1) listed a w := by
  refine ⟨fun h0 => (by rw [hr] at h0; cases h0), fun q hq => ?_⟩
  rw [hr] at hq
  have e : q = i ∨ q = j := by simpa using hq
  rcases e with rfl | rfl
  · refine wpOp_step hoi (fun K hK => ?_)
    rw [if_pos hwi]
    exact Oper.wp_mono (fun a' w' h' => hK a' w' ⟨fun _ => h'.1, h'.2⟩) h1
  · refine wpOp_step hoj (fun K hK => ?_)
    rw [if_pos hwj]
    exact Oper.wp_mono (fun a' w' h' => hK a' w' ⟨fun _ => h'.1, h'.2⟩) h2
end
/-- A region whose ways meet again: what it leaves is told once. -/
theorem wp_region_meet2 {P : Program} {id : Nat} {ops : Array Oper} {b : Bool} {Q : Exit → Act → World → Prop} {a : Act} {w : World} {A : Nat → Nat → Act} (D : Nat → Nat → World → Prop)
    (h1 : (Code.region id ops b).wp P (fun e a' w' => e = .normal ∧ ∃ n x, a' = A n x ∧ D n x w') a w) (h2 : ∀ n x w', D n x w' → Q .normal (A n x) w') : (Code.region id ops b).wp P Q a w :=
  Code.wp_mono (fun e a' w' h => by obtain ⟨rfl, n, x, rfl, hD⟩ := h; exact h2 n x w' hD) h1
theorem oper_appendH {P : Program} {w : World} {o : Oper} {a : Act} {K : Act → World → Prop} {Q : Exit → Act → World → Prop} (s x : Operand) (t : TypeId)
    (ho : o.op = .call { callee := .builtin .append, args := #[s, x], argTypes := #[t, t] }) {sv xv : Value} (hs : a.eval s = sv) (hx : a.eval x = xv) {v : Value} {w' : World}
    (hrun : Hid ((Builtin.append_ #[t, t] 0 #[sv, xv]).run P w = .ok v w')) (h : K (a.put o.dst v) w') : Oper.wp P o a w K Q := by
  have hr : (Builtin.append_ #[t, t] o.type #[sv, xv]).run P w = .ok v w' := hrun.out
  unfold Oper.wp execOp
  simp only [ho, resolve, invoke, builtin, Sem.run_bind, Sem.run_pure, Result.andThen_ok, List.map_toArray, List.map_cons, List.map_nil, hs, hx, hr]
  exact h
theorem each_cell {w W : World} (k : Kept w W) : ∀ a u, w.cell? a = some u → W.cell? a = some u := fun a u hc => by
    rw [World.cell?_of_block (w := w) (w' := W) (a := a) (k.block a.block (World.block_lt_of_cell? w a hc) (fun f => f))]
    exact hc
end Go.Proofs.Lys
namespace Go.Proofs.Ytcacoanhiphbiaa.Mg
open Go Go.RowKit Go.Proofs.Lys
set_option linter.unusedVariables false
set_option linter.unusedSimpArgs false

abbrev runT : Nat := 69
abbrev heapT : Nat := 64
abbrev fnV : Value := .func (.func 23) #[] #[]
theorem Try.infoRun : (Try.prog.info? 69).map (fun i => (i.zero, i.size, i.bytes)) = some (some (.agg #[.slice none 0 0, .int .i64 0]), 2, 32) := by kernel_rfl
def runL : List Run → List Value
  | [] => []
  | r :: t => r.1 :: .int .i64 (r.2.2 : Int) :: runL t
theorem runL_len (l : List Run) : (runL l).length = l.length * 2 := by
  induction l with
  | nil => rfl
  | cons p r ih => rw [runL, List.length_cons, List.length_cons, ih, List.length_cons]; omega
theorem runL_app (l r : List Run) : runL (l ++ r) = runL l ++ runL r := by
  induction l with
  | nil => rfl
  | cons p l ih => rw [List.cons_append, runL, ih, runL]; rfl
theorem runL_at (l : List Run) (i : Nat) (h : i < l.length) : (runL l)[i * 2]? = some l[i].1 ∧ (runL l)[i * 2 + 1]? = some (.int .i64 (l[i].2.2 : Int)) := by
  induction l generalizing i with
  | nil => simp at h
  | cons p r ih =>
    cases i with
    | zero => exact ⟨rfl, rfl⟩
    | succ i =>
      have := ih i (by simpa using h)
      rw [show (i + 1) * 2 = i * 2 + 2 by omega]
      exact this
theorem runL_set (l : List Run) (i : Nat) (r : Run) : ((runL l).set (i * 2) r.1).set (i * 2 + 1) (.int .i64 (r.2.2 : Int)) = runL (l.set i r) := by
  induction l generalizing i with
  | nil => rfl
  | cons p t ih =>
    cases i with
    | zero => rfl
    | succ i =>
      rw [show (i + 1) * 2 = i * 2 + 1 + 1 by omega]
      show _ = runL (p :: t.set i r)
      rw [runL, runL, ← ih i]
      rfl
theorem runL_take (l : List Run) (n : Nat) : (runL l).take (n * 2) = runL (l.take n) := by
  induction l generalizing n with
  | nil => simp [runL]
  | cons p t ih =>
    cases n with
    | zero => rfl
    | succ n =>
      rw [show (n + 1) * 2 = n * 2 + 1 + 1 by omega, runL, List.take_succ_cons, List.take_succ_cons, ih n]
      rfl
/-- Samples that are read, with room for them. -/
def SSrc (w : World) (v : Value) (l : Smps) : Prop := SmpSrc w v l ∧ ∃ a c, v = .slice a l.length c ∧ l.length ≤ c
theorem SSrc.stay {w w' : World} {v : Value} {l : Smps} (h : SSrc w v l) (k : Kept w w') : SSrc w' v l := ⟨h.1.stay k, h.2⟩
/-- A heap in memory. -/
structure HeapW (w0 : World) (hb : Nat) (h : List Run) (g cap : Nat) (w' : World) : Prop where
  blk : Blk w' hb [.slice (some ⟨g, 0, none⟩) h.length cap, fnV] 64
  row : w'.ownsRow w0.heap.size 69 2 (.slice (some ⟨g, 0, none⟩) h.length cap) h.length (runL h)
  src : ∀ r ∈ h, SSrc w0 r.1 r.2.1
  kept : Kept w0 w'
  base : w0.heap.size ≤ hb
theorem HeapW.keep {w0 : World} {hb : Nat} {h : List Run} {g cap : Nat} {w' w'' : World} (H : HeapW w0 hb h g cap w') (k : Kept w' w'') : HeapW w0 hb h g cap w'' :=
  ⟨Only.blk k H.blk (fun f => f), ownN_stay H.row k, H.src, H.kept.trans k (fun _ _ f => f), H.base⟩
theorem getD_at {h : List Run} {i : Nat} (hi : i < h.length) : h.getD i dR = h[i] := by rw [List.getD_eq_getElem?_getD, List.getElem?_eq_getElem hi]; rfl
/-- A run of the heap: its two cells. -/
theorem HeapW.cells {w0 : World} {hb : Nat} {h : List Run} {g cap : Nat} {w' : World} (H : HeapW w0 hb h g cap w') {i : Nat} (hi : i < h.length) : w'.cell? ⟨g, i * 2, none⟩ = some h[i].1 ∧ w'.cell? ⟨g, i * 2 + 1, none⟩ = some (.int .i64 (h[i].2.2 : Int)) := by
  have := runL_at h i hi
  exact ⟨by rw [H.row.cellAt (i * 2) (by omega)]; exact this.1, by rw [H.row.cellAt (i * 2 + 1) (by omega)]; exact this.2⟩
/-- The first item of a run that has some. -/
theorem run_head {w0 w' : World} {r : Run} (hs : SSrc w0 r.1 r.2.1) (k : Kept w0 w') (hne : r.2.1 ≠ []) : ∃ b o n c V, r.1 = .slice (some ⟨b, o, none⟩) n c ∧ 0 < n ∧ n ≤ c ∧ n = r.2.1.length ∧ w'.cell? ⟨b, o, none⟩ = some (.int .i64 (hdT r)) ∧ w'.cell? ⟨b, o + 1, none⟩ = some (.int .i64 V) ∧ (r.2.1.headD (0, 0)) = (hdT r, V) := by
  obtain ⟨h1, a, c, e, hc⟩ := hs.stay k
  rcases h1 with ⟨x, y, _, hn⟩ | ⟨hp, b, o, c2, hv, hcell⟩
  · exact absurd hn hne
  · rw [e] at hv
    simp only [Value.slice.injEq] at hv
    obtain ⟨rfl, _, rfl⟩ := hv
    have h0 := hcell 0 hp
    obtain ⟨v, l, p⟩ := r
    cases l with
    | nil => exact absurd rfl hne
    | cons x t => exact ⟨b, o, _, c, x.2, e, hp, hc, rfl, h0.1, h0.2, rfl⟩

def cmpZ (x y : Int) : Int := if x < y then -1 else if y < x then 1 else 0
def orZ (x y : Int) : Int := if x = 0 then y else x
theorem or_lt (x y p q : Int) : orZ (cmpZ x y) (cmpZ p q) < 0 ↔ (x < y ∨ (x = y ∧ p < q)) := by
  have h1 : cmpZ x y = -1 ∧ x < y ∨ cmpZ x y = 1 ∧ y < x ∨ cmpZ x y = 0 ∧ x = y := by
    unfold cmpZ
    by_cases a : x < y
    · rw [if_pos a]; omega
    · rw [if_neg a]
      by_cases b : y < x
      · rw [if_pos b]; omega
      · rw [if_neg b]; omega
  have h2 : cmpZ p q = -1 ∧ p < q ∨ cmpZ p q = 1 ∧ q < p ∨ cmpZ p q = 0 ∧ p = q := by
    unfold cmpZ
    by_cases a : p < q
    · rw [if_pos a]; omega
    · rw [if_neg a]
      by_cases b : q < p
      · rw [if_pos b]; omega
      · rw [if_neg b]; omega
  unfold orZ
  by_cases e : cmpZ x y = 0
  · rw [if_pos e]; omega
  · rw [if_neg e]; omega
theorem ahd_or (a b : Run) : decide (orZ (cmpZ (hdT a) (hdT b)) (cmpZ (a.2.2 : Int) (b.2.2 : Int)) < 0) = ahdB a b := by
  have := or_lt (hdT a) (hdT b) (a.2.2 : Int) (b.2.2 : Int)
  unfold ahdB
  rw [Bool.eq_iff_iff]
  simp only [decide_eq_true_eq, Bool.or_eq_true, Bool.and_eq_true]
  rw [this]
  omega
theorem isnan_any (n : Int) (w : World) : Calls Try.prog 41 #[.int .i64 n] w fun e w' => e = .returned (.bool false) ∧ w' = w := by
  go_enter Try.func41, Try.ntmps41
  go_wp2
  go_ret
  exact ⟨by simp, rfl⟩
theorem compare_any (x y : Int) (w : World) : Calls Try.prog 33 #[.int .i64 x, .int .i64 y] w fun e w' => e = .returned (.int .i64 (cmpZ x y)) ∧ w' = w := by
  unfold cmpZ
  by_cases h1 : x < y
  · go_enter Try.func33, Try.ntmps33
    go_wp2_with (go_at_call 41; refine (isnan_any _ _).mono ?_; rintro e w' ⟨rfl, hw⟩; replace hw := hw.symm; subst hw)
    go_ret
    exact ⟨by simp [h1], rfl⟩
  · by_cases h2 : y < x
    · go_enter Try.func33, Try.ntmps33
      go_wp2_with (go_at_call 41; refine (isnan_any _ _).mono ?_; rintro e w' ⟨rfl, hw⟩; replace hw := hw.symm; subst hw)
      go_ret
      exact ⟨by simp [h1, h2], rfl⟩
    · go_enter Try.func33, Try.ntmps33
      go_wp2_with (go_at_call 41; refine (isnan_any _ _).mono ?_; rintro e w' ⟨rfl, hw⟩; replace hw := hw.symm; subst hw)
      go_ret
      exact ⟨by simp [h1, h2], rfl⟩
theorem bytime_any (w : World) (x y : Smp) : Calls Try.prog 23 #[.agg #[.int .i64 x.1, .int .i64 x.2], .agg #[.int .i64 y.1, .int .i64 y.2]] w fun e w' => e = .returned (.int .i64 (cmpZ x.1 y.1)) ∧ Kept w w' := by
  obtain ⟨x1, x2⟩ := x
  obtain ⟨y1, y2⟩ := y
  have HC := hid (compare_any x1 y1)
  have HK := hid (show Kept w ((w.alloc (.cells #[.int .i64 x1, .int .i64 x2] 36)).alloc (.cells #[.int .i64 y1, .int .i64 y2] 36)) from ((Only.refl _ w).alloc _).alloc _)
  go_enter Try.func23, Try.ntmps23
  go_wp2_with fail
  refine (HC.out _).mono ?_
  rintro e w' ⟨rfl, hw⟩
  replace hw := hw.symm
  subst hw
  go_wp2
  go_ret
  exact ⟨rfl, HK.out⟩
theorem or_any (w : World) (sb : Nat) (x y : Int) (hb : Blk w sb [.int .i64 x, .int .i64 y] 3) : Calls Try.prog 38 #[.slice (some ⟨sb, 0, none⟩) 2 2] w fun e w' => e = .returned (.int .i64 (orZ x y)) ∧ Kept w w' := by
  have c0 := hb.cell 0 rfl
  have c1 := hb.cell 1 rfl
  have hlt := hb.lt
  clear hb
  unfold orZ
  by_cases h : x = 0
  · by_cases h2 : y = 0
    · subst h h2
      go_enter Try.func38, Try.ntmps38
      go_wp2
      refine wp_loop_rounds 3 ?_
      rw [rounds_succ]
      go_wp2
      rw [rounds_succ]
      go_wp2
      rw [rounds_succ]
      go_wp2
      go_ret
      exact ⟨rfl, Only.refl _ _⟩
    · have hyb : (y == 0) = false := by simpa using h2
      subst h
      go_enter Try.func38, Try.ntmps38
      go_wp2
      refine wp_loop_rounds 3 ?_
      rw [rounds_succ]
      go_wp2
      rw [rounds_succ]
      go_wp2
      go_ret
      exact ⟨rfl, Only.refl _ _⟩
  · have hxb : (x == 0) = false := by simpa using h
    rw [if_neg h]
    go_enter Try.func38, Try.ntmps38
    go_wp2
    refine wp_loop_rounds 3 ?_
    rw [rounds_succ]
    go_wp2
    go_ret
    exact ⟨rfl, Only.refl _ _⟩

theorem enters_own {P : Program} {f : FuncId} {fn : Func} {c : Code} (hf : P.funcs[f]? = some fn) (hname : (fn.name == "runtime.NumGoroutine") = false) (hb : fn.body = some c) (args : Array Value) (w : World) : (callFunc f args).run P w = .ok (.enter f args) w := by
  have h1 : fn.name ≠ "runtime.NumGoroutine" := by simpa using hname
  simp [callFunc, hf, h1, hb, mark]
theorem eg_time : ∀ args w, (callFunc 23 args).run Try.prog w = .ok (.enter 23 args) w := enters_own Try.func23 (by kernel_rfl) rfl
/-- Two runs, laid anew. -/
def TwoD (w : World) (x y : Value) (p q : Nat) (na nb : Nat) (w' : World) : Prop :=
  Blk w' na [x, .int .i64 (p : Int)] 69 ∧ Blk w' nb [y, .int .i64 (q : Int)] 69 ∧ Kept w w'
theorem kblk {w w' : World} {b T : Nat} {c0 c1 : Value} (h : Blk w b [c0, c1] T) (k : Kept w w') : w'.cell? ⟨b, 0, none⟩ = some c0 ∧ w'.cell? ⟨b, 1, none⟩ = some c1 :=
  have h' := Only.blk k h (fun f => f)
  ⟨h'.cell 0 rfl, h'.cell 1 rfl⟩

set_option maxRecDepth 100000 in
set_option maxHeartbeats 3200000 in
theorem ahead_any {w0 : World} {hb : Nat} {h : List Run} {g cap : Nat} (w : World) (H : HeapW w0 hb h g cap w) (hlen : h.length ≤ 1000000) (hne : ∀ r ∈ h, r.2.1 ≠ []) (i j : Nat) (hi : i < h.length) (hj : j < h.length) :
    Calls Try.prog 40 #[.pointer (some ⟨hb, 0, none⟩), .int .i64 (i : Int), .int .i64 (j : Int)] w fun e w' => e = .returned (.bool (ahdB (h.getD i dR) (h.getD j dR))) ∧ Kept w w' := by
  rw [getD_at hi, getD_at hj]
  have hmi := List.getElem_mem hi
  have hmj := List.getElem_mem hj
  obtain ⟨bi, oi, ni, ci, Vi, ei, hni, hci, -, ti, vi, -⟩ := run_head (H.src _ hmi) H.kept (hne _ hmi)
  obtain ⟨bj, oj, nj, cj, Vj, ej, hnj, hcj, -, tj, vj, -⟩ := run_head (H.src _ hmj) H.kept (hne _ hmj)
  have hci' := H.cells hi
  have hcj' := H.cells hj
  rw [ei] at hci'
  rw [ej] at hcj'
  have HV := hid (ahd_or h[i] h[j])
  have hcb := H.blk
  generalize ahdB h[i] h[j] = AB at HV ⊢
  generalize hdT h[i] = Ti at ti HV
  generalize hdT h[j] = Tj at tj HV
  generalize h[i].2.2 = pi at hci' HV
  generalize h[j].2.2 = pj at hcj' HV
  obtain ⟨N, hN⟩ : ∃ N, h.length = N := ⟨_, rfl⟩
  rw [hN] at hi hj hcb hlen
  have b0 := hcb.cell 0 rfl
  have b1 := hcb.cell 1 rfl
  have hltb := hcb.lt
  obtain ⟨i0, i1⟩ := hci'
  obtain ⟨j0, j1⟩ := hcj'
  have hltg : g < w.heap.size := World.block_lt_of_cell? w _ i0
  have hlti : bi < w.heap.size := World.block_lt_of_cell? w _ ti
  have hltj : bj < w.heap.size := World.block_lt_of_cell? w _ tj
  have B0 := hid b0
  have B1 := hid b1
  have I0 := hid i0
  have I1 := hid i1
  have J0 := hid j0
  have J1 := hid j1
  have TI := hid ti
  have VI := hid vi
  have TJ := hid tj
  have VJ := hid vj
  have HO := hid (or_any)
  have HC := hid (compare_any)
  have HBT := hid (bytime_any)
  have eg := eg_time
  clear H hne hcb hN hmi hmj ei ej i0 i1 j0 j1 ti vi tj vj b0 b1
  go_enter Try.func40, Try.ntmps40
  go_wp2_with fail
  apply wp_region_meet2 (D := TwoD w (.slice (some ⟨bi, oi, none⟩) ni ci) (.slice (some ⟨bj, oj, none⟩) nj cj) pi pj)
  case h1 =>
    have KA := hid (show Kept w w.drew from (Only.refl _ _).drew)
    refine wp_region_noPanic ?_
    refine wp_region_last (L := 1000) (S := fun w' => Kept w w') (by kernel_rfl) ?_
    refine wpAnyN_take (i := 0) (v := .pointer (some ⟨hb, 0, none⟩)) rfl (by kernel_rfl) (by kernel_rfl) (by kernel_rfl) (by decide) (by kernel_rfl) (fun _ _ _ h => h) (Or.inl ⟨by kernel_rfl, ?_⟩) KA.out ?_
    · (intro w' hSw; go_simp)
    (try simp only [List.getElem_toArray, List.getElem_cons_succ, List.getElem_cons_zero])
    go_frame
    refine wpAnyN_take (i := 1) (v := .pointer (some ⟨hb, 0, none⟩)) rfl (by kernel_rfl) (by kernel_rfl) (by kernel_rfl) (by decide) (by kernel_rfl) (fun _ _ _ h => h) (Or.inl ⟨by kernel_rfl, ?_⟩) KA.out ?_
    · (intro w' hSw; go_simp)
    (try simp only [List.getElem_toArray, List.getElem_cons_succ, List.getElem_cons_zero])
    go_frame
    refine wpAnyN_take (i := 2) (v := .pointer (some ⟨hb, 0, none⟩)) rfl (by kernel_rfl) (by kernel_rfl) (by kernel_rfl) (by decide) (by kernel_rfl) (fun _ _ _ h => h) (Or.inl ⟨by kernel_rfl, ?_⟩) KA.out ?_
    · (intro w' hSw; go_simp)
    (try simp only [List.getElem_toArray, List.getElem_cons_succ, List.getElem_cons_zero])
    go_frame
    refine wpAnyN_take (i := 3) (v := .slice (some ⟨g, 0, none⟩) N cap) rfl (by kernel_rfl) (by kernel_rfl) (by kernel_rfl) (by decide) (by kernel_rfl) (fun _ _ _ h => h) (Or.inl ⟨by kernel_rfl, ?_⟩) KA.out ?_
    · (intro w' hSw; have s0 := each_cell hSw _ _ B0.out; clear hSw; go_simp)
    (try simp only [List.getElem_toArray, List.getElem_cons_succ, List.getElem_cons_zero])
    go_frame
    refine wpAnyN_take (i := 4) (v := .int .i64 (i : Int)) rfl (by kernel_rfl) (by kernel_rfl) (by kernel_rfl) (by decide) (by kernel_rfl) (fun _ _ _ h => h) (Or.inl ⟨by kernel_rfl, ?_⟩) KA.out ?_
    · (intro w' hSw; go_simp)
    (try simp only [List.getElem_toArray, List.getElem_cons_succ, List.getElem_cons_zero])
    go_frame
    refine wpAnyN_take (i := 5) (v := .pointer (some ⟨g, i * 2, none⟩)) rfl (by kernel_rfl) (by kernel_rfl) (by kernel_rfl) (by decide) (by kernel_rfl) (fun _ _ _ h => h) (Or.inl ⟨by kernel_rfl, ?_⟩) KA.out ?_
    · (intro w' hSw; go_simp)
    (try simp only [List.getElem_toArray, List.getElem_cons_succ, List.getElem_cons_zero])
    go_frame
    refine wpAnyN_take (i := 6) (v := .agg #[.slice (some ⟨bi, oi, none⟩) ni ci, .int .i64 (pi : Int)]) rfl (by kernel_rfl) (by kernel_rfl) (by kernel_rfl) (by decide) (by kernel_rfl) (fun _ _ _ h => h) (Or.inl ⟨by kernel_rfl, ?_⟩) KA.out ?_
    · (intro w' hSw; have s0 := each_cell hSw _ _ I0.out; have s1 := each_cell hSw _ _ I1.out; clear hSw; go_simp)
    (try simp only [List.getElem_toArray, List.getElem_cons_succ, List.getElem_cons_zero])
    go_frame
    refine wpAnyN_take (i := 7) (v := .pointer (some ⟨hb, 0, none⟩)) rfl (by kernel_rfl) (by kernel_rfl) (by kernel_rfl) (by decide) (by kernel_rfl) (fun _ _ _ h => h) (Or.inl ⟨by kernel_rfl, ?_⟩) KA.out ?_
    · (intro w' hSw; go_simp)
    (try simp only [List.getElem_toArray, List.getElem_cons_succ, List.getElem_cons_zero])
    go_frame
    refine wpAnyN_take (i := 8) (v := .pointer (some ⟨hb, 0, none⟩)) rfl (by kernel_rfl) (by kernel_rfl) (by kernel_rfl) (by decide) (by kernel_rfl) (fun _ _ _ h => h) (Or.inl ⟨by kernel_rfl, ?_⟩) KA.out ?_
    · (intro w' hSw; go_simp)
    (try simp only [List.getElem_toArray, List.getElem_cons_succ, List.getElem_cons_zero])
    go_frame
    refine wpAnyN_take (i := 9) (v := .pointer (some ⟨hb, 0, none⟩)) rfl (by kernel_rfl) (by kernel_rfl) (by kernel_rfl) (by decide) (by kernel_rfl) (fun _ _ _ h => h) (Or.inl ⟨by kernel_rfl, ?_⟩) KA.out ?_
    · (intro w' hSw; go_simp)
    (try simp only [List.getElem_toArray, List.getElem_cons_succ, List.getElem_cons_zero])
    go_frame
    refine wpAnyN_take (i := 10) (v := .slice (some ⟨g, 0, none⟩) N cap) rfl (by kernel_rfl) (by kernel_rfl) (by kernel_rfl) (by decide) (by kernel_rfl) (fun _ _ _ h => h) (Or.inl ⟨by kernel_rfl, ?_⟩) KA.out ?_
    · (intro w' hSw; have s0 := each_cell hSw _ _ B0.out; clear hSw; go_simp)
    (try simp only [List.getElem_toArray, List.getElem_cons_succ, List.getElem_cons_zero])
    go_frame
    refine wpAnyN_take (i := 11) (v := .int .i64 (j : Int)) rfl (by kernel_rfl) (by kernel_rfl) (by kernel_rfl) (by decide) (by kernel_rfl) (fun _ _ _ h => h) (Or.inl ⟨by kernel_rfl, ?_⟩) KA.out ?_
    · (intro w' hSw; go_simp)
    (try simp only [List.getElem_toArray, List.getElem_cons_succ, List.getElem_cons_zero])
    go_frame
    refine wpAnyN_take (i := 12) (v := .pointer (some ⟨g, j * 2, none⟩)) rfl (by kernel_rfl) (by kernel_rfl) (by kernel_rfl) (by decide) (by kernel_rfl) (fun _ _ _ h => h) (Or.inl ⟨by kernel_rfl, ?_⟩) KA.out ?_
    · (intro w' hSw; go_simp)
    (try simp only [List.getElem_toArray, List.getElem_cons_succ, List.getElem_cons_zero])
    go_frame
    refine wpAnyN_take (i := 13) (v := .agg #[.slice (some ⟨bj, oj, none⟩) nj cj, .int .i64 (pj : Int)]) rfl (by kernel_rfl) (by kernel_rfl) (by kernel_rfl) (by decide) (by kernel_rfl) (fun _ _ _ h => h) (Or.inl ⟨by kernel_rfl, ?_⟩) KA.out ?_
    · (intro w' hSw; have s0 := each_cell hSw _ _ J0.out; have s1 := each_cell hSw _ _ J1.out; clear hSw; go_simp)
    (try simp only [List.getElem_toArray, List.getElem_cons_succ, List.getElem_cons_zero])
    go_frame
    refine wpAnyL_two (i := 14) (j := 15) (by kernel_rfl) rfl rfl (by kernel_rfl) (by kernel_rfl) ?_ ?_
    · go_simp
      refine ⟨KA.out.alloc _, ?_⟩
      (try go_frame)
      refine wpAnyL_one (i := 15) (by kernel_rfl) rfl rfl ?_
      go_simp
      refine ⟨(KA.out.alloc _).alloc _, ?_⟩
      (try go_frame)
      refine wpAnyL_one (i := 16) (by kernel_rfl) rfl rfl ?_
      go_simp
      refine ⟨(((Only.refl _ w).alloc _).alloc _).drew, ?_⟩
      (try go_frame)
      refine wpAnyL_one (i := 17) (by kernel_rfl) rfl rfl ?_
      go_simp
      refine ⟨(((Only.refl _ w).alloc _).alloc _).drew, ?_⟩
      (try go_frame)
      refine wpAnyN_done (by kernel_rfl) ?_
      refine NoPanic.normal ?_
      have hD : TwoD w (.slice (some ⟨bi, oi, none⟩) ni ci) (.slice (some ⟨bj, oj, none⟩) nj cj) pi pj w.heap.size (w.heap.size + 1) ((w.alloc (.cells #[.slice (some ⟨bi, oi, none⟩) ni ci, .int .i64 (pi : Int)] 69)).alloc (.cells #[.slice (some ⟨bj, oj, none⟩) nj cj, .int .i64 (pj : Int)] 69)).drew := by
        refine ⟨(Blk.new w [.slice (some ⟨bi, oi, none⟩) ni ci, .int .i64 (pi : Int)] 69).alloc _, ?_, (((Only.refl _ w).alloc _).alloc _).drew⟩
        have := Blk.new (w.alloc (.cells #[.slice (some ⟨bi, oi, none⟩) ni ci, .int .i64 (pi : Int)] 69)) [.slice (some ⟨bj, oj, none⟩) nj cj, .int .i64 (pj : Int)] 69
        rw [World.size_alloc] at this
        exact this
      generalize ((w.alloc (.cells #[.slice (some ⟨bi, oi, none⟩) ni ci, .int .i64 (pi : Int)] 69)).alloc (.cells #[.slice (some ⟨bj, oj, none⟩) nj cj, .int .i64 (pj : Int)] 69)).drew = w9 at hD ⊢
      generalize w.heap.size + 1 = xb at hD ⊢
      generalize w.heap.size = xa at hD ⊢
      exact ⟨rfl, xa, xb, rfl, hD⟩
    · go_simp
      refine ⟨KA.out.alloc _, ?_⟩
      (try go_frame)
      refine wpAnyL_one (i := 14) (by kernel_rfl) rfl rfl ?_
      go_simp
      refine ⟨(KA.out.alloc _).alloc _, ?_⟩
      (try go_frame)
      refine wpAnyL_one (i := 16) (by kernel_rfl) rfl rfl ?_
      go_simp
      refine ⟨(((Only.refl _ w).alloc _).alloc _).drew, ?_⟩
      (try go_frame)
      refine wpAnyL_one (i := 17) (by kernel_rfl) rfl rfl ?_
      go_simp
      refine ⟨(((Only.refl _ w).alloc _).alloc _).drew, ?_⟩
      (try go_frame)
      refine wpAnyN_done (by kernel_rfl) ?_
      refine NoPanic.normal ?_
      have hD : TwoD w (.slice (some ⟨bi, oi, none⟩) ni ci) (.slice (some ⟨bj, oj, none⟩) nj cj) pi pj (w.heap.size + 1) w.heap.size ((w.alloc (.cells #[.slice (some ⟨bj, oj, none⟩) nj cj, .int .i64 (pj : Int)] 69)).alloc (.cells #[.slice (some ⟨bi, oi, none⟩) ni ci, .int .i64 (pi : Int)] 69)).drew := by
        refine ⟨?_, (Blk.new w [.slice (some ⟨bj, oj, none⟩) nj cj, .int .i64 (pj : Int)] 69).alloc _, (((Only.refl _ w).alloc _).alloc _).drew⟩
        have := Blk.new (w.alloc (.cells #[.slice (some ⟨bj, oj, none⟩) nj cj, .int .i64 (pj : Int)] 69)) [.slice (some ⟨bi, oi, none⟩) ni ci, .int .i64 (pi : Int)] 69
        rw [World.size_alloc] at this
        exact this
      exact ⟨rfl, w.heap.size + 1, w.heap.size, rfl, hD⟩
  case h2 =>
    intro na nb w5 hD
    obtain ⟨hA, hB, k5⟩ := hD
    have K5 := hid k5
    have HNA := hid hA
    have HNB := hid hB
    clear hA hB k5
    go_wp2_with fail
    have KA := hid (show Kept w5 w5.drew from (Only.refl _ _).drew)
    refine wp_region_noPanic ?_
    refine wp_region_last (L := 1000) (S := fun w' => Kept w5 w') (by kernel_rfl) ?_
    refine wpAnyN_take (i := 0) (v := .pointer (some ⟨hb, 0, none⟩)) rfl (by kernel_rfl) (by kernel_rfl) (by kernel_rfl) (by decide) (by kernel_rfl) (fun _ _ _ h => h) (Or.inl ⟨by kernel_rfl, ?_⟩) KA.out ?_
    · (intro w' hSw; go_simp)
    (try simp only [List.getElem_toArray, List.getElem_cons_succ, List.getElem_cons_zero])
    go_frame
    refine wpAnyN_take (i := 1) (v := .pointer (some ⟨hb, 0, none⟩)) rfl (by kernel_rfl) (by kernel_rfl) (by kernel_rfl) (by decide) (by kernel_rfl) (fun _ _ _ h => h) (Or.inl ⟨by kernel_rfl, ?_⟩) KA.out ?_
    · (intro w' hSw; go_simp)
    (try simp only [List.getElem_toArray, List.getElem_cons_succ, List.getElem_cons_zero])
    go_frame
    refine wpAnyN_take (i := 2) (v := .pointer (some ⟨hb, 1, none⟩)) rfl (by kernel_rfl) (by kernel_rfl) (by kernel_rfl) (by decide) (by kernel_rfl) (fun _ _ _ h => h) (Or.inl ⟨by kernel_rfl, ?_⟩) KA.out ?_
    · (intro w' hSw; go_simp)
    (try simp only [List.getElem_toArray, List.getElem_cons_succ, List.getElem_cons_zero])
    go_frame
    refine wpAnyN_take (i := 3) (v := fnV) rfl (by kernel_rfl) (by kernel_rfl) (by kernel_rfl) (by decide) (by kernel_rfl) (fun _ _ _ h => h) (Or.inl ⟨by kernel_rfl, ?_⟩) KA.out ?_
    · (intro w' hSw; have t0 := each_cell (K5.out.trans hSw (fun _ _ f => f)) _ _ B1.out; clear hSw; go_simp)
    (try simp only [List.getElem_toArray, List.getElem_cons_succ, List.getElem_cons_zero])
    go_frame
    refine wpAnyN_take (i := 4) (v := .pointer (some ⟨na, 0, none⟩)) rfl (by kernel_rfl) (by kernel_rfl) (by kernel_rfl) (by decide) (by kernel_rfl) (fun _ _ _ h => h) (Or.inl ⟨by kernel_rfl, ?_⟩) KA.out ?_
    · (intro w' hSw; go_simp)
    (try simp only [List.getElem_toArray, List.getElem_cons_succ, List.getElem_cons_zero])
    go_frame
    refine wpAnyN_take (i := 5) (v := .slice (some ⟨bi, oi, none⟩) ni ci) rfl (by kernel_rfl) (by kernel_rfl) (by kernel_rfl) (by decide) (by kernel_rfl) (fun _ _ _ h => h) (Or.inl ⟨by kernel_rfl, ?_⟩) KA.out ?_
    · (intro w' hSw; obtain ⟨s0, s1⟩ := kblk HNA.out hSw; clear hSw; go_simp)
    (try simp only [List.getElem_toArray, List.getElem_cons_succ, List.getElem_cons_zero])
    go_frame
    refine wpAnyN_take (i := 6) (v := .pointer (some ⟨bi, oi, none⟩)) rfl (by kernel_rfl) (by kernel_rfl) (by kernel_rfl) (by decide) (by kernel_rfl) (fun _ _ _ h => h) (Or.inl ⟨by kernel_rfl, ?_⟩) KA.out ?_
    · (intro w' hSw; go_simp)
    (try simp only [List.getElem_toArray, List.getElem_cons_succ, List.getElem_cons_zero])
    go_frame
    refine wpAnyN_take (i := 7) (v := .agg #[.int .i64 Ti, .int .i64 Vi]) rfl (by kernel_rfl) (by kernel_rfl) (by kernel_rfl) (by decide) (by kernel_rfl) (fun _ _ _ h => h) (Or.inl ⟨by kernel_rfl, ?_⟩) KA.out ?_
    · (intro w' hSw; obtain ⟨s0, s1⟩ := kblk HNA.out hSw; have t0 := each_cell (K5.out.trans hSw (fun _ _ f => f)) _ _ TI.out; have t1 := each_cell (K5.out.trans hSw (fun _ _ f => f)) _ _ VI.out; clear hSw; go_simp)
    (try simp only [List.getElem_toArray, List.getElem_cons_succ, List.getElem_cons_zero])
    go_frame
    refine wpAnyN_take (i := 8) (v := .pointer (some ⟨nb, 0, none⟩)) rfl (by kernel_rfl) (by kernel_rfl) (by kernel_rfl) (by decide) (by kernel_rfl) (fun _ _ _ h => h) (Or.inl ⟨by kernel_rfl, ?_⟩) KA.out ?_
    · (intro w' hSw; go_simp)
    (try simp only [List.getElem_toArray, List.getElem_cons_succ, List.getElem_cons_zero])
    go_frame
    refine wpAnyN_take (i := 9) (v := .slice (some ⟨bj, oj, none⟩) nj cj) rfl (by kernel_rfl) (by kernel_rfl) (by kernel_rfl) (by decide) (by kernel_rfl) (fun _ _ _ h => h) (Or.inl ⟨by kernel_rfl, ?_⟩) KA.out ?_
    · (intro w' hSw; obtain ⟨s0, s1⟩ := kblk HNB.out hSw; clear hSw; go_simp)
    (try simp only [List.getElem_toArray, List.getElem_cons_succ, List.getElem_cons_zero])
    go_frame
    refine wpAnyN_take (i := 10) (v := .pointer (some ⟨bj, oj, none⟩)) rfl (by kernel_rfl) (by kernel_rfl) (by kernel_rfl) (by decide) (by kernel_rfl) (fun _ _ _ h => h) (Or.inl ⟨by kernel_rfl, ?_⟩) KA.out ?_
    · (intro w' hSw; go_simp)
    (try simp only [List.getElem_toArray, List.getElem_cons_succ, List.getElem_cons_zero])
    go_frame
    refine wpAnyN_take (i := 11) (v := .agg #[.int .i64 Tj, .int .i64 Vj]) rfl (by kernel_rfl) (by kernel_rfl) (by kernel_rfl) (by decide) (by kernel_rfl) (fun _ _ _ h => h) (Or.inl ⟨by kernel_rfl, ?_⟩) KA.out ?_
    · (intro w' hSw; obtain ⟨s0, s1⟩ := kblk HNB.out hSw; have t0 := each_cell (K5.out.trans hSw (fun _ _ f => f)) _ _ TJ.out; have t1 := each_cell (K5.out.trans hSw (fun _ _ f => f)) _ _ VJ.out; clear hSw; go_simp)
    (try simp only [List.getElem_toArray, List.getElem_cons_succ, List.getElem_cons_zero])
    go_frame
    refine wpAnyN_take (i := 13) (v := .pointer (some ⟨na, 1, none⟩)) rfl (by kernel_rfl) (by kernel_rfl) (by kernel_rfl) (by decide) (by kernel_rfl) (fun _ _ _ h => h) (Or.inl ⟨by kernel_rfl, ?_⟩) KA.out ?_
    · (intro w' hSw; go_simp)
    (try simp only [List.getElem_toArray, List.getElem_cons_succ, List.getElem_cons_zero])
    go_frame
    refine wpAnyN_take (i := 14) (v := .int .i64 (pi : Int)) rfl (by kernel_rfl) (by kernel_rfl) (by kernel_rfl) (by decide) (by kernel_rfl) (fun _ _ _ h => h) (Or.inl ⟨by kernel_rfl, ?_⟩) KA.out ?_
    · (intro w' hSw; obtain ⟨s0, s1⟩ := kblk HNA.out hSw; clear hSw; go_simp)
    (try simp only [List.getElem_toArray, List.getElem_cons_succ, List.getElem_cons_zero])
    go_frame
    refine wpAnyN_take (i := 15) (v := .pointer (some ⟨nb, 1, none⟩)) rfl (by kernel_rfl) (by kernel_rfl) (by kernel_rfl) (by decide) (by kernel_rfl) (fun _ _ _ h => h) (Or.inl ⟨by kernel_rfl, ?_⟩) KA.out ?_
    · (intro w' hSw; go_simp)
    (try simp only [List.getElem_toArray, List.getElem_cons_succ, List.getElem_cons_zero])
    go_frame
    refine wpAnyN_take (i := 16) (v := .int .i64 (pj : Int)) rfl (by kernel_rfl) (by kernel_rfl) (by kernel_rfl) (by decide) (by kernel_rfl) (fun _ _ _ h => h) (Or.inl ⟨by kernel_rfl, ?_⟩) KA.out ?_
    · (intro w' hSw; obtain ⟨s0, s1⟩ := kblk HNB.out hSw; clear hSw; go_simp)
    (try simp only [List.getElem_toArray, List.getElem_cons_succ, List.getElem_cons_zero])
    go_frame
    have HBT2 := hid (HBT.out w5.drew (Ti, Vi) (Tj, Vj))
    refine wpAnyL_one (i := 12) (by kernel_rfl) rfl rfl ?_
    go_simp
    refine HBT2.out.mono ?_
    rintro e wb ⟨rfl, kk⟩
    have KB := hid (show Kept w5 wb from KA.out.trans kk (fun _ _ f => f))
    clear kk HBT2
    refine ⟨KB.out, ?_⟩
    (try simp only [List.getElem_toArray, List.getElem_cons_succ, List.getElem_cons_zero])
    (try go_frame)
    refine wpAnyL_one (i := 17) (by kernel_rfl) rfl rfl ?_
    go_simp
    refine (HC.out _ _ _).mono ?_
    rintro e wc ⟨rfl, hw⟩
    replace hw := hw.symm
    subst hw
    refine ⟨KB.out, ?_⟩
    (try simp only [List.getElem_toArray, List.getElem_cons_succ, List.getElem_cons_zero])
    (try go_frame)
    refine wpAnyL_one (i := 18) (by kernel_rfl) rfl rfl ?_
    go_simp
    refine ⟨KB.out.alloc _, ?_⟩
    (try go_frame)
    have KD := hid (KB.out.alloc (.cells #[.int .i64 (cmpZ Ti Tj), .int .i64 (cmpZ (pi : Int) (pj : Int))] 3))
    have HOR := hid (HO.out (wb.alloc (.cells #[.int .i64 (cmpZ Ti Tj), .int .i64 (cmpZ (pi : Int) (pj : Int))] 3)) wb.heap.size (cmpZ Ti Tj) (cmpZ (pi : Int) (pj : Int)) (Blk.new wb [.int .i64 (cmpZ Ti Tj), .int .i64 (cmpZ (pi : Int) (pj : Int))] 3))
    refine wpAnyL_one (i := 19) (by kernel_rfl) rfl rfl ?_
    go_simp
    refine HOR.out.mono ?_
    rintro e wd ⟨rfl, kk⟩
    have KE := hid (show Kept w5 wd from KD.out.trans kk (fun _ _ f => f))
    clear kk HOR KD
    refine ⟨KE.out, ?_⟩
    (try simp only [List.getElem_toArray, List.getElem_cons_succ, List.getElem_cons_zero])
    (try go_frame)
    refine wpAnyL_one (i := 20) (by kernel_rfl) rfl rfl ?_
    go_simp
    refine ⟨KE.out, ?_⟩
    (try simp only [List.getElem_toArray, List.getElem_cons_succ, List.getElem_cons_zero])
    (try go_frame)
    refine wpAnyL_one (i := 21) (by kernel_rfl) rfl rfl ?_
    go_simp
    refine ⟨KE.out, ?_⟩
    (try go_frame)
    refine wpAnyN_done (by kernel_rfl) ?_
    refine NoPanic.normal ?_
    have HZ : Hid (decide (orZ (cmpZ Ti Tj) (cmpZ (pi : Int) (pj : Int)) < 0) = AB) := HV
    generalize orZ (cmpZ Ti Tj) (cmpZ (pi : Int) (pj : Int)) = Z at HZ ⊢
    go_wp2
    go_ret
    exact ⟨by rw [← HZ.out]; rfl, K5.out.trans KE.out (fun _ _ f => f)⟩
end Go.Proofs.Ytcacoanhiphbiaa.Mg
