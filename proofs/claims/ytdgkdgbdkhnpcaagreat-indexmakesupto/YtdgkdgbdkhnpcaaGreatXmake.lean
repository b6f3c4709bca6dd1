/-
  Make.
-/
import Derived.Test.YtdgkdgbdkhnpcaaGreatXlook
namespace Go.Proofs.YtdgkdgbdkhnpcaaGreat.X
open Go.RowKit Go.Proofs.Lys Go.Maps Go.Proofs.YtdgkdgbdkhnpcaaGreat.N
set_option linter.unusedVariables false
set_option linter.unusedSimpArgs false

theorem mkNo (p q : Addr) (w : World) :
    CallsD Tryz.prog 22 #[.pointer (some p), .pointer (some q)] .returning w fun e u' w' => e = .returned (.tuple #[]) ∧ u' = .returning ∧ w' = w := by
  refine callsD_of_wpS Tryz.func22 rfl fun c₀ cs hu => ?_
  apply wpS_seq
  apply wpS_region
  simp [wpOpsS, go_sem, recoverD, hu, Tryz.ntmps22, Exit.thenS]
  apply wpS_seq
  apply wpS_region
  simp [wpOpsS, go_sem, Exit.thenS]
  refine wpS_cond (t := false) (by simp [Act.eval, Array.replicate]) ?_
  simp only [Bool.false_eq_true, if_false]
  refine wpS_of_wp (wp_skip ?_)
  cases c₀
  simp_all [bodyPostS, results, Tryz.results22]

set_option maxHeartbeats 800000 in
theorem mkUp (p q : Nat) (x : Value) (y n : Int) (w : World) (hp : Blk w p [x] 28) (hq : Blk w q [.int .i64 y] 29) :
    CallsD Tryz.prog 22 #[.pointer (some ⟨p, 0, none⟩), .pointer (some ⟨q, 0, none⟩)] (.panicking [{ v := .iface 29 (.int .i64 n), recovered := false }]) w fun e u' w' =>
      e = .returned (.tuple #[]) ∧ u' = .panicking [{ v := .iface 29 (.int .i64 n), recovered := true }] ∧ Only (fun k => k = p ∨ k = q) w w' ∧ Blk w' p [.pointer none] 28 ∧ Blk w' q [.int .i64 n] 29 := by
  have hne : p ≠ q := hp.ne hq (by decide)
  have c0 := hp.cell 0 rfl
  have f0 := hp.frozen 0
  have hp1 := hp.set 0 (.pointer none)
  have hq1 := hq.other (a := ⟨p, 0, none⟩) (fun e => hne e.symm) (.pointer none)
  have d0 := hq1.cell 0 rfl
  have g0 := hq1.frozen 0
  have HF := hid (show Only (fun k => k = p ∨ k = q) w ((w.setCell ⟨p, 0, none⟩ (.pointer none)).setCell ⟨q, 0, none⟩ (.int .i64 n)) ∧ Blk ((w.setCell ⟨p, 0, none⟩ (.pointer none)).setCell ⟨q, 0, none⟩ (.int .i64 n)) p [.pointer none] 28 ∧ Blk ((w.setCell ⟨p, 0, none⟩ (.pointer none)).setCell ⟨q, 0, none⟩ (.int .i64 n)) q [.int .i64 n] 29 from
    ⟨((Only.refl (fun k => k = p ∨ k = q) w).setCell (p := ⟨p, 0, none⟩) (fun _ => .inl rfl) _).setCell (p := ⟨q, 0, none⟩) (fun _ => .inr rfl) _, hp1.other (a := ⟨q, 0, none⟩) hne _, hq1.set 0 _⟩)
  have hta : ∀ w, (Instr.typeAssert (.iface 29 (.int .i64 n)) 20 29 false).run Tryz.prog w = .ok (.int .i64 n) w := by
    intro w
    simp [Instr.typeAssert, run_underlying Tryz.underlying29, Result.andThen]
  clear hp1 hq1
  refine callsD_of_wpS Tryz.func22 rfl fun c₀ cs hu => ?_
  apply wpS_seq
  apply wpS_region
  simp [wpOpsS, go_sem, recoverD, hu, Tryz.ntmps22, Exit.thenS]
  apply wpS_seq
  apply wpS_region
  simp [wpOpsS, go_sem, Exit.thenS]
  refine wpS_cond (t := true) (by simp [Act.eval, Array.replicate]) ?_
  simp only [if_true]
  refine wpS_of_wp ?_
  go_wp2_with fail
  refine (show Code.wp _ _ _ ⟨#[.pointer (some ⟨p, 0, none⟩), .pointer (some ⟨q, 0, none⟩), .iface 29 (.int .i64 n), .iface 29 (.int .i64 n), .iface 29 (.int .i64 n), .bool true, undef, undef], []⟩ _ from ?_)
  refine wp_region_noPanic ?_
  refine wp_region_last (L := 3) (S := fun _ => True) (by kernel_rfl) ?_
  refine wpAnyL_take (i := 0) (v := .iface 29 (.int .i64 n)) rfl (by kernel_rfl) (by kernel_rfl) (by kernel_rfl) (by kernel_rfl) (by kernel_rfl) (fun _ _ _ h => h) (Or.inl ⟨by rfl, ?_⟩) trivial ?_
  · (intro w' hSw; go_simp)
  (try simp only [List.getElem_toArray, List.getElem_cons_succ, List.getElem_cons_zero])
  go_frame
  refine wpAnyL_take (i := 1) (v := .int .i64 n) rfl (by kernel_rfl) (by kernel_rfl) (by kernel_rfl) (by kernel_rfl) (by kernel_rfl) (fun _ _ _ h => h) (Or.inl ⟨by rfl, ?_⟩) trivial ?_
  · (intro w' hSw; go_simp)
  (try simp only [List.getElem_toArray, List.getElem_cons_succ, List.getElem_cons_zero])
  go_frame
  refine wpAnyL_one (i := 2) (by kernel_rfl) rfl rfl ?_
  go_simp
  (try go_frame)
  generalize w.setCell ⟨p, 0, none⟩ (.pointer none) = w1 at d0 g0 HF ⊢
  refine wpAnyL_last (by kernel_rfl) (by kernel_rfl) rfl rfl ?_
  go_simp
  refine NoPanic.normal ?_
  go_wp2_with fail
  refine ⟨rfl, _, rfl, .tuple #[], by simp [results, Tryz.results22], rfl, rfl, HF.out.1.drew, HF.out.2.1.drew, HF.out.2.2.drew⟩

theorem kept_cell {w W : World} (k : Kept w W) {a : Addr} {u : Value} (h : w.cell? a = some u) : W.cell? a = some u := by
  rw [World.cell?_of_block (w := w) (w' := W) (a := a) (k.block a.block (World.block_lt_of_cell? w a h) (fun f => f))]
  exact h
/-- How much posts are. -/
def Bd (P : Posts) (m : Nat) : Prop := P.length ≤ m ∧ ∀ x, (lookP P x).length ≤ m
theorem Bd.add {P : Posts} {m : Nat} (h : Bd P m) (hs : SortP P) (x : Lab) (i : Int) : Bd (addP x i P) (m + 1) := by
  refine ⟨?_, fun y => ?_⟩
  · have h1 := (add_perm x i hs).length_eq
    have h2 := List.length_filter_le (fun p : Post => !decide (p.1 = x)) P
    have h3 := h.1
    rw [List.length_cons] at h1
    omega
  · rw [look_add hs]
    have h1 := h.2 x
    have h2 := h.2 y
    split
    · rw [List.length_append, List.length_singleton]
      omega
    · omega
theorem bd_nil : Bd [] 0 := ⟨Nat.le_refl _, fun _ => Nat.le_refl _⟩
theorem Bd.mono {P : Posts} {m n : Nat} (h : Bd P m) (hm : m ≤ n) : Bd P n := ⟨by have := h.1; omega, fun x => by have := h.2 x; omega⟩

/-- The index while it is made. -/
structure MkI (w : World) (N : Nat) (P : Posts) (m XB : Nat) (x : IxC) (wr : World) : Prop where
  at_ : IxAt wr x (fun k => w.heap.size + 2 ≤ k ∧ k < wr.heap.size)
  is : Is x P
  bd : Bd P m
  xb : x.xb = XB
  n : x.n = N
  bp : Blk wr w.heap.size [.pointer (some ⟨XB, 0, none⟩)] 28
  bq : Blk wr (w.heap.size + 1) [.int .i64 0] 29
  kept : Kept w wr
theorem MkI.stay {w wr w' : World} {N m XB : Nat} {P : Posts} {x : IxC} (h : MkI w N P m XB x wr) (k : Kept wr w') : MkI w N P m XB x w' where
  at_ := (h.at_.stay k).weak (fun j hj => ⟨hj.1, by have := k.size; omega⟩) (fun j hj => hj.2)
  is := h.is
  bd := h.bd
  xb := h.xb
  n := h.n
  bp := k.blk h.bp (fun f => f)
  bq := k.blk h.bq (fun f => f)
  kept := h.kept.trans k (fun _ _ f => f)
theorem MkI.put {w wr w' : World} {N m XB : Nat} {P : Posts} {x : IxC} (h : MkI w N P m XB x wr) {y : Lab} {i : Int} {c : Sl} (hp : IxAt w' (putC x y i (lookP P y) c) (OX (fun k => w.heap.size + 2 ≤ k ∧ k < wr.heap.size) wr w')) (ho : Only (fun k => w.heap.size + 2 ≤ k ∧ k < wr.heap.size) wr w') :
    MkI w N (addP y i P) (m + 1) XB (putC x y i (lookP P y) c) w' where
  at_ := hp.weak (fun j hj => by
    have h1 := ho.size
    have h2 := h.kept.size
    have h3 := h.bq.lt
    rcases hj with e | e <;> omega) (fun j hj => hj.2)
  is := put_is h.is y i c
  bd := h.bd.add h.is.sort y i
  xb := h.xb
  n := h.n
  bp := ho.blk h.bp (fun e => by omega)
  bq := ho.blk h.bq (fun e => by omega)
  kept := h.kept.trans ho (fun j hj e => by omega)

theorem mk_start {w w1 : World} {N : Nat} (k1 : Kept w w1) (bp : Blk w1 w.heap.size [.pointer none] 28) (bq : Blk w1 (w.heap.size + 1) [.int .i64 0] 29) :
    MkI w N [] 0 (w1.heap.size + 1) ⟨w1.heap.size + 1, w1.heap.size, N, [], []⟩ (((w1.setCell ⟨w.heap.size, 0, none⟩ (.pointer (some ⟨w1.heap.size + 1, 0, none⟩))).alloc (.map #[] 0)).alloc (.cells #[.int .i64 (N : Int), .map (some w1.heap.size)] 59)) := by
  have e1 : (w1.setCell ⟨w.heap.size, 0, none⟩ (.pointer (some ⟨w1.heap.size + 1, 0, none⟩))).heap.size = w1.heap.size := by simp
  have hm := World.ownsMap_made (w1.setCell ⟨w.heap.size, 0, none⟩ (.pointer (some ⟨w1.heap.size + 1, 0, none⟩))) Tryz.prog 27 slE
  rw [e1] at hm
  have hx := Blk.new ((w1.setCell ⟨w.heap.size, 0, none⟩ (.pointer (some ⟨w1.heap.size + 1, 0, none⟩))).alloc (.map #[] 0)) [.int .i64 (N : Int), .map (some w1.heap.size)] 59
  have e2 : ((w1.setCell ⟨w.heap.size, 0, none⟩ (.pointer (some ⟨w1.heap.size + 1, 0, none⟩))).alloc (.map #[] 0)).heap.size = w1.heap.size + 1 := by simp
  rw [e2] at hx
  have hlt := bq.lt
  have ks : Kept w (w1.setCell ⟨w.heap.size, 0, none⟩ (.pointer (some ⟨w1.heap.size + 1, 0, none⟩))) := k1.setCell (p := ⟨w.heap.size, 0, none⟩) (fun h => absurd h (Nat.lt_irrefl _)) _
  refine ⟨⟨hx, hm.alloc _, .refl _, (fun e he => by cases he), .nil, .nil, (fun e he => by cases he), ?_, fun k hk => hk.2⟩, ⟨.refl _, .nil⟩, bd_nil, rfl, rfl, ?_, ?_, (ks.alloc _).alloc _⟩
  · rintro k (e | e | ⟨s, hs, _⟩)
    · rw [e]
      have := hx.lt
      exact ⟨by show w.heap.size + 2 ≤ w1.heap.size + 1; omega, this⟩
    · rw [e]
      have := hx.lt
      exact ⟨by show w.heap.size + 2 ≤ w1.heap.size; omega, by show w1.heap.size < _; omega⟩
    · cases hs
  · exact ((bp.set 0 _).alloc _).alloc _
  · exact ((bq.other (a := ⟨w.heap.size, 0, none⟩) (by show w.heap.size + 1 ≠ w.heap.size; omega) _).alloc _).alloc _
theorem posts_take {L : List Labs} {k : Nat} (hk : k < L.length) : postsOf (L.take (k + 1)) = addS (postsOf (L.take k)) (k : Int) L[k] := by
  rw [List.take_succ_eq_append_getElem hk, postsOf_snoc, List.length_take, Nat.min_eq_left (by omega)]
theorem addS_take {P : Posts} {i : Int} {l : Labs} {j : Nat} (hj : j < l.length) : addS P i (l.take (j + 1)) = addP l[j] i (addS P i (l.take j)) := by
  rw [List.take_succ_eq_append_getElem hj, addS_snoc]

/-- What Make leaves. -/
structure Made_ (w : World) (L : List Labs) (x : IxC) (w' : World) : Prop where
  at_ : IxAt w' x (fun k => w.heap.size ≤ k ∧ k < w'.heap.size)
  is : Is x (postsOf L)
  bd : Bd (postsOf L) 16000
  n : x.n = L.length
def MakeP (w : World) (L : List Labs) (e : Ending) (w' : World) : Prop :=
  ((checkI L = 0 ∧ ∃ x, e = .returned (.tuple #[.pointer (some ⟨x.xb, 0, none⟩), .int .i64 0]) ∧ Made_ w L x w') ∨ (checkI L ≠ 0 ∧ e = .returned (.tuple #[.pointer none, .int .i64 (checkI L)]))) ∧ Kept w w'

set_option maxRecDepth 100000 in
set_option maxHeartbeats 6400000 in
theorem make_ix (w : World) (v : Value) (L : List Labs) (hs : LSrc w v L) (hl : L.length ≤ 100000) (hB : OkS L) :
    Calls Tryz.prog 8 #[v] w (MakeP w L) := by
  have hmf : ∀ (fn : Fn) (first cap : Array Value) (w : World), (Instr.makeFunc fn first cap).run Tryz.prog w = .ok (.func fn first cap) w := fun _ _ _ _ => rfl
  obtain ⟨w0, hw0⟩ : ∃ w0, w0 = (w.alloc (.cells #[.pointer none] 28)).alloc (.cells #[.int .i64 0] 29) := ⟨_, rfl⟩
  have k0 : Kept w w0 := by rw [hw0]; exact ((Only.refl _ w).alloc _).alloc _
  have bp : Blk w0 w.heap.size [.pointer none] 28 := by rw [hw0]; exact (Blk.new w _ _).alloc _
  have bq : Blk w0 (w.heap.size + 1) [.int .i64 0] 29 := by
    rw [hw0]
    have := Blk.new (w.alloc (.cells #[.pointer none] 28)) [.int .i64 0] 29
    simpa using this
  have HLK := hid (look_any w0 v L (hs.stay k0) hl hB)
  obtain ⟨av, c, rfl⟩ := hs.len
  obtain ⟨N, hN⟩ : ∃ N, L.length = N := ⟨_, rfl⟩
  rw [hN] at hl hs HLK ⊢
  have HN := hid hN
  have HS := hid hs
  have HB := hid hB
  have HK0 := hid k0
  have HP := hid bp
  have HQ := hid bq
  clear hs hB hN k0 bp bq
  go_enter_defers Tryz.func8, Tryz.ntmps8
  go_wp2_with fail
  rw [← hw0]
  clear hw0
  refine HLK.out.mono ?_
  rintro e w1 ⟨hA, k1⟩
  have HP1 := hid (Only.blk k1 HP.out (fun f => f))
  have HQ1 := hid (Only.blk k1 HQ.out (fun f => f))
  have HK1 := hid (HK0.out.trans k1 (fun _ _ f => f))
  clear k1 HLK
  rcases hA with ⟨rfl, hc⟩ | ⟨hc, rfl⟩
  · have HC := hid hc
    have y0 := HP1.out.cell 0 rfl
    have g0 := HP1.out.frozen 0
    have hlt := HP1.out.lt
    have hmk : ∀ W : World, (Instr.makeMap 57 none).run Tryz.prog W = .ok (.map (some W.heap.size)) (W.alloc (.map #[] 0)) := fun W => by kernel_rfl
    have HZ := check_zero.1 hc
    have hN1 : N ≤ 1000 := by have := HZ.1; have := HN.out; omega
    have HMD := hid HZ.2.1
    have HST := hid (mk_start (N := N) HK1.out HP1.out HQ1.out)
    clear HZ hc
    go_wp2_with fail
    generalize (((w1.setCell ⟨w.heap.size, 0, none⟩ (.pointer (some ⟨w1.heap.size + 1, 0, none⟩))).alloc (.map #[] 0)).alloc (.cells #[.int .i64 (N : Int), .map (some w1.heap.size)] 59)) = w2 at HST ⊢
    generalize w1.heap.size + 1 = XB at HST ⊢
    generalize (Value.map (some w1.heap.size)) = UM
    clear y0 g0 hlt hmk HP1 HQ1 HP HQ
    go_loopw [18] (fun s18 wr => ∃ (k : Nat) (x : IxC), k ≤ N ∧ s18 = .int .i64 (k : Int) ∧ MkI w N (postsOf (L.take k)) (16 * k) XB x wr) (fun s18 _ => N - (intOf s18).toNat)
    case atStart => exact ⟨0, _, by omega, rfl, by rw [List.take_zero]; exact HST.out⟩
    case round =>
      obtain ⟨k, x, hk, rfl, hI⟩ := hrel
      have HI := hid hI
      clear hI HST
      by_cases hlt : k < N
      · have hkL : k < L.length := by have := HN.out; omega
        obtain ⟨b, o, a', c', rfl, x0, hls⟩ := (HS.out.stay HI.out.kept).cell HN.out k hlt
        have hM := HMD.out L[k] (List.getElem_mem hkL)
        have HB1 := hid (HB.out L[k] (List.getElem_mem hkL))
        have HT := hid (posts_take hkL)
        obtain ⟨NL, hNL⟩ : ∃ NL, L[k].length = NL := ⟨_, rfl⟩
        have h16 := hM.len16
        rw [hNL] at x0 hls h16
        have HNL := hid hNL
        have HLS := hid (show LabSrc w (.slice a' NL c') L[k] from by
          have := (HS.out.cell HN.out k hlt)
          obtain ⟨b2, o2, a2, c2, e2, x2, hl2⟩ := this
          cases e2
          have h3 := kept_cell HI.out.kept x2
          rw [x0] at h3
          cases h3
          rw [hNL] at hl2
          exact hl2)
        clear hls hM hNL
        go_wp2_with fail
        go_loopw [25] (fun s25 wq => ∃ (j : Nat) (x : IxC), j ≤ NL ∧ s25 = .int .i64 (j : Int) ∧ MkI w N (addS (postsOf (L.take k)) (k : Int) (L[k].take j)) (16 * k + j) XB x wq) (fun s25 _ => NL - (intOf s25).toNat)
        case atStart => exact ⟨0, x, by omega, rfl, by rw [List.take_zero]; exact HI.out⟩
        case round =>
          obtain ⟨j, x, hj, rfl, hI2⟩ := hrel
          have HI2 := hid hI2
          clear hI2
          by_cases hlt2 : j < NL
          · have hjL : j < L[k].length := by have := HNL.out; omega
            obtain ⟨b2, o2, rfl, x2, y2⟩ := (HLS.out.stay HI2.out.kept).cell HNL.out j hlt2
            have hy := HB1.out.2 L[k][j] (List.getElem_mem hjL)
            have HA := hid (addS_take (P := postsOf (L.take k)) (i := (k : Int)) hjL)
            generalize L[k][j] = yl at x2 y2 hy HA
            obtain ⟨X, Y⟩ := yl
            have I1 := HI2.out.stay ((Only.refl (fun _ => False) _).alloc (.cells #[.string X, .string Y] 27))
            have z0 := I1.bp.cell 0 rfl
            have z1 := HI2.out.bp.cell 0 rfl
            have zl := HI2.out.bp.lt
            have hpt := put_any I1.at_ I1.is (X, Y) hy (k : Int) (by have h1 := I1.at_.kvLen; have h2 := I1.is.len; have h3 := I1.bd.1; omega) (by have h3 := I1.bd.2 (X, Y); omega)
            rw [I1.xb] at hpt
            have HPT := hid hpt
            have HI1 := hid I1
            clear hpt I1
            go_wp2_with fail
            refine HPT.out.mono ?_
            rintro e w3 ⟨cc, rfl, hx3, ho3⟩
            have HN3 := hid (HI1.out.put hx3 ho3)
            clear hx3 ho3 HPT
            go_wp2_with fail
            go_roundw
            case rel => exact ⟨j + 1, _, by omega, by go_num, by rw [HA.out]; exact HN3.out⟩
            case measure => simp [intOf]; omega
          · obtain rfl : j = NL := by omega
            have HN3 : Hid (MkI w N (postsOf (L.take (k + 1))) (16 * (k + 1)) XB x _) := hid (by
              have h1 := HI2.out
              rw [List.take_of_length_le (l := L[k]) (by have := HNL.out; omega), ← HT.out] at h1
              exact ⟨h1.at_, h1.is, h1.bd.mono (by omega), h1.xb, h1.n, h1.bp, h1.bq, h1.kept⟩)
            go_wp2_with fail
            go_roundw
            case rel => exact ⟨k + 1, x, by omega, by go_num, HN3.out⟩
            case measure => simp [intOf]; omega
      · obtain rfl : k = N := by omega
        have hF := HI.out
        rw [List.take_of_length_le (l := L) (by have := HN.out; omega)] at hF
        have c1 := hF.bp.cell 0 rfl
        have f1 := hF.bp.frozen 0
        have c2 := (hF.bq.other (a := ⟨w.heap.size, 0, none⟩) (by show w.heap.size + 1 ≠ w.heap.size; omega) (.pointer (some ⟨XB, 0, none⟩))).cell 0 rfl
        have f2 := (hF.bq.other (a := ⟨w.heap.size, 0, none⟩) (by show w.heap.size + 1 ≠ w.heap.size; omega) (.pointer (some ⟨XB, 0, none⟩))).frozen 0
        have d2 := hF.bq.cell 0 rfl
        have e2 := hF.bq.frozen 0
        have HF := hid hF
        clear hF HI
        go_wp2_with fail
        refine leaves_cons (f := 22) (args := #[.pointer (some ⟨w.heap.size, 0, none⟩), .pointer (some ⟨w.heap.size + 1, 0, none⟩)]) (by simp) (by simp [go_sem]) ?_
        refine (mkNo _ _ _).mono ?_
        rintro e u' w'' ⟨rfl, rfl, rfl⟩
        have hO : Only (fun j => j = w.heap.size ∨ j = w.heap.size + 1) wr ((wr.setCell ⟨w.heap.size, 0, none⟩ (.pointer (some ⟨XB, 0, none⟩))).setCell ⟨w.heap.size + 1, 0, none⟩ (.int .i64 0)) := ((Only.refl _ wr).setCell (fun _ => .inl rfl) _).setCell (fun _ => .inr rfl) _
        have hp3 := ((HF.out.bp.set 0 (.pointer (some ⟨XB, 0, none⟩))).other (a := ⟨w.heap.size + 1, 0, none⟩) (by simp) (.int .i64 0)).cell 0 rfl
        have hq3 := ((HF.out.bq.other (a := ⟨w.heap.size, 0, none⟩) (by simp) (.pointer (some ⟨XB, 0, none⟩))).set 0 (.int .i64 0)).cell 0 rfl
        have hat := (HF.out.at_.only hO (fun j hj e => by omega)).weak (O' := fun j => w.heap.size ≤ j ∧ j < ((wr.setCell ⟨w.heap.size, 0, none⟩ (.pointer (some ⟨XB, 0, none⟩))).setCell ⟨w.heap.size + 1, 0, none⟩ (.int .i64 0)).heap.size) (fun j hj => ⟨by omega, by simp; omega⟩) (fun j hj => hj.2)
        have hkk : Kept w ((wr.setCell ⟨w.heap.size, 0, none⟩ (.pointer (some ⟨XB, 0, none⟩))).setCell ⟨w.heap.size + 1, 0, none⟩ (.int .i64 0)) := HF.out.kept.trans hO (fun j hj e => by omega)
        have hxb := HF.out.xb
        simp [Leaves, settle, results, Tryz.results8, go_sem, hp3, hq3]
        refine ⟨.inl ⟨HC.out, x, by rw [hxb], ⟨hat, HF.out.is, HF.out.bd.mono (by omega), by rw [HF.out.n, HN.out]⟩⟩, hkk⟩
  · have HC := hid hc
    clear hc
    generalize hck : checkI L = ck
    have HCK := hid hck
    clear hck
    refine leaves_cons (f := 22) (args := #[.pointer (some ⟨w.heap.size, 0, none⟩), .pointer (some ⟨w.heap.size + 1, 0, none⟩)]) (by simp) (by simp [go_sem]) ?_
    refine (mkUp _ _ _ 0 ck _ HP1.out HQ1.out).mono ?_
    rintro e u' w'' ⟨rfl, rfl, hk2, hp2, hq2⟩
    have hp3 := hp2.cell 0 rfl
    have hq3 := hq2.cell 0 rfl
    simp [Leaves, settle, results, Tryz.results8, go_sem, hp3, hq3]
    exact ⟨.inr ⟨HC.out, by rw [HCK.out]⟩, HK1.out.trans hk2 (fun j hj e => by omega)⟩
end Go.Proofs.YtdgkdgbdkhnpcaaGreat.X
