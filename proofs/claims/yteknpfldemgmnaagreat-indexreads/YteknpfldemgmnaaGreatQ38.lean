/-
  Xref2.
-/
import Derived.Test.YteknpfldemgmnaaGreatQ34
import Derived.Test.YteknpfldemgmnaaGreatQ37

/-
  The document's own posts.
-/
namespace Go.Proofs.YteknpfldemgmnaaGreat.X
open Go.RowKit Go.Proofs.Lys Go.Maps Go.Proofs.YteknpfldemgmnaaGreat.N
set_option linter.unusedVariables false
set_option linter.unusedSimpArgs false

theorem wp_region_then2 {P : Program} {id : Nat} {ops : Array Oper} {b : Bool} {Q : Exit → Act → World → Prop} {a : Act} {w : World} {A : Nat → Nat → Act} (D : World → Prop)
    (h1 : (Code.region id ops b).wp P (fun e a' w' => e = .normal ∧ ∃ bl br, a' = A bl br ∧ D w') a w) (h2 : ∀ bl br w', D w' → Q .normal (A bl br) w') : (Code.region id ops b).wp P Q a w :=
  Code.wp_mono (fun e a' w' h => by obtain ⟨rfl, bl, br, rfl, hD⟩ := h; exact h2 bl br w' hD) h1
theorem pv_at {w : World} {B g n cap : Nat} {qs : List PV} (h : PvAt w B (.slice (some ⟨g, 0, none⟩) n cap) qs) (k : Nat) (hk : k < qs.length) :
    w.cell? ⟨g, k * 3, none⟩ = some (.string qs[k].lab.1) ∧ w.cell? ⟨g, k * 3 + 1, none⟩ = some (.string qs[k].lab.2) ∧ w.cell? ⟨g, k * 3 + 2, none⟩ = some qs[k].lv := by
  rcases (pv_cells h).len with ⟨a, c, e⟩
  obtain ⟨b, o, e2, h1, h2, h3⟩ := (pv_cells h).cell (by cases e; rfl) k (by cases e; exact hk)
  cases e2
  rw [Nat.zero_add] at h1 h2 h3
  exact ⟨h1, h2, h3⟩
theorem bd_posts (L : List Labs) (k : Nat) (hk : k ≤ L.length) : Bd (postsOf (L.take k)) (sumN (L.take k)) ∧ SortP (postsOf (L.take k)) := by
  induction k with
  | zero => rw [List.take_zero]; exact ⟨bd_nil, List.Pairwise.nil⟩
  | succ k ih =>
    have hlt : k < L.length := hk
    obtain ⟨h1, h2⟩ := ih (by omega)
    rw [posts_take hlt, ← List.take_append_getElem hlt, sumN_app]
    have key : ∀ j, j ≤ L[k].length → Bd (addS (postsOf (L.take k)) (k : Int) (L[k].take j)) (sumN (L.take k) + j) ∧ SortP (addS (postsOf (L.take k)) (k : Int) (L[k].take j)) := fun j => by
      induction j with
      | zero => intro _; exact ⟨h1, h2⟩
      | succ j ihj =>
        intro hj
        obtain ⟨g1, g2⟩ := ihj (by omega)
        rw [addS_take (show j < L[k].length from hj)]
        exact ⟨g1.add g2 _ _, addP_sort _ _ g2⟩
    have := key L[k].length (Nat.le_refl _)
    rw [List.take_length] at this
    exact this
theorem bd_inner (L : List Labs) (k : Nat) (hk : k < L.length) (j : Nat) (hj : j ≤ L[k].length) : Bd (addS (postsOf (L.take k)) (k : Int) (L[k].take j)) (sumN (L.take k) + j) ∧ SortP (addS (postsOf (L.take k)) (k : Int) (L[k].take j)) := by
  obtain ⟨h1, h2⟩ := bd_posts L k (by omega)
  induction j with
  | zero => exact ⟨h1, h2⟩
  | succ j ihj =>
    obtain ⟨g1, g2⟩ := ihj (by omega)
    rw [addS_take (show j < L[k].length from hj)]
    exact ⟨g1.add g2 _ _, addP_sort _ _ g2⟩
theorem sumN_le (L : List Labs) (k : Nat) : sumN (L.take k) ≤ sumN L := by
  induction L generalizing k with
  | nil => simp
  | cons l r ih =>
    cases k with
    | zero => simp [sumN]
    | succ k => rw [List.take_succ_cons, sumN, sumN]; have := ih k; omega
/-- What a label makes of the posts so far. -/
structure StepI (P : Posts) (y : Lab) (i : Int) (qs : List PV) : Prop where
  eq : qs.map postV = P
  len : qs.length ≤ 90000
  each : ∀ q ∈ qs, q.l.length ≤ 100000
theorem step_of {P : Posts} {m : Nat} {qs : List PV} (h : qs.map postV = P) (hb : Bd P m) (hs : SortP P) (hm : m ≤ 90000) (y : Lab) (i : Int) : StepI P y i qs := by
  refine ⟨h, ?_, fun q hq => ?_⟩
  · have := congrArg List.length h
    rw [List.length_map] at this
    have := hb.1
    omega
  · have hm2 : (q.lab, q.l) ∈ P := by rw [← h]; exact List.mem_map.2 ⟨q, hq, rfl⟩
    have h1 := hb.2 q.lab
    rw [look_sorted hs hm2] at h1
    omega
theorem StepI.set {P : Posts} {y : Lab} {i : Int} {qs : List PV} (h : StepI P y i qs) {k : Nat} (hk : k < qs.length) (hlow : ∀ j (hj : j < qs.length), j < k → labC qs[j].lab y = -1) (he : qs[k].lab = y) (u : Value) : (qs.set k ⟨qs[k].lab, u, qs[k].l ++ [i]⟩).map postV = addP y i P := by
  have hl : qs.length = P.length := by have := congrArg List.length h.eq; rw [List.length_map] at this; exact this
  have hat : ∀ j (hj : j < qs.length) (hj' : j < P.length), P[j] = (qs[j].lab, qs[j].l) := fun j hj hj' => by
    have : P[j]? = some (postV qs[j]) := by rw [← h.eq, List.getElem?_map, List.getElem?_eq_getElem hj]; rfl
    rw [List.getElem?_eq_getElem hj'] at this
    exact Option.some.inj this
  rw [postV_set h.eq hk, addP_at P k y i (by omega) (fun j hj hj' => by rw [hat j (by omega) hj']; exact hlow j (by omega) hj) (by rw [hat k hk (by omega)]; exact he), hat k hk (by omega), he]
theorem StepI.ins {P : Posts} {y : Lab} {i : Int} {qs : List PV} (h : StepI P y i qs) {k : Nat} (hk : k ≤ qs.length) (hlow : ∀ j (hj : j < qs.length), j < k → labC qs[j].lab y = -1) (he : ∀ hk : k < qs.length, labC qs[k].lab y = 1) (u : Value) : (qs.take k ++ ⟨y, u, [i]⟩ :: qs.drop k).map postV = addP y i P := by
  have hl : qs.length = P.length := by have := congrArg List.length h.eq; rw [List.length_map] at this; exact this
  have hat : ∀ j (hj : j < qs.length) (hj' : j < P.length), P[j] = (qs[j].lab, qs[j].l) := fun j hj hj' => by
    have : P[j]? = some (postV qs[j]) := by rw [← h.eq, List.getElem?_map, List.getElem?_eq_getElem hj]; rfl
    rw [List.getElem?_eq_getElem hj'] at this
    exact Option.some.inj this
  rw [addP_in P k y i (by omega) (fun j hj hj' => by rw [hat j (by omega) hj']; exact hlow j (by omega) hj) (fun hk' => by rw [hat k (by omega) hk']; exact he (by omega)), List.map_append, List.map_cons, List.map_take, List.map_drop, h.eq]
  rfl

set_option maxRecDepth 100000 in
set_option maxHeartbeats 12800000 in
theorem rposts_any (w : World) (v : Value) (L : List Labs) (hs : LSrc w v L) (hsum : sumN L ≤ 90000) (hlen : L.length ≤ 100000) (hll : ∀ l ∈ L, l.length ≤ 100000) :
    Calls Tryz.prog 15 #[v] w (PostsP w (postsOf L)) := by
  obtain ⟨av, c, rfl⟩ := hs.len
  obtain ⟨N, hN⟩ : ∃ N, L.length = N := ⟨_, rfl⟩
  rw [hN] at hlen hs ⊢
  have HN := hid hN
  have HS := hid hs
  have HLL := hid hll
  have HFIN : Hid (∀ v qs w', PostAt w' w.heap.size v qs → qs.map postV = postsOf L → Kept w w' → PostsP w (postsOf L) (.returned v) w') := fun v qs w' h1 h2 h3 => ⟨v, qs, rfl, h1, h2, h3⟩
  clear hs hN hll
  go_enter Tryz.func15, Tryz.ntmps15
  go_wp2
  go_loopw [3, 4] (fun s3 s4 wr => ∃ (i : Nat) (qs : List PV) (a : Option Addr) (n c : Nat), i ≤ N ∧ s4 = .int .i64 (i : Int) ∧ s3 = .slice a n c ∧ n = qs.length ∧ Hid (PostAt wr w.heap.size (.slice a n c) qs) ∧ Hid (qs.map postV = postsOf (L.take i)) ∧ Kept w wr) (fun _ s4 _ => N - (intOf s4).toNat)
  case atStart => exact ⟨0, [], none, 0, 0, by omega, rfl, rfl, rfl, hid (PostAt.nil _ _), hid (by simp [postsOf, addF]), Only.refl _ _⟩
  case round =>
    obtain ⟨i, qs0, a0, n0, c0, hi, rfl, rfl, hn0, hpo0, hqs0, kr0⟩ := hrel
    by_cases hlt : i < N
    · have hiL : i < L.length := by have := HN.out; omega
      obtain ⟨b, o, a', c', rfl, x0, hls⟩ := HS.out.cell HN.out i hlt
      have HX0 := hid (fun W (k : Kept w W) => cell_kept k x0)
      have HLS := hid hls
      have hNLl := HLL.out L[i] (List.getElem_mem hiL)
      obtain ⟨NL, hNL⟩ : ∃ NL, L[i].length = NL := ⟨_, rfl⟩
      rw [hNL] at HX0 HLS hNLl
      have HNL := hid hNL
      have HTAKE : Hid (addS (postsOf (L.take i)) (i : Int) (L[i].take NL) = postsOf (L.take (i + 1))) := by
        show addS (postsOf (L.take i)) (i : Int) (L[i].take NL) = postsOf (L.take (i + 1))
        rw [posts_take hiL, show L[i].take NL = L[i] from List.take_of_length_le (by omega)]
      have HSTEP : Hid (∀ k (hk : k < NL) qs, qs.map postV = addS (postsOf (L.take i)) (i : Int) (L[i].take k) → ∀ (hkl : k < L[i].length), StepI (addS (postsOf (L.take i)) (i : Int) (L[i].take k)) L[i][k] (i : Int) qs) := fun k hk qs hq hkl => by
        obtain ⟨g1, g2⟩ := bd_inner L i hiL k (by omega)
        have h3 := sumN_le L (i + 1)
        rw [← List.take_append_getElem hiL, sumN_app] at h3
        exact step_of hq g1 g2 (by omega) _ _
      clear x0 hls hNL
      go_wp2_with fail
      go_loopw [3, 5] (fun s3 s5 wr => ∃ (k : Nat) (qs : List PV) (a : Option Addr) (n c : Nat), k ≤ NL ∧ s5 = .int .i64 (k : Int) ∧ s3 = .slice a n c ∧ n = qs.length ∧ Hid (PostAt wr w.heap.size (.slice a n c) qs) ∧ Hid (qs.map postV = addS (postsOf (L.take i)) (i : Int) (L[i].take k)) ∧ Kept w wr) (fun _ s5 _ => NL - (intOf s5).toNat)
      case atStart => exact ⟨0, qs0, a0, n0, c0, by omega, rfl, rfl, hn0, hpo0, hid (by rw [List.take_zero]; exact hqs0.out), kr0⟩
      case round =>
        obtain ⟨k, qs, a1, n1, c1, hk, rfl, rfl, hn1, hpo, hqs, kr⟩ := hrel
        have x1 := HX0.out _ kr
        by_cases hkl : k < NL
        · have hkL : k < L[i].length := by have := HNL.out; omega
          obtain ⟨b2, o2, rfl, y1, y2⟩ := (HLS.out.stay kr).cell HNL.out k hkl
          have HST := hid (HSTEP.out k hkl qs hqs.out hkL)
          have HNEXT : Hid (∀ qs2 : List PV, qs2.map postV = addP L[i][k] (i : Int) (addS (postsOf (L.take i)) (i : Int) (L[i].take k)) → qs2.map postV = addS (postsOf (L.take i)) (i : Int) (L[i].take (k + 1))) := fun qs2 h => by rw [addS_take hkL]; exact h
          clear hqs hpo0 hqs0 kr0 hn0
          have HN1 := hid hn1
          clear hn1
          have hn1b : n1 ≤ 90000 := by have h1 := HST.out.len; have h2 := HN1.out; omega
          generalize L[i][k] = y at y1 y2 HST HNEXT
          obtain ⟨Y1, Y2⟩ := y
          simp only at y1 y2
          have ka : Kept wr (wr.alloc (.cells #[.string Y1, .string Y2] 43)) := (Only.refl _ wr).alloc _
          have hbm := Blk.new wr [.string Y1, .string Y2] 43
          have HBM := hid hbm
          have HPO := hid (hpo.out.stay ka)
          have HK8 := hid (kr.trans ka (fun _ _ f => f))
          have hsz8 : (wr.alloc (.cells #[.string Y1, .string Y2] 43)).heap.size = wr.heap.size + 1 := by simp
          have hszw := kr.size
          clear ka hbm hpo
          go_wp2_with fail
          generalize wr.alloc (.cells #[.string Y1, .string Y2] 43) = w8 at HBM HPO HK8 hsz8 ⊢
          generalize wr.heap.size = B8 at *
          clear kr x1 y1 y2
          go_loopw [7] (fun s7 wr => ∃ t : Nat, t ≤ n1 ∧ s7 = .int .i64 (t : Int) ∧ Hid (∀ j (hj : j < qs.length), j < t → labC qs[j].lab (Y1, Y2) = -1) ∧ Kept w8 wr) (fun s7 _ => n1 - (intOf s7).toNat)
          case atStart => exact ⟨0, by omega, rfl, hid (fun j _ h => by omega), Only.refl _ _⟩
          case round =>
            obtain ⟨t, ht, rfl, hlow, kr3⟩ := hrel
            have K3 := hid kr3
            have bx := K3.out.blk HBM.out (fun f => f)
            have z0 := bx.cell 0 rfl
            have z1 := bx.cell 1 rfl
            by_cases htn : t < n1
            · have htq : t < qs.length := by have := HN1.out; omega
              obtain ⟨g, cap, eg⟩ := ownN_some HPO.out.row (by omega)
              simp only [Value.slice.injEq] at eg
              have eg1 := eg.1
              clear eg
              subst eg1
              obtain ⟨p0, p1, p2⟩ := pv_at (HPO.out.stay kr3).row t htq
              obtain ⟨r, hr⟩ : ∃ r, labC qs[t].lab (Y1, Y2) = r := ⟨_, rfl⟩
              have HR := hid hr
              have hrr := labC_good.rng qs[t].lab (Y1, Y2)
              rw [hr] at hrr
              have HLAB := hid (show labC qs[t].lab (Y1, Y2) = 0 → qs[t].lab = (Y1, Y2) from labC_good.zero _ _)
              have hn := fun W => eql_lab qs[t].lab (Y1, Y2) W
              have HCMP := hid (fun W va vb (h1 : LabSrc W va [qs[t].lab]) (h2 : LabSrc W vb [(Y1, Y2)]) => rcmp_any W va vb _ _ h1 h2 (by simp) (by simp))
              rw [cmpL_one, hr] at HCMP
              have HDL := hid (show decide (qs[t].lab = (Y1, Y2)) = true ↔ qs[t].lab = (Y1, Y2) from decide_eq_true_iff)
              clear hr
              generalize hXX : qs[t].lab = XX at p0 p1 hn HCMP HLAB HR HDL
              have HXX := hid hXX
              clear hXX
              obtain ⟨X1, X2⟩ := XX
              simp only at p0 p1 hn
              go_wp2_with fail
              have S0 := hid (fun (W : World) (kW : Kept wr W) => (show W.cell? ⟨g, t * 3, none⟩ = some (.string X1) ∧ W.cell? ⟨g, t * 3 + 1, none⟩ = some (.string X2) ∧ W.cell? ⟨B8, 0, none⟩ = some (.string Y1) ∧ W.cell? ⟨B8, 1, none⟩ = some (.string Y2) from ⟨cell_kept kW p0, cell_kept kW p1, cell_kept kW z0, cell_kept kW z1⟩))
              have K0 := hid (show Kept wr wr.drew from (Only.refl _ _).drew)
              have dtn : decide ((t : Int) < (n1 : Int)) = true := decide_eq_true (by omega)
              clear p0 p1 p2 z0 z1 bx kr3
              have GOAL := True.intro
              apply wp_region_then2 (D := fun X5 => Kept wr X5)
              case h1 =>
                refine wp_region_noPanic ?_
                refine wp_region_last (L := 1000) (S := fun w' => Kept wr w') (by kernel_rfl) ?_
                refine wpAnyN_take (i := 0) (v := .int .i64 (t : Int)) rfl (by kernel_rfl) (by kernel_rfl) (by kernel_rfl) (by decide) (by kernel_rfl) (fun _ _ _ h => h) (Or.inl ⟨by kernel_rfl, ?_⟩) K0.out ?_
                · (intro w' hSw; obtain ⟨s0, s1, s2, s3⟩ := S0.out w' hSw; clear hSw; go_simp)
                (try simp only [List.getElem_toArray, List.getElem_cons_succ, List.getElem_cons_zero])
                go_frame
                refine wpAnyN_take (i := 1) (v := .slice (some ⟨g, 0, none⟩) n1 c1) rfl (by kernel_rfl) (by kernel_rfl) (by kernel_rfl) (by decide) (by kernel_rfl) (fun _ _ _ h => h) (Or.inl ⟨by kernel_rfl, ?_⟩) K0.out ?_
                · (intro w' hSw; obtain ⟨s0, s1, s2, s3⟩ := S0.out w' hSw; clear hSw; go_simp)
                (try simp only [List.getElem_toArray, List.getElem_cons_succ, List.getElem_cons_zero])
                go_frame
                refine wpAnyN_take (i := 2) (v := .int .i64 (n1 : Int)) rfl (by kernel_rfl) (by kernel_rfl) (by kernel_rfl) (by decide) (by kernel_rfl) (fun _ _ _ h => h) (Or.inl ⟨by kernel_rfl, ?_⟩) K0.out ?_
                · (intro w' hSw; obtain ⟨s0, s1, s2, s3⟩ := S0.out w' hSw; clear hSw; go_simp)
                (try simp only [List.getElem_toArray, List.getElem_cons_succ, List.getElem_cons_zero])
                go_frame
                refine wpAnyN_take (i := 3) (v := .bool true) rfl (by kernel_rfl) (by kernel_rfl) (by kernel_rfl) (by decide) (by kernel_rfl) (fun _ _ _ h => h) (Or.inl ⟨by kernel_rfl, ?_⟩) K0.out ?_
                · (intro w' hSw; obtain ⟨s0, s1, s2, s3⟩ := S0.out w' hSw; clear hSw; go_simp)
                (try simp only [List.getElem_toArray, List.getElem_cons_succ, List.getElem_cons_zero])
                go_frame
                refine wpAnyN_take (i := 4) (v := .bool true) rfl (by kernel_rfl) (by kernel_rfl) (by kernel_rfl) (by decide) (by kernel_rfl) (fun _ _ _ h => h) (Or.inl ⟨by kernel_rfl, ?_⟩) K0.out ?_
                · (intro w' hSw; obtain ⟨s0, s1, s2, s3⟩ := S0.out w' hSw; clear hSw; go_simp)
                (try simp only [List.getElem_toArray, List.getElem_cons_succ, List.getElem_cons_zero])
                go_frame
                refine wpAnyN_take (i := 5) (v := .slice (some ⟨g, 0, none⟩) n1 c1) rfl (by kernel_rfl) (by kernel_rfl) (by kernel_rfl) (by decide) (by kernel_rfl) (fun _ _ _ h => h) (Or.inl ⟨by kernel_rfl, ?_⟩) K0.out ?_
                · (intro w' hSw; obtain ⟨s0, s1, s2, s3⟩ := S0.out w' hSw; clear hSw; go_simp)
                (try simp only [List.getElem_toArray, List.getElem_cons_succ, List.getElem_cons_zero])
                go_frame
                refine wpAnyN_take (i := 6) (v := .int .i64 (t : Int)) rfl (by kernel_rfl) (by kernel_rfl) (by kernel_rfl) (by decide) (by kernel_rfl) (fun _ _ _ h => h) (Or.inl ⟨by kernel_rfl, ?_⟩) K0.out ?_
                · (intro w' hSw; obtain ⟨s0, s1, s2, s3⟩ := S0.out w' hSw; clear hSw; go_simp)
                (try simp only [List.getElem_toArray, List.getElem_cons_succ, List.getElem_cons_zero])
                go_frame
                refine wpAnyN_take (i := 7) (v := .pointer (some ⟨g, t * 3, none⟩)) rfl (by kernel_rfl) (by kernel_rfl) (by kernel_rfl) (by decide) (by kernel_rfl) (fun _ _ _ h => h) (Or.inl ⟨by kernel_rfl, ?_⟩) K0.out ?_
                · (intro w' hSw; obtain ⟨s0, s1, s2, s3⟩ := S0.out w' hSw; clear hSw; go_simp)
                (try simp only [List.getElem_toArray, List.getElem_cons_succ, List.getElem_cons_zero])
                go_frame
                refine wpAnyN_take (i := 8) (v := .pointer (some ⟨g, t * 3, none⟩)) rfl (by kernel_rfl) (by kernel_rfl) (by kernel_rfl) (by decide) (by kernel_rfl) (fun _ _ _ h => h) (Or.inl ⟨by kernel_rfl, ?_⟩) K0.out ?_
                · (intro w' hSw; obtain ⟨s0, s1, s2, s3⟩ := S0.out w' hSw; clear hSw; go_simp)
                (try simp only [List.getElem_toArray, List.getElem_cons_succ, List.getElem_cons_zero])
                go_frame
                refine wpAnyN_take (i := 9) (v := .agg #[.string X1, .string X2]) rfl (by kernel_rfl) (by kernel_rfl) (by kernel_rfl) (by decide) (by kernel_rfl) (fun _ _ _ h => h) (Or.inl ⟨by kernel_rfl, ?_⟩) K0.out ?_
                · (intro w' hSw; obtain ⟨s0, s1, s2, s3⟩ := S0.out w' hSw; clear hSw; go_simp)
                (try simp only [List.getElem_toArray, List.getElem_cons_succ, List.getElem_cons_zero])
                go_frame
                refine wpAnyN_take (i := 11) (v := .agg #[.string Y1, .string Y2]) rfl (by kernel_rfl) (by kernel_rfl) (by kernel_rfl) (by decide) (by kernel_rfl) (fun _ _ _ h => h) (Or.inl ⟨by kernel_rfl, ?_⟩) K0.out ?_
                · (intro w' hSw; obtain ⟨s0, s1, s2, s3⟩ := S0.out w' hSw; clear hSw; go_simp)
                (try simp only [List.getElem_toArray, List.getElem_cons_succ, List.getElem_cons_zero])
                go_frame
                refine wpAnyL_two (i := 10) (j := 12) (by kernel_rfl) rfl rfl (by kernel_rfl) (by kernel_rfl) ?_ ?_
                · go_simp
                  have KA := hid (show Kept wr (wr.drew.alloc (.cells #[.string X1, .string X2] 43)) from K0.out.alloc _)
                  refine ⟨KA.out, ?_⟩
                  (try go_frame)
                  refine wpAnyL_one (i := 12) (by kernel_rfl) rfl (by kernel_rfl) ?_
                  go_simp
                  have K6 := hid (show Kept wr ((wr.drew.alloc (.cells #[.string X1, .string X2] 43)).alloc (.cells #[.string Y1, .string Y2] 43)) from KA.out.alloc _)
                  refine ⟨K6.out, ?_⟩
                  (try go_frame)
                  have h1 : LabSrc ((wr.drew.alloc (.cells #[.string X1, .string X2] 43)).alloc (.cells #[.string Y1, .string Y2] 43)) (.slice (some ⟨wr.heap.size, 0, none⟩) 1 1) [(X1, X2)] := (lab_lit wr.drew (X1, X2)).stay ((Only.refl _ _).alloc _)
                  have h2 : LabSrc ((wr.drew.alloc (.cells #[.string X1, .string X2] 43)).alloc (.cells #[.string Y1, .string Y2] 43)) (.slice (some ⟨wr.heap.size + 1, 0, none⟩) 1 1) [(Y1, Y2)] := by
                    have := lab_lit (wr.drew.alloc (.cells #[.string X1, .string X2] 43)) (Y1, Y2)
                    simpa using this
                  have H1 := hid h1
                  have H2 := hid h2
                  clear h1 h2
                  refine wpAnyL_one (i := 13) (by kernel_rfl) rfl (by kernel_rfl) ?_
                  go_simp
                  refine (HCMP.out _ _ _ (H1.out) (H2.out)).mono ?_
                  rintro e X7 ⟨rfl, k7⟩
                  have K7 := hid (show Kept wr X7 from K6.out.trans k7 (fun _ _ f => f))
                  clear k7
                  refine ⟨K7.out, ?_⟩
                  (try go_frame)
                  refine wpAnyL_one (i := 14) (by kernel_rfl) rfl (by kernel_rfl) ?_
                  go_simp
                  refine ⟨K7.out, ?_⟩
                  (try go_frame)
                  refine wpAnyL_one (i := 15) (by kernel_rfl) rfl (by kernel_rfl) ?_
                  go_simp
                  refine ⟨K7.out, ?_⟩
                  (try go_frame)
                  refine wpAnyN_done (by kernel_rfl) ?_
                  refine NoPanic.normal ?_
                  generalize wr.heap.size + 1 = br
                  generalize wr.heap.size = bl
                  exact ⟨rfl, ⟨bl, br, rfl⟩, K7.out⟩
                · go_simp
                  have KA := hid (show Kept wr (wr.drew.alloc (.cells #[.string Y1, .string Y2] 43)) from K0.out.alloc _)
                  refine ⟨KA.out, ?_⟩
                  (try go_frame)
                  refine wpAnyL_one (i := 10) (by kernel_rfl) rfl (by kernel_rfl) ?_
                  go_simp
                  have K6 := hid (show Kept wr ((wr.drew.alloc (.cells #[.string Y1, .string Y2] 43)).alloc (.cells #[.string X1, .string X2] 43)) from KA.out.alloc _)
                  refine ⟨K6.out, ?_⟩
                  (try go_frame)
                  have h1 : LabSrc ((wr.drew.alloc (.cells #[.string Y1, .string Y2] 43)).alloc (.cells #[.string X1, .string X2] 43)) (.slice (some ⟨wr.heap.size, 0, none⟩) 1 1) [(Y1, Y2)] := (lab_lit wr.drew (Y1, Y2)).stay ((Only.refl _ _).alloc _)
                  have h2 : LabSrc ((wr.drew.alloc (.cells #[.string Y1, .string Y2] 43)).alloc (.cells #[.string X1, .string X2] 43)) (.slice (some ⟨wr.heap.size + 1, 0, none⟩) 1 1) [(X1, X2)] := by
                    have := lab_lit (wr.drew.alloc (.cells #[.string Y1, .string Y2] 43)) (X1, X2)
                    simpa using this
                  have H1 := hid h1
                  have H2 := hid h2
                  clear h1 h2
                  refine wpAnyL_one (i := 13) (by kernel_rfl) rfl (by kernel_rfl) ?_
                  go_simp
                  refine (HCMP.out _ _ _ (H2.out) (H1.out)).mono ?_
                  rintro e X7 ⟨rfl, k7⟩
                  have K7 := hid (show Kept wr X7 from K6.out.trans k7 (fun _ _ f => f))
                  clear k7
                  refine ⟨K7.out, ?_⟩
                  (try go_frame)
                  refine wpAnyL_one (i := 14) (by kernel_rfl) rfl (by kernel_rfl) ?_
                  go_simp
                  refine ⟨K7.out, ?_⟩
                  (try go_frame)
                  refine wpAnyL_one (i := 15) (by kernel_rfl) rfl (by kernel_rfl) ?_
                  go_simp
                  refine ⟨K7.out, ?_⟩
                  (try go_frame)
                  refine wpAnyN_done (by kernel_rfl) ?_
                  refine NoPanic.normal ?_
                  first | exact ⟨rfl, ⟨_, _, rfl⟩, K7.out⟩ | exact ⟨rfl, _, _, rfl, K7.out⟩ | exact ⟨rfl, K7.out⟩ | trace_state
              case h2 =>
                intro bl br X5 hD
                have K5a := hid hD
                have K5 := hid (show Kept w8 X5 from K3.out.trans hD (fun _ _ f => f))
                obtain ⟨p0, p1, z0, z1⟩ := S0.out X5 hD
                clear hD
                rcases hrr with rfl | rfl | rfl
                · have HL1 : Hid (∀ j (hj : j < qs.length), j < t + 1 → labC qs[j].lab (Y1, Y2) = -1) := fun j hj h => by
                    by_cases e : j = t
                    · subst e
                      rw [HXX.out]
                      exact HR.out
                    · exact hlow.out j hj (by omega)
                  clear hn p0 p1 z0 z1
                  go_wp2_with fail
                  go_roundw
                  case rel => exact ⟨t + 1, by omega, by go_num, HL1, K5.out⟩
                  case measure => simp [intOf]; omega
                · have hXY := HLAB.out HR.out
                  rw [HDL.out.2 hXY] at hn
                  have HXY := hid hXY
                  clear hXY
                  go_wp2_with fail
                  go_quiet (fail)
                  have K6 := hid (show Kept w8 (X5.drewN nq) from kept_drewN K5.out nq)
                  generalize X5.drewN nq = X6 at K6 ⊢
                  clear p0 p1 z0 z1 hn
                  have bx6 := K6.out.blk HBM.out (fun f => f)
                  have z0 := bx6.cell 0 rfl
                  have z1 := bx6.cell 1 rfl
                  clear bx6
                  obtain ⟨_, _, p2⟩ := pv_at (HPO.out.stay K6.out).row t htq
                  have hst := set_rows (k := t) (by rw [← HN1.out]; exact HPO.out.stay K6.out) (by have := K6.out.size; omega) htq (HST.out.each _ (List.getElem_mem htq)) (i : Int)
                  rw [← HN1.out] at hst
                  obtain ⟨la, lc, w9, v9, e9, hr9, ⟨a9, m9, c9, rfl⟩, hf9, ⟨u9, hc9⟩, hfin9⟩ := hst
                  have HQ := hid (HNEXT.out _ (HST.out.set htq hlow.out (by rw [HXX.out]; exact HXY.out) (.slice a9 m9 c9)))
                  have HK9 := hid (show Kept w (w9.setCell ⟨g, t * 3 + 2, none⟩ (.slice a9 m9 c9)) from (HK8.out.trans K6.out (fun _ _ f => f)).trans hfin9.out.2 (fun j hj e => by omega))
                  have HLQ : Hid (n1 = (qs.set t ⟨qs[t].lab, .slice a9 m9 c9, qs[t].l ++ [(i : Int)]⟩).length) := by rw [List.length_set]; exact HN1
                  rw [e9] at p2
                  generalize qs[t].l.length = m8 at p2 hr9
                  clear e9 z0 z1
                  go_wp2_with (at_builtin; refine Lys.wpList_append_run rfl _ _ _ rfl rfl rfl hr9 ?_)
                  go_wp2_with fail
                  go_roundw
                  case rel => exact ⟨k + 1, _, some ⟨g, 0, none⟩, n1, c1, by omega, by go_num, rfl, HLQ.out, hfin9.out.1, HQ, HK9.out⟩
                  case measure => simp [intOf]; omega
                · have hXY : ¬ (X1, X2) = (Y1, Y2) := fun e => by
                    have h1 := HR.out
                    rw [e] at h1
                    have := labC_good.self (Y1, Y2)
                    omega
                  rw [decide_eq_false hXY] at hn
                  have HNE : Hid (∀ h : t < qs.length, labC qs[t].lab (Y1, Y2) = 1) := fun h => by rw [HXX.out]; exact HR.out
                  clear hXY
                  go_wp2_with fail
                  go_quiet (fail)
                  have K6 := hid (show Kept w8 (X5.drewN nq) from kept_drewN K5.out nq)
                  generalize X5.drewN nq = X6 at K6 ⊢
                  clear p0 p1 z0 z1 hn
                  have bx6 := K6.out.blk HBM.out (fun f => f)
                  have z0 := bx6.cell 0 rfl
                  have z1 := bx6.cell 1 rfl
                  clear bx6
                  have hins := ins_rows (HPO.out.stay K6.out) (by have := K6.out.size; omega) (by have := HST.out.len; omega) t (by have := HN1.out; omega) (Y1, Y2) (i : Int)
                  rw [← HN1.out] at hins
                  obtain ⟨b1, b2, d2, b3, c3, w2, c4, w3, b5, c5, w4, hs1, hs2, hr3, hr4, hr5, hp4, hk4, hk2, hk23, hk24⟩ := hins
                  have HQ := hid (HNEXT.out _ (HST.out.ins (k := t) (by have := HN1.out; omega) hlow.out HNE.out (.slice (some ⟨w2.heap.size, 0, none⟩) 1 1)))
                  have HK9 := hid (show Kept w w4 from (HK8.out.trans K6.out (fun _ _ f => f)).trans hk4.out (fun _ _ f => f))
                  have HLQ : Hid (n1 + 1 = (qs.take t ++ (⟨(Y1, Y2), .slice (some ⟨w2.heap.size, 0, none⟩) 1 1, [(i : Int)]⟩ : PV) :: qs.drop t).length) := by
                    rw [List.length_append, List.length_cons, List.length_take, List.length_drop]
                    exact hid (by have := HN1.out; omega)
                  have S0i := hid (fun (W : World) (kW : Kept w2 W) => (show W.cell? ⟨B8, 0, none⟩ = some (.string Y1) ∧ W.cell? ⟨B8, 1, none⟩ = some (.string Y2) from ⟨cell_kept (hk2.out.trans kW (fun _ _ f => f)) z0, cell_kept (hk2.out.trans kW (fun _ _ f => f)) z1⟩))
                  generalize n1 - t = m3 at hs2 hr3 hr5
                  have sl2 := hs2.out
                  go_wp2_with (at_builtin; refine Lys.wpList_append_run rfl _ _ _ rfl rfl rfl hr3 ?_)
                  (try go_wp2_with fail)
                  clear sl2 z0 z1
                  have K0i := hid (show Kept w2 w2.drew from (Only.refl _ _).drew)
                  refine wp_region_noPanic ?_
                  refine wp_region_last (L := 1000) (S := fun w' => Kept w2 w') (by kernel_rfl) ?_
                  refine wpAnyN_take (i := 0) (v := .slice (some ⟨g, 0, none⟩) n1 c1) rfl (by kernel_rfl) (by kernel_rfl) (by kernel_rfl) (by decide) (by kernel_rfl) (fun _ _ _ h => h) (Or.inl ⟨by kernel_rfl, ?_⟩) K0i.out ?_
                  · (intro w' hSw; obtain ⟨s0, s1⟩ := S0i.out w' hSw; have sl := hs1.out; clear hSw; go_simp)
                  (try simp only [List.getElem_toArray, List.getElem_cons_succ, List.getElem_cons_zero])
                  go_frame
                  refine wpAnyN_take (i := 1) (v := .int .i64 (t : Int)) rfl (by kernel_rfl) (by kernel_rfl) (by kernel_rfl) (by decide) (by kernel_rfl) (fun _ _ _ h => h) (Or.inl ⟨by kernel_rfl, ?_⟩) K0i.out ?_
                  · (intro w' hSw; obtain ⟨s0, s1⟩ := S0i.out w' hSw; have sl := hs1.out; clear hSw; go_simp)
                  (try simp only [List.getElem_toArray, List.getElem_cons_succ, List.getElem_cons_zero])
                  go_frame
                  refine wpAnyN_take (i := 2) (v := .int .i64 (t : Int)) rfl (by kernel_rfl) (by kernel_rfl) (by kernel_rfl) (by decide) (by kernel_rfl) (fun _ _ _ h => h) (Or.inl ⟨by kernel_rfl, ?_⟩) K0i.out ?_
                  · (intro w' hSw; obtain ⟨s0, s1⟩ := S0i.out w' hSw; have sl := hs1.out; clear hSw; go_simp)
                  (try simp only [List.getElem_toArray, List.getElem_cons_succ, List.getElem_cons_zero])
                  go_frame
                  refine wpAnyN_take (i := 3) (v := .slice b1 t t) rfl (by kernel_rfl) (by kernel_rfl) (by kernel_rfl) (by decide) (by kernel_rfl) (fun _ _ _ h => h) (Or.inl ⟨by kernel_rfl, ?_⟩) K0i.out ?_
                  · (intro w' hSw; obtain ⟨s0, s1⟩ := S0i.out w' hSw; have sl := hs1.out; clear hSw; go_simp)
                  (try simp only [List.getElem_toArray, List.getElem_cons_succ, List.getElem_cons_zero])
                  go_frame
                  refine wpAnyN_take (i := 4) (v := .agg #[.string Y1, .string Y2]) rfl (by kernel_rfl) (by kernel_rfl) (by kernel_rfl) (by decide) (by kernel_rfl) (fun _ _ _ h => h) (Or.inl ⟨by kernel_rfl, ?_⟩) K0i.out ?_
                  · (intro w' hSw; obtain ⟨s0, s1⟩ := S0i.out w' hSw; have sl := hs1.out; clear hSw; go_simp)
                  (try simp only [List.getElem_toArray, List.getElem_cons_succ, List.getElem_cons_zero])
                  go_frame
                  refine wpAnyN_take (i := 5) (v := .int .i64 (i : Int)) rfl (by kernel_rfl) (by kernel_rfl) (by kernel_rfl) (by decide) (by kernel_rfl) (fun _ _ _ h => h) (Or.inl ⟨by kernel_rfl, ?_⟩) K0i.out ?_
                  · (intro w' hSw; obtain ⟨s0, s1⟩ := S0i.out w' hSw; have sl := hs1.out; clear hSw; go_simp)
                  (try simp only [List.getElem_toArray, List.getElem_cons_succ, List.getElem_cons_zero])
                  go_frame
                  refine wpAnyN_take (i := 10) (v := .slice b3 m3 c3) rfl (by kernel_rfl) (by kernel_rfl) (by kernel_rfl) (by decide) (by kernel_rfl) (fun _ _ _ h => h) (Or.inl ⟨by kernel_rfl, ?_⟩) K0i.out ?_
                  · (intro w' hSw; obtain ⟨s0, s1⟩ := S0i.out w' hSw; have sl := hs1.out; clear hSw; go_simp)
                  (try simp only [List.getElem_toArray, List.getElem_cons_succ, List.getElem_cons_zero])
                  go_frame
                  refine wpAnyL_one (i := 6) (by kernel_rfl) rfl (by kernel_rfl) ?_
                  go_simp
                  have KA := hid (show Kept w2 (w2.drew.alloc (.cells #[.int .i64 (i : Int)] 3)) from K0i.out.alloc _)
                  refine ⟨KA.out, ?_⟩
                  (try go_frame)
                  refine wpAnyL_one (i := 7) (by kernel_rfl) rfl (by kernel_rfl) ?_
                  go_simp
                  refine ⟨KA.out, ?_⟩
                  (try go_frame)
                  refine wpAnyL_one (i := 8) (by kernel_rfl) rfl (by kernel_rfl) ?_
                  go_simp
                  have KB := hid (show Kept w2 ((w2.drew.alloc (.cells #[.int .i64 (i : Int)] 3)).alloc (.cells #[.string Y1, .string Y2, .slice (some ⟨w2.heap.size, 0, none⟩) 1 1] 65)) from KA.out.alloc _)
                  refine ⟨KB.out, ?_⟩
                  (try go_frame)
                  refine wpAnyL_one (i := 9) (by kernel_rfl) rfl (by kernel_rfl) (oper_appendH _ _ _ rfl rfl rfl hr4 ?_)
                  refine ⟨hk23.out, ?_⟩
                  (try go_frame)
                  refine wpAnyL_one (i := 11) (by kernel_rfl) rfl (by kernel_rfl) (oper_appendH _ _ _ rfl rfl rfl hr5 ?_)
                  refine ⟨hk24.out, ?_⟩
                  (try go_frame)
                  refine wpAnyL_one (i := 12) (by kernel_rfl) rfl (by kernel_rfl) ?_
                  go_simp
                  refine ⟨hk24.out, ?_⟩
                  (try go_frame)
                  refine wpAnyN_done (by kernel_rfl) ?_
                  refine NoPanic.normal ?_
                  go_wp2_with fail
                  go_roundw
                  case rel => exact ⟨k + 1, _, b5, n1 + 1, c5, by omega, by go_num, rfl, HLQ.out, hp4, HQ, HK9.out⟩
                  case measure => simp [intOf]; omega
            · obtain rfl : t = n1 := by omega
              go_wp2_with fail
              go_quiet (fail)
              have K5 := hid (show Kept w8 (wr.drewN nq) from kept_drewN kr3 nq)
              generalize wr.drewN nq = X5 at K5 ⊢
              clear z0 z1 bx kr3
              have bx := K5.out.blk HBM.out (fun f => f)
              have z0 := bx.cell 0 rfl
              have z1 := bx.cell 1 rfl
              clear bx
              have HNE : Hid (∀ h : t < qs.length, labC qs[t].lab (Y1, Y2) = 1) := fun h => by have := HN1.out; omega
              go_wp2_with fail
              go_quiet (fail)
              have K6 := hid (show Kept w8 (X5.drewN nq) from kept_drewN K5.out nq)
              generalize X5.drewN nq = X6 at K6 ⊢
              clear z0 z1
              have bx6 := K6.out.blk HBM.out (fun f => f)
              have z0 := bx6.cell 0 rfl
              have z1 := bx6.cell 1 rfl
              clear bx6
              have hins := ins_rows (HPO.out.stay K6.out) (by have := K6.out.size; omega) (by have := HST.out.len; omega) t (by have := HN1.out; omega) (Y1, Y2) (i : Int)
              rw [← HN1.out] at hins
              obtain ⟨b1, b2, d2, b3, c3, w2, c4, w3, b5, c5, w4, hs1, hs2, hr3, hr4, hr5, hp4, hk4, hk2, hk23, hk24⟩ := hins
              have HQ := hid (HNEXT.out _ (HST.out.ins (k := t) (by have := HN1.out; omega) hlow.out HNE.out (.slice (some ⟨w2.heap.size, 0, none⟩) 1 1)))
              have HK9 := hid (show Kept w w4 from (HK8.out.trans K6.out (fun _ _ f => f)).trans hk4.out (fun _ _ f => f))
              have HLQ : Hid (t + 1 = (qs.take t ++ (⟨(Y1, Y2), .slice (some ⟨w2.heap.size, 0, none⟩) 1 1, [(i : Int)]⟩ : PV) :: qs.drop t).length) := by
                rw [List.length_append, List.length_cons, List.length_take, List.length_drop]
                exact hid (by have := HN1.out; omega)
              have S0i := hid (fun (W : World) (kW : Kept w2 W) => (show W.cell? ⟨B8, 0, none⟩ = some (.string Y1) ∧ W.cell? ⟨B8, 1, none⟩ = some (.string Y2) from ⟨cell_kept (hk2.out.trans kW (fun _ _ f => f)) z0, cell_kept (hk2.out.trans kW (fun _ _ f => f)) z1⟩))
              generalize t - t = m3 at hs2 hr3 hr5
              have sl2 := hs2.out
              go_wp2_with (at_builtin; refine Lys.wpList_append_run rfl _ _ _ rfl rfl rfl hr3 ?_)
              (try go_wp2_with fail)
              clear sl2 z0 z1
              have K0i := hid (show Kept w2 w2.drew from (Only.refl _ _).drew)
              refine wp_region_noPanic ?_
              refine wp_region_last (L := 1000) (S := fun w' => Kept w2 w') (by kernel_rfl) ?_
              refine wpAnyN_take (i := 0) (v := .slice a1 t c1) rfl (by kernel_rfl) (by kernel_rfl) (by kernel_rfl) (by decide) (by kernel_rfl) (fun _ _ _ h => h) (Or.inl ⟨by kernel_rfl, ?_⟩) K0i.out ?_
              · (intro w' hSw; obtain ⟨s0, s1⟩ := S0i.out w' hSw; have sl := hs1.out; clear hSw; go_simp)
              (try simp only [List.getElem_toArray, List.getElem_cons_succ, List.getElem_cons_zero])
              go_frame
              refine wpAnyN_take (i := 1) (v := .int .i64 (t : Int)) rfl (by kernel_rfl) (by kernel_rfl) (by kernel_rfl) (by decide) (by kernel_rfl) (fun _ _ _ h => h) (Or.inl ⟨by kernel_rfl, ?_⟩) K0i.out ?_
              · (intro w' hSw; obtain ⟨s0, s1⟩ := S0i.out w' hSw; have sl := hs1.out; clear hSw; go_simp)
              (try simp only [List.getElem_toArray, List.getElem_cons_succ, List.getElem_cons_zero])
              go_frame
              refine wpAnyN_take (i := 2) (v := .int .i64 (t : Int)) rfl (by kernel_rfl) (by kernel_rfl) (by kernel_rfl) (by decide) (by kernel_rfl) (fun _ _ _ h => h) (Or.inl ⟨by kernel_rfl, ?_⟩) K0i.out ?_
              · (intro w' hSw; obtain ⟨s0, s1⟩ := S0i.out w' hSw; have sl := hs1.out; clear hSw; go_simp)
              (try simp only [List.getElem_toArray, List.getElem_cons_succ, List.getElem_cons_zero])
              go_frame
              refine wpAnyN_take (i := 3) (v := .slice b1 t t) rfl (by kernel_rfl) (by kernel_rfl) (by kernel_rfl) (by decide) (by kernel_rfl) (fun _ _ _ h => h) (Or.inl ⟨by kernel_rfl, ?_⟩) K0i.out ?_
              · (intro w' hSw; obtain ⟨s0, s1⟩ := S0i.out w' hSw; have sl := hs1.out; clear hSw; go_simp)
              (try simp only [List.getElem_toArray, List.getElem_cons_succ, List.getElem_cons_zero])
              go_frame
              refine wpAnyN_take (i := 4) (v := .agg #[.string Y1, .string Y2]) rfl (by kernel_rfl) (by kernel_rfl) (by kernel_rfl) (by decide) (by kernel_rfl) (fun _ _ _ h => h) (Or.inl ⟨by kernel_rfl, ?_⟩) K0i.out ?_
              · (intro w' hSw; obtain ⟨s0, s1⟩ := S0i.out w' hSw; have sl := hs1.out; clear hSw; go_simp)
              (try simp only [List.getElem_toArray, List.getElem_cons_succ, List.getElem_cons_zero])
              go_frame
              refine wpAnyN_take (i := 5) (v := .int .i64 (i : Int)) rfl (by kernel_rfl) (by kernel_rfl) (by kernel_rfl) (by decide) (by kernel_rfl) (fun _ _ _ h => h) (Or.inl ⟨by kernel_rfl, ?_⟩) K0i.out ?_
              · (intro w' hSw; obtain ⟨s0, s1⟩ := S0i.out w' hSw; have sl := hs1.out; clear hSw; go_simp)
              (try simp only [List.getElem_toArray, List.getElem_cons_succ, List.getElem_cons_zero])
              go_frame
              refine wpAnyN_take (i := 10) (v := .slice b3 m3 c3) rfl (by kernel_rfl) (by kernel_rfl) (by kernel_rfl) (by decide) (by kernel_rfl) (fun _ _ _ h => h) (Or.inl ⟨by kernel_rfl, ?_⟩) K0i.out ?_
              · (intro w' hSw; obtain ⟨s0, s1⟩ := S0i.out w' hSw; have sl := hs1.out; clear hSw; go_simp)
              (try simp only [List.getElem_toArray, List.getElem_cons_succ, List.getElem_cons_zero])
              go_frame
              refine wpAnyL_one (i := 6) (by kernel_rfl) rfl (by kernel_rfl) ?_
              go_simp
              have KA := hid (show Kept w2 (w2.drew.alloc (.cells #[.int .i64 (i : Int)] 3)) from K0i.out.alloc _)
              refine ⟨KA.out, ?_⟩
              (try go_frame)
              refine wpAnyL_one (i := 7) (by kernel_rfl) rfl (by kernel_rfl) ?_
              go_simp
              refine ⟨KA.out, ?_⟩
              (try go_frame)
              refine wpAnyL_one (i := 8) (by kernel_rfl) rfl (by kernel_rfl) ?_
              go_simp
              have KB := hid (show Kept w2 ((w2.drew.alloc (.cells #[.int .i64 (i : Int)] 3)).alloc (.cells #[.string Y1, .string Y2, .slice (some ⟨w2.heap.size, 0, none⟩) 1 1] 65)) from KA.out.alloc _)
              refine ⟨KB.out, ?_⟩
              (try go_frame)
              refine wpAnyL_one (i := 9) (by kernel_rfl) rfl (by kernel_rfl) (oper_appendH _ _ _ rfl rfl rfl hr4 ?_)
              refine ⟨hk23.out, ?_⟩
              (try go_frame)
              refine wpAnyL_one (i := 11) (by kernel_rfl) rfl (by kernel_rfl) (oper_appendH _ _ _ rfl rfl rfl hr5 ?_)
              refine ⟨hk24.out, ?_⟩
              (try go_frame)
              refine wpAnyL_one (i := 12) (by kernel_rfl) rfl (by kernel_rfl) ?_
              go_simp
              refine ⟨hk24.out, ?_⟩
              (try go_frame)
              refine wpAnyN_done (by kernel_rfl) ?_
              refine NoPanic.normal ?_
              go_wp2_with fail
              go_roundw
              case rel => exact ⟨k + 1, _, b5, t + 1, c5, by omega, by go_num, rfl, HLQ.out, hp4, HQ, HK9.out⟩
              case measure => simp [intOf]; omega
        · obtain rfl : k = NL := by omega
          have HPP := hid (show qs.map postV = postsOf (L.take (i + 1)) from hqs.out.trans HTAKE.out)
          go_wp2_with fail
          go_roundw
          case rel => exact ⟨i + 1, qs, a1, n1, c1, by omega, by go_num, rfl, hn1, hpo, HPP, kr⟩
          case measure => simp [intOf]; omega
    · obtain rfl : i = N := by omega
      have HF := hid (HFIN.out (.slice a0 n0 c0) qs0 wr hpo0.out (by rw [hqs0.out, List.take_of_length_le (by have := HN.out; omega)]) kr0)
      clear hpo0 hqs0 kr0
      go_wp2
      go_ret
      exact HF.out
end Go.Proofs.YteknpfldemgmnaaGreat.X
