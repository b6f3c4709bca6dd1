/-
  Kpacked, Kpk, Kun, Kread, Kun2, Kchs, Kspan.
-/
import Derived.Test.YtllfanlhgnkcfaaGreatDoorQ37
import Derived.Test.YtllfanlhgnkcfaaGreatDoorQ41
import Derived.Test.YtllfanlhgnkcfaaGreatDoorQ42
import Derived.Test.YtllfanlhgnkcfaaGreatDoorQ30
import Derived.Test.YtllfanlhgnkcfaaGreatDoorQ34
import Derived.Test.YtllfanlhgnkcfaaGreatDoorQ24
import Derived.Test.YtllfanlhgnkcfaaGreatDoorQ44
namespace Go.Proofs.YtllfanlhgnkcfaaGreatDoor.K
open Go.RowKit Go.Proofs.Lys Go.Maps Go.Shelf
open Go.Proofs.YtllfanlhgnkcfaaGreatDoor.N (ownN_slice ownN_lt ownN_only ownN_stay ownN_base ownN_typed ownN_some)
open Go.Proofs.YtllfanlhgnkcfaaGreatDoor.C (oper_append_run)
set_option linter.unusedVariables false
set_option linter.unusedSimpArgs false
attribute [local go_sem] Oper.semAt_some
def headB (l : List Ser) : List UInt8 := [76, 89, 83, 49] ++ putN (U.zigN (spanB l).1) ++ putN (U.zigN (spanB l).2) ++ putN (U.uN (l.length : Int))
theorem body_head (l : List Ser) : bodyB l = headB l ++ l.flatMap serB := rfl
structure PkI (w : World) (l : List Ser) (D bb : Nat) (r : Loop) (i : Nat) (W : World) : Prop where
 rcd : W.heap[D + 1]? = some (.loop r)
 def_ : W.heap[D]? = some (.deferred (some []))
 kept : Kept w W
 box : ∃ a n c, Blk W bb [.slice a n c] 28 ∧ BytAt W w.heap.size (.slice a n c) (headB l ++ (l.take i).flatMap serB) ∧ (Value.slice a n c).ownBlock ≠ some (D + 2)
theorem span_in {l : List Ser} (h : ∀ s ∈ l, s.2 ≠ [] ∧ ∀ x ∈ s.2, -9007199254740992 ≤ x.1 ∧ x.1 ≤ 9007199254740992) : ∀ p : Int × Int, (-9007199254740993 ≤ p.1 ∧ p.1 ≤ 9007199254740993 ∧ -9007199254740993 ≤ p.2 ∧ p.2 ≤ 9007199254740993) → (-9007199254740993 ≤ (l.foldl spanS p).1 ∧ (l.foldl spanS p).1 ≤ 9007199254740993 ∧ -9007199254740993 ≤ (l.foldl spanS p).2 ∧ (l.foldl spanS p).2 ≤ 9007199254740993) := by
 induction l with
 | nil => intro p hp; exact hp
 | cons s r ih =>
  intro p hp
  rw [List.foldl_cons]
  refine ih (fun s' hs' => h s' (List.mem_cons_of_mem _ hs')) _ ?_
  obtain ⟨h1, h2⟩ := h s (List.mem_cons_self ..)
  have hpos := List.length_pos_iff.2 h1
  have a1 := h2 _ (List.getElem_mem hpos)
  have a2 := h2 _ (List.getElem_mem (show s.2.length - 1 < s.2.length by omega))
  unfold spanS firstT lastT
  rw [first_at hpos, first_at (by omega)]
  simp only
  omega
theorem span_bounds {l : List Ser} (h : ∀ s ∈ l, s.2 ≠ [] ∧ ∀ x ∈ s.2, -9007199254740992 ≤ x.1 ∧ x.1 ≤ 9007199254740992) : U.In64 (spanB l).1 ∧ U.In64 (spanB l).2 := by
 cases l with
 | nil => exact ⟨by constructor <;> decide, by constructor <;> decide⟩
 | cons s r =>
  obtain ⟨h1, h2⟩ := h s (List.mem_cons_self ..)
  have hpos := List.length_pos_iff.2 h1
  have a1 := h2 _ (List.getElem_mem hpos)
  have a2 := h2 _ (List.getElem_mem (show s.2.length - 1 < s.2.length by omega))
  have := span_in (fun s' hs' => h s' (List.mem_cons_of_mem _ hs')) (firstT s, lastT s + 1) (by unfold firstT lastT; rw [first_at hpos, first_at (by omega)]; simp only; omega)
  have e : spanB (s :: r) = r.foldl spanS (firstT s, lastT s + 1) := rfl
  rw [e]
  constructor <;> constructor <;> omega
theorem zig_lt {x : Int} (h : U.In64 x) : U.zigN x < 18446744073709551616 := by
 unfold U.zigN
 have := h.1
 have := h.2
 split <;> omega
set_option maxRecDepth 100000 in
set_option maxHeartbeats 6400000 in
theorem packed_any (w : World) (v : Value) (l : List Ser) (hs : SerIn w v l) (hl : l.length ≤ 1000) (hG : ∀ i (h : i < l.length), Fit (prevL l i) l[i]) (hB : ∀ s ∈ l, s.1.length ≤ 100000 ∧ N.Small s.1 ∧ s.2.length ≤ 80000) (hT : G.Tab w) (htot : (bodyB l).length ≤ 9500000) :
  Calls Tryz.prog 24 #[v] w fun e w' => ∃ u, e = .returned u ∧ BytAt w' w.heap.size u (blockB l) ∧ Kept w w' := by
 have hFit : ∀ s ∈ l, s.2 ≠ [] ∧ S.Rising (s.2.map (·.1)) := fun s hs => by
  obtain ⟨i, hi, rfl⟩ := List.getElem_of_mem hs
  exact ⟨(hG i hi).some, (times_iff _).1 (hG i hi).times⟩
 have hTm : ∀ s ∈ l, s.2 ≠ [] ∧ ∀ x ∈ s.2, -9007199254740992 ≤ x.1 ∧ x.1 ≤ 9007199254740992 := fun s hs => ⟨(hFit s hs).1, fun x hx => by
  obtain ⟨i, hi, rfl⟩ := List.getElem_of_mem hx
  have := (hFit s hs).2.at (i := i) (by rw [List.length_map]; exact hi)
  rw [List.getElem_map] at this
  exact this⟩
 have hsb := span_bounds hTm
 have HSPN := hid (span_any w v l hs hl (fun s hs => ⟨(hTm s hs).1, by have := (hB s hs).2.2; omega, (hTm s hs).2⟩))
 have HSG1 := hid (fun W => U.signed_any W (spanB l).1 hsb.1)
 have HSG2 := hid (fun W => U.signed_any W (spanB l).2 hsb.2)
 have HPUT := hid (fun W => U.put_any W (l.length : Int))
 have hz1 := putN_ten (zig_lt hsb.1)
 have hz2 := putN_ten (zig_lt hsb.2)
 have hz3 := putN_ten (U.uN_lt (l.length : Int))
 obtain ⟨a, c, rfl⟩ := hs.len
 have HHB : Hid (headB l = [76, 89, 83, 49] ++ putN (U.zigN (spanB l).1) ++ putN (U.zigN (spanB l).2) ++ putN (U.uN (l.length : Int))) := hid rfl
 obtain ⟨N, hN⟩ : ∃ N, l.length = N := ⟨_, rfl⟩
 rw [hN] at hs hl HSPN HPUT hz3 HHB ⊢
 have HS := hid hs
 have HN := hid hN
 have HFIT := hid hFit
 have HBB := hid hB
 have HT := hid hT
 have HTOT := hid htot
 obtain ⟨SF, hSF⟩ : ∃ x, (spanB l).1 = x := ⟨_, rfl⟩
 obtain ⟨ST, hST⟩ : ∃ x, (spanB l).2 = x := ⟨_, rfl⟩
 rw [hSF] at HSPN HSG1 hz1 HHB
 rw [hST] at HSPN HSG2 hz2 HHB
 obtain ⟨L1, hL1⟩ : ∃ x, putN (U.zigN SF) = x := ⟨_, rfl⟩
 obtain ⟨L2, hL2⟩ : ∃ x, putN (U.zigN ST) = x := ⟨_, rfl⟩
 obtain ⟨L3, hL3⟩ : ∃ x, putN (U.uN (N : Int)) = x := ⟨_, rfl⟩
 rw [hL1] at HSG1 hz1 HHB
 rw [hL2] at HSG2 hz2 HHB
 rw [hL3] at HPUT hz3 HHB
 clear hs hN hFit hTm hsb hB hG hT htot hL1 hL2 hL3 hSF hST
 refine calls_of_wpF (n := 3) Tryz.func24 rfl ?_
 simp only [Tryz.ntmps24, List.size_toArray, List.length_cons, List.length_nil, Nat.reduceAdd, Nat.reduceSub, Array.replicate_succ, Array.replicate_zero, List.push_toArray, List.append_toArray, List.nil_append, List.cons_append]
 refine wpF_seq (wpF_of ?_)
 go_wp2_with fail
 refine wpF_seq (wpF_of ?_)
 go_wp2_with fail
 refine HSPN.out.mono ?_
 rintro e w1 ⟨rfl, k1⟩
 have K1 := hid k1
 clear k1 HSPN
 go_wp2_with fail
 have hcv := Lib.run_convert_bytes_const (P := Tryz.prog) w1 28 5 #[.int .u8 76, .int .u8 89, .int .u8 83, .int .u8 49] 4 4 Tryz.underlying28 Tryz.underlying5
 obtain ⟨wL, hwL⟩ : ∃ wL, w1.alloc (.cells #[.int .u8 76, .int .u8 89, .int .u8 83, .int .u8 49] 5 (4, 5)) = wL := ⟨_, rfl⟩
 have hkL : Kept w1 wL := by rw [← hwL]; exact (Only.refl _ w1).alloc _
 have hmk : SrcOf wL (.slice (some ⟨w1.heap.size, 0, none⟩) 4 4) (([76, 89, 83, 49] : List UInt8).map bV) := by
  rw [← hwL]
  exact (G.lit_bsrc [76, 89, 83, 49] w1 (vs := #[.int .u8 76, .int .u8 89, .int .u8 83, .int .u8 49]) (fz := (4, 5)) rfl).1
 have KL := hid (K1.out.trans hkL (fun _ _ f => f))
 obtain ⟨BM, hBM⟩ : ∃ b, w1.heap.size = b := ⟨_, rfl⟩
 rw [hBM] at hmk hcv
 have HMK := hid hmk
 simp only [Array.size, List.length_cons, List.length_nil, Nat.reduceAdd] at hcv
 rw [hwL] at hcv
 clear hkL hmk K1
 refine wpF_seq (wpF_of ?_)
 go_wp2_with fail
 clear hwL hBM
 refine (HSG1.out wL).mono ?_
 rintro e w2 ⟨u2, rfl, hu2, k2⟩
 obtain ⟨a2, c2, he2⟩ := ownN_slice hu2
 have HU2 := hid (own_src hu2)
 have HM2 := hid (HMK.out.stay k2)
 have K2 := hid (KL.out.trans k2 (fun _ _ f => f))
 generalize L1.length = N1 at he2
 subst he2
 clear hu2 k2 HMK KL
 go_wp2_with fail
 refine (HSG2.out w2).mono ?_
 rintro e w3 ⟨u3, rfl, hu3, k3⟩
 obtain ⟨a3, c3, he3⟩ := ownN_slice hu3
 have HU3 := hid (own_src hu3)
 have HM3 := hid (HM2.out.stay k3)
 have HU23 := hid (HU2.out.stay k3)
 have K3 := hid (K2.out.trans k3 (fun _ _ f => f))
 generalize L2.length = N2 at he3
 subst he3
 clear hu3 k3 HM2 HU2 K2
 go_wp2_with fail
 refine (HPUT.out w3).mono ?_
 rintro e w4 ⟨u4, rfl, hu4, k4⟩
 obtain ⟨a4, c4, he4⟩ := ownN_slice hu4
 have hkB : Kept w4 (w4.alloc (.cells #[.slice (some ⟨BM, 0, none⟩) 4 4, .slice a2 N1 c2, .slice a3 N2 c3, u4] 28)) := (Only.refl _ w4).alloc _
 have hkk := k4.trans hkB (fun _ _ f => f)
 have HCC := hid (concat4_any _ w4.heap.size _ _ _ _ _ _ _ _ (Blk.new w4 [.slice (some ⟨BM, 0, none⟩) 4 4, .slice a2 N1 c2, .slice a3 N2 c3, u4] 28) (HM3.out.stay hkk) (HU23.out.stay hkk) (HU3.out.stay hkk) ((own_src hu4).stay hkB) (by decide) (by decide) (by omega) (by omega) (by omega))
 have K4 := hid (show Kept w (w4.alloc (.cells #[.slice (some ⟨BM, 0, none⟩) 4 4, .slice a2 N1 c2, .slice a3 N2 c3, u4] 28)) from K3.out.trans hkk (fun _ _ f => f))
 generalize L3.length = N3 at he4
 subst he4
 clear hu4 k4 hkB hkk HM3 HU23 HU3 K3
 obtain ⟨w5, hw5⟩ : ∃ w5, w4.alloc (.cells #[.slice (some ⟨BM, 0, none⟩) 4 4, .slice a2 N1 c2, .slice a3 N2 c3, .slice a4 N3 c4] 28) = w5 := ⟨_, rfl⟩
 rw [hw5] at HCC K4
 obtain ⟨B4, hB4⟩ : ∃ b, w4.heap.size = b := ⟨_, rfl⟩
 rw [hB4] at HCC
 go_wp2_with fail
 clear hw5 hB4
 refine HCC.out.mono ?_
 rintro e w6 ⟨u6, rfl, hu6, k6⟩
 obtain ⟨a6, c6, he6⟩ := ownN_slice hu6
 have HU6 := hid (ownN_base hu6 K4.out.size)
 rw [← HHB.out] at HU6 he6
 have K6 := hid (K4.out.trans k6 (fun _ _ f => f))
 obtain ⟨hn0, hHN⟩ : ∃ n, (headB l).length = n := ⟨_, rfl⟩
 rw [hHN] at he6
 subst he6
 obtain ⟨bb, hbb⟩ : ∃ b, w6.heap.size = b := ⟨_, rfl⟩
 obtain ⟨w7, hw7⟩ : ∃ w7, w6.alloc (.cells #[.slice a6 hn0 c6] 28) = w7 := ⟨_, rfl⟩
 have hk7 : Kept w6 w7 := by rw [← hw7]; exact (Only.refl _ w6).alloc _
 have hb7 : Blk w7 bb [.slice a6 hn0 c6] 28 := by rw [← hw7, ← hbb]; exact Blk.new w6 _ _
 have K7 := hid (K6.out.trans hk7 (fun _ _ f => f))
 have HU7 := hid (ownN_stay HU6.out hk7)
 have HB7 := hid hb7
 have hbw : w.heap.size ≤ bb := by have := K6.out.size; omega
 clear hu6 k6 K4 HCC hHN hk7 hb7 HU6 K6
 go_wp2_with fail
 clear hw7 hbb hcv HSG1 HSG2 HPUT HHB hz1 hz2 hz3
 refine wpF_seq (wpF_seq (wpF_of ?_))
 go_wp2_with fail
 refine (neigh_any w7 a N c).mono ?_
 rintro e w8 ⟨rfl, hw8⟩
 have HW8 := hid hw8
 clear hw8
 go_wp2_with fail
 refine wpF_block ?_
 refine wpF_range (n := 2) (gf := 66) (lb := #[.pointer (some ⟨w7.heap.size, 0, none⟩)]) rfl (enters_of Tryz.func66 (by kernel_rfl) rfl) ?_
 generalize hr : loopRec _ _ _ _ _ _ = r
 have HRR : Hid (loopRec _ _ _ _ _ _ = r) := hr
 clear hr
 obtain ⟨D, hD⟩ : ∃ D, w8.heap.size = D := ⟨_, rfl⟩
 have hDw : D = w7.heap.size + 1 := by rw [← hD, HW8.out, World.size_alloc]
 have hK8 : Kept w7 w8 := by rw [HW8.out]; exact (Only.refl _ w7).alloc _
 have hc8 : w8.cell? ⟨w7.heap.size, 0, none⟩ = some (.slice a N c) := by rw [HW8.out]; exact (Blk.new w7 [.slice a N c] 22).cell 0 rfl
 obtain ⟨W1, hW1⟩ : ∃ W1, (w8.alloc (.deferred (some []))).alloc (.loop r) = W1 := ⟨_, rfl⟩
 have hK2 : Kept w8 W1 := by rw [← hW1]; exact ((Only.refl _ w8).alloc _).alloc _
 have hsz : W1.heap.size = D + 2 := by rw [← hW1, World.size_alloc, World.size_alloc, hD]
 have hrc : W1.heap[D + 1]? = some (.loop r) := by
  rw [← hW1, ← hD]
  have := World.alloc_heap_new (w8.alloc (.deferred (some []))) (.loop r)
  rwa [World.size_alloc] at this
 have hdf : W1.heap[D]? = some (.deferred (some [])) := by
  rw [← hW1, ← hD]
  exact (Below.heap_alloc _ _ _ (by simp)).trans (World.alloc_heap_new w8 _)
 have hb7l := HB7.out.lt
 rw [hD, hW1]
 clear hW1
 obtain ⟨b, o, hab⟩ : ∃ b o, 0 < N → a = some ⟨b, o, none⟩ := by
  by_cases h0 : 0 < N
  ·obtain ⟨b, o, _, _, _, _, e, _⟩ := HS.out.cell HN.out 0 h0
   exact ⟨b, o, fun _ => e⟩
  ·exact ⟨0, 0, fun h => absurd h h0⟩
 have hser : ∀ k (hk : k < N), ∃ la lc sa sc, cellV w b o (k * 2) = .slice la (l[k]'(by have := HN.out; omega)).1.length lc ∧ cellV w b o (k * 2 + 1) = .slice sa (l[k]'(by have := HN.out; omega)).2.length sc ∧ w.cell? ⟨b, o + k * 2, none⟩ = some (cellV w b o (k * 2)) ∧ w.cell? ⟨b, o + (k * 2 + 1), none⟩ = some (cellV w b o (k * 2 + 1)) ∧
   Go.Proofs.YtllfanlhgnkcfaaGreatDoor.N.LabSrc w (.slice la (l[k]'(by have := HN.out; omega)).1.length lc) (l[k]'(by have := HN.out; omega)).1 ∧ C.SSrc w (.slice sa (l[k]'(by have := HN.out; omega)).2.length sc) (l[k]'(by have := HN.out; omega)).2 := fun k hk => by
  obtain rfl := hab (by omega)
  exact serV HS.out HN.out k hk
 have HSER := hid hser
 have hcell : ∀ i, i < N * 2 → w.cell? ⟨b, o + i, none⟩ = some (cellV w b o i) ∧ ∃ a n c, cellV w b o i = .slice a n c := fun i hi => by
  obtain ⟨la, lc, sa, sc, e0, e1, c0, c1, _⟩ := hser (i / 2) (by omega)
  rcases Nat.mod_two_eq_zero_or_one i with h | h
  ·have : i / 2 * 2 = i := by omega
   rw [this] at e0 c0
   exact ⟨c0, _, _, _, e0⟩
  ·have : i / 2 * 2 + 1 = i := by omega
   rw [this] at e1 c1
   exact ⟨c1, _, _, _, e1⟩
 have KW8 : Kept w w8 := K7.out.trans hK8 (fun _ _ f => f)
 have KW1 : Kept w W1 := KW8.trans hK2 (fun _ _ f => f)
 have hK71 : Kept w7 W1 := hK8.trans hK2 (fun _ _ f => f)
 have hws : w.heap.size ≤ w7.heap.size := K7.out.size
 refine (neigh_in 2 (by omega) (D + 1) w7.heap.size b o N c w.heap.size a (cellV w b o) (by omega) hab (fun h0 => World.block_lt_of_cell? w _ (hcell 0 (by omega)).1) W1 (by omega) (cell_kept hK2 hc8) (fun i hi => cell_kept KW1 (hcell i hi).1) (fun i hi => (hcell i hi).2)
  (PkI w l D bb r) (fun _ _ => False) ?_ ?_ ⟨hrc, hdf, KW1, a6, hn0, c6, hK71.blk HB7.out (fun f => f), by rw [List.take_zero, List.flatMap_nil, List.append_nil]; exact ownN_stay HU7.out hK71, fun e => by have := (ownN_lt HU7.out e).2; omega⟩).mono ?_
 ·intro i X Y hX hO
  rw [hsz] at hO
  obtain ⟨xa, xn, xc, h1, h2, h3⟩ := hX.box
  exact ⟨(hO.block _ (Array.getElem?_eq_some_iff.1 hX.rcd).1 (by omega)).trans hX.rcd, (hO.block _ (Array.getElem?_eq_some_iff.1 hX.def_).1 (by omega)).trans hX.def_, hX.kept.trans hO (fun j hj e => by omega), xa, xn, xc, hO.blk h1 (fun e => by omega), ownN_only h2 hO (fun j hj e => h3 (by rw [hj, e])), h3⟩
 ·intro i X hi hX hXs
  have hil : i < l.length := by have := HN.out; omega
  obtain ⟨la, lc, sa, sc, e0, e1, _, _, hl0, hs0⟩ := HSER.out i hi
  rw [e0, e1]
  obtain ⟨hB1, hB2, hB3⟩ := HBB.out l[i] (List.getElem_mem hil)
  obtain ⟨xa, xn, xc, hbx, hbyt, hnA⟩ := hX.box
  obtain ⟨R, hR⟩ : ∃ R : Ending → World → Prop, R = fun e Y => (e = .returned (.bool true) ∧ PkI w l D bb r (i + 1) Y ∧ KpS w.heap.size W1.heap.size X Y) ∨ ∃ ch, e = .panicked ch ∧ False := ⟨_, rfl⟩
  rw [← hR]
  have hre : ({ ({ r with state := .busy } : Loop) with state := .ready, pending := none } : Loop) = r := by rw [← HRR.out]
  obtain ⟨Z0, hZ0⟩ : ∃ Z0, ((X.alloc (.cells #[.slice la l[i].1.length lc, .slice sa l[i].2.length sc] 48)).putObj (D + 1) (.loop { r with state := .busy })) = Z0 := ⟨_, rfl⟩
  have hXl := (Array.getElem?_eq_some_iff.1 hX.rcd).1
  have hkA : Kept X (X.alloc (.cells #[.slice la l[i].1.length lc, .slice sa l[i].2.length sc] 48)) := (Only.refl _ X).alloc _
  have hra := (hkA.block _ hXl (fun f => f)).trans hX.rcd
  have hO0 : Only (fun k => k = D + 1) X Z0 := by rw [← hZ0]; exact (hkA.mono (fun _ _ f => f.elim)).trans (only_put _) (fun _ _ e => e)
  have hr0 : Z0.heap[D + 1]? = some (.loop { r with state := .busy }) := by rw [← hZ0]; exact World.putObj_heap_same (Array.getElem?_eq_some_iff.1 hra).1
  have hnq : ∀ j, (Value.slice xa xn xc).ownBlock = some j → j ≠ D + 1 := fun j hj e => by
   obtain ⟨cs, fz, h5⟩ := ownN_typed hbyt hj
   rw [e, hX.rcd] at h5
   cases h5
  have hnbb : ∀ j, (Value.slice xa xn xc).ownBlock = some j → j ≠ bb := fun j hj e => by
   subst e
   exact ((ownN_typed hbyt hj).ne hbx.typed (by decide)) rfl
  have hbx0 : Blk Z0 bb [.slice xa xn xc] 28 := hO0.blk hbx (fun e => by omega)
  have hby0 : BytAt Z0 w.heap.size (.slice xa xn xc) (headB l ++ (l.take i).flatMap serB) := ownN_only hbyt hO0 (fun j hj e => hnq j hj e)
  have hk0 : Kept w Z0 := hX.kept.trans hO0 (fun j hj e => by omega)
  have hbC : Blk Z0 X.heap.size [.slice la l[i].1.length lc, .slice sa l[i].2.length sc] 48 := by
   rw [← hZ0]
   exact (only_put (l := D + 1) (.loop { r with state := .busy })).blk (Blk.new X _ _) (fun e => by omega)
  have hfl : (headB l ++ (l.take i).flatMap serB).length + (serB l[i]).length ≤ (bodyB l).length := by
   have h9 : bodyB l = (headB l ++ (l.take i).flatMap serB ++ serB l[i]) ++ (l.drop (i + 1)).flatMap serB := by
    rw [body_head]
    conv => lhs; rw [← List.take_append_drop (i + 1) l, List.flatMap_append, List.take_succ_eq_append_getElem hil, List.flatMap_append]
    simp
   rw [h9]
   simp only [List.length_append]
   omega
  have HAP := hid (append_any Z0 (.slice xa xn xc) (.slice la l[i].1.length lc) (.slice sa l[i].2.length sc) w.heap.size _ l[i] hby0 (by have := hk0.size; omega) (fun e => by have := congrArg List.length e; unfold headB at this; simp at this) (hl0.stay hk0) (hs0.stay hk0) hB1 hB2 hB3 (HFIT.out _ (List.getElem_mem hil)).2 (by have := HTOT.out; omega))
  have HOK : Hid (∀ Z v', ByS Z0 (.slice xa xn xc) w.heap.size Z v' ((headB l ++ (l.take i).flatMap serB) ++ serB l[i]) → ∃ a n c, v' = .slice a n c ∧ Z.cell? ⟨bb, 0, none⟩ = some (.slice xa xn xc) ∧ Z.frozen? ⟨bb, 0, none⟩ = false ∧ (Z.setCell ⟨bb, 0, none⟩ v').heap[D + 1]? = some (.loop { r with state := .busy }) ∧
    R (.returned (.bool true)) ((Z.setCell ⟨bb, 0, none⟩ v').putObj (D + 1) (.loop { ({ r with state := .busy } : Loop) with state := .ready, pending := none }))) := fun Z v' hb => by
   obtain ⟨a, c, hv⟩ := ownN_slice hb.own
   have hbz : Blk Z bb [.slice xa xn xc] 28 := hb.only.blk hbx0 (fun e => hnbb _ e rfl)
   have hOs : Only (fun k => k = bb) Z (Z.setCell ⟨bb, 0, none⟩ v') := (Only.refl (fun k => k = bb) Z).setCell (p := ⟨bb, 0, none⟩) (fun _ => rfl) v'
   have hrz : Z.heap[D + 1]? = some (.loop { r with state := .busy }) := (hb.only.block _ (Array.getElem?_eq_some_iff.1 hr0).1 (fun e => hnq _ e rfl)).trans hr0
   have hrs := (hOs.block _ (Array.getElem?_eq_some_iff.1 hrz).1 (by omega)).trans hrz
   obtain ⟨Yf, hYf⟩ : ∃ Yf, (Z.setCell ⟨bb, 0, none⟩ v').putObj (D + 1) (.loop r) = Yf := ⟨_, rfl⟩
   have hOf : Only (fun k => k = D + 1) (Z.setCell ⟨bb, 0, none⟩ v') Yf := by rw [← hYf]; exact only_put _
   have hall : Only (fun k => k = D + 1 ∨ k = bb ∨ (Value.slice xa xn xc).ownBlock = some k) X Yf :=
    (((hO0.mono (O' := fun k => k = D + 1 ∨ k = bb ∨ (Value.slice xa xn xc).ownBlock = some k) (fun _ _ e => .inl e)).trans hb.only (fun _ _ e => .inr (.inr e))).trans hOs (fun _ _ e => .inr (.inl e))).trans hOf (fun _ _ e => .inl e)
   have hlow : ∀ k, k < w.heap.size → ¬ (k = D + 1 ∨ k = bb ∨ (Value.slice xa xn xc).ownBlock = some k) := fun k hk e => by
    rcases e with e | e | e
    ·omega
    ·omega
    ·have := (ownN_lt hbyt e).1
     omega
   have hnv : ∀ j, v'.ownBlock = some j → j ≠ bb := fun j hj e => by
    subst e
    exact ((ownN_typed hb.own hj).ne hbz.typed (by decide)) rfl
   have hnv2 : ∀ j, v'.ownBlock = some j → j ≠ D + 1 := fun j hj e => by
    obtain ⟨cs, fz, h5⟩ := ownN_typed hb.own hj
    rw [e, hrz] at h5
    cases h5
   obtain ⟨n, hn⟩ : ∃ n, ((headB l ++ (l.take i).flatMap serB) ++ serB l[i]).length = n := ⟨_, rfl⟩
   rw [hn] at hv
   refine ⟨a, n, c, hv, hbz.cell 0 rfl, hbz.frozen 0, hrs, ?_⟩
   rw [hre, hYf, hR]
   refine .inl ⟨rfl, ⟨by rw [← hYf]; exact World.putObj_heap_same (Array.getElem?_eq_some_iff.1 hrs).1, (hall.block _ (Array.getElem?_eq_some_iff.1 hX.def_).1 (fun e => ?_)).trans hX.def_, hX.kept.trans hall (fun j hj e => hlow j hj e), a, n, c, ?_, ?_, ?_⟩, fun k hk => hall.block k (by have := hX.kept.size; omega) (hlow k hk), fun k xs hk hbk => hall.blk hbk (fun e => ?_)⟩
   ·rcases e with e | e | e
    ·omega
    ·have h5 : X.heap[bb]? = _ := hbx
     rw [← e, hX.def_] at h5
     cases h5
    ·obtain ⟨cs, fz, h5⟩ := ownN_typed hbyt e
     rw [hX.def_] at h5
     cases h5
   ·rw [← hv]
    exact hOf.blk (hbz.set 0 v') (fun e => by omega)
   ·rw [← hv, List.take_succ_eq_append_getElem hil, List.flatMap_append, List.flatMap_singleton, ← List.append_assoc]
    exact ownN_only (ownN_only hb.own hOs (fun j hj e => hnv j hj e)) hOf (fun j hj e => hnv2 j hj e)
   ·rw [← hv]
    intro e
    have h6 := hb.from_ (D + 2) (by have := hO0.size; omega) e
    exact hnA h6
   ·rcases e with e | e | e
    ·subst e
     have h5 : X.heap[D + 1]? = _ := hbk
     rw [hX.rcd] at h5
     cases h5
    ·subst e
     exact (hbk.typed.ne hbx.typed (by decide)) rfl
    ·exact (hbk.typed.ne (ownN_typed hbyt e) (by decide)) rfl
  have HBX0 := hid (hbx0.cell 0 rfl)
  have q0 := hbC.cell 0 rfl
  have q1 := hbC.cell 1 rfl
  have x0 := hbx0.cell 0 rfl
  have hra2 := hra
  refine yield_law (r := r) (fn := Tryz.f24) (by rw [← HRR.out]; exact Tryz.func24) hX.rcd (by rw [← HRR.out]; rfl) ?_
  obtain ⟨BX, hBX⟩ : ∃ B, X.heap.size = B := ⟨_, rfl⟩
  rw [hBX] at q0 q1
  generalize l[i].1.length = LN at HAP q0 hZ0 hra2
  generalize l[i].2.length = SN at HAP q1 hZ0 hra2
  have HDW := hid hDw
  clear hl0 hs0 hbC hre hXl hkA hra hO0 hr0 hk0 hX e0 e1 hser hcell KW1 hbx hbyt hbx0 hby0 hnq hnbb hfl hR hDw HBX0 hnA KW8 hK71
  rw [← HRR.out]
  dsimp only [loopRec]
  gi_wp2
  refine ⟨by rw [← HRR.out], ?_⟩
  clear hZ0 hra2 hBX
  refine wpIn_block (region_round0 rfl (by rintro ⟨_, _, h⟩; exact h) (by kernel_rfl) ?_)
  go_wp2_with fail
  refine HAP.out.mono ?_
  rintro e Z1 ⟨v', rfl, hb1⟩
  obtain ⟨ya, yn, yc, rfl, y0, y1, y2, y3⟩ := HOK.out Z1 v' hb1
  have HY3 := hid y3
  have HY2 := hid y2
  clear hb1 y2 y3 q0 q1 x0
  go_wp2_with fail
  exact ⟨_, HY2.out, HY3.out⟩
 ·rintro e Y (⟨v, rfl, hY⟩ | ⟨ch, rfl, hf⟩)
  ·refine ⟨r, hY.rcd, by rw [← HRR.out]; show LoopState.ready ≠ LoopState.busy; decide, by rw [← HRR.out], ?_⟩
   have hY2 := hY
   obtain ⟨va, vn, vc, h1, h2, h3⟩ := hY.box
   obtain ⟨YL, hYL⟩ : ∃ YL, Y.putObj (D + 1) (.loop { r with state := .exhausted }) = YL := ⟨_, rfl⟩
   have hOL : Only (fun k => k = D + 1) Y YL := by rw [← hYL]; exact only_put _
   have hnb : ∀ j, (Value.slice va vn vc).ownBlock = some j → j ≠ D + 1 := fun j hj e => by
    have h4 := ownN_typed h2 hj
    obtain ⟨cs, fz, h5⟩ := h4
    rw [e, hY.rcd] at h5
    cases h5
   have HBL := hid (hOL.blk h1 (fun e => by omega))
   have HUL : Hid (BytAt YL w.heap.size (.slice va vn vc) (bodyB l)) := by
    have h6 := ownN_only h2 hOL (fun j hj e => hnb j hj e)
    rw [List.take_of_length_le (by have := HN.out; omega), ← body_head] at h6
    exact h6
   have HKL := hid (show Kept w YL from hY.kept.trans hOL (fun j hj e => by omega))
   have HDF := hid (show YL.heap[D]? = some (.deferred (some [])) from (hOL.block D (Array.getElem?_eq_some_iff.1 hY.def_).1 (by omega)).trans hY.def_)
   rw [hYL]
   clear hYL h1 h2 h3 hnb hOL hY hY2
   show wpF _ _ _ _ _ _
   refine wpF_of ?_
   dsimp only
   have hkD : Kept YL YL.drew := (Only.refl _ _).drew
   have HBD := hid (hkD.blk HBL.out (fun f => f))
   have HS0 := hid (HBD.out.cell 0 rfl)
   have HBY := hid (ByS.start (ownN_stay HUL.out hkD) (by have := HKL.out.size; have := hkD.size; omega))
   have HKD := hid (HKL.out.trans hkD (fun _ _ f => f))
   have HDD := hid ((hkD.block D (Array.getElem?_eq_some_iff.1 HDF.out).1 (fun f => f)).trans HDF.out)
   have HSUM := hid (sum_any YL.drew _ (bodyB l) (bsrcG HBY.out.own) (by have := HTOT.out; omega) (HT.out.stay HKD.out))
   have hDlt : w.heap.size ≤ D := by omega
   have hx0 := HS0.out
   have HDW := hid hDw
   clear hkD HBL HUL HKL HDF hser hcell KW8 KW1 hK71 hDw
   go_wp2_with fail
   clear hx0
   refine wp_region_noPanic ?_
   refine wp_region_last (L := 1000) (S := fun w' => w'.cell? ⟨bb, 0, none⟩ = some (.slice va vn vc)) (by kernel_rfl) ?_
   refine wpAnyN_take (i := 0) (v := .slice va vn vc) rfl (by kernel_rfl) (by kernel_rfl) (by kernel_rfl) (by decide) (by kernel_rfl) (fun _ _ _ h => h) (Or.inl ⟨by kernel_rfl, ?_⟩) HS0.out ?_
   ·(intro w' hSw; go_simp)
   (try simp only [List.getElem_toArray, List.getElem_cons_succ, List.getElem_cons_zero])
   go_frame
   refine wpAnyN_take (i := 1) (v := .slice va vn vc) rfl (by kernel_rfl) (by kernel_rfl) (by kernel_rfl) (by decide) (by kernel_rfl) (fun _ _ _ h => h) (Or.inl ⟨by kernel_rfl, ?_⟩) HS0.out ?_
   ·(intro w' hSw; go_simp)
   (try simp only [List.getElem_toArray, List.getElem_cons_succ, List.getElem_cons_zero])
   go_frame
   refine wpAnyL_one (i := 2) (by kernel_rfl) rfl (by kernel_rfl) ?_
   go_simp
   refine HSUM.out.mono ?_
   rintro e wa ⟨ua, rfl, hua, ka⟩
   have hf4 : (G.four (G.sumL (bodyB l))).length = 4 := rfl
   obtain ⟨a9, n9, c9, w9, r9, hn9, hB9, ho9⟩ := (HBY.out.stay ka).app (own_src hua) (by have := HTOT.out; rw [hf4]; omega)
   have hSa : wa.cell? ⟨bb, 0, none⟩ = some (.slice va vn vc) := cell_kept ka HS0.out
   have hnbb : (Value.slice va vn vc).ownBlock ≠ some bb := fun e => ((ownN_typed HBY.out.own e).ne HBD.out.typed (by decide)) rfl
   have hS9 : w9.cell? ⟨bb, 0, none⟩ = some (.slice va vn vc) := by
    rw [World.cell?_of_block (ho9.out.block bb (World.block_lt_of_cell? wa _ hSa) hnbb)]
    exact hSa
   have hda : wa.heap[D]? = some (.deferred (some [])) := (ka.block D (Array.getElem?_eq_some_iff.1 HDD.out).1 (fun f => f)).trans HDD.out
   have hnd : (Value.slice va vn vc).ownBlock ≠ some D := fun e => by
    obtain ⟨cs, fz, h5⟩ := ownN_typed (HBY.out.stay ka).own e
    rw [hda] at h5
    cases h5
   have hd9 : w9.heap[D]? = some (.deferred (some [])) := (ho9.out.block D (Array.getElem?_eq_some_iff.1 hda).1 hnd).trans hda
   have hnd9 : ∀ j, (Value.slice a9 n9 c9).ownBlock = some j → j ≠ D := fun j hj e => by
    obtain ⟨cs, fz, h5⟩ := ownN_typed hB9.out.own hj
    rw [e, hd9] at h5
    cases h5
   have hk9 : Kept w w9 := (HKD.out.trans ka (fun _ _ f => f)).trans ho9.out (fun j hj e => by have := (ownN_lt HBY.out.own e).1; omega)
   have HFN := hid (show BytAt (w9.putObj D (.deferred none)) w.heap.size (.slice a9 n9 c9) (blockB l) ∧ Kept w (w9.putObj D (.deferred none)) from ⟨ownN_only hB9.out.own (only_put _) (fun j hj e => hnd9 j hj e), kept_put hk9 (by omega) _⟩)
   have HSA := hid hSa
   have HS9 := hid hS9
   have HD9 := hid hd9
   obtain ⟨fa, fc, hfe⟩ := ownN_slice hua
   rw [hf4] at hfe
   subst hfe
   clear hua ka ho9 hSa hS9 hn9 hf4 hnbb hda hnd hd9 hnd9 hk9 hB9
   first | refine ⟨HSA.out, ?_⟩ | skip
   (try go_frame)
   refine wpAnyL_one (i := 3) (by kernel_rfl) rfl (by kernel_rfl) (oper_append_run _ _ _ rfl rfl rfl r9 ?_)
   first | refine ⟨HS9.out, ?_⟩ | skip
   (try go_frame)
   refine wpAnyL_one (i := 4) (by kernel_rfl) rfl (by kernel_rfl) ?_
   go_simp
   first | refine ⟨HS9.out, ?_⟩ | skip
   (try go_frame)
   refine wpAnyN_done (by kernel_rfl) ?_
   refine NoPanic.normal ?_
   go_wp2_with fail
   refine ⟨by simp, .inl ⟨_, _, rfl, run_takeDeferred HD9.out, ?_⟩⟩
   exact ⟨_, results_tmp (t := 2) rfl _ _ _, _, rfl, HFN.out.1, HFN.out.2⟩
  ·exact hf.elim
end Go.Proofs.YtllfanlhgnkcfaaGreatDoor.K
namespace Go.Proofs.YtllfanlhgnkcfaaGreatDoor.K
open Go.RowKit Go.Proofs.Lys Go.Maps Go.Shelf
set_option linter.unusedVariables false
set_option linter.unusedSimpArgs false
structure Reach (l : List Ser) : Prop where
 all : ∀ s ∈ l, s.1.length ≤ 100000 ∧ N.Small s.1 ∧ s.2.length ≤ 80000
 len : l.length ≤ 100000
 tot : checkB l = 0 → (bodyB l).length ≤ 9500000
def Pk1 (w : World) (bb : Nat) (l : List Ser) (e : Ending) (w' : World) : Prop :=
 (checkB l = 0 ∧ e = .returned (.tuple #[]) ∧ (∃ u, BytAt w' w.heap.size u (blockB l) ∧ Blk w' bb [u] 28) ∧ Only (fun k => k = bb) w w') ∨ (checkB l ≠ 0 ∧ e = gaveF (checkB l) ∧ Kept w w')
set_option maxHeartbeats 1600000 in
theorem pack1_any (w : World) (bl bb : Nat) (v : Value) (l : List Ser) (hL : Blk w bl [v] 22) (hb : Blk w bb [.slice none 0 0] 28) (hs : SerIn w v l) (hR : Reach l) (hT : G.Tab w) :
  Calls Tryz.prog 23 #[.pointer (some ⟨bl, 0, none⟩), .pointer (some ⟨bb, 0, none⟩)] w (Pk1 w bb l) := by
 have HLK := hid (look_any w v l hs hR.len (fun s h => ⟨(hR.all s h).1, (hR.all s h).2.1, by have := (hR.all s h).2.2; omega⟩))
 have HPK : Hid (∀ W, Kept w W → checkB l = 0 → Calls Tryz.prog 24 #[v] W fun e w' => ∃ u, e = .returned u ∧ BytAt w' W.heap.size u (blockB l) ∧ Kept W w') := fun W k h0 =>
  packed_any W v l (hs.stay k) (check_fit h0).1 (check_fit h0).2 hR.all (hT.stay k) (hR.tot h0)
 have hbl : bl < w.heap.size := hL.lt
 have hbb : bb < w.heap.size := hb.lt
 have hc := hL.cell 0 rfl
 have HL := hid hL
 have HB := hid hb
 clear hs hR hT hL hb
 obtain ⟨R, hR⟩ : ∃ R, Pk1 w bb l = R := ⟨_, rfl⟩
 rw [hR]
 have HRR := hid hR
 clear hR
 go_enter Tryz.func23, Tryz.ntmps23
 go_wp2_with fail
 refine HLK.out.mono ?_
 rintro e w1 ⟨k1, ⟨h0, rfl⟩ | ⟨h0, rfl⟩⟩
 ·have hc1 := (k1.blk HL.out (fun f => f)).cell 0 rfl
  have HK1 := hid k1
  have H0 := hid h0
  clear hc k1 h0
  go_wp2_with fail
  refine (HPK.out w1 HK1.out H0.out).mono ?_
  rintro e w2 ⟨u, rfl, hu, k2⟩
  obtain ⟨a, c, hv⟩ := ownN_slice hu
  have hb2 := k2.blk (HK1.out.blk HB.out (fun f => f)) (fun f => f)
  have hbc := hb2.cell 0 rfl
  have hbf := hb2.frozen 0
  have HFN : Hid (R (.returned (.tuple #[])) (w2.setCell ⟨bb, 0, none⟩ u)) := by
   rw [← HRR.out]
   refine .inl ⟨H0.out, rfl, ⟨u, ?_, hb2.set 0 u⟩, ((HK1.out.trans k2 (fun _ _ f => f)).mono (O' := fun k => k = bb) (fun _ _ f => f.elim)).setCell (p := ⟨bb, 0, none⟩) (fun _ => rfl) _⟩
   refine ownN_only (ownN_base hu ?_) ((Only.refl (fun k => k = bb) w2).setCell (p := ⟨bb, 0, none⟩) (fun _ => rfl) u) (fun j hj e => ?_)
   ·have := HK1.out.size
    omega
   ·have := (ownN_lt hu hj).1
    have := HK1.out.size
    omega
  subst hv
  clear hb2 hu k2 hc1
  go_wp2_with fail
  go_end0
  exact HFN.out
 ·have HF : Hid (R (gaveF (checkB l)) w1) := by rw [← HRR.out]; exact .inr ⟨h0, rfl, k1⟩
  exact ⟨rfl, HF.out⟩
def PkP (w : World) (l : List Ser) (e : Ending) (w' : World) : Prop :=
 Kept w w' ∧ ((checkB l = 0 ∧ ∃ u, e = .returned (.tuple #[u, .int .i64 0]) ∧ BytAt w' w.heap.size u (blockB l)) ∨ (checkB l ≠ 0 ∧ e = .returned (.tuple #[.slice none 0 0, .int .i64 (checkB l)])))
set_option maxHeartbeats 1600000 in
theorem pack_any (w : World) (v : Value) (l : List Ser) (hs : SerIn w v l) (hR : Reach l) (hT : G.Tab w) (hG : ErrT w) :
  Calls Tryz.prog 8 #[v] w (PkP w l) := by
 have hmf : ∀ (fn : Fn) (first cap : Array Value) (w : World), (Instr.makeFunc fn first cap).run Tryz.prog w = .ok (.func fn first cap) w := fun _ _ _ _ => rfl
 obtain ⟨w0, hw0⟩ : ∃ w0, w0 = (w.alloc (.cells #[v] 22)).alloc (.cells #[.slice none 0 0] 28) := ⟨_, rfl⟩
 have k0 : Kept w w0 := by rw [hw0]; exact ((Only.refl _ w).alloc _).alloc _
 have z0 : w0.heap.size = w.heap.size + 2 := by rw [hw0]; simp
 have bl : Blk w0 w.heap.size [v] 22 := by rw [hw0]; exact (Blk.new w _ _).alloc _
 have bb : Blk w0 (w.heap.size + 1) [.slice none 0 0] 28 := by
  rw [hw0]
  have := Blk.new (w.alloc (.cells #[v] 22)) [.slice none 0 0] 28
  simpa using this
 have HAT : Hid (Calls Tryz.prog 20 #[.func (.func 23) #[] #[.pointer (some ⟨w.heap.size, 0, none⟩), .pointer (some ⟨w.heap.size + 1, 0, none⟩)]] w0 fun e w' =>
   Kept w w' ∧ ((checkB l = 0 ∧ e = .returned (.int .i64 0) ∧ ∃ u, BytAt w' w.heap.size u (blockB l) ∧ Blk w' (w.heap.size + 1) [u] 28) ∨ (checkB l ≠ 0 ∧ e = .returned (.int .i64 (checkB l)) ∧ Blk w' (w.heap.size + 1) [.slice none 0 0] 28))) := by
  have k1 : Kept w0 (w0.alloc (.cells #[.int .i64 0] 26)) := (Only.refl _ w0).alloc _
  refine (attempt_any w0 23 _ (enters_of Tryz.func23 (by kernel_rfl) rfl)
   (fun w2 => checkB l = 0 ∧ (∃ u, BytAt w2 (w0.heap.size + 1) u (blockB l) ∧ Blk w2 (w.heap.size + 1) [u] 28) ∧ Only (fun k => k = w.heap.size + 1) w0 w2)
   (fun x w2 => checkB l ≠ 0 ∧ x = checkB l ∧ Kept w0 w2)
   ((pack1_any _ w.heap.size (w.heap.size + 1) v l (bl.alloc _) (bb.alloc _) (hs.stay (k0.trans k1 (fun _ _ f => f))) hR (hT.stay (k0.trans k1 (fun _ _ f => f)))).mono ?_)).mono ?_
  ·intro e w2 h
   have hq : Blk (w0.alloc (.cells #[.int .i64 0] 26)) w0.heap.size [.int .i64 0] 26 := Blk.new w0 _ _
   rcases h with ⟨h0, rfl, ⟨u, hu, hub⟩, ho⟩ | ⟨h0, rfl, k2⟩
   ·refine ⟨ho.blk hq (fun e => by omega), .inl ⟨rfl, h0, ⟨u, ?_, hub⟩, (k1.mono (O' := fun k => k = w.heap.size + 1) (fun _ _ f => f.elim)).trans ho (fun _ _ e => e)⟩⟩
    simpa using hu
   ·refine ⟨k2.blk hq (fun f => f), .inr ⟨_, rfl, (((hG.stay k0).stay k1)).stay k2, h0, rfl, k1.trans k2 (fun _ _ f => f)⟩⟩
  ·rintro e w' (⟨rfl, w2, ⟨h0, ⟨u, hu, hub⟩, ho⟩, hq⟩ | ⟨x, w2, rfl, ⟨h0, rfl, k2⟩, hq⟩)
   ·refine ⟨(k0.trans ho (fun j hj e => by omega)).trans hq (fun j hj e => by omega), .inl ⟨h0, rfl, u, ?_, hq.blk hub (fun e => by omega)⟩⟩
    refine ownN_only (ownN_base hu (by omega)) hq (fun j hj e => ?_)
    have := (ownN_lt hu hj).1
    omega
   ·exact ⟨(k0.trans k2 (fun _ _ f => f)).trans hq (fun j hj e => by omega), .inr ⟨h0, rfl, hq.blk (k2.blk bb (fun f => f)) (fun e => by omega)⟩⟩
 obtain ⟨a, c, rfl⟩ := hs.len
 clear hs hR hT hG k0 z0 bl bb
 obtain ⟨R, hR⟩ : ∃ R, PkP w l = R := ⟨_, rfl⟩
 rw [hR]
 have HRR := hid hR
 clear hR
 go_enter Tryz.func8, Tryz.ntmps8
 go_wp2_with fail
 rw [← hw0]
 clear hw0
 refine HAT.out.mono ?_
 rintro e w1 ⟨k1, ⟨h0, rfl, u, hu, hub⟩ | ⟨h0, rfl, hub⟩⟩
 ·have hc := hub.cell 0 rfl
  have HFN : Hid (R (.returned (.tuple #[u, .int .i64 0])) w1) := by
   rw [← HRR.out]
   exact ⟨k1, .inl ⟨h0, u, rfl, hu⟩⟩
  obtain ⟨a, c, hv⟩ := ownN_slice hu
  subst hv
  clear hu hub k1 h0
  go_wp2_with fail
  exact HFN.out
 ·have hc := hub.cell 0 rfl
  have HFN : Hid (R (.returned (.tuple #[.slice none 0 0, .int .i64 (checkB l)])) w1) := by
   rw [← HRR.out]
   exact ⟨k1, .inr ⟨h0, rfl⟩⟩
  clear hub k1 h0
  go_wp2_with fail
  exact HFN.out
end Go.Proofs.YtllfanlhgnkcfaaGreatDoor.K
namespace Go.Proofs.YtllfanlhgnkcfaaGreatDoor.K
open Go.RowKit Go.Proofs.Lys Go.Maps Go.Shelf
set_option linter.unusedVariables false
set_option linter.unusedSimpArgs false
attribute [local go_sem] Oper.semAt_some
theorem bsrc_pre {w : World} {v : Value} {bs : List UInt8} (h : G.BSrc w v bs) {hi : Nat} (h2 : hi ≤ bs.length) :
  ∃ a' c', (∀ W, (Instr.sliceAt 28 v none (some (.int .i64 (hi : Int))) none).run Tryz.prog W = .ok (.slice a' hi c') W) ∧ G.BSrc w (.slice a' hi c') (bs.take hi) := by
 obtain ⟨a', c', hr, hb⟩ := h.sub (Nat.zero_le hi) h2
 refine ⟨a', c', fun W => ?_, by simpa using hb⟩
 obtain ⟨hs, a, c, rfl, hc⟩ := h
 have h3 := hr W
 have hz : ∀ W, (sizeOf 5).run Tryz.prog W = .ok 1 W := fun W => by kernel_rfl
 have e2 : hi ≤ c := by omega
 simp [Instr.sliceAt, Instr.slice, Instr.sliceBounds, Instr.sliceBound, run_underlying Tryz.underlying28, asIntOf, e2, hz, Result.andThen] at h3 ⊢
 exact h3
def GaveE (w : World) (n : Int) (e : Ending) (w' : World) : Prop := e = gaveF n ∧ Kept w w'
set_option maxRecDepth 100000 in
set_option maxHeartbeats 3200000 in
theorem summed_no (w : World) (v : Value) (bs : List UInt8) (hs : G.BSrc w v bs) (N : Nat) (hN : bs.length = N + 4) (hl : bs.length ≤ 10000000) (hT : G.Tab w) (hne : bs.drop N ≠ G.four (G.sumL (bs.take N))) :
  Calls Tryz.prog 60 #[v] w (GaveE w 5) := by
 have HR := hid (fun W => refuse_no 5 W)
 have HY := hid (fun W => refuse_yes 5 W)
 obtain ⟨a1, c1, r1, s1⟩ := hs.tail (lo := N) (by omega)
 obtain ⟨a2, c2, r2, s2⟩ := bsrc_pre hs (hi := N) (by omega)
 have e4 : bs.length - N = 4 := by omega
 rw [e4] at r1 s1
 obtain ⟨a, c, rfl, _⟩ := hs.2
 obtain ⟨M, hM⟩ : ∃ M, bs.length = M := ⟨_, rfl⟩
 rw [hM] at hN hl r1 r2 ⊢
 have K0 := hid (show Kept w w.drew from (Only.refl _ _).drew)
 have HS1 := hid (SrcOf.stay s1.1 K0.out)
 have HSUM := hid (sum_any w.drew _ (bs.take N) (s2.stay K0.out) (by rw [List.length_take]; omega) (hT.stay K0.out))
 have HNE := hid hne
 obtain ⟨R, hR⟩ : ∃ R, GaveE w 5 = R := ⟨_, rfl⟩
 rw [hR]
 have HF : Hid (∀ w', Kept w w' → R (gaveF 5) w') := fun w' k => by rw [← hR]; exact ⟨rfl, k⟩
 have i1 : (M : Int) - 4 = (N : Int) := by omega
 have d1 : decide ((N : Int) < 0) = false := decide_eq_false (by omega)
 have d2 : decide ((16777216 : Int) < (M : Int)) = false := decide_eq_false (by omega)
 have b1 : ¬ (N : Int) < 0 := by omega
 have b2 : ¬ 16777216 < M := by omega
 have hw1 : IntKind.wrap .i64 (N : Int) = (N : Int) := by rw [IntKind.wrap_i64]; omega
 clear hs s1 s2 hT hne hR e4 hM hN
 go_enter Tryz.func60, Tryz.ntmps60
 go_wp2_with fail
 refine (HR.out _).mono ?_
 rintro e w' ⟨rfl, hw⟩
 replace hw := hw.symm
 subst hw
 go_wp2_with fail
 refine wp_region_last (L := 1000) (S := fun w' => Kept w w') (by kernel_rfl) ?_
 refine wpAnyN_take (i := 0) (v := .slice a M c) rfl (by kernel_rfl) (by kernel_rfl) (by kernel_rfl) (by decide) (by kernel_rfl) (fun _ _ _ h => h) (Or.inl ⟨by kernel_rfl, ?_⟩) K0.out ?_
 ·(intro w' hSw; go_simp)
 (try simp only [List.getElem_toArray, List.getElem_cons_succ, List.getElem_cons_zero])
 go_frame
 refine wpAnyN_take (i := 1) (v := .int .i64 (N : Int)) rfl (by kernel_rfl) (by kernel_rfl) (by kernel_rfl) (by decide) (by kernel_rfl) (fun _ _ _ h => h) (Or.inl ⟨by kernel_rfl, ?_⟩) K0.out ?_
 ·(intro w' hSw; go_simp)
 (try simp only [List.getElem_toArray, List.getElem_cons_succ, List.getElem_cons_zero])
 go_frame
 refine wpAnyN_take (i := 2) (v := .slice a1 4 c1) rfl (by kernel_rfl) (by kernel_rfl) (by kernel_rfl) (by decide) (by kernel_rfl) (fun _ _ _ h => h) (Or.inl ⟨by kernel_rfl, ?_⟩) K0.out ?_
 ·(intro w' hSw; go_simp)
 (try simp only [List.getElem_toArray, List.getElem_cons_succ, List.getElem_cons_zero])
 go_frame
 refine wpAnyN_take (i := 3) (v := .slice a M c) rfl (by kernel_rfl) (by kernel_rfl) (by kernel_rfl) (by decide) (by kernel_rfl) (fun _ _ _ h => h) (Or.inl ⟨by kernel_rfl, ?_⟩) K0.out ?_
 ·(intro w' hSw; go_simp)
 (try simp only [List.getElem_toArray, List.getElem_cons_succ, List.getElem_cons_zero])
 go_frame
 refine wpAnyN_take (i := 4) (v := .int .i64 (N : Int)) rfl (by kernel_rfl) (by kernel_rfl) (by kernel_rfl) (by decide) (by kernel_rfl) (fun _ _ _ h => h) (Or.inl ⟨by kernel_rfl, ?_⟩) K0.out ?_
 ·(intro w' hSw; go_simp)
 (try simp only [List.getElem_toArray, List.getElem_cons_succ, List.getElem_cons_zero])
 go_frame
 refine wpAnyN_take (i := 5) (v := .slice a2 N c2) rfl (by kernel_rfl) (by kernel_rfl) (by kernel_rfl) (by decide) (by kernel_rfl) (fun _ _ _ h => h) (Or.inl ⟨by kernel_rfl, ?_⟩) K0.out ?_
 ·(intro w' hSw; go_simp)
 (try simp only [List.getElem_toArray, List.getElem_cons_succ, List.getElem_cons_zero])
 go_frame
 refine wpAnyL_one (i := 6) (by kernel_rfl) rfl (by kernel_rfl) ?_
 go_simp
 refine HSUM.out.mono ?_
 rintro e w1 ⟨u, rfl, hu, k1⟩
 have HEQ := hid (S.equal_any (SrcOf.stay HS1.out k1) (own_src hu))
 have K9 := hid k1
 have K1 := hid (show Kept w w1 from K0.out.trans k1 (fun _ _ f => f))
 obtain ⟨ua, uc, hue⟩ := ownN_slice hu
 have hf4 : (G.four (G.sumL (bs.take N))).length = 4 := rfl
 rw [hf4] at hue
 subst hue
 clear hu k1 hf4
 refine ⟨K1.out, ?_⟩
 (try go_frame)
 refine wpAnyL_one (i := 7) (by kernel_rfl) rfl (by kernel_rfl) ?_
 go_simp
 refine HEQ.out.mono ?_
 rintro e w' ⟨hw, ⟨he, _⟩ | ⟨_, rfl⟩⟩
 ·exact absurd he HNE.out
 replace hw := hw.symm
 subst hw
 refine ⟨K1.out, ?_⟩
 (try go_frame)
 refine wpAnyL_one (i := 8) (by kernel_rfl) rfl (by kernel_rfl) ?_
 go_simp
 refine ⟨K1.out, ?_⟩
 (try go_frame)
 refine wpAnyL_one (i := 9) (by kernel_rfl) rfl (by kernel_rfl) ?_
 go_simp
 refine (HY.out _).mono ?_
 rintro e w' ⟨rfl, hw⟩
 replace hw := hw.symm
 subst hw
 exact ⟨rfl, HF.out _ (by first | exact K9.out | exact K0.out.trans K9.out (fun _ _ f => f))⟩
theorem unpacked_no (w : World) (v : Value) (bs : List UInt8) (hs : G.BSrc w v bs) (N : Nat) (hN : bs.length = N + 4) (hl : bs.length ≤ 10000000) (hT : G.Tab w) (hne : bs.drop N ≠ G.four (G.sumL (bs.take N))) :
  Calls Tryz.prog 39 #[v] w (GaveE w 5) := by
 have HSM := hid (summed_no w v bs hs N hN hl hT hne)
 obtain ⟨a, c, rfl, _⟩ := hs.2
 obtain ⟨M, hM⟩ : ∃ M, bs.length = M := ⟨_, rfl⟩
 rw [hM] at HSM ⊢
 obtain ⟨R, hR⟩ : ∃ R, GaveE w 5 = R := ⟨_, rfl⟩
 rw [hR]
 have HF : Hid (∀ w', Kept w w' → R (gaveF 5) w') := fun w' k => by rw [← hR]; exact ⟨rfl, k⟩
 clear hs hN hl hT hne hR hM
 go_enter Tryz.func39, Tryz.ntmps39
 go_wp2_with fail
 refine HSM.out.mono ?_
 rintro e w' ⟨rfl, hk⟩
 exact ⟨rfl, HF.out _ hk⟩
end Go.Proofs.YtllfanlhgnkcfaaGreatDoor.K
namespace Go.Proofs.YtllfanlhgnkcfaaGreatDoor.K
open Go.RowKit Go.Proofs.Lys Go.Maps Go.Shelf
set_option linter.unusedVariables false
set_option linter.unusedSimpArgs false
structure RdAt (w0 w : World) (R : Nat) (v : Value) (bs : List UInt8) : Prop where
 blk : Blk w R [v] 91
 src : C.BSrc w0 v bs
 kept : Kept w0 w
 le : w0.heap.size ≤ R
theorem RdAt.stay {w0 w W : World} {R : Nat} {v : Value} {bs : List UInt8} (h : RdAt w0 w R v bs) (k : Kept w W) : RdAt w0 W R v bs := ⟨k.blk h.blk (fun f => f), h.src, h.kept.trans k (fun _ _ f => f), h.le⟩
theorem cbsrc_pre {w : World} {v : Value} {bs : List UInt8} (h : C.BSrc w v bs) {n : Nat} (hn : n ≤ bs.length) :
  ∃ a c, (∀ W, (Instr.sliceAt 28 v none (some (.int .i64 (n : Int))) none).run Tryz.prog W = .ok (.slice a n c) W) ∧ C.BSrc w (.slice a n c) (bs.take n) := by
 obtain ⟨a, c, hr, hb⟩ := bsrc_pre (w := w) (v := v) (bs := bs) ⟨h.1, h.2⟩ hn
 exact ⟨a, c, hr, hb.1, hb.2⟩
theorem take_no (w0 w : World) (R : Nat) (v : Value) (bs : List UInt8) (h : RdAt w0 w R v bs) (n : Int) (hn : n < 0 ∨ (bs.length : Int) < n) :
  Calls Tryz.prog 61 #[.pointer (some ⟨R, 0, none⟩), .int .i64 n] w fun e w' => e = gaveF 5 ∧ w' = w := by
 have HY := hid (refuse_yes 5 w)
 have c0 := h.blk.cell 0 rfl
 obtain ⟨a, c, rfl, _⟩ := h.src.2
 generalize bs.length = M at *
 clear h
 by_cases h0 : n < 0
 ·have d0 : decide (n < 0) = true := decide_eq_true h0
  clear hn
  go_enter Tryz.func61, Tryz.ntmps61
  go_wp2_with fail
  refine HY.out.mono ?_
  rintro e w' ⟨rfl, rfl⟩
  exact ⟨rfl, rfl, rfl⟩
 ·have d0 : decide (n < 0) = false := decide_eq_false h0
  have d1 : decide ((M : Int) < n) = true := decide_eq_true (by omega)
  clear hn
  go_enter Tryz.func61, Tryz.ntmps61
  go_wp2_with fail
  refine HY.out.mono ?_
  rintro e w' ⟨rfl, rfl⟩
  exact ⟨rfl, rfl, rfl⟩
def TakeP (w0 w : World) (R : Nat) (bs : List UInt8) (n : Nat) (e : Ending) (w' : World) : Prop := ∃ u v', e = .returned u ∧ C.BSrc w0 u (bs.take n) ∧ RdAt w0 w' R v' (bs.drop n) ∧ Only (fun j => j = R) w w'
set_option maxRecDepth 100000 in
set_option maxHeartbeats 800000 in
theorem take_yes (w0 w : World) (R : Nat) (v : Value) (bs : List UInt8) (h : RdAt w0 w R v bs) (n : Nat) (hn : n ≤ bs.length) :
  Calls Tryz.prog 61 #[.pointer (some ⟨R, 0, none⟩), .int .i64 (n : Int)] w (TakeP w0 w R bs n) := by
 have HN := hid (refuse_no 5 w)
 have c0 := h.blk.cell 0 rfl
 have f0 := h.blk.frozen 0
 obtain ⟨a1, c1, s1, b1⟩ := cbsrc_pre h.src hn
 obtain ⟨a2, c2, s2, b2⟩ := h.src.tail hn
 have HF : Hid (TakeP w0 w R bs n (.returned (.slice a1 n c1)) (w.setCell ⟨R, 0, none⟩ (.slice a2 (bs.length - n) c2))) :=
  ⟨_, _, rfl, b1, ⟨h.blk.set 0 _, b2, h.kept.setCell (p := ⟨R, 0, none⟩) (fun hl => by have := h.le; have : R < w0.heap.size := hl; omega) _, h.le⟩, (Only.refl (fun j => j = R) w).setCell (p := ⟨R, 0, none⟩) (fun _ => rfl) _⟩
 obtain ⟨a, c, rfl, _⟩ := h.src.2
 have d1 : decide (bs.length < n) = false := decide_eq_false (by omega)
 have d2 : ¬ bs.length < n := by omega
 generalize hM : bs.length = M at c0 d1 d2 s1 s2 HF
 generalize M - n = MN at s2 HF
 clear h b1 b2 hn hM
 go_enter Tryz.func61, Tryz.ntmps61
 go_wp2_with fail
 refine HN.out.mono ?_
 rintro e w' ⟨rfl, hw⟩
 replace hw := hw.symm
 subst hw
 go_wp2
 go_ret
 exact HF.out
def numK (bs : List UInt8) : Option (Int × Nat) := if (getA bs 0 0).2.2 = 0 then some (wrap64 ((getA bs 0 0).1 : Int), (getA bs 0 0).2.1) else none
def NumP (w0 w : World) (R : Nat) (bs : List UInt8) (e : Ending) (w' : World) : Prop :=
 (numK bs = none ∧ e = gaveF 5 ∧ w' = w) ∨ ∃ n k v', numK bs = some (n, k) ∧ k ≤ bs.length ∧ 0 < k ∧ e = .returned (.int .i64 n) ∧ RdAt w0 w' R v' (bs.drop k) ∧ Only (fun j => j = R) w w'
end Go.Proofs.YtllfanlhgnkcfaaGreatDoor.K
namespace Go.Proofs.YtllfanlhgnkcfaaGreatDoor.K
open Go.RowKit Go.Proofs.Lys Go.Maps Go.Shelf
open Go.Proofs.YtllfanlhgnkcfaaGreatDoor.N (ownN_slice ownN_lt ownN_only ownN_stay ownN_base ownN_typed ownN_some)
set_option linter.unusedVariables false
set_option linter.unusedSimpArgs false
attribute [local go_sem] Oper.semAt_some
theorem summed_short (w : World) (v : Value) (bs : List UInt8) (hs : G.BSrc w v bs) (hN : bs.length < 4) :
  Calls Tryz.prog 60 #[v] w (GaveE w 5) := by
 have HY := hid (fun W => refuse_yes 5 W)
 obtain ⟨a, c, rfl, _⟩ := hs.2
 obtain ⟨M, hM⟩ : ∃ M, bs.length = M := ⟨_, rfl⟩
 rw [hM] at hN ⊢
 have HF : Hid (GaveE w 5 (gaveF 5) w) := ⟨rfl, Only.refl _ _⟩
 have d1 : decide ((M : Int) - 4 < 0) = true := decide_eq_true (by omega)
 have d2 : (M : Int) - 4 < 0 := by omega
 have hw1 : IntKind.wrap .i64 ((M : Int) - 4) = (M : Int) - 4 := by rw [IntKind.wrap_i64]; omega
 clear hs hM
 go_enter Tryz.func60, Tryz.ntmps60
 go_wp2_with fail
 refine (HY.out _).mono ?_
 rintro e w' ⟨rfl, hw⟩
 replace hw := hw.symm
 subst hw
 exact ⟨rfl, HF.out⟩
def SumA (w : World) (bs : List UInt8) (N : Nat) (e : Ending) (w' : World) : Prop := ∃ a c, e = .returned (.slice a N c) ∧ C.BSrc w (.slice a N c) (bs.take N) ∧ Kept w w'
set_option maxRecDepth 100000 in
set_option maxHeartbeats 3200000 in
theorem summed_yes (w : World) (v : Value) (bs : List UInt8) (hs : G.BSrc w v bs) (N : Nat) (hN : bs.length = N + 4) (hl : bs.length ≤ 10000000) (hT : G.Tab w) (heq : bs.drop N = G.four (G.sumL (bs.take N))) :
  Calls Tryz.prog 60 #[v] w (SumA w bs N) := by
 have HR := hid (fun W => refuse_no 5 W)
 obtain ⟨a1, c1, r1, s1⟩ := hs.tail (lo := N) (by omega)
 obtain ⟨a2, c2, r2, s2⟩ := bsrc_pre hs (hi := N) (by omega)
 have e4 : bs.length - N = 4 := by omega
 rw [e4] at r1 s1
 obtain ⟨a, c, rfl, _⟩ := hs.2
 obtain ⟨M, hM⟩ : ∃ M, bs.length = M := ⟨_, rfl⟩
 rw [hM] at hN hl r1 r2 ⊢
 have K0 := hid (show Kept w w.drew from (Only.refl _ _).drew)
 have HS1 := hid (SrcOf.stay s1.1 K0.out)
 have HSUM := hid (sum_any w.drew _ (bs.take N) (s2.stay K0.out) (by rw [List.length_take]; omega) (hT.stay K0.out))
 have HEE := hid heq
 obtain ⟨R, hR⟩ : ∃ R, SumA w bs N = R := ⟨_, rfl⟩
 rw [hR]
 have HF : Hid (∀ w', Kept w w' → R (.returned (.slice a2 N c2)) w') := fun w' k => by rw [← hR]; exact ⟨a2, c2, rfl, ⟨s2.1, s2.2⟩, k⟩
 have i1 : (M : Int) - 4 = (N : Int) := by omega
 have d1 : decide ((N : Int) < 0) = false := decide_eq_false (by omega)
 have d2 : decide ((16777216 : Int) < (M : Int)) = false := decide_eq_false (by omega)
 have b1 : ¬ (N : Int) < 0 := by omega
 have b2 : ¬ 16777216 < M := by omega
 have hw1 : IntKind.wrap .i64 (N : Int) = (N : Int) := by rw [IntKind.wrap_i64]; omega
 clear hs s1 s2 hT heq hR e4 hM hN
 go_enter Tryz.func60, Tryz.ntmps60
 go_wp2_with fail
 refine (HR.out _).mono ?_
 rintro e w' ⟨rfl, hw⟩
 replace hw := hw.symm
 subst hw
 go_wp2_with fail
 refine wp_region_noPanic ?_
 refine wp_region_last (L := 1000) (S := fun w' => Kept w w') (by kernel_rfl) ?_
 refine wpAnyN_take (i := 0) (v := .slice a M c) rfl (by kernel_rfl) (by kernel_rfl) (by kernel_rfl) (by decide) (by kernel_rfl) (fun _ _ _ h => h) (Or.inl ⟨by kernel_rfl, ?_⟩) K0.out ?_
 ·(intro w' hSw; go_simp)
 (try simp only [List.getElem_toArray, List.getElem_cons_succ, List.getElem_cons_zero])
 go_frame
 refine wpAnyN_take (i := 1) (v := .int .i64 (N : Int)) rfl (by kernel_rfl) (by kernel_rfl) (by kernel_rfl) (by decide) (by kernel_rfl) (fun _ _ _ h => h) (Or.inl ⟨by kernel_rfl, ?_⟩) K0.out ?_
 ·(intro w' hSw; go_simp)
 (try simp only [List.getElem_toArray, List.getElem_cons_succ, List.getElem_cons_zero])
 go_frame
 refine wpAnyN_take (i := 2) (v := .slice a1 4 c1) rfl (by kernel_rfl) (by kernel_rfl) (by kernel_rfl) (by decide) (by kernel_rfl) (fun _ _ _ h => h) (Or.inl ⟨by kernel_rfl, ?_⟩) K0.out ?_
 ·(intro w' hSw; go_simp)
 (try simp only [List.getElem_toArray, List.getElem_cons_succ, List.getElem_cons_zero])
 go_frame
 refine wpAnyN_take (i := 3) (v := .slice a M c) rfl (by kernel_rfl) (by kernel_rfl) (by kernel_rfl) (by decide) (by kernel_rfl) (fun _ _ _ h => h) (Or.inl ⟨by kernel_rfl, ?_⟩) K0.out ?_
 ·(intro w' hSw; go_simp)
 (try simp only [List.getElem_toArray, List.getElem_cons_succ, List.getElem_cons_zero])
 go_frame
 refine wpAnyN_take (i := 4) (v := .int .i64 (N : Int)) rfl (by kernel_rfl) (by kernel_rfl) (by kernel_rfl) (by decide) (by kernel_rfl) (fun _ _ _ h => h) (Or.inl ⟨by kernel_rfl, ?_⟩) K0.out ?_
 ·(intro w' hSw; go_simp)
 (try simp only [List.getElem_toArray, List.getElem_cons_succ, List.getElem_cons_zero])
 go_frame
 refine wpAnyN_take (i := 5) (v := .slice a2 N c2) rfl (by kernel_rfl) (by kernel_rfl) (by kernel_rfl) (by decide) (by kernel_rfl) (fun _ _ _ h => h) (Or.inl ⟨by kernel_rfl, ?_⟩) K0.out ?_
 ·(intro w' hSw; go_simp)
 (try simp only [List.getElem_toArray, List.getElem_cons_succ, List.getElem_cons_zero])
 go_frame
 refine wpAnyL_one (i := 6) (by kernel_rfl) rfl (by kernel_rfl) ?_
 go_simp
 refine HSUM.out.mono ?_
 rintro e w1 ⟨u, rfl, hu, k1⟩
 have HEQ := hid (S.equal_any (SrcOf.stay HS1.out k1) (own_src hu))
 have K9 := hid k1
 have K1 := hid (show Kept w w1 from K0.out.trans k1 (fun _ _ f => f))
 obtain ⟨ua, uc, hue⟩ := ownN_slice hu
 have hf4 : (G.four (G.sumL (bs.take N))).length = 4 := rfl
 rw [hf4] at hue
 subst hue
 clear hu k1 hf4
 refine ⟨K1.out, ?_⟩
 (try go_frame)
 refine wpAnyL_one (i := 7) (by kernel_rfl) rfl (by kernel_rfl) ?_
 go_simp
 refine HEQ.out.mono ?_
 rintro e w' ⟨hw, ⟨_, rfl⟩ | ⟨he, _⟩⟩
 rotate_left
 ·exact absurd HEE.out he
 replace hw := hw.symm
 subst hw
 refine ⟨K1.out, ?_⟩
 (try go_frame)
 refine wpAnyL_one (i := 8) (by kernel_rfl) rfl (by kernel_rfl) ?_
 go_simp
 refine ⟨K1.out, ?_⟩
 (try go_frame)
 refine wpAnyL_one (i := 9) (by kernel_rfl) rfl (by kernel_rfl) ?_
 go_simp
 refine (HR.out _).mono ?_
 rintro e w' ⟨rfl, hw⟩
 replace hw := hw.symm
 subst hw
 refine ⟨K1.out, ?_⟩
 (try go_frame)
 refine wpAnyN_done (by kernel_rfl) ?_
 refine NoPanic.normal ?_
 go_wp2_with fail
 exact HF.out _ K1.out
end Go.Proofs.YtllfanlhgnkcfaaGreatDoor.K
namespace Go.Proofs.YtllfanlhgnkcfaaGreatDoor.K
open Go.RowKit Go.Proofs.Lys Go.Maps Go.Shelf
open Go.Proofs.YtllfanlhgnkcfaaGreatDoor.N (ownN_slice ownN_lt ownN_only ownN_stay ownN_base ownN_typed ownN_some)
set_option linter.unusedVariables false
set_option linter.unusedSimpArgs false
set_option maxHeartbeats 1600000 in
theorem check1_any (w : World) (bl : Nat) (v : Value) (l : List Ser) (hL : Blk w bl [v] 22) (hs : SerIn w v l) (hl : l.length ≤ 100000) (hB : ∀ s ∈ l, s.1.length ≤ 100000 ∧ N.Small s.1 ∧ s.2.length ≤ 100000) :
  Calls Tryz.prog 21 #[.pointer (some ⟨bl, 0, none⟩)] w (fun e w' => Kept w w' ∧ ((checkB l = 0 ∧ e = .returned (.tuple #[])) ∨ (checkB l ≠ 0 ∧ e = gaveF (checkB l)))) := by
 have HLK := hid (look_any w v l hs hl hB)
 have hbl : bl < w.heap.size := hL.lt
 have hc := hL.cell 0 rfl
 obtain ⟨R, hR⟩ : ∃ R, (fun (e : Ending) (w' : World) => Kept w w' ∧ ((checkB l = 0 ∧ e = .returned (.tuple #[])) ∨ (checkB l ≠ 0 ∧ e = gaveF (checkB l)))) = R := ⟨_, rfl⟩
 rw [hR]
 have HRR := hid hR
 obtain ⟨a, c, rfl⟩ := hs.len
 clear hs hB hR hL
 go_enter Tryz.func21, Tryz.ntmps21
 go_wp2_with fail
 refine HLK.out.mono ?_
 rintro e w1 ⟨k1, ⟨h0, rfl⟩ | ⟨h0, rfl⟩⟩
 ·have HF : Hid (R (.returned (.tuple #[])) w1) := by rw [← HRR.out]; exact ⟨k1, .inl ⟨h0, rfl⟩⟩
  clear k1 h0 hc
  go_wp2_with fail
  go_end0
  exact HF.out
 ·have HF : Hid (R (gaveF (checkB l)) w1) := by rw [← HRR.out]; exact ⟨k1, .inr ⟨h0, rfl⟩⟩
  exact ⟨rfl, HF.out⟩
set_option maxHeartbeats 1600000 in
theorem check_any (w : World) (v : Value) (l : List Ser) (hs : SerIn w v l) (hl : l.length ≤ 100000) (hB : ∀ s ∈ l, s.1.length ≤ 100000 ∧ N.Small s.1 ∧ s.2.length ≤ 100000) (hG : ErrT w) :
  Calls Tryz.prog 7 #[v] w fun e w' => e = .returned (.int .i64 (checkB l)) ∧ Kept w w' := by
 have hmf : ∀ (fn : Fn) (first cap : Array Value) (w : World), (Instr.makeFunc fn first cap).run Tryz.prog w = .ok (.func fn first cap) w := fun _ _ _ _ => rfl
 obtain ⟨w0, hw0⟩ : ∃ w0, w0 = w.alloc (.cells #[v] 22) := ⟨_, rfl⟩
 have k0 : Kept w w0 := by rw [hw0]; exact (Only.refl _ w).alloc _
 have z0 : w0.heap.size = w.heap.size + 1 := by rw [hw0]; simp
 have bl : Blk w0 w.heap.size [v] 22 := by rw [hw0]; exact Blk.new w _ _
 have HAT : Hid (Calls Tryz.prog 20 #[.func (.func 21) #[] #[.pointer (some ⟨w.heap.size, 0, none⟩)]] w0 fun e w' => Kept w w' ∧ e = .returned (.int .i64 (checkB l))) := by
  have k1 : Kept w0 (w0.alloc (.cells #[.int .i64 0] 26)) := (Only.refl _ w0).alloc _
  have hq : Blk (w0.alloc (.cells #[.int .i64 0] 26)) w0.heap.size [.int .i64 0] 26 := Blk.new w0 _ _
  refine (attempt_any w0 21 _ (enters_of Tryz.func21 (by kernel_rfl) rfl)
   (fun w2 => checkB l = 0 ∧ Kept w0 w2)
   (fun x w2 => x = checkB l ∧ Kept w0 w2)
   ((check1_any _ w.heap.size v l (bl.alloc _) (hs.stay (k0.trans k1 (fun _ _ f => f))) hl hB).mono ?_)).mono ?_
  ·rintro e w2 ⟨k2, ⟨h0, rfl⟩ | ⟨h0, rfl⟩⟩
   ·exact ⟨k2.blk hq (fun f => f), .inl ⟨rfl, h0, k1.trans k2 (fun _ _ f => f)⟩⟩
   ·exact ⟨k2.blk hq (fun f => f), .inr ⟨_, rfl, ((hG.stay k0).stay k1).stay k2, rfl, k1.trans k2 (fun _ _ f => f)⟩⟩
  ·rintro e w' (⟨rfl, w2, ⟨h0, k2⟩, hq⟩ | ⟨x, w2, rfl, ⟨rfl, k2⟩, hq⟩)
   ·exact ⟨(k0.trans k2 (fun _ _ f => f)).trans hq (fun j hj e => by omega), by rw [h0]⟩
   ·exact ⟨(k0.trans k2 (fun _ _ f => f)).trans hq (fun j hj e => by omega), rfl⟩
 obtain ⟨a, c, rfl⟩ := hs.len
 clear hs hB hG k0 z0 bl
 go_enter Tryz.func7, Tryz.ntmps7
 go_wp2_with fail
 rw [← hw0]
 clear hw0
 refine HAT.out.mono ?_
 rintro e w1 ⟨k1, rfl⟩
 have K1 := hid k1
 clear k1 HAT
 go_wp2
 go_ret
 exact ⟨rfl, K1.out⟩
set_option maxHeartbeats 1600000 in
theorem pspan_any (w : World) (v : Value) (l : List Ser) (hs : SerIn w v l) (hl : l.length ≤ 100000) (hB : ∀ s ∈ l, s.1.length ≤ 100000 ∧ N.Small s.1 ∧ s.2.length ≤ 100000) (hG : ErrT w) :
  Calls Tryz.prog 9 #[v] w fun e w' => e = .returned (.tuple #[.int .i64 (if checkB l = 0 then spanB l else (0, 0)).1, .int .i64 (if checkB l = 0 then spanB l else (0, 0)).2]) ∧ Kept w w' := by
 have HCK := hid (check_any w v l hs hl hB hG)
 obtain ⟨PQ, hPQ⟩ : ∃ PQ, (fun (e : Ending) (w' : World) => e = .returned (.tuple #[.int .i64 (if checkB l = 0 then spanB l else (0, 0)).1, .int .i64 (if checkB l = 0 then spanB l else (0, 0)).2]) ∧ Kept w w') = PQ := ⟨_, rfl⟩
 rw [hPQ]
 by_cases h0 : checkB l = 0
 ·have hT : ∀ s ∈ l, s.2 ≠ [] ∧ s.2.length ≤ 100000 ∧ ∀ x ∈ s.2, -9007199254740992 ≤ x.1 ∧ x.1 ≤ 9007199254740992 := fun s hs' => by
   obtain ⟨_, hf⟩ := check_fit h0
   obtain ⟨i, hi, rfl⟩ := List.getElem_of_mem hs'
   refine ⟨(hf i hi).some, (hB _ hs').2.2, fun x hx => ?_⟩
   obtain ⟨j, hj, rfl⟩ := List.getElem_of_mem hx
   have := ((times_iff _).1 (hf i hi).times).at (i := j) (by rw [List.length_map]; exact hj)
   rw [List.getElem_map] at this
   exact this
  have HSP := hid (fun W (k : Kept w W) => span_any W v l (hs.stay k) (check_fit h0).1 hT)
  have HF : Hid (∀ w', Kept w w' → PQ (.returned (.tuple #[.int .i64 (spanB l).1, .int .i64 (spanB l).2])) w') := hid (fun w' k => by
   rw [← hPQ]
   exact ⟨by rw [if_pos h0], k⟩)
  rw [h0] at HCK
  obtain ⟨a, c, rfl⟩ := hs.len
  generalize (spanB l).1 = S1 at HSP HF
  generalize (spanB l).2 = S2 at HSP HF
  clear hs hB hG hPQ hT h0
  go_enter Tryz.func9, Tryz.ntmps9
  go_wp2_with fail
  refine HCK.out.mono ?_
  rintro e w1 ⟨rfl, k1⟩
  have HS1 := hid (HSP.out w1 k1)
  have K1 := hid k1
  clear k1 HCK HSP
  go_wp2_with fail
  refine HS1.out.mono ?_
  rintro e w2 ⟨rfl, k2⟩
  have HF2 := hid (HF.out w2 (K1.out.trans k2 (fun _ _ f => f)))
  clear k2 HS1
  go_wp2_with fail
  exact HF2.out
 ·have HF : Hid (∀ w', Kept w w' → PQ (.returned (.tuple #[.int .i64 0, .int .i64 0])) w') := hid (fun w' k => by
   rw [← hPQ]
   exact ⟨by rw [if_neg h0], k⟩)
  obtain ⟨a, c, rfl⟩ := hs.len
  generalize checkB l = C at HCK h0
  have hCb : (C == 0) = false := by simpa using h0
  clear hs hB hG hPQ
  go_enter Tryz.func9, Tryz.ntmps9
  go_wp2_with fail
  refine HCK.out.mono ?_
  rintro e w1 ⟨rfl, k1⟩
  have HF2 := hid (HF.out w1 k1)
  clear k1 HCK
  go_wp2_with fail
  exact HF2.out
end Go.Proofs.YtllfanlhgnkcfaaGreatDoor.K
namespace Go.Proofs.YtllfanlhgnkcfaaGreatDoor.K
open Go Go.RowKit Go.Proofs.Lys Go.Maps Go.Shelf
set_option linter.unusedVariables false
set_option linter.unusedSimpArgs false
def spanD (l : List Ser) : Int × Int := l.foldl spanS (9007199254740993, -9007199254740992)
theorem spanD_snoc (l : List Ser) (s : Ser) : spanD (l ++ [s]) = spanS (spanD l) s := by unfold spanD; rw [List.foldl_append]; rfl
theorem spanD_eq {l : List Ser} (h0 : l ≠ []) (hT : ∀ s ∈ l, s.2 ≠ [] ∧ ∀ x ∈ s.2, -9007199254740992 ≤ x.1 ∧ x.1 ≤ 9007199254740992) : spanD l = spanB l := by
 cases l with
 | nil => exact absurd rfl h0
 | cons s r =>
  obtain ⟨h1, h2⟩ := hT s (List.mem_cons_self ..)
  have hpos := List.length_pos_iff.2 h1
  have a1 := h2 _ (List.getElem_mem hpos)
  have a2 := h2 _ (List.getElem_mem (show s.2.length - 1 < s.2.length by omega))
  have e1 : firstT s = s.2[0].1 := first_at hpos
  have e2 : lastT s = s.2[s.2.length - 1].1 := first_at (by omega)
  have e : spanS (9007199254740993, -9007199254740992) s = (firstT s, lastT s + 1) := by
   unfold spanS
   rw [e1, e2]
   simp only
   rw [Int.min_eq_right (by omega), Int.max_eq_right (by omega)]
  show r.foldl spanS (spanS (9007199254740993, -9007199254740992) s) = _
  rw [e]
  rfl
set_option maxRecDepth 100000 in
set_option maxHeartbeats 6400000 in
theorem rspan_any (w : World) (v : Value) (l : List Ser) (hs : SerIn w v l) (hl : l.length ≤ 100000) (hB : ∀ s ∈ l, s.1.length ≤ 100000 ∧ N.Small s.1 ∧ s.2.length ≤ 100000) :
  Calls Tryz.prog 10 #[v] w fun e w' => e = .returned (.tuple #[.int .i64 (if checkB l = 0 then spanB l else (0, 0)).1, .int .i64 (if checkB l = 0 then spanB l else (0, 0)).2]) ∧ Kept w w' := by
 have HCK := hid (rcheck_any w v l hs hl hB)
 obtain ⟨PQ, hPQ⟩ : ∃ PQ, (fun (e : Ending) (w' : World) => e = .returned (.tuple #[.int .i64 (if checkB l = 0 then spanB l else (0, 0)).1, .int .i64 (if checkB l = 0 then spanB l else (0, 0)).2]) ∧ Kept w w') = PQ := ⟨_, rfl⟩
 rw [hPQ]
 have HPQ := hid hPQ
 obtain ⟨a, c, rfl⟩ := hs.len
 obtain ⟨N, hN⟩ : ∃ N, l.length = N := ⟨_, rfl⟩
 rw [hN] at hs hl HCK ⊢
 obtain ⟨CK, hCK⟩ : ∃ CK, checkB l = CK := ⟨_, rfl⟩
 unfold ChkP at HCK
 rw [hCK] at HCK
 have HCKE := hid hCK
 have HN := hid hN
 have HS := hid hs
 have HBB := hid hB
 clear hs hB hN hPQ hCK
 go_enter Tryz.func10, Tryz.ntmps10
 go_wp2_with fail
 refine HCK.out.mono ?_
 rintro e w1 ⟨rfl, k1⟩
 have HK1 := hid k1
 clear k1 HCK
 by_cases h0 : CK = 0
 ·subst h0
  have hfit := (check_fit HCKE.out).2
  have hTm : ∀ s ∈ l, s.2 ≠ [] ∧ ∀ x ∈ s.2, -9007199254740992 ≤ x.1 ∧ x.1 ≤ 9007199254740992 := fun s hs => by
   obtain ⟨i, hi, rfl⟩ := List.getElem_of_mem hs
   refine ⟨(hfit i hi).some, fun x hx => ?_⟩
   obtain ⟨j, hj, rfl⟩ := List.getElem_of_mem hx
   have := ((times_iff _).1 (hfit i hi).times).at (i := j) (by rw [List.length_map]; exact hj)
   rw [List.getElem_map] at this
   exact this
  have HTM := hid hTm
  have HPF : Hid (∀ F T w', (F, T) = spanB l → Kept w w' → PQ (.returned (.tuple #[.int .i64 F, .int .i64 T])) w') := hid (fun F T w' h k => by
   rw [← HPQ.out]
   rw [if_pos HCKE.out, ← h]
   exact ⟨rfl, k⟩)
  clear hfit hTm
  by_cases hN0 : N = 0
  ·subst hN0
   have hnil : l = [] := List.length_eq_zero_iff.1 HN.out
   have HFF := hid (HPF.out 0 0 w1 (by rw [hnil]; rfl) HK1.out)
   go_wp2_with fail
   (try go_ret2)
   exact HFF.out
  ·have hd0 : ((N : Int) == 0) = false := by simp; omega
   go_wp2_with fail
   go_loopw [4, 5, 6] (fun s2 s3 s10 wr => ∃ (k : Nat) (F T : Int), k ≤ N ∧ s10 = .int .i64 (k : Int) ∧ s2 = .int .i64 F ∧ s3 = .int .i64 T ∧ Hid ((F, T) = spanD (l.take k)) ∧ Kept w wr) (fun _ _ s10 _ => N - (intOf s10).toNat)
   case atStart => exact ⟨0, 9007199254740993, -9007199254740992, by omega, rfl, rfl, rfl, hid rfl, HK1.out⟩
   case round =>
    obtain ⟨k, F, T, hk, rfl, rfl, rfl, hsp, kr⟩ := hrel
    by_cases hlt : k < N
    ·have hkl : k < l.length := by have := HN.out; omega
     obtain ⟨b, o, la, lc, sa, sc, rfl, c0, c1, h0, h1⟩ := (HS.out.stay kr).cell HN.out k hlt
     obtain ⟨hne, hbd⟩ := HTM.out l[k] (List.getElem_mem hkl)
     obtain ⟨_, _, hln⟩ := HBB.out l[k] (List.getElem_mem hkl)
     have hpos : 0 < l[k].2.length := List.length_pos_iff.2 hne
     obtain ⟨sb, so, rfl, y0, y1⟩ := h1.1.cell rfl 0 hpos
     obtain ⟨_, _, e2, z0, z1⟩ := h1.1.cell rfl (l[k].2.length - 1) (by omega)
     clear y1 z1
     simp only [Option.some.injEq, Addr.mk.injEq] at e2
     obtain ⟨rfl, rfl, _⟩ := e2
     have hF := hbd _ (List.getElem_mem hpos)
     have hL := hbd _ (List.getElem_mem (show l[k].2.length - 1 < l[k].2.length by omega))
     have HSP : Hid (spanD (l.take (k + 1)) = (min F l[k].2[0].1, max T (l[k].2[l[k].2.length - 1].1 + 1))) := by
      show _ = _
      rw [List.take_succ_eq_append_getElem hkl, spanD_snoc, ← hsp.out]
      unfold spanS firstT lastT
      rw [first_at hpos, first_at (by omega)]
     generalize l[k].2[0].1 = FT at y0 hF HSP
     generalize l[k].2[l[k].2.length - 1].1 = LT at z0 hL HSP
     generalize hSL : l[k].2.length = SL at c1 z0 hpos hln
     generalize l[k].1.length = LL at c0
     obtain ⟨SP, hSP⟩ : ∃ SP : Nat, SL = SP + 1 := ⟨SL - 1, by omega⟩
     subst hSP
     rw [show SP + 1 - 1 = SP by omega] at z0
     have y0' : wr.cell? ⟨sb, so, none⟩ = some (.int .i64 FT) := by simpa using y0
     have KR := hid kr
     have i1 : ((SP + 1 : Nat) : Int) - 1 = (SP : Int) := by omega
     have w1' : wrap64 (LT + 1) = LT + 1 := by unfold wrap64; omega
     clear h0 h1 hne hbd hSL hsp kr y0
     by_cases hf : FT < F
     ·have e1 : min F FT = FT := Int.min_eq_right (by omega)
      rw [e1] at HSP
      by_cases hg : T < LT + 1
      ·have e2 : max T (LT + 1) = LT + 1 := Int.max_eq_right (by omega)
       rw [e2] at HSP
       go_wp2_with fail
       go_roundw
       case rel => exact ⟨k + 1, FT, LT + 1, by omega, by go_num, by go_num, by go_num, hid HSP.out.symm, KR.out⟩
       case measure => simp [intOf]; omega
      ·have e2 : max T (LT + 1) = T := Int.max_eq_left (by omega)
       rw [e2] at HSP
       go_wp2_with fail
       go_roundw
       case rel => exact ⟨k + 1, FT, T, by omega, by go_num, by go_num, by go_num, hid HSP.out.symm, KR.out⟩
       case measure => simp [intOf]; omega
     ·have e1 : min F FT = F := Int.min_eq_left (by omega)
      rw [e1] at HSP
      by_cases hg : T < LT + 1
      ·have e2 : max T (LT + 1) = LT + 1 := Int.max_eq_right (by omega)
       rw [e2] at HSP
       go_wp2_with fail
       go_roundw
       case rel => exact ⟨k + 1, F, LT + 1, by omega, by go_num, by go_num, by go_num, hid HSP.out.symm, KR.out⟩
       case measure => simp [intOf]; omega
      ·have e2 : max T (LT + 1) = T := Int.max_eq_left (by omega)
       rw [e2] at HSP
       go_wp2_with fail
       go_roundw
       case rel => exact ⟨k + 1, F, T, by omega, by go_num, by go_num, by go_num, hid HSP.out.symm, KR.out⟩
       case measure => simp [intOf]; omega
    ·obtain rfl : N = k := by omega
     have hne : l ≠ [] := fun e => hN0 (by have := HN.out; rw [e] at this; exact this.symm)
     have HFF := hid (HPF.out F T wr (by
      have h1 := hsp.out
      rw [List.take_of_length_le (by have := HN.out; omega), spanD_eq hne HTM.out] at h1
      exact h1) kr)
     clear hsp
     go_wp2_with fail
     (try go_ret2)
     exact HFF.out
 ·have hcb : (CK != 0) = true := by simpa using h0
  have HFF : Hid (PQ (.returned (.tuple #[.int .i64 0, .int .i64 0])) w1) := hid (by
   rw [← HPQ.out, if_neg (by rw [HCKE.out]; exact h0)]
   exact ⟨rfl, HK1.out⟩)
  clear h0
  go_wp2_with fail
  (try go_ret2)
  exact HFF.out
end Go.Proofs.YtllfanlhgnkcfaaGreatDoor.K
