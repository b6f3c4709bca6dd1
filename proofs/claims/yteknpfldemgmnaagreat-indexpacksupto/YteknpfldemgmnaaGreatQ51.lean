/-
  Xrpk.
-/
import Derived.Test.YteknpfldemgmnaaGreatQ49
import Derived.Test.YteknpfldemgmnaaGreatQ38

/-
  The document's own bytes of an index.
-/
namespace Go.Proofs.YteknpfldemgmnaaGreat.X
open Go.RowKit Go.Proofs.Lys Go.Maps Go.Proofs.YteknpfldemgmnaaGreat.N
set_option linter.unusedVariables false
set_option linter.unusedSimpArgs false

set_option maxRecDepth 100000 in
set_option maxHeartbeats 12800000 in
theorem rpackI_any (w : World) (v : Value) (L : List Labs) (hs : LSrc w v L) (hsum : sumN L ≤ 20000) (hlen : L.length ≤ 1000) (hll : ∀ l ∈ L, l.length ≤ 100000) (hP : ∀ p ∈ postsOf L, p.2.length ≤ 1000 ∧ Po.upB (-1) p.2 = true ∧ p.1.1.size ≤ 64 ∧ p.1.2.size ≤ 64) (hpl : (packI L.length (postsOf L)).length ≤ 900000) :
    Calls Tryz.prog 10 #[v] w fun e w' => ∃ u, e = .returned u ∧ BytAt w' w.heap.size u (packI L.length (postsOf L)) ∧ Kept w w' := by
  have HR := hid (rposts_any w v L hs (by omega) (by omega) hll)
  have HPU := hid (fun (W : World) (n : Int) => U.rput_any W n)
  obtain ⟨av, cv, rfl⟩ := hs.len
  have hPl : (postsOf L).length ≤ 20000 := by
    have hbd := bd_posts L L.length (Nat.le_refl _)
    rw [List.take_length] at hbd
    have := hbd.1.1
    omega
  obtain ⟨NL, hNL⟩ : ∃ NL, L.length = NL := ⟨_, rfl⟩
  rw [hNL] at hpl hlen HR ⊢
  generalize postsOf L = P at *
  have HLL := hid hP
  clear hs hsum hll hP hNL
  go_enter Tryz.func10, Tryz.ntmps10
  go_wp2_with fail
  refine HR.out.mono ?_
  rintro e w1 ⟨v3, qs, rfl, hpo, hqe, k1⟩
  have HPA := hid hpo
  have HQE := hid hqe
  have K1 := hid k1
  obtain ⟨a3, c3, e3⟩ := (pv_cells hpo.row).len
  have hql : qs.length = P.length := by have := congrArg List.length hqe; rw [List.length_map] at this; exact this
  obtain ⟨N, hN⟩ : ∃ N, P.length = N := ⟨_, rfl⟩
  rw [hql, hN] at e3
  subst e3
  have HQL := hid (hql.trans hN)
  have HN := hid hN
  rw [hN] at hPl
  clear hpo hqe k1 hql hN HR
  go_wp2_with fail
  refine (HPU.out w1 _).mono ?_
  rintro e w2 ⟨u1, rfl, hu1, k2⟩
  have HU1 := hid hu1
  obtain ⟨b1, d1, e1⟩ := ownN_slice hu1
  have K2 := hid k2
  generalize hM1 : (putN (U.uN (NL : Int))).length = M1 at e1
  subst e1
  clear hu1 k2
  go_wp2_with fail
  refine (HPU.out w2 _).mono ?_
  rintro e w3 ⟨u2, rfl, hu2, k3⟩
  obtain ⟨b2, d2, e2⟩ := ownN_slice hu2
  have K3 := hid k3
  obtain ⟨a4, n4, c4, w4, r4, hn4, hat4, ho4⟩ := byt_app (B := w1.heap.size) (ownN_stay HU1.out k3) (own_src hu2) (by have h1 := Po.put_ten (NL : Int); have h2 := Po.put_ten (N : Int); omega) (Nat.le_trans K2.out.size k3.size)
  generalize hM2 : (putN (U.uN (N : Int))).length = M2 at e2
  subst e2
  obtain ⟨hd, hhd⟩ : ∃ hd, putN (U.uN (NL : Int)) ++ putN (U.uN (N : Int)) = hd := ⟨_, rfl⟩
  rw [hhd] at hat4
  have HSUM : Hid (∀ k, (hd ++ (P.take k).flatMap oneP).length ≤ 900000) := fun k => by
    have h1 := oneP_len P k
    unfold packI at hpl
    rw [HN.out, hhd, List.length_append] at hpl
    rw [List.length_append]
    omega
  have HEND : Hid (packI NL P = hd ++ P.flatMap oneP) := by
    show packI NL P = hd ++ P.flatMap oneP
    unfold packI
    rw [HN.out, hhd]
  have HON4 := hid (show Only (fun j => w1.heap.size ≤ j) w1 w4 from (((K2.out.trans k3 (fun _ _ f => f)).mono (O' := fun j => w1.heap.size ≤ j) (fun _ _ f => f.elim)).trans ho4.out (fun j _ e => (ownN_lt (ownN_stay HU1.out k3) e).1)))
  have HPW := hid (fun (W : World) (k : Only (fun j => w1.heap.size ≤ j) w1 W) => HPA.out.only k (fun j _ hj => by omega))
  have hszw := K1.out.size
  have HM4 := hid hn4
  clear hu2 k3 hM1 hM2 hhd hpl ho4 HU1 K2 K3 hn4
  go_wp2_with (at_builtin; refine Lys.wpList_append_run rfl _ _ _ rfl rfl rfl r4 ?_)
  (try go_wp2_with fail)
  go_loopw [4, 5] (fun s4 s5 wr => ∃ (k : Nat) (a : Option Addr) (n c : Nat), k ≤ N ∧ s5 = .int .i64 (k : Int) ∧ s4 = .slice a n c ∧ Hid (BytAt wr w1.heap.size (.slice a n c) (hd ++ (P.take k).flatMap oneP)) ∧ Hid (Only (fun j => w1.heap.size ≤ j) w1 wr)) (fun _ s5 _ => N - (intOf s5).toNat)
  case atStart => exact ⟨0, a4, n4, c4, by omega, rfl, rfl, hid (by simpa using hat4.out), HON4⟩
  case round =>
    obtain ⟨k, a6, n6, c6, hk, rfl, rfl, hat, hon⟩ := hrel
    have hszr := hon.out.size
    by_cases hlt : k < N
    · have hkP : k < P.length := by have := HN.out; omega
      have hkq : k < qs.length := by have := HQL.out; omega
      have hpw := HPW.out wr hon.out
      obtain ⟨b, o, rfl, x1, x2, x3⟩ := (pv_cells hpw.row).cell HQL.out k hlt
      have hpe : qs[k].lab = P[k].1 ∧ qs[k].l = P[k].2 := by
        have : P[k]? = some (postV qs[k]) := by rw [← HQE.out, List.getElem?_map, List.getElem?_eq_getElem hkq]; rfl
        rw [List.getElem?_eq_getElem hkP] at this
        have := Option.some.inj this
        exact ⟨by rw [this]; rfl, by rw [this]; rfl⟩
      have HCELL := hid (fun (W : World) (kW : Only (fun j => w1.heap.size ≤ j) wr W) => (show (W.cell? ⟨b, o + k * 3, none⟩ = some (.string P[k].1.1) ∧ W.cell? ⟨b, o + k * 3 + 1, none⟩ = some (.string P[k].1.2) ∧ W.cell? ⟨b, o + k * 3 + 2, none⟩ = some qs[k].lv) ∧ NumAt W w.heap.size qs[k].lv P[k].2 from by
        have h1 := HPW.out W (hon.out.trans kW (fun _ _ e => e))
        obtain ⟨b', o', e', y1, y2, y3⟩ := (pv_cells h1.row).cell HQL.out k hlt
        cases e'
        have h2 := h1.num _ (List.getElem_mem hkq)
        rw [hpe.1] at y1 y2
        rw [hpe.2] at h2
        exact ⟨⟨y1, y2, y3⟩, h2⟩))
      have hpl2 := HLL.out P[k] (List.getElem_mem hkP)
      have HTK := hid (oneP_take hkP)
      have hbl := HSUM.out k
      clear x1 x2 x3 hpw hpe
      generalize qs[k].lv = LV at HCELL
      generalize P[k] = p at HCELL hpl2 HTK
      obtain ⟨⟨Y1, Y2⟩, pl⟩ := p
      simp only at HCELL hpl2
      obtain ⟨la, lc, e3⟩ := ownN_slice (HCELL.out wr (Only.refl _ _)).2
      generalize hLN : pl.length = LN at e3
      subst e3
      obtain ⟨acc, hacc⟩ : ∃ acc, hd ++ (P.take k).flatMap oneP = acc := ⟨_, rfl⟩
      rw [hacc] at hat hbl
      have HACC := hid hacc
      have y1l : Y1.data.toList.length = Y1.size := (Lib.size_eq Y1).symm
      have y2l : Y2.data.toList.length = Y2.size := (Lib.size_eq Y2).symm
      have p1l := Po.put_ten (Y1.size : Int)
      have p2l := Po.put_ten (Y2.size : Int)
      clear hacc
      go_wp2_with fail
      have KD0 := hid (show Only (fun j => w1.heap.size ≤ j) wr wr.drew from (Only.refl (fun j => w1.heap.size ≤ j) wr).drew)
      refine wp_region_noPanic ?_
      refine wp_region_last (L := 1000) (S := fun w' => Only (fun j => w1.heap.size ≤ j) wr w') (by kernel_rfl) ?_
      refine wpAnyN_take (i := 0) (v := .slice a6 n6 c6) rfl (by kernel_rfl) (by kernel_rfl) (by kernel_rfl) (by decide) (by kernel_rfl) (fun _ _ _ h => h) (Or.inl ⟨by rfl, ?_⟩) KD0.out ?_
      · (intro w' hSw; obtain ⟨⟨s0, s1, s2⟩, _⟩ := HCELL.out w' hSw; clear hSw; go_simp)
      (try simp only [List.getElem_toArray, List.getElem_cons_succ, List.getElem_cons_zero])
      go_frame
      refine wpAnyN_take (i := 1) (v := .slice (some ⟨b, o, none⟩) N c3) rfl (by kernel_rfl) (by kernel_rfl) (by kernel_rfl) (by decide) (by kernel_rfl) (fun _ _ _ h => h) (Or.inl ⟨by rfl, ?_⟩) KD0.out ?_
      · (intro w' hSw; obtain ⟨⟨s0, s1, s2⟩, _⟩ := HCELL.out w' hSw; clear hSw; go_simp)
      (try simp only [List.getElem_toArray, List.getElem_cons_succ, List.getElem_cons_zero])
      go_frame
      refine wpAnyN_take (i := 2) (v := .int .i64 (k : Int)) rfl (by kernel_rfl) (by kernel_rfl) (by kernel_rfl) (by decide) (by kernel_rfl) (fun _ _ _ h => h) (Or.inl ⟨by rfl, ?_⟩) KD0.out ?_
      · (intro w' hSw; obtain ⟨⟨s0, s1, s2⟩, _⟩ := HCELL.out w' hSw; clear hSw; go_simp)
      (try simp only [List.getElem_toArray, List.getElem_cons_succ, List.getElem_cons_zero])
      go_frame
      refine wpAnyN_take (i := 3) (v := .pointer (some ⟨b, o + k * 3, none⟩)) rfl (by kernel_rfl) (by kernel_rfl) (by kernel_rfl) (by decide) (by kernel_rfl) (fun _ _ _ h => h) (Or.inl ⟨by rfl, ?_⟩) KD0.out ?_
      · (intro w' hSw; obtain ⟨⟨s0, s1, s2⟩, _⟩ := HCELL.out w' hSw; clear hSw; go_simp)
      (try simp only [List.getElem_toArray, List.getElem_cons_succ, List.getElem_cons_zero])
      go_frame
      refine wpAnyN_take (i := 4) (v := .pointer (some ⟨b, o + k * 3, none⟩)) rfl (by kernel_rfl) (by kernel_rfl) (by kernel_rfl) (by decide) (by kernel_rfl) (fun _ _ _ h => h) (Or.inl ⟨by rfl, ?_⟩) KD0.out ?_
      · (intro w' hSw; obtain ⟨⟨s0, s1, s2⟩, _⟩ := HCELL.out w' hSw; clear hSw; go_simp)
      (try simp only [List.getElem_toArray, List.getElem_cons_succ, List.getElem_cons_zero])
      go_frame
      refine wpAnyN_take (i := 5) (v := .pointer (some ⟨b, o + k * 3, none⟩)) rfl (by kernel_rfl) (by kernel_rfl) (by kernel_rfl) (by decide) (by kernel_rfl) (fun _ _ _ h => h) (Or.inl ⟨by rfl, ?_⟩) KD0.out ?_
      · (intro w' hSw; obtain ⟨⟨s0, s1, s2⟩, _⟩ := HCELL.out w' hSw; clear hSw; go_simp)
      (try simp only [List.getElem_toArray, List.getElem_cons_succ, List.getElem_cons_zero])
      go_frame
      refine wpAnyN_take (i := 6) (v := .string Y1) rfl (by kernel_rfl) (by kernel_rfl) (by kernel_rfl) (by decide) (by kernel_rfl) (fun _ _ _ h => h) (Or.inl ⟨by rfl, ?_⟩) KD0.out ?_
      · (intro w' hSw; obtain ⟨⟨s0, s1, s2⟩, _⟩ := HCELL.out w' hSw; clear hSw; go_simp)
      (try simp only [List.getElem_toArray, List.getElem_cons_succ, List.getElem_cons_zero])
      go_frame
      refine wpAnyN_take (i := 7) (v := .int .i64 (Y1.size : Int)) rfl (by kernel_rfl) (by kernel_rfl) (by kernel_rfl) (by decide) (by kernel_rfl) (fun _ _ _ h => h) (Or.inl ⟨by rfl, ?_⟩) KD0.out ?_
      · (intro w' hSw; obtain ⟨⟨s0, s1, s2⟩, _⟩ := HCELL.out w' hSw; clear hSw; go_simp)
      (try simp only [List.getElem_toArray, List.getElem_cons_succ, List.getElem_cons_zero])
      go_frame
      refine wpAnyN_take (i := 10) (v := .slice (some ⟨b, o, none⟩) N c3) rfl (by kernel_rfl) (by kernel_rfl) (by kernel_rfl) (by decide) (by kernel_rfl) (fun _ _ _ h => h) (Or.inl ⟨by rfl, ?_⟩) KD0.out ?_
      · (intro w' hSw; obtain ⟨⟨s0, s1, s2⟩, _⟩ := HCELL.out w' hSw; clear hSw; go_simp)
      (try simp only [List.getElem_toArray, List.getElem_cons_succ, List.getElem_cons_zero])
      go_frame
      refine wpAnyN_take (i := 11) (v := .int .i64 (k : Int)) rfl (by kernel_rfl) (by kernel_rfl) (by kernel_rfl) (by decide) (by kernel_rfl) (fun _ _ _ h => h) (Or.inl ⟨by rfl, ?_⟩) KD0.out ?_
      · (intro w' hSw; obtain ⟨⟨s0, s1, s2⟩, _⟩ := HCELL.out w' hSw; clear hSw; go_simp)
      (try simp only [List.getElem_toArray, List.getElem_cons_succ, List.getElem_cons_zero])
      go_frame
      refine wpAnyN_take (i := 12) (v := .pointer (some ⟨b, o + k * 3, none⟩)) rfl (by kernel_rfl) (by kernel_rfl) (by kernel_rfl) (by decide) (by kernel_rfl) (fun _ _ _ h => h) (Or.inl ⟨by rfl, ?_⟩) KD0.out ?_
      · (intro w' hSw; obtain ⟨⟨s0, s1, s2⟩, _⟩ := HCELL.out w' hSw; clear hSw; go_simp)
      (try simp only [List.getElem_toArray, List.getElem_cons_succ, List.getElem_cons_zero])
      go_frame
      refine wpAnyN_take (i := 13) (v := .pointer (some ⟨b, o + k * 3, none⟩)) rfl (by kernel_rfl) (by kernel_rfl) (by kernel_rfl) (by decide) (by kernel_rfl) (fun _ _ _ h => h) (Or.inl ⟨by rfl, ?_⟩) KD0.out ?_
      · (intro w' hSw; obtain ⟨⟨s0, s1, s2⟩, _⟩ := HCELL.out w' hSw; clear hSw; go_simp)
      (try simp only [List.getElem_toArray, List.getElem_cons_succ, List.getElem_cons_zero])
      go_frame
      refine wpAnyN_take (i := 14) (v := .pointer (some ⟨b, o + k * 3, none⟩)) rfl (by kernel_rfl) (by kernel_rfl) (by kernel_rfl) (by decide) (by kernel_rfl) (fun _ _ _ h => h) (Or.inl ⟨by rfl, ?_⟩) KD0.out ?_
      · (intro w' hSw; obtain ⟨⟨s0, s1, s2⟩, _⟩ := HCELL.out w' hSw; clear hSw; go_simp)
      (try simp only [List.getElem_toArray, List.getElem_cons_succ, List.getElem_cons_zero])
      go_frame
      refine wpAnyN_take (i := 15) (v := .string Y1) rfl (by kernel_rfl) (by kernel_rfl) (by kernel_rfl) (by decide) (by kernel_rfl) (fun _ _ _ h => h) (Or.inl ⟨by rfl, ?_⟩) KD0.out ?_
      · (intro w' hSw; obtain ⟨⟨s0, s1, s2⟩, _⟩ := HCELL.out w' hSw; clear hSw; go_simp)
      (try simp only [List.getElem_toArray, List.getElem_cons_succ, List.getElem_cons_zero])
      go_frame
      refine wpAnyL_one (i := 8) (by kernel_rfl) rfl rfl ?_
      go_simp
      refine (HPU.out wr.drew (Y1.size : Int)).mono ?_
      rintro e wp0 ⟨up0, rfl, hup0, kp0⟩
      have kpp0 : Kept wr wp0 := ((Only.refl _ wr).drew).trans kp0 (fun _ _ f => f)
      have KP0 := hid (show Only (fun j => w1.heap.size ≤ j) wr wp0 from ((Only.refl (fun j => w1.heap.size ≤ j) wr)).trans (kpp0.mono (O' := fun j => w1.heap.size ≤ j) (fun _ _ f => f.elim)) (fun _ _ e => e))
      obtain ⟨ae0, ne0, ce0, we0, re0, hne0, hate0, hoe0⟩ := byt_app (B := w1.heap.size) (ownN_stay hat.out kpp0) (own_src hup0) (by (try simp only [List.length_append]); omega) (by have := KP0.out.size; omega)
      have KE0 := hid (show Only (fun j => w1.heap.size ≤ j) wr we0 from KP0.out.trans hoe0.out (fun j _ e => (ownN_lt (ownN_stay hat.out kpp0) e).1))
      obtain ⟨aX, nX, cX, wX, rf0, hnf0, hatX, hof0⟩ := byt_str (B := w1.heap.size) hate0.out Y1 (by (try simp only [List.length_append]); omega) (by have := KE0.out.size; omega)
      have KX := hid (show Only (fun j => w1.heap.size ≤ j) wr wX from KE0.out.trans hof0.out (fun j _ e => (ownN_lt hate0.out e).1))
      obtain ⟨pa0, pc0, pe0⟩ := ownN_slice hup0
      generalize hpn0 : (putN (U.uN (Y1.size : Int))).length = pn0 at pe0
      subst pe0
      clear hup0 kp0 hoe0 hof0 hpn0 hne0 hnf0
      refine ⟨KP0.out, ?_⟩
      (try go_frame)
      refine wpAnyL_one (i := 9) (by kernel_rfl) rfl rfl (oper_appendH _ _ _ rfl rfl rfl re0 ?_)
      refine ⟨KE0.out, ?_⟩
      (try go_frame)
      refine wpAnyL_one (i := 16) (by kernel_rfl) rfl rfl (Lib.wp_append_run _ _ _ _ _ rfl _ _ rfl rfl _ _ rf0.out ?_)
      refine ⟨KX.out, ?_⟩
      (try go_frame)
      refine wpAnyL_one (i := 17) (by kernel_rfl) rfl rfl ?_
      go_simp
      refine ⟨KX.out, ?_⟩
      (try go_frame)
      refine wpAnyN_done (by kernel_rfl) ?_
      refine NoPanic.normal ?_
      go_wp2_with fail
      have KD1 := hid (show Only (fun j => w1.heap.size ≤ j) wr wX.drew from KX.out.drew)
      refine wp_region_noPanic ?_
      refine wp_region_last (L := 1000) (S := fun w' => Only (fun j => w1.heap.size ≤ j) wr w') (by kernel_rfl) ?_
      refine wpAnyN_take (i := 0) (v := .slice aX nX cX) rfl (by kernel_rfl) (by kernel_rfl) (by kernel_rfl) (by decide) (by kernel_rfl) (fun _ _ _ h => h) (Or.inl ⟨by rfl, ?_⟩) KD1.out ?_
      · (intro w' hSw; obtain ⟨⟨s0, s1, s2⟩, _⟩ := HCELL.out w' hSw; clear hSw; go_simp)
      (try simp only [List.getElem_toArray, List.getElem_cons_succ, List.getElem_cons_zero])
      go_frame
      refine wpAnyN_take (i := 1) (v := .slice (some ⟨b, o, none⟩) N c3) rfl (by kernel_rfl) (by kernel_rfl) (by kernel_rfl) (by decide) (by kernel_rfl) (fun _ _ _ h => h) (Or.inl ⟨by rfl, ?_⟩) KD1.out ?_
      · (intro w' hSw; obtain ⟨⟨s0, s1, s2⟩, _⟩ := HCELL.out w' hSw; clear hSw; go_simp)
      (try simp only [List.getElem_toArray, List.getElem_cons_succ, List.getElem_cons_zero])
      go_frame
      refine wpAnyN_take (i := 2) (v := .int .i64 (k : Int)) rfl (by kernel_rfl) (by kernel_rfl) (by kernel_rfl) (by decide) (by kernel_rfl) (fun _ _ _ h => h) (Or.inl ⟨by rfl, ?_⟩) KD1.out ?_
      · (intro w' hSw; obtain ⟨⟨s0, s1, s2⟩, _⟩ := HCELL.out w' hSw; clear hSw; go_simp)
      (try simp only [List.getElem_toArray, List.getElem_cons_succ, List.getElem_cons_zero])
      go_frame
      refine wpAnyN_take (i := 3) (v := .pointer (some ⟨b, o + k * 3, none⟩)) rfl (by kernel_rfl) (by kernel_rfl) (by kernel_rfl) (by decide) (by kernel_rfl) (fun _ _ _ h => h) (Or.inl ⟨by rfl, ?_⟩) KD1.out ?_
      · (intro w' hSw; obtain ⟨⟨s0, s1, s2⟩, _⟩ := HCELL.out w' hSw; clear hSw; go_simp)
      (try simp only [List.getElem_toArray, List.getElem_cons_succ, List.getElem_cons_zero])
      go_frame
      refine wpAnyN_take (i := 4) (v := .pointer (some ⟨b, o + k * 3, none⟩)) rfl (by kernel_rfl) (by kernel_rfl) (by kernel_rfl) (by decide) (by kernel_rfl) (fun _ _ _ h => h) (Or.inl ⟨by rfl, ?_⟩) KD1.out ?_
      · (intro w' hSw; obtain ⟨⟨s0, s1, s2⟩, _⟩ := HCELL.out w' hSw; clear hSw; go_simp)
      (try simp only [List.getElem_toArray, List.getElem_cons_succ, List.getElem_cons_zero])
      go_frame
      refine wpAnyN_take (i := 5) (v := .pointer (some ⟨b, o + k * 3 + 1, none⟩)) rfl (by kernel_rfl) (by kernel_rfl) (by kernel_rfl) (by decide) (by kernel_rfl) (fun _ _ _ h => h) (Or.inl ⟨by rfl, ?_⟩) KD1.out ?_
      · (intro w' hSw; obtain ⟨⟨s0, s1, s2⟩, _⟩ := HCELL.out w' hSw; clear hSw; go_simp)
      (try simp only [List.getElem_toArray, List.getElem_cons_succ, List.getElem_cons_zero])
      go_frame
      refine wpAnyN_take (i := 6) (v := .string Y2) rfl (by kernel_rfl) (by kernel_rfl) (by kernel_rfl) (by decide) (by kernel_rfl) (fun _ _ _ h => h) (Or.inl ⟨by rfl, ?_⟩) KD1.out ?_
      · (intro w' hSw; obtain ⟨⟨s0, s1, s2⟩, _⟩ := HCELL.out w' hSw; clear hSw; go_simp)
      (try simp only [List.getElem_toArray, List.getElem_cons_succ, List.getElem_cons_zero])
      go_frame
      refine wpAnyN_take (i := 7) (v := .int .i64 (Y2.size : Int)) rfl (by kernel_rfl) (by kernel_rfl) (by kernel_rfl) (by decide) (by kernel_rfl) (fun _ _ _ h => h) (Or.inl ⟨by rfl, ?_⟩) KD1.out ?_
      · (intro w' hSw; obtain ⟨⟨s0, s1, s2⟩, _⟩ := HCELL.out w' hSw; clear hSw; go_simp)
      (try simp only [List.getElem_toArray, List.getElem_cons_succ, List.getElem_cons_zero])
      go_frame
      refine wpAnyN_take (i := 10) (v := .slice (some ⟨b, o, none⟩) N c3) rfl (by kernel_rfl) (by kernel_rfl) (by kernel_rfl) (by decide) (by kernel_rfl) (fun _ _ _ h => h) (Or.inl ⟨by rfl, ?_⟩) KD1.out ?_
      · (intro w' hSw; obtain ⟨⟨s0, s1, s2⟩, _⟩ := HCELL.out w' hSw; clear hSw; go_simp)
      (try simp only [List.getElem_toArray, List.getElem_cons_succ, List.getElem_cons_zero])
      go_frame
      refine wpAnyN_take (i := 11) (v := .int .i64 (k : Int)) rfl (by kernel_rfl) (by kernel_rfl) (by kernel_rfl) (by decide) (by kernel_rfl) (fun _ _ _ h => h) (Or.inl ⟨by rfl, ?_⟩) KD1.out ?_
      · (intro w' hSw; obtain ⟨⟨s0, s1, s2⟩, _⟩ := HCELL.out w' hSw; clear hSw; go_simp)
      (try simp only [List.getElem_toArray, List.getElem_cons_succ, List.getElem_cons_zero])
      go_frame
      refine wpAnyN_take (i := 12) (v := .pointer (some ⟨b, o + k * 3, none⟩)) rfl (by kernel_rfl) (by kernel_rfl) (by kernel_rfl) (by decide) (by kernel_rfl) (fun _ _ _ h => h) (Or.inl ⟨by rfl, ?_⟩) KD1.out ?_
      · (intro w' hSw; obtain ⟨⟨s0, s1, s2⟩, _⟩ := HCELL.out w' hSw; clear hSw; go_simp)
      (try simp only [List.getElem_toArray, List.getElem_cons_succ, List.getElem_cons_zero])
      go_frame
      refine wpAnyN_take (i := 13) (v := .pointer (some ⟨b, o + k * 3, none⟩)) rfl (by kernel_rfl) (by kernel_rfl) (by kernel_rfl) (by decide) (by kernel_rfl) (fun _ _ _ h => h) (Or.inl ⟨by rfl, ?_⟩) KD1.out ?_
      · (intro w' hSw; obtain ⟨⟨s0, s1, s2⟩, _⟩ := HCELL.out w' hSw; clear hSw; go_simp)
      (try simp only [List.getElem_toArray, List.getElem_cons_succ, List.getElem_cons_zero])
      go_frame
      refine wpAnyN_take (i := 14) (v := .pointer (some ⟨b, o + k * 3 + 1, none⟩)) rfl (by kernel_rfl) (by kernel_rfl) (by kernel_rfl) (by decide) (by kernel_rfl) (fun _ _ _ h => h) (Or.inl ⟨by rfl, ?_⟩) KD1.out ?_
      · (intro w' hSw; obtain ⟨⟨s0, s1, s2⟩, _⟩ := HCELL.out w' hSw; clear hSw; go_simp)
      (try simp only [List.getElem_toArray, List.getElem_cons_succ, List.getElem_cons_zero])
      go_frame
      refine wpAnyN_take (i := 15) (v := .string Y2) rfl (by kernel_rfl) (by kernel_rfl) (by kernel_rfl) (by decide) (by kernel_rfl) (fun _ _ _ h => h) (Or.inl ⟨by rfl, ?_⟩) KD1.out ?_
      · (intro w' hSw; obtain ⟨⟨s0, s1, s2⟩, _⟩ := HCELL.out w' hSw; clear hSw; go_simp)
      (try simp only [List.getElem_toArray, List.getElem_cons_succ, List.getElem_cons_zero])
      go_frame
      refine wpAnyL_one (i := 8) (by kernel_rfl) rfl rfl ?_
      go_simp
      refine (HPU.out wX.drew (Y2.size : Int)).mono ?_
      rintro e wp1 ⟨up1, rfl, hup1, kp1⟩
      have kpp1 : Kept wX wp1 := ((Only.refl _ wX).drew).trans kp1 (fun _ _ f => f)
      have KP1 := hid (show Only (fun j => w1.heap.size ≤ j) wr wp1 from (KX.out).trans (kpp1.mono (O' := fun j => w1.heap.size ≤ j) (fun _ _ f => f.elim)) (fun _ _ e => e))
      obtain ⟨ae1, ne1, ce1, we1, re1, hne1, hate1, hoe1⟩ := byt_app (B := w1.heap.size) (ownN_stay hatX.out kpp1) (own_src hup1) (by (try simp only [List.length_append]); omega) (by have := KP1.out.size; omega)
      have KE1 := hid (show Only (fun j => w1.heap.size ≤ j) wr we1 from KP1.out.trans hoe1.out (fun j _ e => (ownN_lt (ownN_stay hatX.out kpp1) e).1))
      obtain ⟨aY, nY, cY, wY, rf1, hnf1, hatY, hof1⟩ := byt_str (B := w1.heap.size) hate1.out Y2 (by (try simp only [List.length_append]); omega) (by have := KE1.out.size; omega)
      have KY := hid (show Only (fun j => w1.heap.size ≤ j) wr wY from KE1.out.trans hof1.out (fun j _ e => (ownN_lt hate1.out e).1))
      obtain ⟨pa1, pc1, pe1⟩ := ownN_slice hup1
      generalize hpn1 : (putN (U.uN (Y2.size : Int))).length = pn1 at pe1
      subst pe1
      clear hup1 kp1 hoe1 hof1 hpn1 hne1 hnf1
      refine ⟨KP1.out, ?_⟩
      (try go_frame)
      refine wpAnyL_one (i := 9) (by kernel_rfl) rfl rfl (oper_appendH _ _ _ rfl rfl rfl re1 ?_)
      refine ⟨KE1.out, ?_⟩
      (try go_frame)
      refine wpAnyL_one (i := 16) (by kernel_rfl) rfl rfl (Lib.wp_append_run _ _ _ _ _ rfl _ _ rfl rfl _ _ rf1.out ?_)
      refine ⟨KY.out, ?_⟩
      (try go_frame)
      refine wpAnyL_one (i := 17) (by kernel_rfl) rfl rfl ?_
      go_simp
      refine ⟨KY.out, ?_⟩
      (try go_frame)
      refine wpAnyN_done (by kernel_rfl) ?_
      refine NoPanic.normal ?_
      have HPK := hid (Po.rpack_any wY (.slice la LN lc) pl (own_src (HCELL.out wY KY.out).2) (by omega))
      have hpk : Po.packR pl = (Po.packL pl, 0) := pack_ok (by omega) hpl2.2.1
      have hpkl : (Po.packL pl).length ≤ 100000 := by have := Po.pack_len pl; omega
      obtain ⟨⟨s0, s1, s2⟩, _⟩ := HCELL.out wY KY.out
      go_wp2_with fail
      refine HPK.out.mono ?_
      rintro e w10 ⟨u10, rfl, hu10, k10⟩
      rw [hpk] at hu10 ⊢
      obtain ⟨ua, uc, ue⟩ := ownN_slice hu10
      obtain ⟨a11, n11, c11, w11, r11, hn11, hat11, ho11⟩ := byt_app (B := w1.heap.size) (ownN_stay hatY.out k10) (own_src hu10) (by show _ + (Po.packL pl).length ≤ _; simp only [List.length_append]; omega) (by have := KY.out.size; have := k10.size; omega)
      generalize (Po.packL pl, (0 : Int)).1.length = UN at ue
      subst ue
      have HAT11 : Hid (BytAt w11 w1.heap.size (.slice a11 n11 c11) (hd ++ (P.take (k + 1)).flatMap oneP)) := by
        rw [HTK.out, ← List.append_assoc, HACC.out]
        have := hat11.out
        unfold oneP
        simp only [List.append_assoc] at this ⊢
        exact this
      have HON11 := hid (show Only (fun j => w1.heap.size ≤ j) w1 w11 from ((hon.out.trans KY.out (fun _ _ e => e)).trans (k10.mono (O' := fun j => w1.heap.size ≤ j) (fun _ _ f => f.elim)) (fun _ _ e => e)).trans ho11.out (fun j _ e => (ownN_lt (ownN_stay hatY.out k10) e).1))
      clear hu10 k10 hat11 ho11 hpk hn11 s0 s1 s2
      go_wp2_with (at_builtin; refine Lys.wpList_append_run rfl _ _ _ rfl rfl rfl r11 ?_)
      (try go_wp2_with fail)
      go_roundw
      case rel => exact ⟨k + 1, a11, n11, c11, by omega, by go_num, rfl, HAT11, HON11⟩
      case measure => simp [intOf]; omega
    · obtain rfl : N = k := by omega
      have HF := hid (show BytAt wr w.heap.size (.slice a6 n6 c6) (packI NL P) ∧ Kept w wr from by
        have h1 := hat.out
        rw [List.take_of_length_le (by have := HN.out; omega)] at h1
        exact ⟨by rw [HEND.out]; exact ownN_base h1 hszw, K1.out.trans hon.out (fun j hj e => by omega)⟩)
      go_wp2
      go_ret
      exact ⟨_, rfl, HF.out.1, HF.out.2⟩
end Go.Proofs.YteknpfldemgmnaaGreat.X
