/-
  Xfind, Xfind2.
-/
import Derived.Test.YteknpfldemgmnaaGreatQ37
import Derived.Test.YteknpfldemgmnaaGreatQ23
import Derived.Test.YteknpfldemgmnaaGreatQ41
import Derived.Test.YteknpfldemgmnaaGreatQ43
import Derived.Deep.WholeRow

/-
  Find.
-/
namespace Go.Proofs.YteknpfldemgmnaaGreat.X
open Go.RowKit Go.Proofs.Lys Go.Maps Go.Proofs.YteknpfldemgmnaaGreat.N
set_option linter.unusedVariables false
set_option linter.unusedSimpArgs false

theorem is_empty {s : ByteArray} (h0 : s.size = 0) : s.toList.isEmpty = true := by
  rw [ByteArray.toList_eq]
  have : s.data.toList.length = 0 := by rw [← h0]; rfl
  rw [List.length_eq_zero_iff.1 this]
  rfl
/-- Numbers that are told. -/
def SelP (w : World) (N : Nat) (T : Nat → Prop) (e : Ending) (w' : World) : Prop := ∃ u l, e = .returned u ∧ Po.ISrc w' u l ∧ Sel l T ∧ l.length ≤ N ∧ Kept w w'
theorem selP_num {w w' : World} {N : Nat} {T : Nat → Prop} {v : Value} {l : List Int} (h : NumAt w' w.heap.size v l) (hs : Sel l T) (hl : l.length ≤ N) (k : Kept w w') : SelP w N T (.returned v) w' := ⟨v, l, rfl, Po.own_isrc h, hs, hl, k⟩
theorem takes_has (w : World) : Takes w 92 #[] (fun _ => true) := by
  refine ⟨enters_of Tryz.func92 (by kernel_rfl) rfl, fun W _ v _ => ?_⟩
  show Calls Tryz.prog 92 #[.string v] W _
  go_enter Tryz.func92, Tryz.ntmps92
  go_wp2
  go_ret
  exact ⟨rfl, rfl⟩
abbrev matV (k : Int) (n v : ByteArray) : Value := .agg #[.int .i64 k, .string n, .string v]
theorem takes_prefix (w : World) (b : Nat) (k : Int) (n v : ByteArray) (hb : Blk w b [.int .i64 k, .string n, .string v] 49) : Takes w 90 #[.pointer (some ⟨b, 0, none⟩)] (fun u => Lib.hasPrefix u.data.toList v.data.toList) := by
  refine ⟨enters_of Tryz.func90 (by kernel_rfl) rfl, fun W kW u _ => ?_⟩
  have c2 := (kW.blk hb (fun f => f)).cell 2 rfl
  have HP := hid (Tryz.strings_HasPrefix u v W)
  clear hb kW
  show Calls Tryz.prog 90 #[.string u, .pointer (some ⟨b, 0, none⟩)] W (fun e w' => e = .returned (.bool (Lib.hasPrefix u.data.toList v.data.toList)) ∧ w' = W)
  generalize Lib.hasPrefix u.data.toList v.data.toList = B at *
  show Calls Tryz.prog 90 #[.string u, .pointer (some ⟨b, 0, none⟩)] W _
  go_enter Tryz.func90, Tryz.ntmps90
  go_wp2_with fail
  refine HP.out.mono ?_
  rintro e w1 ⟨rfl, hw⟩
  replace hw := hw.symm
  subst hw
  go_wp2
  go_ret
  exact ⟨rfl, rfl⟩
section
variable {w : World} {x : IxC} {O : Nat → Prop} {L : List Labs}
theorem has_any (h : IxL w x O L) (k : Int) (n v : ByteArray) :
    Calls Tryz.prog 68 #[.pointer (some ⟨x.xb, 0, none⟩), matV k n v] w (SelP w L.length (HasQ L n (fun _ => true))) := by
  have k0 : Kept w (w.alloc (.cells #[.int .i64 k, .string n, .string v] 49)) := (Only.refl _ w).alloc _
  have h0 := h.stay k0
  have HH := hid (having_any h0.at_ h0.is h0.sum n 92 #[] (fun _ => true) (takes_has _))
  have HK := hid k0
  have HT := hid (fun acc hp => hav_sel (acc := acc) h.tells (fun l hl => (h.made l hl).rise) n (fun _ => true) hp)
  have HN := hid h.len
  clear h h0 k0
  generalize x.xb = XB at *
  go_enter Tryz.func68, Tryz.ntmps68
  go_wp2_with fail
  refine HH.out.mono ?_
  rintro e w1 ⟨u, acc, rfl, hat, hp, k1⟩
  have hs : Sel (sortN acc) _ := HT.out acc hp
  generalize sortN acc = SL at hat hs
  obtain ⟨a, c, e⟩ := ownN_slice hat
  have HS := hid hs
  have HA := hid (show NumAt w1 w.heap.size u SL from ownN_base hat (by simp))
  have K1 := hid (HK.out.trans k1 (fun _ _ f => f))
  clear hat hp k1 HH hs
  generalize hSL : SL.length = NS at e
  subst e
  go_wp2
  go_ret
  exact selP_num HA.out HS.out (HS.out.len (fun i hi => by obtain ⟨l, v, e, _⟩ := hi; exact (List.getElem?_eq_some_iff.1 e).1) (by have := HN.out; omega)) K1.out

set_option maxRecDepth 100000 in
set_option maxHeartbeats 3200000 in
theorem equal_ix (h : IxL w x O L) (k : Int) (n v : ByteArray) (hn : n.size ≤ 100000) (hv : v.size ≤ 100000) :
    Calls Tryz.prog 65 #[.pointer (some ⟨x.xb, 0, none⟩), matV k n v] w (SelP w L.length (FitI L (1, n, v))) := by
  have k0 : Kept w (w.alloc (.cells #[.int .i64 k, .string n, .string v] 49)) := (Only.refl _ w).alloc _
  have hb0 := Blk.new w [.int .i64 k, .string n, .string v] 49
  by_cases hv0 : v.size = 0
  · have hvs : v.toList.isEmpty = true := is_empty hv0
    have HALL := hid (fun W (kW : Kept (w.alloc (.cells #[.int .i64 k, .string n, .string v] 49)) W) => all_ix ((h.stay k0).stay kW).at_ (by rw [h.n]; have := h.len; omega))
    have HHAS := hid (fun W (kW : Kept (w.alloc (.cells #[.int .i64 k, .string n, .string v] 49)) W) => has_any ((h.stay k0).stay kW) k n v)
    have S0 := hid (fun W (kW : Kept (w.alloc (.cells #[.int .i64 k, .string n, .string v] 49)) W) => (show W.cell? ⟨w.heap.size, 0, none⟩ = some (.int .i64 k) ∧ W.cell? ⟨w.heap.size, 1, none⟩ = some (.string n) ∧ W.cell? ⟨w.heap.size, 2, none⟩ = some (.string v) from ⟨(kW.blk hb0 (fun f => f)).cell 0 rfl, (kW.blk hb0 (fun f => f)).cell 1 rfl, (kW.blk hb0 (fun f => f)).cell 2 rfl⟩))
    have HFIN := hid (fun l2 (hs : Sel l2 (HasQ L n (fun _ => true))) => ((Sel.all L.length (by have := h.len; omega)).sub hs).mono (fit_empty h.made n v hv0))
    have HLT := hid (fun i (hi : FitI L (1, n, v) i) => hi.lt)
    have HK := hid k0
    have c2 := hb0.cell 2 rfl
    have hlen := h.len
    rw [h.n] at HALL
    clear h hb0 k0 hv0
    generalize x.xb = XB at *
    generalize hLN : L.length = LN at *
    go_enter Tryz.func65, Tryz.ntmps65
    go_wp2_with fail
    generalize w.alloc (.cells #[.int .i64 k, .string n, .string v] 49) = w0 at HALL HHAS S0 HK c2 ⊢
    refine wp_region_noPanic ?_
    refine wp_region_last (L := 1000) (S := fun w' => Kept w0 w') (by kernel_rfl) ?_
    have K0 := hid (show Kept w0 w0.drew from (Only.refl _ _).drew)
    refine wpAnyN_take (i := 0) (v := .pointer (some ⟨XB, 0, none⟩)) rfl (by kernel_rfl) (by kernel_rfl) (by kernel_rfl) (by decide) (by kernel_rfl) (fun _ _ _ h => h) (Or.inl ⟨by rfl, ?_⟩) K0.out ?_
    · (intro w' hSw; obtain ⟨s0, s1, s2⟩ := S0.out w' hSw; clear hSw; go_simp)
    (try simp only [List.getElem_toArray, List.getElem_cons_succ, List.getElem_cons_zero])
    go_frame
    refine wpAnyN_take (i := 2) (v := .pointer (some ⟨XB, 0, none⟩)) rfl (by kernel_rfl) (by kernel_rfl) (by kernel_rfl) (by decide) (by kernel_rfl) (fun _ _ _ h => h) (Or.inl ⟨by rfl, ?_⟩) K0.out ?_
    · (intro w' hSw; obtain ⟨s0, s1, s2⟩ := S0.out w' hSw; clear hSw; go_simp)
    (try simp only [List.getElem_toArray, List.getElem_cons_succ, List.getElem_cons_zero])
    go_frame
    refine wpAnyN_take (i := 3) (v := .agg #[.int .i64 k, .string n, .string v]) rfl (by kernel_rfl) (by kernel_rfl) (by kernel_rfl) (by decide) (by kernel_rfl) (fun _ _ _ h => h) (Or.inl ⟨by rfl, ?_⟩) K0.out ?_
    · (intro w' hSw; obtain ⟨s0, s1, s2⟩ := S0.out w' hSw; clear hSw; go_simp)
    (try simp only [List.getElem_toArray, List.getElem_cons_succ, List.getElem_cons_zero])
    go_frame
    refine wpAnyL_one (i := 1) (by kernel_rfl) rfl rfl ?_
    go_simp
    refine (HALL.out _ K0.out).mono ?_
    rintro e w1 ⟨u1, rfl, hat1, k1⟩
    have K1 := hid (show Kept w0 w1 from K0.out.trans k1 (fun _ _ f => f))
    have HAT1 := hid (Po.own_isrc hat1)
    clear hat1 k1
    refine ⟨K1.out, ?_⟩
    (try go_frame)
    refine wpAnyL_one (i := 4) (by kernel_rfl) rfl rfl ?_
    go_simp
    refine (HHAS.out _ K1.out).mono ?_
    rintro e w2 ⟨u2, l2, rfl, hs2, hsel2, hl2, k2⟩
    have K2 := hid (show Kept w0 w2 from K1.out.trans k2 (fun _ _ f => f))
    have HSEL2 := hid hsel2
    have HSUB := hid (Po.sub_any w2 u1 u2 (allN LN) l2 (HAT1.out.stay k2) hs2 (by rw [allN_len]; omega) (by omega))
    clear hs2 hsel2 k2
    refine ⟨K2.out, ?_⟩
    (try go_frame)
    refine wpAnyL_one (i := 5) (by kernel_rfl) rfl rfl ?_
    go_simp
    refine HSUB.out.mono ?_
    rintro e w3 ⟨u3, rfl, hat3, k3⟩
    obtain ⟨a3, c3, e3⟩ := ownN_slice hat3
    have K3 := hid (show Kept w0 w3 from K2.out.trans k3 (fun _ _ f => f))
    have HIS := hid (Po.own_isrc hat3)
    clear hat3 k3
    refine ⟨K3.out, ?_⟩
    (try go_frame)
    generalize hL3 : Po.setL 2 (allN LN) l2 = L3 at HIS e3
    have HL3 := hid hL3
    clear hL3
    generalize hN3 : L3.length = N3 at e3
    subst e3
    refine wpAnyL_one (i := 6) (by kernel_rfl) rfl rfl ?_
    go_simp
    refine ⟨K3.out, ?_⟩
    (try go_frame)
    refine wpAnyN_done (by kernel_rfl) ?_
    refine NoPanic.normal ?_
    go_wp2_with fail
    go_ret
    have hsel := HFIN.out _ HSEL2.out
    rw [HL3.out] at hsel
    exact ⟨_, L3, rfl, HIS.out, hsel, hsel.len HLT.out (by omega), HK.out.trans K3.out (fun _ _ f => f)⟩
  · have hvs : v.toList.isEmpty = false := not_empty hv0
    have h0 := h.stay k0
    obtain ⟨hs1, _⟩ := h0.at_.slice h0.is (n, v) ⟨hn, hv⟩
    have hlk := look_sl (x := (n, v)) h0.at_.map (small_max (x := (n, v)) ⟨hn, hv⟩).1 (small_max (x := (n, v)) ⟨hn, hv⟩).2
    have hsel := (h.look (n, v)).mono (fit_equal h.made n v hv0)
    have HP := hid (show SelP w L.length (FitI L (1, n, v)) (.returned (slV (slOf x (n, v)))) (w.alloc (.cells #[.int .i64 k, .string n, .string v] 49)) from
      ⟨_, _, rfl, Po.own_isrc hs1, hsel, hsel.len (fun i hi => hi.lt) (by have := h.len; omega), k0⟩)
    have HQ := hid (fun (W : World) (kd : Kept (w.alloc (.cells #[.int .i64 k, .string n, .string v] 49)) W) => (show SelP w L.length (FitI L (1, n, v)) (.returned (slV (slOf x (n, v)))) W from
      ⟨_, _, rfl, (Po.own_isrc hs1).stay kd, hsel, hsel.len (fun i hi => hi.lt) (by have := h.len; omega), k0.trans kd (fun _ _ f => f)⟩))
    have c0 := hb0.cell 0 rfl
    have c1 := hb0.cell 1 rfl
    have c2 := hb0.cell 2 rfl
    have m1 := h0.at_.blk.cell 1 rfl
    have hsv : ∃ a n0 c, slV (slOf x (n, v)) = .slice a n0 c := by
      cases slOf x (n, v) with
      | none => exact ⟨_, _, _, rfl⟩
      | some q => exact ⟨_, _, _, rfl⟩
    have hlk2 : ∀ m, (Instr.lookup 57 (.map (some x.mb)) (labV (n, v)) false).run Tryz.prog ((w.alloc (.cells #[.int .i64 k, .string n, .string v] 49)).drewN m) = .ok (slV (slOf x (n, v))) ((w.alloc (.cells #[.int .i64 k, .string n, .string v] 49)).drewN m) := fun m => by
      have := h0.stay (show Kept (w.alloc (.cells #[.int .i64 k, .string n, .string v] 49)) ((w.alloc (.cells #[.int .i64 k, .string n, .string v] 49)).drewN m) from ⟨rfl, rfl, rfl, Nat.le_refl _, fun _ _ _ => rfl⟩)
      exact look_sl (x := (n, v)) this.at_.map (small_max (x := (n, v)) ⟨hn, hv⟩).1 (small_max (x := (n, v)) ⟨hn, hv⟩).2
    clear h h0 hs1 hsel hb0 k0 HP hlk hv0
    generalize slV (slOf x (n, v)) = SV at *
    obtain ⟨sa, sn, sc, rfl⟩ := hsv
    generalize x.xb = XB at *
    generalize x.mb = MB at *
    go_enter Tryz.func65, Tryz.ntmps65
    go_wp2_with fail
    generalize w.alloc (.cells #[.int .i64 k, .string n, .string v] 49) = w0 at *
    go_quiet (fail)
    go_wp2
    go_ret
    exact HQ.out _ ⟨rfl, rfl, rfl, Nat.le_refl _, fun _ _ _ => rfl⟩

set_option maxRecDepth 100000 in
set_option maxHeartbeats 3200000 in
theorem not_ix (h : IxL w x O L) (k : Int) (n v : ByteArray) (hn : n.size ≤ 100000) (hv : v.size ≤ 100000) :
    Calls Tryz.prog 66 #[.pointer (some ⟨x.xb, 0, none⟩), matV k n v] w (SelP w L.length (FitI L (2, n, v))) := by
  have k0 : Kept w (w.alloc (.cells #[.int .i64 k, .string n, .string v] 49)) := (Only.refl _ w).alloc _
  have hb0 := Blk.new w [.int .i64 k, .string n, .string v] 49
  have HALL := hid (fun W (kW : Kept (w.alloc (.cells #[.int .i64 k, .string n, .string v] 49)) W) => all_ix ((h.stay k0).stay kW).at_ (by rw [h.n]; have := h.len; omega))
  have HEQ := hid (fun W (kW : Kept (w.alloc (.cells #[.int .i64 k, .string n, .string v] 49)) W) => equal_ix ((h.stay k0).stay kW) k n v hn hv)
  have S0 := hid (fun W (kW : Kept (w.alloc (.cells #[.int .i64 k, .string n, .string v] 49)) W) => (show W.cell? ⟨w.heap.size, 0, none⟩ = some (.int .i64 k) ∧ W.cell? ⟨w.heap.size, 1, none⟩ = some (.string n) ∧ W.cell? ⟨w.heap.size, 2, none⟩ = some (.string v) from ⟨(kW.blk hb0 (fun f => f)).cell 0 rfl, (kW.blk hb0 (fun f => f)).cell 1 rfl, (kW.blk hb0 (fun f => f)).cell 2 rfl⟩))
  have HFIN := hid (fun l2 (hs : Sel l2 (FitI L (1, n, v))) => ((Sel.all L.length (by have := h.len; omega)).sub hs).mono (fit_not n v))
  have HLT := hid (fun i (hi : FitI L (2, n, v) i) => hi.lt)
  have HK := hid k0
  have hlen := h.len
  rw [h.n] at HALL
  clear h hb0 k0
  generalize x.xb = XB at *
  generalize hLN : L.length = LN at *
  go_enter Tryz.func66, Tryz.ntmps66
  go_wp2_with fail
  generalize w.alloc (.cells #[.int .i64 k, .string n, .string v] 49) = w0 at HALL HEQ S0 HK ⊢
  refine wp_region_noPanic ?_
  refine wp_region_last (L := 1000) (S := fun w' => Kept w0 w') (by kernel_rfl) ?_
  have K0 := hid (show Kept w0 w0.drew from (Only.refl _ _).drew)
  refine wpAnyN_take (i := 0) (v := .pointer (some ⟨XB, 0, none⟩)) rfl (by kernel_rfl) (by kernel_rfl) (by kernel_rfl) (by decide) (by kernel_rfl) (fun _ _ _ h => h) (Or.inl ⟨by rfl, ?_⟩) K0.out ?_
  · (intro w' hSw; obtain ⟨s0, s1, s2⟩ := S0.out w' hSw; clear hSw; go_simp)
  (try simp only [List.getElem_toArray, List.getElem_cons_succ, List.getElem_cons_zero])
  go_frame
  refine wpAnyN_take (i := 2) (v := .pointer (some ⟨XB, 0, none⟩)) rfl (by kernel_rfl) (by kernel_rfl) (by kernel_rfl) (by decide) (by kernel_rfl) (fun _ _ _ h => h) (Or.inl ⟨by rfl, ?_⟩) K0.out ?_
  · (intro w' hSw; obtain ⟨s0, s1, s2⟩ := S0.out w' hSw; clear hSw; go_simp)
  (try simp only [List.getElem_toArray, List.getElem_cons_succ, List.getElem_cons_zero])
  go_frame
  refine wpAnyN_take (i := 3) (v := .agg #[.int .i64 k, .string n, .string v]) rfl (by kernel_rfl) (by kernel_rfl) (by kernel_rfl) (by decide) (by kernel_rfl) (fun _ _ _ h => h) (Or.inl ⟨by rfl, ?_⟩) K0.out ?_
  · (intro w' hSw; obtain ⟨s0, s1, s2⟩ := S0.out w' hSw; clear hSw; go_simp)
  (try simp only [List.getElem_toArray, List.getElem_cons_succ, List.getElem_cons_zero])
  go_frame
  refine wpAnyL_one (i := 1) (by kernel_rfl) rfl rfl ?_
  go_simp
  refine (HALL.out _ K0.out).mono ?_
  rintro e w1 ⟨u1, rfl, hat1, k1⟩
  have K1 := hid (show Kept w0 w1 from K0.out.trans k1 (fun _ _ f => f))
  have HAT1 := hid (Po.own_isrc hat1)
  clear hat1 k1
  refine ⟨K1.out, ?_⟩
  (try go_frame)
  refine wpAnyL_one (i := 4) (by kernel_rfl) rfl rfl ?_
  go_simp
  refine (HEQ.out _ K1.out).mono ?_
  rintro e w2 ⟨u2, l2, rfl, hs2, hsel2, hl2, k2⟩
  have K2 := hid (show Kept w0 w2 from K1.out.trans k2 (fun _ _ f => f))
  have HSEL2 := hid hsel2
  have HSUB := hid (Po.sub_any w2 u1 u2 (allN LN) l2 (HAT1.out.stay k2) hs2 (by rw [allN_len]; omega) (by omega))
  clear hs2 hsel2 k2
  refine ⟨K2.out, ?_⟩
  (try go_frame)
  refine wpAnyL_one (i := 5) (by kernel_rfl) rfl rfl ?_
  go_simp
  refine HSUB.out.mono ?_
  rintro e w3 ⟨u3, rfl, hat3, k3⟩
  obtain ⟨a3, c3, e3⟩ := ownN_slice hat3
  have K3 := hid (show Kept w0 w3 from K2.out.trans k3 (fun _ _ f => f))
  have HIS := hid (Po.own_isrc hat3)
  clear hat3 k3
  refine ⟨K3.out, ?_⟩
  (try go_frame)
  generalize hL3 : Po.setL 2 (allN LN) l2 = L3 at HIS e3
  have HL3 := hid hL3
  clear hL3
  generalize hN3 : L3.length = N3 at e3
  subst e3
  refine wpAnyL_one (i := 6) (by kernel_rfl) rfl rfl ?_
  go_simp
  refine ⟨K3.out, ?_⟩
  (try go_frame)
  refine wpAnyN_done (by kernel_rfl) ?_
  refine NoPanic.normal ?_
  go_wp2_with fail
  go_ret
  have hsel := HFIN.out _ HSEL2.out
  rw [HL3.out] at hsel
  exact ⟨_, L3, rfl, HIS.out, hsel, hsel.len HLT.out (by omega), HK.out.trans K3.out (fun _ _ f => f)⟩

set_option maxHeartbeats 800000 in
theorem prefix_ix (h : IxL w x O L) (k : Int) (n v : ByteArray) :
    Calls Tryz.prog 67 #[.pointer (some ⟨x.xb, 0, none⟩), matV k n v] w (SelP w L.length (FitI L (3, n, v))) := by
  have k0 : Kept w (w.alloc (.cells #[.int .i64 k, .string n, .string v] 49)) := (Only.refl _ w).alloc _
  have hb0 := Blk.new w [.int .i64 k, .string n, .string v] 49
  have h0 := h.stay k0
  have HK := hid k0
  have HN := hid h.len
  have hmf : ∀ (fn : Fn) (first cap : Array Value) (w : World), (Instr.makeFunc fn first cap).run Tryz.prog w = .ok (.func fn first cap) w := fun _ _ _ _ => rfl
  by_cases hv0 : v.size = 0
  · have hvs : v.toList.isEmpty = true := is_empty hv0
    have HALL := hid (all_ix h0.at_ (by rw [h.n]; have := h.len; omega))
    have HSEL := hid ((Sel.all L.length (by have := h.len; omega)).mono (fit_any (L := L) n v hv0))
    rw [h.n] at HALL
    have c2 := hb0.cell 2 rfl
    clear h h0 hb0 k0 hv0
    generalize x.xb = XB at *
    go_enter Tryz.func67, Tryz.ntmps67
    go_wp2_with fail
    generalize w.alloc (.cells #[.int .i64 k, .string n, .string v] 49) = w0 at HALL HK c2 ⊢
    refine HALL.out.mono ?_
    rintro e w1 ⟨u, rfl, hat, k1⟩
    obtain ⟨a, c, e⟩ := ownN_slice hat
    rw [allN_len] at e
    have HIS := hid (Po.own_isrc hat)
    have K1 := hid (HK.out.trans k1 (fun _ _ f => f))
    clear hat k1 HALL
    subst e
    go_wp2
    go_ret
    exact ⟨_, _, rfl, HIS.out, HSEL.out, by rw [allN_len]; omega, K1.out⟩
  · have hvs : v.toList.isEmpty = false := not_empty hv0
    have HH := hid (having_any h0.at_ h0.is h0.sum n 90 #[.pointer (some ⟨w.heap.size, 0, none⟩)] _ (takes_prefix _ w.heap.size k n v hb0))
    have HT := hid (fun acc hp => (hav_sel (acc := acc) h.tells (fun l hl => (h.made l hl).rise) n (fun u => Lib.hasPrefix u.data.toList v.data.toList) hp).mono (fit_prefix h.made n v hv0))
    have c1 := hb0.cell 1 rfl
    have c2 := hb0.cell 2 rfl
    clear h h0 hb0 k0 hv0
    generalize x.xb = XB at *
    go_enter Tryz.func67, Tryz.ntmps67
    go_wp2_with fail
    refine HH.out.mono ?_
    rintro e w1 ⟨u, acc, rfl, hat, hp, k1⟩
    have hs : Sel (sortN acc) _ := HT.out acc hp
    generalize sortN acc = SL at hat hs
    obtain ⟨a, c, e⟩ := ownN_slice hat
    have HS := hid hs
    have HA := hid (show NumAt w1 w.heap.size u SL from ownN_base hat (by simp))
    have K1 := hid (HK.out.trans k1 (fun _ _ f => f))
    clear hat hp k1 HH hs
    generalize hSL : SL.length = NS at e
    subst e
    go_wp2
    go_ret
    exact selP_num HA.out HS.out (HS.out.len (fun i hi => hi.lt) (by have := HN.out; omega)) K1.out
end
end Go.Proofs.YteknpfldemgmnaaGreat.X

/-
  Find: the table of kinds, and the matchers one behind the other.
-/
namespace Go.Proofs.YteknpfldemgmnaaGreat.X
open Go.RowKit Go.Proofs.Lys Go.Maps Go.Proofs.YteknpfldemgmnaaGreat.N
set_option linter.unusedVariables false
set_option linter.unusedSimpArgs false

abbrev xEq : Value := .func (.func 65) #[] #[]
abbrev xNot : Value := .func (.func 66) #[] #[]
abbrev xPre : Value := .func (.func 67) #[] #[]
abbrev xHas : Value := .func (.func 68) #[] #[]
/-- The table, as a value. -/
def tabX : Array Value := #[.nilFunc, xEq, xNot, xPre, xHas]
theorem tabX_size : (Tryz.prog.info? 84).map (fun i => i.size) = some tabX.size := by kernel_rfl
theorem tabX_one : tabX.all (fun x => x.oneCell') = true := by decide +kernel

set_option maxRecDepth 100000 in
theorem kinds_ix (w : World) : Calls Tryz.prog 42 #[] w fun e w' => e = .returned (.agg tabX) ∧ Kept w w' := by
  go_enter Tryz.func42, Tryz.ntmps42
  go_wp2_with (refine wpList_store_row rfl 84 _ _ rfl w.heap.size tabX rfl rfl 84 _ (heap_alloc_last w _) tabX_size rfl tabX_one ?_)
  rw [World.setRow_alloc_new]
  exact bodyPost_ret (v := .agg tabX) (results_cell_row rfl _ _ w.heap.size 84 tabX (0, 0) _ rfl (heap_alloc_last w _) Tryz.underlying84 rfl tabX_size) rfl ⟨rfl, (Only.refl _ w).alloc _⟩

theorem has_ix {w : World} {x : IxC} {O : Nat → Prop} {L : List Labs} (h : IxL w x O L) (k : Int) (n v : ByteArray) (h1 : k ≠ 1) (h2 : k ≠ 2) (h3 : k ≠ 3) :
    Calls Tryz.prog 68 #[.pointer (some ⟨x.xb, 0, none⟩), matV k n v] w (SelP w L.length (FitI L (k, n, v))) := by
  refine (has_any h k n v).mono ?_
  rintro e w' ⟨u, l, he, hs, hsel, hl, kk⟩
  exact ⟨u, l, he, hs, hsel.mono (fit_has h.made n v k h1 h2 h3), hl, kk⟩

/-- What Find answers. -/
def FindP (w : World) (L : List Labs) (m : Mats) (e : Ending) (w' : World) : Prop :=
  ∃ u l, e = .returned (.tuple #[u, .int .i64 (checkM m)]) ∧ Po.ISrc w' u l ∧ (checkM m ≠ 0 → l = []) ∧ (checkM m = 0 → Sel l (fun i => i < L.length ∧ ∀ q ∈ m, FitI L q i)) ∧ l.length ≤ L.length ∧ Kept w w'
/-- The series that the first matchers fit. -/
def FitU (L : List Labs) (m : Mats) (k i : Nat) : Prop := i < L.length ∧ ∀ j (hj : j < m.length), j < k → FitI L m[j] i
theorem fitU_step {L : List Labs} {m : Mats} {k : Nat} (hk : k < m.length) (i : Nat) : (FitU L m k i ∧ FitI L m[k] i) ↔ FitU L m (k + 1) i := by
  constructor
  · rintro ⟨⟨h1, h2⟩, h3⟩
    refine ⟨h1, fun j hj hlt => ?_⟩
    by_cases e : j = k
    · subst e
      exact h3
    · exact h2 j hj (by omega)
  · rintro ⟨h1, h2⟩
    exact ⟨⟨h1, fun j hj hlt => h2 j hj (by omega)⟩, h2 k hk (by omega)⟩
theorem fitU_end {L : List Labs} {m : Mats} (i : Nat) : FitU L m m.length i ↔ (i < L.length ∧ ∀ q ∈ m, FitI L q i) := by
  constructor
  · rintro ⟨h1, h2⟩
    refine ⟨h1, fun q hq => ?_⟩
    obtain ⟨j, hj, rfl⟩ := List.getElem_of_mem hq
    exact h2 j hj hj
  · rintro ⟨h1, h2⟩
    exact ⟨h1, fun j hj _ => h2 _ (List.getElem_mem hj)⟩

set_option maxRecDepth 100000 in
set_option maxHeartbeats 6400000 in
theorem find_ix {w : World} {x : IxC} {O : Nat → Prop} {L : List Labs} (h : IxL w x O L) (v : Value) (m : Mats) (hs : MatSrc w v m) (hl : m.length ≤ 100000) (hB : SmallM m) :
    Calls Tryz.prog 17 #[.pointer (some ⟨x.xb, 0, none⟩), v] w (FindP w L m) := by
  have HC := hid (mcheck_any w v m hs hl hB)
  obtain ⟨a1, c1, rfl⟩ := hs.len
  by_cases hck : checkM m = 0
  · have hck8 := (checkM_zero.1 hck).1
    have HOK := hid (checkM_zero.1 hck).2
    have HFIN : Hid (∀ u l w', Po.ISrc w' u l → Sel l (FitU L m m.length) → l.length ≤ L.length → Kept w w' → FindP w L m (.returned (.tuple #[u, .int .i64 0])) w') := fun u l w' h1 h2 h3 h4 =>
      ⟨u, l, by rw [hck], h1, fun e => absurd hck e, fun _ => h2.mono fitU_end, h3, h4⟩
    rw [hck] at HC
    obtain ⟨M, hM⟩ : ∃ M, m.length = M := ⟨_, rfl⟩
    have HS := hid hs
    have HM := hid hM
    rw [hM] at HS HC hl hck8 HFIN ⊢
    have HSM := hid hB
    have hxn := h.n
    have hLl := h.len
    have HST : Hid (∀ W, Kept w W → IxL W x O L) := fun W k => h.stay k
    clear hs hM hck hB h
    go_enter Tryz.func17, Tryz.ntmps17
    go_wp2_with fail
    refine HC.out.mono ?_
    rintro e w1 ⟨rfl, k1⟩
    have HK1 := hid k1
    clear k1 HC
    go_wp2_with fail
    refine (kinds_ix w1).mono ?_
    rintro e w2 ⟨rfl, k2⟩
    have HK2 := hid (HK1.out.trans k2 (fun _ _ f => f))
    clear k2
    have hbT : Blk (w2.alloc (.cells tabX 84)) w2.heap.size tabX.toList 84 := Blk.new w2 tabX.toList 84
    have HBT := hid hbT
    have HK3 := hid (HK2.out.alloc (.cells tabX 84))
    clear hbT HK1 HK2
    go_wp2_with (refine wpList_store_row rfl 84 _ _ rfl w2.heap.size tabX rfl rfl 84 _ (heap_alloc_last w2 _) tabX_size rfl tabX_one ?_; rw [World.setRow_alloc_new]; generalize w2.alloc (.cells tabX 84) = w3 at HBT HK3 ⊢)
    generalize w2.heap.size = T at HBT ⊢
    have HALL := hid (all_ix (HST.out w3 HK3.out).at_ (by omega))
    rw [hxn] at HALL
    generalize hXB : x.xb = XB at *
    have HXB := hid hXB
    clear hXB
    refine HALL.out.mono ?_
    rintro e w4 ⟨u4, rfl, hat4, k4⟩
    have HK4 := hid (HK3.out.trans k4 (fun _ _ f => f))
    have HB4 := hid (Only.blk k4 HBT.out (fun f => f))
    have HAT4 := hid (Po.own_isrc hat4)
    have HSEL4 := hid (show Sel (allN L.length) (FitU L m 0) from (Sel.all L.length (by omega)).mono (fun i => ⟨fun h => ⟨h, fun _ _ h => by omega⟩, fun h => h.1⟩))
    obtain ⟨a4, c4, e4⟩ := ownN_slice hat4
    rw [allN_len] at e4
    subst e4
    clear hat4 k4 HALL HBT HK3
    generalize hLN : L.length = LN at *
    have HLN := hid hLN
    go_wp2_with fail
    go_loopw [8, 21] (fun s8 s21 wr => ∃ (k : Nat) (acc : List Int) (a : Option Addr) (na c : Nat), k ≤ M ∧ s21 = .int .i64 (k : Int) ∧ s8 = .slice a na c ∧ Po.ISrc wr (.slice a na c) acc ∧ Hid (Sel acc (FitU L m k)) ∧ acc.length ≤ LN ∧ Kept w4 wr) (fun _ s21 _ => M - (intOf s21).toNat)
    case atStart => exact ⟨0, allN LN, a4, LN, c4, by omega, rfl, rfl, HAT4.out, hid HSEL4.out, by rw [allN_len]; omega, Only.refl _ _⟩
    case round =>
      obtain ⟨k, acc, a8, n8, c8, hk, rfl, rfl, his, hsel, hal, kr⟩ := hrel
      have HIS := hid his
      have HK := hid kr
      have HKW := hid (HK4.out.trans kr (fun _ _ f => f))
      by_cases hlt : k < M
      · have hkm : k < m.length := by have := HM.out; omega
        obtain ⟨b1, o1, rfl, x1, y1, z1⟩ := (HS.out.stay HKW.out).cell HM.out k hlt
        have hmo := matOk_parts (HOK.out _ (List.getElem_mem hkm))
        have HSTEP := hid (fun i => fitU_step (L := L) hkm i)
        have HBr := hid (Only.blk kr HB4.out (fun f => f))
        have hsz : (m[k]'hkm).2.1.size ≤ 100000 ∧ (m[k]'hkm).2.2.size ≤ 100000 := HSM.out _ (List.getElem_mem hkm)
        clear his kr
        generalize m[k]'hkm = q at x1 y1 z1 HSTEP hmo hsz
        obtain ⟨N, X, Y⟩ := q
        simp only at x1 y1 z1 hmo hsz
        have hN : N = 1 ∨ N = 2 ∨ N = 3 ∨ N = 4 := by omega
        have hsX := hsz.1
        have hsY := hsz.2
        have hbm := Blk.new wr [.int .i64 N, .string X, .string Y] 49
        have ka : Kept wr (wr.alloc (.cells #[.int .i64 N, .string X, .string Y] 49)) := (Only.refl _ wr).alloc _
        have hbt := Only.blk ka HBr.out (fun f => f)
        have HISw := hid (HIS.out.stay ka)
        have HKw := hid (HK.out.trans ka (fun _ _ f => f))
        have HXw := hid (HST.out _ (HKW.out.trans ka (fun _ _ f => f)))
        clear hmo hsz ka
        rcases hN with rfl | rfl | rfl | rfl
        · have HQ := hid (fun W (kW : Kept (wr.alloc (.cells #[.int .i64 1, .string X, .string Y] 49)) W) => equal_ix (HXw.out.stay kW) 1 X Y hsX hsY)
          rw [HXB.out, HLN.out] at HQ
          have S0 := hid (fun W (kW : Kept (wr.alloc (.cells #[.int .i64 1, .string X, .string Y] 49)) W) => (show W.cell? ⟨wr.heap.size, 0, none⟩ = some (.int .i64 1) ∧ W.cell? ⟨wr.heap.size, 1, none⟩ = some (.string X) ∧ W.cell? ⟨wr.heap.size, 2, none⟩ = some (.string Y) ∧ W.cell? ⟨T, 1, none⟩ = some (.func (.func 65) #[] #[]) from ⟨(kW.blk hbm (fun f => f)).cell 0 rfl, (kW.blk hbm (fun f => f)).cell 1 rfl, (kW.blk hbm (fun f => f)).cell 2 rfl, (kW.blk hbt (fun f => f)).cell 1 rfl⟩))
          have eg : ∀ args w, (callFunc 65 args).run Tryz.prog w = .ok (.enter 65 args) w := enters_of Tryz.func65 (by kernel_rfl) rfl
          clear hbm hbt
          go_wp2_with fail
          generalize wr.alloc (.cells #[.int .i64 1, .string X, .string Y] 49) = w5 at HQ S0 HISw HKw ⊢
          generalize wr.heap.size = B5 at S0 ⊢
          refine wp_region_noPanic ?_
          refine wp_region_last (L := 1000) (S := fun w' => Kept w5 w') (by kernel_rfl) ?_
          have K0 := hid (show Kept w5 w5.drew from (Only.refl _ _).drew)
          refine wpAnyN_take (i := 0) (v := .slice a8 n8 c8) rfl (by kernel_rfl) (by kernel_rfl) (by kernel_rfl) (by decide) (by kernel_rfl) (fun _ _ _ h => h) (Or.inl ⟨by rfl, ?_⟩) K0.out ?_
          · (intro w' hSw; obtain ⟨s0, s1, s2, s3⟩ := S0.out w' hSw; clear hSw; go_simp)
          (try simp only [List.getElem_toArray, List.getElem_cons_succ, List.getElem_cons_zero])
          go_frame
          refine wpAnyN_take (i := 1) (v := .pointer (some ⟨B5, 0, none⟩)) rfl (by kernel_rfl) (by kernel_rfl) (by kernel_rfl) (by decide) (by kernel_rfl) (fun _ _ _ h => h) (Or.inl ⟨by rfl, ?_⟩) K0.out ?_
          · (intro w' hSw; obtain ⟨s0, s1, s2, s3⟩ := S0.out w' hSw; clear hSw; go_simp)
          (try simp only [List.getElem_toArray, List.getElem_cons_succ, List.getElem_cons_zero])
          go_frame
          refine wpAnyN_take (i := 2) (v := .int .i64 1) rfl (by kernel_rfl) (by kernel_rfl) (by kernel_rfl) (by decide) (by kernel_rfl) (fun _ _ _ h => h) (Or.inl ⟨by rfl, ?_⟩) K0.out ?_
          · (intro w' hSw; obtain ⟨s0, s1, s2, s3⟩ := S0.out w' hSw; clear hSw; go_simp)
          (try simp only [List.getElem_toArray, List.getElem_cons_succ, List.getElem_cons_zero])
          go_frame
          refine wpAnyN_take (i := 3) (v := .pointer (some ⟨T, 1, none⟩)) rfl (by kernel_rfl) (by kernel_rfl) (by kernel_rfl) (by decide) (by kernel_rfl) (fun _ _ _ h => h) (Or.inl ⟨by rfl, ?_⟩) K0.out ?_
          · (intro w' hSw; obtain ⟨s0, s1, s2, s3⟩ := S0.out w' hSw; clear hSw; go_simp)
          (try simp only [List.getElem_toArray, List.getElem_cons_succ, List.getElem_cons_zero])
          go_frame
          refine wpAnyN_take (i := 4) (v := .func (.func 65) #[] #[]) rfl (by kernel_rfl) (by kernel_rfl) (by kernel_rfl) (by decide) (by kernel_rfl) (fun _ _ _ h => h) (Or.inl ⟨by rfl, ?_⟩) K0.out ?_
          · (intro w' hSw; obtain ⟨s0, s1, s2, s3⟩ := S0.out w' hSw; clear hSw; go_simp)
          (try simp only [List.getElem_toArray, List.getElem_cons_succ, List.getElem_cons_zero])
          go_frame
          refine wpAnyN_take (i := 5) (v := .pointer (some ⟨XB, 0, none⟩)) rfl (by kernel_rfl) (by kernel_rfl) (by kernel_rfl) (by decide) (by kernel_rfl) (fun _ _ _ h => h) (Or.inl ⟨by rfl, ?_⟩) K0.out ?_
          · (intro w' hSw; obtain ⟨s0, s1, s2, s3⟩ := S0.out w' hSw; clear hSw; go_simp)
          (try simp only [List.getElem_toArray, List.getElem_cons_succ, List.getElem_cons_zero])
          go_frame
          refine wpAnyN_take (i := 6) (v := .agg #[.int .i64 1, .string X, .string Y]) rfl (by kernel_rfl) (by kernel_rfl) (by kernel_rfl) (by decide) (by kernel_rfl) (fun _ _ _ h => h) (Or.inl ⟨by rfl, ?_⟩) K0.out ?_
          · (intro w' hSw; obtain ⟨s0, s1, s2, s3⟩ := S0.out w' hSw; clear hSw; go_simp)
          (try simp only [List.getElem_toArray, List.getElem_cons_succ, List.getElem_cons_zero])
          go_frame
          refine wpAnyL_one (i := 7) (by kernel_rfl) rfl rfl ?_
          go_simp
          refine (HQ.out _ K0.out).mono ?_
          rintro e w6 ⟨u6, l6, rfl, hs6, hsel6, hl6, k6⟩
          have K6 := hid (show Kept w5 w6 from K0.out.trans k6 (fun _ _ f => f))
          have HSEL6 := hid hsel6
          have HAND := hid (Po.and_any w6 (.slice a8 n8 c8) u6 acc l6 ((HISw.out.stay K0.out).stay k6) hs6 (by omega) (by omega))
          clear hs6 hsel6 k6
          refine ⟨K6.out, ?_⟩
          (try go_frame)
          refine wpAnyL_one (i := 8) (by kernel_rfl) rfl rfl ?_
          go_simp
          refine HAND.out.mono ?_
          rintro e w7 ⟨u7, rfl, hat7, k7⟩
          obtain ⟨a7, c7, e7⟩ := ownN_slice hat7
          have K7 := hid (show Kept w5 w7 from K6.out.trans k7 (fun _ _ f => f))
          have HIS7 := hid (Po.own_isrc hat7)
          have HS7 := hid (((Sel.and hsel.out HSEL6.out).mono HSTEP.out))
          have HL7 := hid (HS7.out.len (n := LN) (fun i hi => by have := hi.1; have := HLN.out; omega) (by omega))
          clear hat7 k7
          refine ⟨K7.out, ?_⟩
          (try go_frame)
          generalize Po.setL 0 acc l6 = L7 at HIS7 e7 HS7 HL7
          generalize hN7 : L7.length = N7 at e7
          subst e7
          refine wpAnyL_one (i := 9) (by kernel_rfl) rfl rfl ?_
          go_simp
          refine ⟨K7.out, ?_⟩
          (try go_frame)
          refine wpAnyN_done (by kernel_rfl) ?_
          refine NoPanic.normal ?_
          go_wp2_with fail
          go_roundw
          case rel => exact ⟨k + 1, L7, a7, N7, c7, by omega, by go_num, rfl, HIS7.out, hid HS7.out, HL7.out, HKw.out.trans K7.out (fun _ _ f => f)⟩
          case measure => simp [intOf]; omega
        · have HQ := hid (fun W (kW : Kept (wr.alloc (.cells #[.int .i64 2, .string X, .string Y] 49)) W) => not_ix (HXw.out.stay kW) 2 X Y hsX hsY)
          rw [HXB.out, HLN.out] at HQ
          have S0 := hid (fun W (kW : Kept (wr.alloc (.cells #[.int .i64 2, .string X, .string Y] 49)) W) => (show W.cell? ⟨wr.heap.size, 0, none⟩ = some (.int .i64 2) ∧ W.cell? ⟨wr.heap.size, 1, none⟩ = some (.string X) ∧ W.cell? ⟨wr.heap.size, 2, none⟩ = some (.string Y) ∧ W.cell? ⟨T, 2, none⟩ = some (.func (.func 66) #[] #[]) from ⟨(kW.blk hbm (fun f => f)).cell 0 rfl, (kW.blk hbm (fun f => f)).cell 1 rfl, (kW.blk hbm (fun f => f)).cell 2 rfl, (kW.blk hbt (fun f => f)).cell 2 rfl⟩))
          have eg : ∀ args w, (callFunc 66 args).run Tryz.prog w = .ok (.enter 66 args) w := enters_of Tryz.func66 (by kernel_rfl) rfl
          clear hbm hbt
          go_wp2_with fail
          generalize wr.alloc (.cells #[.int .i64 2, .string X, .string Y] 49) = w5 at HQ S0 HISw HKw ⊢
          generalize wr.heap.size = B5 at S0 ⊢
          refine wp_region_noPanic ?_
          refine wp_region_last (L := 1000) (S := fun w' => Kept w5 w') (by kernel_rfl) ?_
          have K0 := hid (show Kept w5 w5.drew from (Only.refl _ _).drew)
          refine wpAnyN_take (i := 0) (v := .slice a8 n8 c8) rfl (by kernel_rfl) (by kernel_rfl) (by kernel_rfl) (by decide) (by kernel_rfl) (fun _ _ _ h => h) (Or.inl ⟨by rfl, ?_⟩) K0.out ?_
          · (intro w' hSw; obtain ⟨s0, s1, s2, s3⟩ := S0.out w' hSw; clear hSw; go_simp)
          (try simp only [List.getElem_toArray, List.getElem_cons_succ, List.getElem_cons_zero])
          go_frame
          refine wpAnyN_take (i := 1) (v := .pointer (some ⟨B5, 0, none⟩)) rfl (by kernel_rfl) (by kernel_rfl) (by kernel_rfl) (by decide) (by kernel_rfl) (fun _ _ _ h => h) (Or.inl ⟨by rfl, ?_⟩) K0.out ?_
          · (intro w' hSw; obtain ⟨s0, s1, s2, s3⟩ := S0.out w' hSw; clear hSw; go_simp)
          (try simp only [List.getElem_toArray, List.getElem_cons_succ, List.getElem_cons_zero])
          go_frame
          refine wpAnyN_take (i := 2) (v := .int .i64 2) rfl (by kernel_rfl) (by kernel_rfl) (by kernel_rfl) (by decide) (by kernel_rfl) (fun _ _ _ h => h) (Or.inl ⟨by rfl, ?_⟩) K0.out ?_
          · (intro w' hSw; obtain ⟨s0, s1, s2, s3⟩ := S0.out w' hSw; clear hSw; go_simp)
          (try simp only [List.getElem_toArray, List.getElem_cons_succ, List.getElem_cons_zero])
          go_frame
          refine wpAnyN_take (i := 3) (v := .pointer (some ⟨T, 2, none⟩)) rfl (by kernel_rfl) (by kernel_rfl) (by kernel_rfl) (by decide) (by kernel_rfl) (fun _ _ _ h => h) (Or.inl ⟨by rfl, ?_⟩) K0.out ?_
          · (intro w' hSw; obtain ⟨s0, s1, s2, s3⟩ := S0.out w' hSw; clear hSw; go_simp)
          (try simp only [List.getElem_toArray, List.getElem_cons_succ, List.getElem_cons_zero])
          go_frame
          refine wpAnyN_take (i := 4) (v := .func (.func 66) #[] #[]) rfl (by kernel_rfl) (by kernel_rfl) (by kernel_rfl) (by decide) (by kernel_rfl) (fun _ _ _ h => h) (Or.inl ⟨by rfl, ?_⟩) K0.out ?_
          · (intro w' hSw; obtain ⟨s0, s1, s2, s3⟩ := S0.out w' hSw; clear hSw; go_simp)
          (try simp only [List.getElem_toArray, List.getElem_cons_succ, List.getElem_cons_zero])
          go_frame
          refine wpAnyN_take (i := 5) (v := .pointer (some ⟨XB, 0, none⟩)) rfl (by kernel_rfl) (by kernel_rfl) (by kernel_rfl) (by decide) (by kernel_rfl) (fun _ _ _ h => h) (Or.inl ⟨by rfl, ?_⟩) K0.out ?_
          · (intro w' hSw; obtain ⟨s0, s1, s2, s3⟩ := S0.out w' hSw; clear hSw; go_simp)
          (try simp only [List.getElem_toArray, List.getElem_cons_succ, List.getElem_cons_zero])
          go_frame
          refine wpAnyN_take (i := 6) (v := .agg #[.int .i64 2, .string X, .string Y]) rfl (by kernel_rfl) (by kernel_rfl) (by kernel_rfl) (by decide) (by kernel_rfl) (fun _ _ _ h => h) (Or.inl ⟨by rfl, ?_⟩) K0.out ?_
          · (intro w' hSw; obtain ⟨s0, s1, s2, s3⟩ := S0.out w' hSw; clear hSw; go_simp)
          (try simp only [List.getElem_toArray, List.getElem_cons_succ, List.getElem_cons_zero])
          go_frame
          refine wpAnyL_one (i := 7) (by kernel_rfl) rfl rfl ?_
          go_simp
          refine (HQ.out _ K0.out).mono ?_
          rintro e w6 ⟨u6, l6, rfl, hs6, hsel6, hl6, k6⟩
          have K6 := hid (show Kept w5 w6 from K0.out.trans k6 (fun _ _ f => f))
          have HSEL6 := hid hsel6
          have HAND := hid (Po.and_any w6 (.slice a8 n8 c8) u6 acc l6 ((HISw.out.stay K0.out).stay k6) hs6 (by omega) (by omega))
          clear hs6 hsel6 k6
          refine ⟨K6.out, ?_⟩
          (try go_frame)
          refine wpAnyL_one (i := 8) (by kernel_rfl) rfl rfl ?_
          go_simp
          refine HAND.out.mono ?_
          rintro e w7 ⟨u7, rfl, hat7, k7⟩
          obtain ⟨a7, c7, e7⟩ := ownN_slice hat7
          have K7 := hid (show Kept w5 w7 from K6.out.trans k7 (fun _ _ f => f))
          have HIS7 := hid (Po.own_isrc hat7)
          have HS7 := hid (((Sel.and hsel.out HSEL6.out).mono HSTEP.out))
          have HL7 := hid (HS7.out.len (n := LN) (fun i hi => by have := hi.1; have := HLN.out; omega) (by omega))
          clear hat7 k7
          refine ⟨K7.out, ?_⟩
          (try go_frame)
          generalize Po.setL 0 acc l6 = L7 at HIS7 e7 HS7 HL7
          generalize hN7 : L7.length = N7 at e7
          subst e7
          refine wpAnyL_one (i := 9) (by kernel_rfl) rfl rfl ?_
          go_simp
          refine ⟨K7.out, ?_⟩
          (try go_frame)
          refine wpAnyN_done (by kernel_rfl) ?_
          refine NoPanic.normal ?_
          go_wp2_with fail
          go_roundw
          case rel => exact ⟨k + 1, L7, a7, N7, c7, by omega, by go_num, rfl, HIS7.out, hid HS7.out, HL7.out, HKw.out.trans K7.out (fun _ _ f => f)⟩
          case measure => simp [intOf]; omega
        · have HQ := hid (fun W (kW : Kept (wr.alloc (.cells #[.int .i64 3, .string X, .string Y] 49)) W) => prefix_ix (HXw.out.stay kW) 3 X Y)
          rw [HXB.out, HLN.out] at HQ
          have S0 := hid (fun W (kW : Kept (wr.alloc (.cells #[.int .i64 3, .string X, .string Y] 49)) W) => (show W.cell? ⟨wr.heap.size, 0, none⟩ = some (.int .i64 3) ∧ W.cell? ⟨wr.heap.size, 1, none⟩ = some (.string X) ∧ W.cell? ⟨wr.heap.size, 2, none⟩ = some (.string Y) ∧ W.cell? ⟨T, 3, none⟩ = some (.func (.func 67) #[] #[]) from ⟨(kW.blk hbm (fun f => f)).cell 0 rfl, (kW.blk hbm (fun f => f)).cell 1 rfl, (kW.blk hbm (fun f => f)).cell 2 rfl, (kW.blk hbt (fun f => f)).cell 3 rfl⟩))
          have eg : ∀ args w, (callFunc 67 args).run Tryz.prog w = .ok (.enter 67 args) w := enters_of Tryz.func67 (by kernel_rfl) rfl
          clear hbm hbt
          go_wp2_with fail
          generalize wr.alloc (.cells #[.int .i64 3, .string X, .string Y] 49) = w5 at HQ S0 HISw HKw ⊢
          generalize wr.heap.size = B5 at S0 ⊢
          refine wp_region_noPanic ?_
          refine wp_region_last (L := 1000) (S := fun w' => Kept w5 w') (by kernel_rfl) ?_
          have K0 := hid (show Kept w5 w5.drew from (Only.refl _ _).drew)
          refine wpAnyN_take (i := 0) (v := .slice a8 n8 c8) rfl (by kernel_rfl) (by kernel_rfl) (by kernel_rfl) (by decide) (by kernel_rfl) (fun _ _ _ h => h) (Or.inl ⟨by rfl, ?_⟩) K0.out ?_
          · (intro w' hSw; obtain ⟨s0, s1, s2, s3⟩ := S0.out w' hSw; clear hSw; go_simp)
          (try simp only [List.getElem_toArray, List.getElem_cons_succ, List.getElem_cons_zero])
          go_frame
          refine wpAnyN_take (i := 1) (v := .pointer (some ⟨B5, 0, none⟩)) rfl (by kernel_rfl) (by kernel_rfl) (by kernel_rfl) (by decide) (by kernel_rfl) (fun _ _ _ h => h) (Or.inl ⟨by rfl, ?_⟩) K0.out ?_
          · (intro w' hSw; obtain ⟨s0, s1, s2, s3⟩ := S0.out w' hSw; clear hSw; go_simp)
          (try simp only [List.getElem_toArray, List.getElem_cons_succ, List.getElem_cons_zero])
          go_frame
          refine wpAnyN_take (i := 2) (v := .int .i64 3) rfl (by kernel_rfl) (by kernel_rfl) (by kernel_rfl) (by decide) (by kernel_rfl) (fun _ _ _ h => h) (Or.inl ⟨by rfl, ?_⟩) K0.out ?_
          · (intro w' hSw; obtain ⟨s0, s1, s2, s3⟩ := S0.out w' hSw; clear hSw; go_simp)
          (try simp only [List.getElem_toArray, List.getElem_cons_succ, List.getElem_cons_zero])
          go_frame
          refine wpAnyN_take (i := 3) (v := .pointer (some ⟨T, 3, none⟩)) rfl (by kernel_rfl) (by kernel_rfl) (by kernel_rfl) (by decide) (by kernel_rfl) (fun _ _ _ h => h) (Or.inl ⟨by rfl, ?_⟩) K0.out ?_
          · (intro w' hSw; obtain ⟨s0, s1, s2, s3⟩ := S0.out w' hSw; clear hSw; go_simp)
          (try simp only [List.getElem_toArray, List.getElem_cons_succ, List.getElem_cons_zero])
          go_frame
          refine wpAnyN_take (i := 4) (v := .func (.func 67) #[] #[]) rfl (by kernel_rfl) (by kernel_rfl) (by kernel_rfl) (by decide) (by kernel_rfl) (fun _ _ _ h => h) (Or.inl ⟨by rfl, ?_⟩) K0.out ?_
          · (intro w' hSw; obtain ⟨s0, s1, s2, s3⟩ := S0.out w' hSw; clear hSw; go_simp)
          (try simp only [List.getElem_toArray, List.getElem_cons_succ, List.getElem_cons_zero])
          go_frame
          refine wpAnyN_take (i := 5) (v := .pointer (some ⟨XB, 0, none⟩)) rfl (by kernel_rfl) (by kernel_rfl) (by kernel_rfl) (by decide) (by kernel_rfl) (fun _ _ _ h => h) (Or.inl ⟨by rfl, ?_⟩) K0.out ?_
          · (intro w' hSw; obtain ⟨s0, s1, s2, s3⟩ := S0.out w' hSw; clear hSw; go_simp)
          (try simp only [List.getElem_toArray, List.getElem_cons_succ, List.getElem_cons_zero])
          go_frame
          refine wpAnyN_take (i := 6) (v := .agg #[.int .i64 3, .string X, .string Y]) rfl (by kernel_rfl) (by kernel_rfl) (by kernel_rfl) (by decide) (by kernel_rfl) (fun _ _ _ h => h) (Or.inl ⟨by rfl, ?_⟩) K0.out ?_
          · (intro w' hSw; obtain ⟨s0, s1, s2, s3⟩ := S0.out w' hSw; clear hSw; go_simp)
          (try simp only [List.getElem_toArray, List.getElem_cons_succ, List.getElem_cons_zero])
          go_frame
          refine wpAnyL_one (i := 7) (by kernel_rfl) rfl rfl ?_
          go_simp
          refine (HQ.out _ K0.out).mono ?_
          rintro e w6 ⟨u6, l6, rfl, hs6, hsel6, hl6, k6⟩
          have K6 := hid (show Kept w5 w6 from K0.out.trans k6 (fun _ _ f => f))
          have HSEL6 := hid hsel6
          have HAND := hid (Po.and_any w6 (.slice a8 n8 c8) u6 acc l6 ((HISw.out.stay K0.out).stay k6) hs6 (by omega) (by omega))
          clear hs6 hsel6 k6
          refine ⟨K6.out, ?_⟩
          (try go_frame)
          refine wpAnyL_one (i := 8) (by kernel_rfl) rfl rfl ?_
          go_simp
          refine HAND.out.mono ?_
          rintro e w7 ⟨u7, rfl, hat7, k7⟩
          obtain ⟨a7, c7, e7⟩ := ownN_slice hat7
          have K7 := hid (show Kept w5 w7 from K6.out.trans k7 (fun _ _ f => f))
          have HIS7 := hid (Po.own_isrc hat7)
          have HS7 := hid (((Sel.and hsel.out HSEL6.out).mono HSTEP.out))
          have HL7 := hid (HS7.out.len (n := LN) (fun i hi => by have := hi.1; have := HLN.out; omega) (by omega))
          clear hat7 k7
          refine ⟨K7.out, ?_⟩
          (try go_frame)
          generalize Po.setL 0 acc l6 = L7 at HIS7 e7 HS7 HL7
          generalize hN7 : L7.length = N7 at e7
          subst e7
          refine wpAnyL_one (i := 9) (by kernel_rfl) rfl rfl ?_
          go_simp
          refine ⟨K7.out, ?_⟩
          (try go_frame)
          refine wpAnyN_done (by kernel_rfl) ?_
          refine NoPanic.normal ?_
          go_wp2_with fail
          go_roundw
          case rel => exact ⟨k + 1, L7, a7, N7, c7, by omega, by go_num, rfl, HIS7.out, hid HS7.out, HL7.out, HKw.out.trans K7.out (fun _ _ f => f)⟩
          case measure => simp [intOf]; omega
        · have HQ := hid (fun W (kW : Kept (wr.alloc (.cells #[.int .i64 4, .string X, .string Y] 49)) W) => has_ix (HXw.out.stay kW) 4 X Y (by decide) (by decide) (by decide))
          rw [HXB.out, HLN.out] at HQ
          have S0 := hid (fun W (kW : Kept (wr.alloc (.cells #[.int .i64 4, .string X, .string Y] 49)) W) => (show W.cell? ⟨wr.heap.size, 0, none⟩ = some (.int .i64 4) ∧ W.cell? ⟨wr.heap.size, 1, none⟩ = some (.string X) ∧ W.cell? ⟨wr.heap.size, 2, none⟩ = some (.string Y) ∧ W.cell? ⟨T, 4, none⟩ = some (.func (.func 68) #[] #[]) from ⟨(kW.blk hbm (fun f => f)).cell 0 rfl, (kW.blk hbm (fun f => f)).cell 1 rfl, (kW.blk hbm (fun f => f)).cell 2 rfl, (kW.blk hbt (fun f => f)).cell 4 rfl⟩))
          have eg : ∀ args w, (callFunc 68 args).run Tryz.prog w = .ok (.enter 68 args) w := enters_of Tryz.func68 (by kernel_rfl) rfl
          clear hbm hbt
          go_wp2_with fail
          generalize wr.alloc (.cells #[.int .i64 4, .string X, .string Y] 49) = w5 at HQ S0 HISw HKw ⊢
          generalize wr.heap.size = B5 at S0 ⊢
          refine wp_region_noPanic ?_
          refine wp_region_last (L := 1000) (S := fun w' => Kept w5 w') (by kernel_rfl) ?_
          have K0 := hid (show Kept w5 w5.drew from (Only.refl _ _).drew)
          refine wpAnyN_take (i := 0) (v := .slice a8 n8 c8) rfl (by kernel_rfl) (by kernel_rfl) (by kernel_rfl) (by decide) (by kernel_rfl) (fun _ _ _ h => h) (Or.inl ⟨by rfl, ?_⟩) K0.out ?_
          · (intro w' hSw; obtain ⟨s0, s1, s2, s3⟩ := S0.out w' hSw; clear hSw; go_simp)
          (try simp only [List.getElem_toArray, List.getElem_cons_succ, List.getElem_cons_zero])
          go_frame
          refine wpAnyN_take (i := 1) (v := .pointer (some ⟨B5, 0, none⟩)) rfl (by kernel_rfl) (by kernel_rfl) (by kernel_rfl) (by decide) (by kernel_rfl) (fun _ _ _ h => h) (Or.inl ⟨by rfl, ?_⟩) K0.out ?_
          · (intro w' hSw; obtain ⟨s0, s1, s2, s3⟩ := S0.out w' hSw; clear hSw; go_simp)
          (try simp only [List.getElem_toArray, List.getElem_cons_succ, List.getElem_cons_zero])
          go_frame
          refine wpAnyN_take (i := 2) (v := .int .i64 4) rfl (by kernel_rfl) (by kernel_rfl) (by kernel_rfl) (by decide) (by kernel_rfl) (fun _ _ _ h => h) (Or.inl ⟨by rfl, ?_⟩) K0.out ?_
          · (intro w' hSw; obtain ⟨s0, s1, s2, s3⟩ := S0.out w' hSw; clear hSw; go_simp)
          (try simp only [List.getElem_toArray, List.getElem_cons_succ, List.getElem_cons_zero])
          go_frame
          refine wpAnyN_take (i := 3) (v := .pointer (some ⟨T, 4, none⟩)) rfl (by kernel_rfl) (by kernel_rfl) (by kernel_rfl) (by decide) (by kernel_rfl) (fun _ _ _ h => h) (Or.inl ⟨by rfl, ?_⟩) K0.out ?_
          · (intro w' hSw; obtain ⟨s0, s1, s2, s3⟩ := S0.out w' hSw; clear hSw; go_simp)
          (try simp only [List.getElem_toArray, List.getElem_cons_succ, List.getElem_cons_zero])
          go_frame
          refine wpAnyN_take (i := 4) (v := .func (.func 68) #[] #[]) rfl (by kernel_rfl) (by kernel_rfl) (by kernel_rfl) (by decide) (by kernel_rfl) (fun _ _ _ h => h) (Or.inl ⟨by rfl, ?_⟩) K0.out ?_
          · (intro w' hSw; obtain ⟨s0, s1, s2, s3⟩ := S0.out w' hSw; clear hSw; go_simp)
          (try simp only [List.getElem_toArray, List.getElem_cons_succ, List.getElem_cons_zero])
          go_frame
          refine wpAnyN_take (i := 5) (v := .pointer (some ⟨XB, 0, none⟩)) rfl (by kernel_rfl) (by kernel_rfl) (by kernel_rfl) (by decide) (by kernel_rfl) (fun _ _ _ h => h) (Or.inl ⟨by rfl, ?_⟩) K0.out ?_
          · (intro w' hSw; obtain ⟨s0, s1, s2, s3⟩ := S0.out w' hSw; clear hSw; go_simp)
          (try simp only [List.getElem_toArray, List.getElem_cons_succ, List.getElem_cons_zero])
          go_frame
          refine wpAnyN_take (i := 6) (v := .agg #[.int .i64 4, .string X, .string Y]) rfl (by kernel_rfl) (by kernel_rfl) (by kernel_rfl) (by decide) (by kernel_rfl) (fun _ _ _ h => h) (Or.inl ⟨by rfl, ?_⟩) K0.out ?_
          · (intro w' hSw; obtain ⟨s0, s1, s2, s3⟩ := S0.out w' hSw; clear hSw; go_simp)
          (try simp only [List.getElem_toArray, List.getElem_cons_succ, List.getElem_cons_zero])
          go_frame
          refine wpAnyL_one (i := 7) (by kernel_rfl) rfl rfl ?_
          go_simp
          refine (HQ.out _ K0.out).mono ?_
          rintro e w6 ⟨u6, l6, rfl, hs6, hsel6, hl6, k6⟩
          have K6 := hid (show Kept w5 w6 from K0.out.trans k6 (fun _ _ f => f))
          have HSEL6 := hid hsel6
          have HAND := hid (Po.and_any w6 (.slice a8 n8 c8) u6 acc l6 ((HISw.out.stay K0.out).stay k6) hs6 (by omega) (by omega))
          clear hs6 hsel6 k6
          refine ⟨K6.out, ?_⟩
          (try go_frame)
          refine wpAnyL_one (i := 8) (by kernel_rfl) rfl rfl ?_
          go_simp
          refine HAND.out.mono ?_
          rintro e w7 ⟨u7, rfl, hat7, k7⟩
          obtain ⟨a7, c7, e7⟩ := ownN_slice hat7
          have K7 := hid (show Kept w5 w7 from K6.out.trans k7 (fun _ _ f => f))
          have HIS7 := hid (Po.own_isrc hat7)
          have HS7 := hid (((Sel.and hsel.out HSEL6.out).mono HSTEP.out))
          have HL7 := hid (HS7.out.len (n := LN) (fun i hi => by have := hi.1; have := HLN.out; omega) (by omega))
          clear hat7 k7
          refine ⟨K7.out, ?_⟩
          (try go_frame)
          generalize Po.setL 0 acc l6 = L7 at HIS7 e7 HS7 HL7
          generalize hN7 : L7.length = N7 at e7
          subst e7
          refine wpAnyL_one (i := 9) (by kernel_rfl) rfl rfl ?_
          go_simp
          refine ⟨K7.out, ?_⟩
          (try go_frame)
          refine wpAnyN_done (by kernel_rfl) ?_
          refine NoPanic.normal ?_
          go_wp2_with fail
          go_roundw
          case rel => exact ⟨k + 1, L7, a7, N7, c7, by omega, by go_num, rfl, HIS7.out, hid HS7.out, HL7.out, HKw.out.trans K7.out (fun _ _ f => f)⟩
          case measure => simp [intOf]; omega
      · have e : k = M := by omega
        subst e
        have HF := hid (HFIN.out (.slice a8 n8 c8) acc wr HIS.out hsel.out hal HKW.out)
        go_wp2
        go_ret2
        exact HF.out
  · have HFIN : Hid (∀ w', Kept w w' → FindP w L m (.returned (.tuple #[.slice none 0 0, .int .i64 (checkM m)])) w') := fun w' k =>
      ⟨.slice none 0 0, [], rfl, Po.own_isrc (base := 0) (World.ownsRow_nil _ _ _ _), fun _ => rfl, fun e => absurd e hck, Nat.zero_le _, k⟩
    generalize checkM m = C at HC hck HFIN
    have hC : (C != 0) = true := by simpa using hck
    go_enter Tryz.func17, Tryz.ntmps17
    go_wp2_with fail
    refine HC.out.mono ?_
    rintro e w1 ⟨rfl, k1⟩
    have HF := hid (HFIN.out w1 k1)
    clear k1
    go_wp2
    go_ret2
    exact HF.out
end Go.Proofs.YteknpfldemgmnaaGreat.X
