/-
  Cchunk, Cread, Csame, Csplit, Claw, Cu2, Csplits.
-/
import Derived.Test.YtllfanlhgnkcfaaGreatDoorQ10
import Derived.Test.YtllfanlhgnkcfaaGreatDoorQ11
import Derived.Test.YtllfanlhgnkcfaaGreatDoorQ14
import Derived.Test.YtllfanlhgnkcfaaGreatDoorQ12
import Derived.Test.YtllfanlhgnkcfaaGreatDoorQ08
import Derived.Test.YtllfanlhgnkcfaaGreatDoorQ13
namespace Go.Proofs.YtllfanlhgnkcfaaGreatDoor.C
open Go.RowKit Go.Proofs.Lys
set_option linter.unusedVariables false
theorem row_app {w : World} {base : Nat} {v xv : Value} {xs ys : List UInt8} (h : w.ownsRow base 5 1 v xs.length (xs.map bV)) (hb : base ≤ w.heap.size) (hs : SrcOf w xv (ys.map bV)) (hl : xs.length + ys.length ≤ 1000000) :
  ∃ a cap w1, Hid ((Builtin.append_ #[28, 28] 0 #[v, xv]).run Tryz.prog w = .ok (.slice a (xs.length + ys.length) cap) w1) ∧ w1.ownsRow base 5 1 (.slice a (xs.length + ys.length) cap) (xs ++ ys).length ((xs ++ ys).map bV) ∧ Only (fun k => v.ownBlock = some k) w w1 := by
 obtain ⟨v', w1, hrun, hown1, hgrow, hat⟩ := append_src (P := Tryz.prog) Tryz.underlying28 Tryz.infoB rfl (by decide) h hs (bytes_one ys) (by rw [List.length_map]; omega) hb
 rw [List.length_map] at hown1
 obtain ⟨a, cap, rfl⟩ := own_slice hown1
 refine ⟨a, cap, w1, hrun, ?_, (Only.refl _ w).grown hgrow (fun j hj _ => hj)⟩
 have e1 : (xs ++ ys).length = xs.length + ys.length := List.length_append
 have e2 : (xs ++ ys).map bV = xs.map bV ++ ys.map bV := List.map_append
 rw [e1, e2]
 exact hown1
def PackPost (w : World) (l : Smps) (e : Ending) (w' : World) : Prop :=
 Kept w w' ∧ ∃ u bs x, e = .returned (.tuple #[u, .int .i64 x]) ∧ Packs l bs x ∧ w'.ownsRow w.heap.size 5 1 u bs.length (bs.map bV)
theorem only_kept {w0 w w1 : World} {base : Nat} {v : Value} {n : Nat} {xs : List Value} (hk : Kept w0 w) (h : w.ownsRow base 5 1 v n xs) (hb : w0.heap.size ≤ base) (ho : Only (fun k => v.ownBlock = some k) w w1) : Kept w0 w1 :=
 hk.trans ho (fun j hj e => by have := (h.lt j e).1; omega)
theorem SPacks.small {l : List Int} {bs : List UInt8} {x : Int} (h : S.Packs l bs x) : bs.length ≤ 2000 := by
 rcases h with ⟨_, h, _⟩ | ⟨_, _, h, _⟩ | ⟨h0, _, h, _⟩
 ·simp [h]
 ·simp [h]
 ·rw [h, packL_length]
  have := S.allB_length l
  omega
theorem uNU {n : Nat} (h : n < 1000000) : U.uN ((n : Nat) : Int) = n := by
 unfold U.uN
 omega
set_option maxRecDepth 100000 in
set_option maxHeartbeats 3200000 in
theorem rchunk_any (w : World) (v : Value) (l : Smps) (hs : SmpSrc w v l) (hl : l.length ≤ 1000) : Calls Tryz.prog 30 #[v] w (PackPost w l) := by
 obtain ⟨a0, c0, e0⟩ := hs.len
 by_cases h0 : l = []
 ·subst h0
  rw [List.length_nil] at e0
  subst e0
  go_enter Tryz.func30, Tryz.ntmps30
  go_wp2_with fail
  go_ret2
  exact ⟨Only.refl _ w, _, [], 1, rfl, .inl ⟨rfl, rfl, rfl⟩, World.ownsRow_nil _ _ _ _⟩
 ·have hp := parts_any w v l hs hl
  have hpos : l.length ≠ 0 := fun h => h0 (List.length_eq_zero_iff.1 h)
  obtain ⟨L, hL⟩ : ∃ L, l.length = L := ⟨_, rfl⟩
  rw [hL] at e0 hl hpos
  subst e0
  have HL := hid hL
  have H0 := hid h0
  have hL0 : ((L : Int) == 0) = false := by simp; omega
  clear hL h0 hs
  go_enter Tryz.func30, Tryz.ntmps30
  go_wp2_with fail
  refine hp.mono ?_
  rintro e w1 ⟨s, t, rfl, hT⟩
  clear hp
  have HT := hid hT
  have hst := S.rstamps_any w1 s (l.map (·.1)) (own_src hT.one) (by rw [List.length_map, HL.out]; exact hl)
  clear hT
  go_wp2_with fail
  refine hst.mono ?_
  rintro e w2 ⟨k2, u2, bs2, x2, rfl, hP2, ho2⟩
  clear hst
  have HP2 := hid hP2
  have HO2 := hid ho2
  have HK2 : Hid (Kept w w2) := HT.out.kept.trans k2 (fun _ _ f => f)
  have hT2 := own_only HT.out.two k2 (fun _ _ f => f)
  by_cases hx : x2 = 0
  ·subst hx
   have hva := V.rvalues_any w2 t (l.map (·.2)) (own_src hT2) (by rw [List.length_map, HL.out]; exact hl)
   clear hP2 ho2 k2 hT2
   go_wp2_with fail
   refine hva.mono ?_
   rintro e w3 ⟨k3, u3, bs3, x3, rfl, hP3, ho3⟩
   clear hva
   have hx3 : x3 = 0 := by
    rcases hP3 with ⟨h, _⟩ | ⟨_, _, h⟩
    ·exfalso
     rcases HP2.out with ⟨_, _, h'⟩ | ⟨_, _, _, h'⟩ | ⟨h', _⟩
     ·cases h'
     ·cases h'
     ·rw [List.length_map] at h h'
      omega
    ·exact h
   subst hx3
   have HP3 := hid hP3
   have HO3 := hid ho3
   have HO23 := hid (own_only HO2.out k3 (fun _ _ f => f))
   have HK3 : Hid (Kept w w3) := HK2.out.trans k3 (fun _ _ f => f)
   have hA := SPacks.small HP2.out
   have hC := HP3.out.small
   obtain ⟨A, hAe⟩ : ∃ A, bs2.length = A := ⟨_, rfl⟩
   obtain ⟨C, hCe⟩ : ∃ C, bs3.length = C := ⟨_, rfl⟩
   rw [hAe] at hA
   rw [hCe] at hC
   have HA := hid hAe
   have HC := hid hCe
   obtain ⟨ua, uc, hu2⟩ := own_slice HO23.out
   obtain ⟨va, vc, hu3⟩ := own_slice HO3.out
   rw [hAe] at hu2
   rw [hCe] at hu3
   subst hu2
   subst hu3
   clear hP3 ho3 k3 hAe hCe
   have hput1 := U.rput_any w3 (L : Int)
   rw [uNU (by omega)] at hput1
   go_wp2_with fail
   refine hput1.mono ?_
   rintro e w4 ⟨v4, rfl, ho4, k4⟩
   clear hput1
   have hput2 := U.rput_any w4 (A : Int)
   rw [uNU (by omega)] at hput2
   have HO4 := hid ho4
   have HK4 : Hid (Kept w w4) := HK3.out.trans k4 (fun _ _ f => f)
   have HO24 := hid (own_only HO23.out k4 (fun _ _ f => f))
   have HO34 := hid (own_only HO3.out k4 (fun _ _ f => f))
   have HZ4 : Hid (w3.heap.size ≤ w4.heap.size) := k4.size
   clear ho4 k4
   go_wp2_with fail
   refine hput2.mono ?_
   rintro e w5 ⟨v5, rfl, ho5, k5⟩
   clear hput2
   obtain ⟨p1, hp1⟩ : ∃ p, putN L = p := ⟨_, rfl⟩
   obtain ⟨p2, hp2⟩ : ∃ p, putN A = p := ⟨_, rfl⟩
   obtain ⟨p3, hp3⟩ : ∃ p, putN C = p := ⟨_, rfl⟩
   have l1 := putN_ten (n := L) (by omega)
   have l2 := putN_ten (n := A) (by omega)
   have l3 := putN_ten (n := C) (by omega)
   rw [hp1] at HO4 l1
   rw [hp2] at ho5 l2
   rw [hp3] at l3
   have hz3 := HK3.out.size
   have hz4 := HZ4.out
   have hz5 := k5.size
   have h45 := own_only HO4.out k5 (fun _ _ f => f)
   obtain ⟨a6, cap6, w6, Hr6, ho6, hon6⟩ := row_app h45 (by omega) (own_src ho5) (by omega)
   have hk5 : Kept w w5 := HK4.out.trans k5 (fun _ _ f => f)
   have hk6 := only_kept hk5 h45 hz3 hon6
   have hlow4 : ∀ j, v4.ownBlock = some j → w3.heap.size ≤ j := fun j hj => (HO4.out.lt j hj).1
   have h26 := own_only (own_only HO24.out k5 (fun _ _ f => f)) hon6 (fun j hj e => by have h1 := (HO23.out.lt j hj).2; have h2 := hlow4 j e; omega)
   have h36 := own_only (own_only HO34.out k5 (fun _ _ f => f)) hon6 (fun j hj e => by have h1 := (HO3.out.lt j hj).2; have h2 := hlow4 j e; omega)
   have hz6 := hon6.size
   obtain ⟨a7, cap7, w7, Hr7, ho7, hon7⟩ := row_app ho6 (by omega) (own_src h26) (by rw [List.length_append, HA.out]; omega)
   have hk7 := only_kept hk6 ho6 hz3 hon7
   have h37 := own_only h36 hon7 (fun j hj e => by have h1 := (HO3.out.lt j hj).2; have h2 := (ho6.lt j e).1; omega)
   have hz7 := hon7.size
   have hput3 := U.rput_any w7 (C : Int)
   rw [uNU (by omega), hp3] at hput3
   have HO7 := hid ho7
   have HK7 := hid hk7
   have H37 := hid h37
   have HP : Hid (putN L = p1 ∧ putN A = p2 ∧ putN C = p3) := ⟨hp1, hp2, hp3⟩
   have HZ : Hid (w.heap.size ≤ w3.heap.size ∧ w3.heap.size ≤ w7.heap.size) := ⟨hz3, by omega⟩
   rw [HA.out] at Hr7
   clear ho5 k5 h45 hk5 hk6 hlow4 h26 h36 hon6 ho6 ho7 hon7 hk7 h37 hp1 hp2 hp3 hz3 hz4 hz5 hz6 hz7
   go_wp2_with (at_builtin; first | refine wpList_append_run rfl _ _ _ rfl rfl rfl Hr6 ?_ | refine wpList_append_run rfl _ _ _ rfl rfl rfl Hr7 ?_)
   refine hput3.mono ?_
   rintro e w8 ⟨v8, rfl, ho8, k8⟩
   clear hput3
   have hz8 := k8.size
   have hzz := HZ.out
   have h78 := own_only HO7.out k8 (fun _ _ f => f)
   have hk8 : Kept w w8 := HK7.out.trans k8 (fun _ _ f => f)
   have h38 := own_only H37.out k8 (fun _ _ f => f)
   obtain ⟨a9, cap9, w9, Hr9, ho9, hon9⟩ := row_app h78 (by omega) (own_src ho8) (by simp only [List.length_append, HA.out]; omega)
   have hk9 := only_kept hk8 h78 hzz.1 hon9
   have h39 := own_only h38 hon9 (fun j hj e => by have h1 := (HO3.out.lt j hj).2; have h2 := (h78.lt j e).1; omega)
   have hz9 := hon9.size
   obtain ⟨a10, cap10, w10, Hr10, ho10, hon10⟩ := row_app ho9 (by omega) (own_src h39) (by simp only [List.length_append, HA.out, HC.out]; omega)
   have hk10 := only_kept hk9 ho9 hzz.1 hon10
   have HE : Hid (Kept w w10 ∧ w10.ownsRow w.heap.size 5 1 (.slice a10 ((p1 ++ p2 ++ bs2 ++ p3).length + C) cap10) (chunkB l bs2 bs3).length ((chunkB l bs2 bs3).map bV)) := by
    refine ⟨hk10, ?_⟩
    have e1 : chunkB l bs2 bs3 = p1 ++ p2 ++ bs2 ++ p3 ++ bs3 := by
     unfold chunkB
     rw [HL.out, HA.out, HC.out, HP.out.1, HP.out.2.1, HP.out.2.2]
     simp only [List.append_assoc]
    rw [e1]
    have h2 := own_base ho10 hzz.1
    rw [HC.out] at h2
    exact h2
   simp only [List.length_append, HA.out, HC.out] at Hr9 Hr10 HE
   clear ho8 k8 hz8 hzz h78 hk8 h38 ho9 hon9 hk9 h39 hz9 ho10 hon10 hk10
   simp only [List.length_append] at *
   go_wp2_with (at_builtin; first | refine wpList_append_run rfl _ _ _ rfl rfl rfl Hr9 ?_ | refine wpList_append_run rfl _ _ _ rfl rfl rfl Hr10 ?_)
   go_ret2
   exact ⟨HE.out.1, _, chunkB l bs2 bs3, 0, rfl, .inr (.inr ⟨H0.out, bs2, bs3, HP2.out, HP3.out, rfl, rfl⟩), HE.out.2⟩
  ·have hx' : (x2 == 0) = false := by simp [hx]
   have HX := hid hx
   clear hx hP2 ho2 k2 hT2
   go_wp2_with fail
   go_ret2
   exact ⟨HK2.out, _, [], x2, rfl, .inr (.inl ⟨H0.out, bs2, x2, HP2.out, HX.out, rfl, rfl⟩), World.ownsRow_nil _ _ _ _⟩
end Go.Proofs.YtllfanlhgnkcfaaGreatDoor.C
namespace Go.Proofs.YtllfanlhgnkcfaaGreatDoor.C
open Go.RowKit Go.Proofs.Lys
set_option linter.unusedVariables false
theorem oper_append_run {P : Program} {w : World} {o : Oper} {a : Act} {K : Act → World → Prop} {Q : Exit → Act → World → Prop} (s x : Operand) (t : TypeId)
  (ho : o.op = .call { callee := .builtin .append, args := #[s, x], argTypes := #[t, t] }) {sv xv : Value} (hs : a.eval s = sv) (hx : a.eval x = xv) {v : Value} {w' : World}
  (hrun : Hid ((Builtin.append_ #[t, t] 0 #[sv, xv]).run P w = .ok v w')) (h : K (a.put o.dst v) w') : Oper.wp P o a w K Q := by
 have hr : (Builtin.append_ #[t, t] o.type #[sv, xv]).run P w = .ok v w' := hrun.out
 unfold Oper.wp execOp
 simp only [ho, resolve, invoke, builtin, Sem.run_bind, Sem.run_pure, Result.andThen_ok, List.map_toArray, List.map_cons, List.map_nil, hs, hx, hr]
 exact h
theorem int_cells_at {w : World} {b o n c j : Nat} {l : List Int} {x : Int} {hj : j < l.length} (h : SrcOf w (.slice (some ⟨b, o, none⟩) n c) (l.map (Value.int .i64))) (hx : l[j] = x) : w.cell? ⟨b, o + j, none⟩ = some (.int .i64 x) := by
 have := int_cells h j hj
 rw [hx] at this
 exact this
def UnpackPost (w : World) (bs : List UInt8) (e : Ending) (w' : World) : Prop :=
 Kept w w' ∧ ∃ (l : Smps) (n : Nat) (u : Value) (x : Int), e = .returned (.tuple #[u, .int .i64 (n : Int), .int .i64 x]) ∧ Reads bs l n x ∧ SmpAt w' w.heap.size u l
end Go.Proofs.YtllfanlhgnkcfaaGreatDoor.C
namespace Go.Proofs.YtllfanlhgnkcfaaGreatDoor.C
open Go.RowKit Go.Proofs.Lys
set_option linter.unusedVariables false
set_option maxRecDepth 100000 in
set_option maxHeartbeats 1600000 in
theorem same_any (w : World) (va vb : Value) (l : Smps) (ha : SmpSrc w va l) (hb : SmpSrc w vb l) (hl : l.length ≤ 1000000) :
  Calls Tryz.prog 37 #[va, vb] w fun e w' => e = .returned (.bool true) ∧ Kept w w' := by
 obtain ⟨a1, c1, rfl⟩ := ha.len
 obtain ⟨a2, c2, rfl⟩ := hb.len
 obtain ⟨L, hL⟩ : ∃ L, l.length = L := ⟨_, rfl⟩
 rw [hL] at ha hb hl ⊢
 have HA := hid ha
 have HB := hid hb
 have HL := hid hL
 clear ha hb hL
 go_enter Tryz.func37, Tryz.ntmps37
 go_wp2
 go_loopw [5] (fun s wr => ∃ (k : Nat), k ≤ L ∧ s = .int .i64 (k : Int) ∧ Kept w wr) (fun s _ => L - (intOf s).toNat)
 case atStart => exact ⟨0, by omega, rfl, Only.refl _ _⟩
 case round =>
  obtain ⟨k, hk, rfl, kr⟩ := hrel
  by_cases hlt : k < L
  ·obtain ⟨b1, o1, rfl, x1, y1⟩ := (HA.out.stay kr).cell HL.out k hlt
   obtain ⟨b2, o2, rfl, x2, y2⟩ := (HB.out.stay kr).cell HL.out k hlt
   generalize (l[k]'(by have := HL.out; omega)).1 = X at x1 x2
   generalize (l[k]'(by have := HL.out; omega)).2 = Y at y1 y2
   go_wp2_with fail
   go_quiet (fail)
   go_wp2_with fail
   go_roundw
   case rel => exact ⟨k + 1, by omega, by go_num, kept_drewN kr nq⟩
   case measure => simp [intOf]; omega
  ·have e : k = L := by omega
   subst e
   go_wp2
   go_ret
   exact ⟨rfl, kr⟩
end Go.Proofs.YtllfanlhgnkcfaaGreatDoor.C
namespace Go.Proofs.YtllfanlhgnkcfaaGreatDoor.C
open Go.RowKit Go.Proofs.Lys
set_option linter.unusedVariables false
def SSrc (w : World) (v : Value) (l : Smps) : Prop := SmpSrc w v l ∧ ∃ a c, v = .slice a l.length c ∧ l.length ≤ c
theorem SSrc.stay {w w' : World} {v : Value} {l : Smps} (h : SSrc w v l) (k : Kept w w') : SSrc w' v l := ⟨h.1.stay k, h.2⟩
theorem SSrc.sub {w : World} {v : Value} {l : Smps} (h : SSrc w v l) {lo hi : Nat} (h1 : lo ≤ hi) (h2 : hi ≤ l.length) :
  ∃ a' c', (∀ W, (Instr.sliceAt 46 v (some (.int .i64 (lo : Int))) (some (.int .i64 (hi : Int))) none).run Tryz.prog W = .ok (.slice a' (hi - lo) c') W) ∧ SmpSrc w (.slice a' (hi - lo) c') ((l.take hi).drop lo) := by
 obtain ⟨hs, a, c, rfl, hc⟩ := h
 have hlen : ((l.take hi).drop lo).length = hi - lo := by rw [List.length_drop, List.length_take]; omega
 have hz : ∀ W, (sizeOf 53).run Tryz.prog W = .ok 2 W := fun W => by kernel_rfl
 have e2 : hi ≤ c := by omega
 refine ⟨if c = lo then a else a.map (·.add (lo * 2)), c - lo, fun W => ?_, ?_⟩
 ·simp [Instr.sliceAt, Instr.slice, Instr.sliceBounds, Instr.sliceBound, run_underlying Tryz.underlying46, asIntOf, h1, e2, hz, Result.andThen]
 ·by_cases h0 : hi - lo = 0
  ·have hn : (l.take hi).drop lo = [] := List.length_eq_zero_iff.1 (by rw [hlen]; exact h0)
   rw [hn, h0]
   exact .inl ⟨_, _, rfl, rfl⟩
  ·rcases hs with ⟨x, y, hv, hn⟩ | ⟨hp, b, o, c2, hv, hcell⟩
   ·rw [hn] at h2
    simp at h2
    omega
   ·simp only [Value.slice.injEq] at hv
    obtain ⟨rfl, _, rfl⟩ := hv
    rw [if_neg (by omega)]
    refine .inr ⟨by rw [hlen]; omega, b, o + lo * 2, c - lo, by rw [hlen, Option.map_some, add_none], fun i hi' => ?_⟩
    rw [hlen] at hi'
    have := hcell (lo + i) (by omega)
    have e5 : ((l.take hi).drop lo)[i]'(by rw [hlen]; exact hi') = l[lo + i]'(by omega) := by
     rw [List.getElem_drop, List.getElem_take]
    rw [e5, show o + lo * 2 + i * 2 = o + (lo + i) * 2 by omega]
    exact this
theorem Tryz.infoL : (Tryz.prog.info? 46).map (fun i => (i.zero, i.size, i.bytes)) = some (some (.slice none 0 0), 1, 24) := by kernel_rfl
structure OutAt (w : World) (base : Nat) (v : Value) (ls : List Smps) (vs : List Value) : Prop where
 len : vs.length = ls.length
 row : w.ownsRow base 46 1 v vs.length vs
 each : ∀ i (h : i < ls.length) (h' : i < vs.length), SmpAt w base vs[i] ls[i]
 apart : ∀ i j (h : i < vs.length) (h' : j < vs.length), i ≠ j → ∀ q, vs[i].ownBlock = some q → vs[j].ownBlock ≠ some q
 plain : ∀ u ∈ vs, ∃ a n c, u = .slice a n c
theorem OutAt.step {w0 w1 w2 : World} {v u : Value} {ls : List Smps} {vs : List Value} {q : Smps} (h : OutAt w1 w0.heap.size v ls vs) (hk : Kept w0 w1) (k2 : Kept w1 w2) (hu : SmpAt w2 w1.heap.size u q) (hl : ls.length ≤ 100000) :
  ∃ g cap w3, Hid ((Builtin.append_ #[55, 55] 0 #[v, .slice (some ⟨w2.heap.size, 0, none⟩) 1 1]).run Tryz.prog (w2.alloc (.cells #[u] 46)) = .ok (.slice (some ⟨g, 0, none⟩) (ls.length + 1) cap) w3) ∧ OutAt w3 w0.heap.size (.slice (some ⟨g, 0, none⟩) (ls.length + 1) cap) (ls ++ [q]) (vs ++ [u]) ∧ Kept w0 w3 := by
 have hs1 := hk.size
 have hs2 := k2.size
 have hrow2 := own_only h.row k2 (fun _ _ f => f)
 obtain ⟨ua, uc, rfl⟩ := ownN_slice hu
 obtain ⟨v', w3, hrun, hown1, hgrow, hat⟩ := append_src (P := Tryz.prog) (xv := .slice (some ⟨w2.heap.size, 0, none⟩) 1 1) (ys := [.slice ua q.length uc]) Tryz.underlying55 Tryz.infoL rfl (by decide) (hrow2.alloc (.cells #[.slice ua q.length uc] 46)) (own_src (World.ownsRow_lit w2 #[.slice ua q.length uc] 1 (Nat.zero_le _) (by decide) rfl)) (by intro u hu; simp at hu; subst hu; rfl) (by have := h.len; simp; omega) (by simp; omega)
 obtain ⟨g, cap, rfl⟩ := own_some hown1 (by simp)
 have hk3 : Kept w0 w3 := ((hk.trans k2 (fun _ _ f => f)).alloc _).grown hgrow (fun j hj hlt => by have := (h.row.lt j hj).1; omega)
 have hO : Only (fun j => v.ownBlock = some j) w2 w3 := ((Only.refl _ w2).alloc _).grown hgrow (fun j hj _ => hj)
 refine ⟨g, cap, w3, ?_, ⟨by simp [h.len], ?_, ?_, ?_, ?_⟩, hk3⟩
 ·have e : vs.length + [Value.slice ua q.length uc].length = ls.length + 1 := by simp [h.len]
  rw [← e]
  exact hrun
 ·have e : (vs ++ [Value.slice ua q.length uc]).length = ls.length + 1 := by simp [h.len]
  have e2 : vs.length + [Value.slice ua q.length uc].length = ls.length + 1 := by simp [h.len]
  rw [e, ← e2]
  exact hown1
 ·intro i hi hi'
  rw [List.length_append, List.length_singleton] at hi hi'
  by_cases e : i < ls.length
  ·have hv : i < vs.length := by have := h.len; omega
   rw [List.getElem_append_left hv, List.getElem_append_left e]
   have h1 := h.each i e hv
   refine ownN_only (ownN_stay h1 k2) hO (fun b hb hvb => ?_)
   exact (ownN_typed h1 hb).ne (own_typed h.row hvb) (by decide) rfl
  ·have e1 : i = ls.length := by omega
   subst e1
   have e2 : ls.length = vs.length := h.len.symm
   rw [List.getElem_append_right (by omega), List.getElem_append_right (Nat.le_refl _)]
   simp only [e2, Nat.sub_self, List.getElem_singleton]
   refine ownN_base (ownN_only hu hO (fun b hb hvb => ?_)) hs1
   have h1 := (ownN_lt hu hb).1
   have h2 := (h.row.lt b hvb).2
   omega
 ·intro i j hi hj hne p hp hq
  rw [List.length_append, List.length_singleton] at hi hj
  have low : ∀ k (hk : k < vs.length) b, vs[k].ownBlock = some b → b < w1.heap.size := fun k hk b hb => (ownN_lt (h.each k (by have := h.len; omega) hk) hb).2
  by_cases ei : i < vs.length
  ·by_cases ej : j < vs.length
   ·rw [List.getElem_append_left ei] at hp
    rw [List.getElem_append_left ej] at hq
    exact h.apart i j ei ej hne p hp hq
   ·have e1 : j = vs.length := by omega
    subst e1
    rw [List.getElem_append_left ei] at hp
    rw [List.getElem_append_right (Nat.le_refl _)] at hq
    simp only [Nat.sub_self, List.getElem_singleton] at hq
    have h1 := low i ei p hp
    have h2 := (ownN_lt hu hq).1
    omega
  ·have e1 : i = vs.length := by omega
   subst e1
   have ej : j < vs.length := by omega
   rw [List.getElem_append_left ej] at hq
   rw [List.getElem_append_right (Nat.le_refl _)] at hp
   simp only [Nat.sub_self, List.getElem_singleton] at hp
   have h1 := low j ej p hq
   have h2 := (ownN_lt hu hp).1
   omega
 ·intro x hx
  rcases List.mem_append.1 hx with hx | hx
  ·exact h.plain x hx
  ·exact ⟨_, _, _, List.mem_singleton.1 hx⟩
set_option maxRecDepth 100000 in
set_option maxHeartbeats 1600000 in
theorem rchunks_any (w : World) (v : Value) (l : Smps) (hs : SSrc w v l) (hl : l.length ≤ 100000) :
  Calls Tryz.prog 29 #[v] w fun e w' => ∃ u vs, e = .returned u ∧ OutAt w' w.heap.size u (splitL l) vs ∧ Kept w w' := by
 obtain ⟨a0, c0, e0⟩ := hs.1.len
 obtain ⟨L, hL⟩ : ∃ L, l.length = L := ⟨_, rfl⟩
 rw [hL] at e0 hl
 subst e0
 have HS := hid hs
 have HL := hid hL
 clear hs hL
 go_enter Tryz.func29, Tryz.ntmps29
 go_wp2_with fail
 go_loopw [3, 4, 5] (fun o i _ wr => ∃ (k : Nat) (ls : List Smps) (vs : List Value), k ≤ L + 119 ∧ i = .int .i64 (k : Int) ∧ OutAt wr w.heap.size o ls vs ∧ Kept w wr ∧ ls.length ≤ k ∧ ls ++ splitL (l.drop k) = splitL l) (fun _ i _ _ => L + 120 - (intOf i).toNat)
 case atStart => exact ⟨0, [], [], by omega, rfl, ⟨rfl, World.ownsRow_nil _ _ _ _, fun i h => absurd h (Nat.not_lt_zero _), fun i j h => absurd h (Nat.not_lt_zero _), fun u hu => by cases hu⟩, Only.refl _ _, by simp, by simp⟩
 case round =>
  obtain ⟨k, ls, vs, hk, rfl, hO, hkr, hlk, hsp⟩ := hrel
  by_cases hlt : k < L
  ·have hne : l.drop k ≠ [] := fun e => by
    have := congrArg List.length e
    rw [List.length_drop, HL.out] at this
    simp at this
    omega
   have hsp2 := hsp
   rw [splitL_cons hne, List.drop_drop] at hsp2
   by_cases hend : L < k + 120
   ·obtain ⟨a', c', hsl, hsub⟩ := (HS.out.stay hkr).sub (lo := k) (hi := L) (by omega) (by have := HL.out; omega)
    obtain ⟨a2, c2, w2, Hr, ho2, hk2⟩ := smp_copy hsub (by rw [List.length_drop, List.length_take]; have := HL.out; omega)
    have hq : (l.take L).drop k = (l.drop k).take 120 := by
     rw [List.take_of_length_le (by have := HL.out; omega)]
     exact (List.take_of_length_le (by rw [List.length_drop]; have := HL.out; omega)).symm
    rw [hq] at ho2 Hr
    have hql : ((l.drop k).take 120).length = L - k := by rw [List.length_take, List.length_drop]; have := HL.out; omega
    obtain ⟨g, cap, w3, Hr3, hO3, hk3⟩ := hO.step hkr hk2 ho2 (by omega)
    have HO3 := hid hO3
    have HK3 := hid hk3
    have HSP := hid hsp2
    have HLS : Hid ((ls ++ [(l.drop k).take 120]).length = ls.length + 1) := by show _ = _; simp
    rw [hql] at Hr Hr3 HO3
    clear hO hsub ho2 hO3 hk3 hsp hsp2 hq hk2
    go_wp2_with (at_builtin; first | refine wpList_append_run rfl _ _ _ rfl rfl rfl Hr ?_ | refine wpList_append_run rfl _ _ _ rfl rfl rfl Hr3 ?_)
    go_roundw
    case rel => exact ⟨k + 120, _, _, by omega, by go_num, HO3.out, HK3.out, by rw [HLS.out]; omega, by rw [List.append_assoc]; exact HSP.out⟩
    case measure => simp [intOf]; omega
   ·obtain ⟨a', c', hsl, hsub⟩ := (HS.out.stay hkr).sub (lo := k) (hi := k + 120) (by omega) (by have := HL.out; omega)
    obtain ⟨a2, c2, w2, Hr, ho2, hk2⟩ := smp_copy hsub (by rw [List.length_drop, List.length_take]; omega)
    have hq : (l.take (k + 120)).drop k = (l.drop k).take 120 := by rw [List.drop_take, show k + 120 - k = 120 by omega]
    rw [hq] at ho2 Hr
    have hql : ((l.drop k).take 120).length = 120 := by rw [List.length_take, List.length_drop]; have := HL.out; omega
    obtain ⟨g, cap, w3, Hr3, hO3, hk3⟩ := hO.step hkr hk2 ho2 (by omega)
    have HO3 := hid hO3
    have HK3 := hid hk3
    have HSP := hid hsp2
    have HLS : Hid ((ls ++ [(l.drop k).take 120]).length = ls.length + 1) := by show _ = _; simp
    rw [hql] at Hr Hr3 HO3
    rw [show k + 120 - k = 120 by omega, show ((k + 120 : Nat) : Int) = (k : Int) + 120 by omega] at hsl
    rw [show k + 120 - k = 120 by omega] at Hr
    have hend' : ¬ (L : Int) < (k : Int) + 120 := by omega
    clear hO hsub ho2 hO3 hk3 hsp hsp2 hq hk2
    go_wp2_with (at_builtin; first | refine wpList_append_run rfl _ _ _ rfl rfl rfl Hr ?_ | refine wpList_append_run rfl _ _ _ rfl rfl rfl Hr3 ?_)
    go_roundw
    case rel => exact ⟨k + 120, _, _, by omega, by go_num, HO3.out, HK3.out, by rw [HLS.out]; omega, by rw [List.append_assoc]; exact HSP.out⟩
    case measure => simp [intOf]; omega
  ·have HE : Hid (OutAt wr w.heap.size u3 (splitL l) vs) := by
    rw [List.drop_of_length_le (by have := HL.out; omega), splitL_nil, List.append_nil] at hsp
    rw [← hsp]
    exact hO
   have HKr := hid hkr
   clear hO hsp hkr
   go_wp2_with fail
   go_ret
   exact ⟨_, _, rfl, HE.out, HKr.out⟩
end Go.Proofs.YtllfanlhgnkcfaaGreatDoor.C
namespace Go.Proofs.YtllfanlhgnkcfaaGreatDoor.C
open Go.RowKit Go.Proofs.Lys
set_option linter.unusedVariables false
theorem Packs.small {l : Smps} {bs : List UInt8} {x : Int} (h : Packs l bs x) : bs.length ≤ 10000 := by
 rcases h with ⟨_, h, _⟩ | ⟨_, a, e, _, _, h, _⟩ | ⟨h1, a, c, h2, h3, h, _⟩
 ·simp [h]
 ·simp [h]
 ·have ha := SPacks.small h2
  have hc := h3.small
  have hl : l.length ≤ 120 := by
   rcases h3 with ⟨_, _, h⟩ | ⟨h, _⟩
   ·cases h
   ·rwa [List.length_map] at h
  have l1 := putN_ten (n := l.length) (by omega)
  have l2 := putN_ten (n := a.length) (by omega)
  have l3 := putN_ten (n := c.length) (by omega)
  rw [h]
  unfold chunkB
  simp only [List.length_append]
  omega
end Go.Proofs.YtllfanlhgnkcfaaGreatDoor.C
namespace Go.Proofs.YtllfanlhgnkcfaaGreatDoor.C
open Go.RowKit Go.Proofs.Lys
set_option linter.unusedVariables false
structure PkR (w3 wr : World) (q : Nat) (u2 u3 : Value) (b : Value) (xs : List UInt8) : Prop where
 row : wr.ownsRow w3.heap.size 5 1 b xs.length (xs.map bV)
 kept : Kept w3 wr
 lit : Blk wr q [u2, u3] 28
 new : w3.heap.size ≤ q
theorem PkR.step {w3 wr w5 : World} {q : Nat} {u2 u3 b v5 u : Value} {xs p X : List UInt8} (h : PkR w3 wr q u2 u3 b xs) (k5 : Kept wr w5) (h5 : w5.ownsRow wr.heap.size 5 1 v5 p.length (p.map bV)) (hX : SrcOf w3 u (X.map bV)) (hl : xs.length + p.length + X.length ≤ 100000) :
  ∃ a6 c6 w6, Hid ((Builtin.append_ #[28, 28] 0 #[b, v5]).run Tryz.prog w5 = .ok (.slice a6 (xs.length + p.length) c6) w6) ∧
  ∃ a7 c7 w7, Hid ((Builtin.append_ #[28, 28] 0 #[.slice a6 (xs.length + p.length) c6, u]).run Tryz.prog w6 = .ok (.slice a7 (xs.length + p.length + X.length) c7) w7) ∧
  PkR w3 w7 q u2 u3 (.slice a7 (xs.length + p.length + X.length) c7) (xs ++ p ++ X) := by
 have hz := h.kept.size
 have hz5 := k5.size
 have hr5 := own_only h.row k5 (fun _ _ f => f)
 obtain ⟨a6, c6, w6, Hr6, ho6, hon6⟩ := row_app hr5 (by omega) (own_src h5) (by omega)
 have hk5 : Kept w3 w5 := h.kept.trans k5 (fun _ _ f => f)
 have hk6 := only_kept hk5 hr5 (Nat.le_refl _) hon6
 have hl5 : Blk w5 q [u2, u3] 28 := k5.blk h.lit (fun f => f)
 have hl6 : Blk w6 q [u2, u3] 28 := hon6.blk hl5 (fun e => (own_typed hr5 e).ne hl5.typed (by decide) rfl)
 have e6 : (xs ++ p).length = xs.length + p.length := List.length_append
 have hz6 := hk6.size
 obtain ⟨a7, c7, w7, Hr7, ho7, hon7⟩ := row_app ho6 (by omega) (hX.stay hk6) (by omega)
 rw [e6] at Hr7 ho7
 exact ⟨a6, c6, w6, Hr6, a7, c7, w7, Hr7, ho7, only_kept hk6 ho6 (Nat.le_refl _) hon7, hon7.blk hl6 (fun e => (own_typed ho6 e).ne hl6.typed (by decide) rfl), h.new⟩
set_option maxRecDepth 100000 in
set_option maxHeartbeats 3200000 in
theorem pack_any (w : World) (v : Value) (l : Smps) (hs : SmpSrc w v l) (hl : l.length ≤ 1000) : Calls Tryz.prog 78 #[v] w (PackPost w l) := by
 obtain ⟨a0, c0, e0⟩ := hs.len
 by_cases h0 : l = []
 ·subst h0
  rw [List.length_nil] at e0
  subst e0
  go_enter Tryz.func78, Tryz.ntmps78
  go_wp2_with fail
  go_ret2
  exact ⟨Only.refl _ w, _, [], 1, rfl, .inl ⟨rfl, rfl, rfl⟩, World.ownsRow_nil _ _ _ _⟩
 ·have hp := apart_any w v l hs hl
  have hpos : l.length ≠ 0 := fun h => h0 (List.length_eq_zero_iff.1 h)
  obtain ⟨L, hL⟩ : ∃ L, l.length = L := ⟨_, rfl⟩
  rw [hL] at e0 hl hpos
  subst e0
  have HL := hid hL
  have H0 := hid h0
  have hL0 : ((L : Int) == 0) = false := by simp; omega
  clear hL h0 hs
  go_enter Tryz.func78, Tryz.ntmps78
  go_wp2_with fail
  refine hp.mono ?_
  rintro e w1 ⟨s, t, rfl, hT⟩
  clear hp
  have HT := hid hT
  have hst := S.pack_any w1 s (l.map (·.1)) (own_src hT.one) (by rw [List.length_map, HL.out]; exact hl)
  clear hT
  go_wp2_with fail
  refine hst.mono ?_
  rintro e w2 ⟨k2, u2, bs2, x2, rfl, hP2, ho2⟩
  clear hst
  have HP2 := hid hP2
  have HO2 := hid ho2
  have HK2 : Hid (Kept w w2) := HT.out.kept.trans k2 (fun _ _ f => f)
  have hT2 := own_only HT.out.two k2 (fun _ _ f => f)
  by_cases hx : x2 = 0
  ·subst hx
   have hva := V.pack_any w2 t (l.map (·.2)) (own_src hT2) (by rw [List.length_map, HL.out]; exact hl)
   clear hP2 ho2 k2 hT2
   go_wp2_with fail
   refine hva.mono ?_
   rintro e w3 ⟨k3, u3, bs3, x3, rfl, hP3, ho3⟩
   clear hva
   have hx3 : x3 = 0 := by
    rcases hP3 with ⟨h, _⟩ | ⟨_, _, h⟩
    ·exfalso
     rcases HP2.out with ⟨_, _, h'⟩ | ⟨_, _, _, h'⟩ | ⟨h', _⟩
     ·cases h'
     ·cases h'
     ·rw [List.length_map] at h h'
      omega
    ·exact h
   subst hx3
   have HP3 := hid hP3
   have HO3 := hid ho3
   have HO23 := hid (own_only HO2.out k3 (fun _ _ f => f))
   have HK3 : Hid (Kept w w3) := HK2.out.trans k3 (fun _ _ f => f)
   have hA := SPacks.small HP2.out
   have hC := HP3.out.small
   obtain ⟨A, hAe⟩ : ∃ A, bs2.length = A := ⟨_, rfl⟩
   obtain ⟨C, hCe⟩ : ∃ C, bs3.length = C := ⟨_, rfl⟩
   rw [hAe] at hA
   rw [hCe] at hC
   have HA := hid hAe
   have HC := hid hCe
   obtain ⟨ua, uc, hu2⟩ := own_slice HO23.out
   obtain ⟨va, vc, hu3⟩ := own_slice HO3.out
   rw [hAe] at hu2
   rw [hCe] at hu3
   subst hu2
   subst hu3
   clear hP3 ho3 k3 hAe hCe
   have hput1 := U.put_any w3 (L : Int)
   rw [uNU (by omega)] at hput1
   go_wp2_with fail
   refine hput1.mono ?_
   rintro e w4 ⟨v4, rfl, ho4, k4⟩
   clear hput1
   obtain ⟨p1, hp1⟩ : ∃ p, putN L = p := ⟨_, rfl⟩
   obtain ⟨p2, hp2⟩ : ∃ p, putN A = p := ⟨_, rfl⟩
   obtain ⟨p3, hp3⟩ : ∃ p, putN C = p := ⟨_, rfl⟩
   have l1 := putN_ten (n := L) (by omega)
   have l2 := putN_ten (n := A) (by omega)
   have l3 := putN_ten (n := C) (by omega)
   rw [hp1] at ho4 l1
   rw [hp2] at l2
   rw [hp3] at l3
   have hlit := Blk.new w4 [.slice ua A uc, .slice va C vc] 28
   have HR0 : Hid (PkR w3 (w4.alloc (.cells #[.slice ua A uc, .slice va C vc] 28)) w4.heap.size (.slice ua A uc) (.slice va C vc) v4 p1) := ⟨ho4.alloc _, k4.alloc _, hlit, k4.size⟩
   have HP : Hid (putN L = p1 ∧ putN A = p2 ∧ putN C = p3) := ⟨hp1, hp2, hp3⟩
   clear ho4 k4 hlit hp1 hp2 hp3
   obtain ⟨Q, hQ⟩ : ∃ Q, w4.heap.size = Q := ⟨_, rfl⟩
   rw [hQ] at HR0
   go_wp2_with fail
   go_loopw [9, 43] (fun b i wr => ∃ (k : Nat) (xs : List UInt8), i = .int .i64 (k : Int) ∧ PkR w3 wr Q (.slice ua A uc) (.slice va C vc) b xs ∧ ((k = 0 ∧ xs = p1) ∨ (k = 1 ∧ xs = p1 ++ p2 ++ bs2) ∨ (k = 2 ∧ xs = p1 ++ p2 ++ bs2 ++ p3 ++ bs3))) (fun _ i _ => 2 - (intOf i).toNat)
   case atStart => exact ⟨0, p1, rfl, HR0.out, .inl ⟨rfl, rfl⟩⟩
   case round =>
    obtain ⟨k, xs, rfl, hR, ⟨rfl, rfl⟩ | ⟨rfl, hxs⟩ | ⟨rfl, hxs⟩⟩ := hrel
    ·have hput2 := U.put_any wr (A : Int)
     rw [uNU (by omega), HP.out.2.1] at hput2
     have x0 := hR.lit.cell 0 rfl
     have x1 := hR.lit.cell 1 rfl
     have HR := hid hR
     clear hR
     go_wp2_with fail
     refine hput2.mono ?_
     rintro e w5 ⟨v5, rfl, ho5, k5⟩
     clear hput2 x0 x1
     obtain ⟨a6, c6, w6, Hr6, a7, c7, w7, Hr7, hR7⟩ := HR.out.step k5 ho5 (own_src HO23.out) (by have := HA.out; omega)
     have HR7 := hid hR7
     rw [HA.out] at Hr7 HR7
     clear hR7 ho5 k5
     go_wp2_with (at_builtin; first | refine wpList_append_run rfl _ _ _ rfl rfl rfl Hr6 ?_ | refine wpList_append_run rfl _ _ _ rfl rfl rfl Hr7 ?_)
     go_roundw
     case rel => exact ⟨1, _, by go_num, HR7.out, .inr (.inl ⟨rfl, rfl⟩)⟩
     case measure => simp [intOf]
    ·have HX := hid hxs
     obtain ⟨M, hM⟩ : ∃ M, xs.length = M := ⟨_, rfl⟩
     have hMl : M ≤ 20000 := by have := HA.out; rw [← hM, hxs]; simp only [List.length_append]; omega
     have HM := hid hM
     clear hxs hM
     have hput2 := U.put_any wr (C : Int)
     rw [uNU (by omega), HP.out.2.2] at hput2
     have x0 := hR.lit.cell 0 rfl
     have x1 := hR.lit.cell 1 rfl
     have HR := hid hR
     clear hR
     go_wp2_with fail
     refine hput2.mono ?_
     rintro e w5 ⟨v5, rfl, ho5, k5⟩
     clear hput2 x0 x1
     obtain ⟨a6, c6, w6, Hr6, a7, c7, w7, Hr7, hR7⟩ := HR.out.step k5 ho5 (own_src HO3.out) (by have := HM.out; have := HC.out; omega)
     have HR7 := hid hR7
     rw [HC.out] at Hr7 HR7
     rw [HM.out] at Hr6 Hr7 HR7
     clear hR7 ho5 k5
     go_wp2_with (at_builtin; first | refine wpList_append_run rfl _ _ _ rfl rfl rfl Hr6 ?_ | refine wpList_append_run rfl _ _ _ rfl rfl rfl Hr7 ?_)
     go_roundw
     case rel => exact ⟨2, _, by go_num, HR7.out, .inr (.inr ⟨rfl, by rw [HX.out]⟩)⟩
     case measure => simp [intOf]
    ·subst hxs
     have HE : Hid (Kept w wr ∧ wr.ownsRow w.heap.size 5 1 u9 (chunkB l bs2 bs3).length ((chunkB l bs2 bs3).map bV)) := by
      refine ⟨HK3.out.trans hR.kept (fun _ _ f => f), ?_⟩
      have e1 : chunkB l bs2 bs3 = p1 ++ p2 ++ bs2 ++ p3 ++ bs3 := by
       unfold chunkB
       rw [HL.out, HA.out, HC.out, HP.out.1, HP.out.2.1, HP.out.2.2]
       simp only [List.append_assoc]
      rw [e1]
      exact own_base hR.row HK3.out.size
     clear hR
     go_wp2_with fail
     go_ret2
     exact ⟨HE.out.1, _, chunkB l bs2 bs3, 0, rfl, .inr (.inr ⟨H0.out, bs2, bs3, HP2.out, HP3.out, rfl, rfl⟩), HE.out.2⟩
  ·have hx' : (x2 == 0) = false := by simp [hx]
   have HX := hid hx
   clear hx hP2 ho2 k2 hT2
   go_wp2_with fail
   go_ret2
   exact ⟨HK2.out, _, [], x2, rfl, .inr (.inl ⟨H0.out, bs2, x2, HP2.out, HX.out, rfl, rfl⟩), World.ownsRow_nil _ _ _ _⟩
end Go.Proofs.YtllfanlhgnkcfaaGreatDoor.C
namespace Go.Proofs.YtllfanlhgnkcfaaGreatDoor.C
open Go.RowKit Go.Proofs.Lys
set_option linter.unusedVariables false
end Go.Proofs.YtllfanlhgnkcfaaGreatDoor.C
