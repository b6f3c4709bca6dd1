/-
  Klook.
-/
import Derived.Test.YtllfanlhgnkcfaaGreatDoorQ38
import Derived.Test.YtllfanlhgnkcfaaGreatDoorQ39
import Derived.Test.YtllfanlhgnkcfaaGreatDoorQ40
namespace Go.Proofs.YtllfanlhgnkcfaaGreatDoor.K
open Go.RowKit Go.Proofs.Lys Go.Maps Go.Shelf
set_option linter.unusedVariables false
set_option linter.unusedSimpArgs false
attribute [local go_sem] Oper.semAt_some
theorem only_put {w : World} {l : Nat} (o : Obj) : Only (fun k => k = l) w (w.putObj l o) :=
 ⟨rfl, rfl, rfl, by simp, fun k _ hk => World.putObj_heap_other (fun e => hk (by rw [e]))⟩
theorem neigh_any (w : World) (a : Option Addr) (n c : Nat) : Calls Tryz.prog 43 #[.slice a n c] w fun e w' => e = .returned (.func (.func 66) #[] #[.pointer (some ⟨w.heap.size, 0, none⟩)]) ∧ w' = w.alloc (.cells #[.slice a n c] 22) := by
 have hmf : ∀ (fn : Fn) (first cap : Array Value) (w : World), (Instr.makeFunc fn first cap).run Tryz.prog w = .ok (.func fn first cap) w := fun _ _ _ _ => rfl
 go_enter Tryz.func43, Tryz.ntmps43
 go_wp2
 go_ret
 exact ⟨rfl, rfl⟩
structure LkI (w : World) (l : List Ser) (D : Nat) (r : Loop) (i : Nat) (W : World) : Prop where
 rcd : W.heap[D + 1]? = some (.loop r)
 def_ : W.heap[D]? = some (.deferred (some []))
 kept : Kept w W
 chk : checkF [] l = checkF (prevL l i) (l.drop i)
def LkP (w : World) (l : List Ser) (D : Nat) (ch : List PanicEntry) (W : World) : Prop := ∃ n, ch = [{ v := failV n, recovered := false }] ∧ n ≠ 0 ∧ checkF [] l = n ∧ Kept w W ∧ W.heap[D]? = some (.deferred (some []))
theorem kept_put {w W : World} {q : Nat} (h : Kept w W) (hq : w.heap.size ≤ q) (o : Obj) : Kept w (W.putObj q o) := h.trans (only_put o) (fun j hj e => by omega)
theorem kp_only {X Y : World} {n₀ A q : Nat} {r : Loop} (h : Only (fun k => k = q) X Y) (hq : X.heap[q]? = some (.loop r)) (h1 : n₀ ≤ q) : KpS n₀ A X Y := by
 have hlt := (Array.getElem?_eq_some_iff.1 hq).1
 refine ⟨fun k hk => h.block k (by omega) (by omega), fun k xs _ hb => h.blk hb (fun e => ?_)⟩
 subst e
 have h2 : X.heap[k]? = _ := hb
 rw [hq] at h2
 cases h2
theorem lab_nil (w : World) : N.LabSrc w (.slice none 0 0) [] := .inl ⟨_, _, rfl, rfl⟩
def cellV (w : World) (b o i : Nat) : Value := (w.cell? ⟨b, o + i, none⟩).getD undef
theorem cellV_eq {w : World} {b o i : Nat} {v : Value} (h : w.cell? ⟨b, o + i, none⟩ = some v) : cellV w b o i = v := by
 unfold cellV
 rw [h]
 rfl
theorem serV {w : World} {b o M c : Nat} {l : List Ser} (hs : SerIn w (.slice (some ⟨b, o, none⟩) M c) l) (hN : l.length = M) : ∀ k (hk : k < M), ∃ la lc sa sc, cellV w b o (k * 2) = .slice la (l[k]'(by omega)).1.length lc ∧ cellV w b o (k * 2 + 1) = .slice sa (l[k]'(by omega)).2.length sc ∧ w.cell? ⟨b, o + k * 2, none⟩ = some (cellV w b o (k * 2)) ∧ w.cell? ⟨b, o + (k * 2 + 1), none⟩ = some (cellV w b o (k * 2 + 1)) ∧
  N.LabSrc w (.slice la (l[k]'(by omega)).1.length lc) (l[k]'(by omega)).1 ∧ C.SSrc w (.slice sa (l[k]'(by omega)).2.length sc) (l[k]'(by omega)).2 := by
 intro k hk
 obtain ⟨b', o', la, lc, sa, sc, e, c0, c1, h0, h1⟩ := hs.cell hN k hk
 simp only [Option.some.injEq, Addr.mk.injEq] at e
 obtain ⟨rfl, rfl, _⟩ := e
 have c1' : w.cell? ⟨b, o + (k * 2 + 1), none⟩ = some (.slice sa (l[k]'(by omega)).2.length sc) := by rw [← Nat.add_assoc]; exact c1
 exact ⟨la, lc, sa, sc, cellV_eq c0, cellV_eq c1', by rw [cellV_eq c0]; exact c0, by rw [cellV_eq c1']; exact c1', h0, h1⟩
set_option maxRecDepth 100000 in
set_option maxHeartbeats 3200000 in
theorem look_any (w : World) (v : Value) (l : List Ser) (hs : SerIn w v l) (hl : l.length ≤ 100000) (hB : ∀ s ∈ l, s.1.length ≤ 100000 ∧ N.Small s.1 ∧ s.2.length ≤ 100000) :
  Calls Tryz.prog 22 #[v] w (LookA w (checkB l)) := by
 have HR := hid (fun n W => refuse_no n W)
 have HY := hid (fun n W => refuse_yes n W)
 obtain ⟨a, c, rfl⟩ := hs.len
 obtain ⟨N, hN⟩ : ∃ N, l.length = N := ⟨_, rfl⟩
 rw [hN] at hs hl ⊢
 by_cases h1 : 1000 < N
 ·have d1 : decide ((1000 : Int) < (N : Int)) = true := decide_eq_true (by omega)
  have HF : Hid (LookA w (checkB l) (gaveF 2) w) := by
   unfold checkB
   rw [if_pos (by omega)]
   exact ⟨Only.refl _ _, .inr ⟨by decide, rfl⟩⟩
  clear hs hB hN
  go_enter Tryz.func22, Tryz.ntmps22
  go_wp2_with fail
  refine (HY.out 2 w).mono ?_
  rintro e w' ⟨rfl, hw⟩
  replace hw := hw.symm
  subst hw
  exact ⟨rfl, HF.out⟩
 ·have d1 : decide ((1000 : Int) < (N : Int)) = false := decide_eq_false (by omega)
  have d2 : ¬ 1000 < N := h1
  have hcB : checkB l = checkF [] l := by unfold checkB; rw [if_neg (by omega)]
  rw [hcB]
  clear hcB
  have HS := hid hs
  have HN := hid hN
  have HBB := hid hB
  clear hs hN hB
  refine calls_of_wpF (n := 3) Tryz.func22 rfl ?_
  simp only [Tryz.ntmps22, List.size_toArray, List.length_cons, List.length_nil, Nat.reduceAdd, Nat.reduceSub, Array.replicate_succ, Array.replicate_zero, List.push_toArray, List.append_toArray, List.nil_append, List.cons_append]
  refine wpF_seq (wpF_of ?_)
  go_wp2_with fail
  refine (HR.out 2 w).mono ?_
  rintro e w' ⟨rfl, hw⟩
  replace hw := hw.symm
  subst hw
  go_wp2_with fail
  refine wpF_seq (wpF_of ?_)
  go_wp2_with fail
  refine (neigh_any w a N c).mono ?_
  rintro e w1 ⟨rfl, hw1⟩
  have HW1 := hid hw1
  clear hw1
  go_wp2_with fail
  refine wpF_block ?_
  refine wpF_range (n := 2) (gf := 66) (lb := #[.pointer (some ⟨w.heap.size, 0, none⟩)]) rfl (enters_of Tryz.func66 (by kernel_rfl) rfl) ?_
  generalize hr : loopRec _ _ _ _ _ _ = r
  have HRR : Hid (loopRec _ _ _ _ _ _ = r) := hr
  clear hr
  obtain ⟨D, hD⟩ : ∃ D, w1.heap.size = D := ⟨_, rfl⟩
  have hDw : D = w.heap.size + 1 := by rw [← hD, HW1.out, World.size_alloc]
  have hK1 : Kept w w1 := by rw [HW1.out]; exact (Only.refl _ w).alloc _
  have hc1 : w1.cell? ⟨w.heap.size, 0, none⟩ = some (.slice a N c) := by rw [HW1.out]; exact (Blk.new w [.slice a N c] 22).cell 0 rfl
  obtain ⟨W1, hW1⟩ : ∃ W1, (w1.alloc (.deferred (some []))).alloc (.loop r) = W1 := ⟨_, rfl⟩
  have hK2 : Kept w1 W1 := by rw [← hW1]; exact ((Only.refl _ w1).alloc _).alloc _
  have hsz : W1.heap.size = D + 2 := by rw [← hW1, World.size_alloc, World.size_alloc, hD]
  have hrc : W1.heap[D + 1]? = some (.loop r) := by
   rw [← hW1, ← hD]
   have := World.alloc_heap_new (w1.alloc (.deferred (some []))) (.loop r)
   rwa [World.size_alloc] at this
  have hdf : W1.heap[D]? = some (.deferred (some [])) := by
   rw [← hW1, ← hD]
   exact (Below.heap_alloc _ _ _ (by simp)).trans (World.alloc_heap_new w1 _)
  rw [hD, hW1]
  clear hW1
  obtain ⟨b, o, hab⟩ : ∃ b o, 0 < N → a = some ⟨b, o, none⟩ := by
   by_cases h0 : 0 < N
   ·obtain ⟨b, o, _, _, _, _, e, _⟩ := HS.out.cell HN.out 0 h0
    exact ⟨b, o, fun _ => e⟩
   ·exact ⟨0, 0, fun h => absurd h h0⟩
  have hser : ∀ k (hk : k < N), ∃ la lc sa sc, cellV w b o (k * 2) = .slice la (l[k]'(by have := HN.out; omega)).1.length lc ∧ cellV w b o (k * 2 + 1) = .slice sa (l[k]'(by have := HN.out; omega)).2.length sc ∧ w.cell? ⟨b, o + k * 2, none⟩ = some (cellV w b o (k * 2)) ∧ w.cell? ⟨b, o + (k * 2 + 1), none⟩ = some (cellV w b o (k * 2 + 1)) ∧
    Go.Proofs.YtllfanlhgnkcfaaGreatDoor.N.LabSrc w (.slice la (l[k]'(by have := HN.out; omega)).1.length lc) (l[k]'(by have := HN.out; omega)).1 ∧ C.SSrc w (.slice sa (l[k]'(by have := HN.out; omega)).2.length sc) (l[k]'(by have := HN.out; omega)).2 := fun k hk => by
   obtain rfl := hab (by omega)
   exact serV HS.out HN.out k hk
  have HSER := hid hser
  have hcell : ∀ i, i < N * 2 → w.cell? ⟨b, o + i, none⟩ = some (cellV w b o i) ∧ ∃ a n c, cellV w b o i = .slice a n c := fun i hi => by
   obtain ⟨la, lc, sa, sc, e0, e1, c0, c1, _⟩ := hser (i / 2) (by omega)
   rcases Nat.mod_two_eq_zero_or_one i with h | h
   ·have : i / 2 * 2 = i := by omega
    rw [this] at e0 c0
    exact ⟨c0, _, _, _, e0⟩
   ·have : i / 2 * 2 + 1 = i := by omega
    rw [this] at e1 c1
    exact ⟨c1, _, _, _, e1⟩
  have KW1 : Kept w W1 := hK1.trans hK2 (fun _ _ f => f)
  refine (neigh_in 2 (by omega) (D + 1) w.heap.size b o N c w.heap.size a (cellV w b o) (by omega) hab (fun h0 => World.block_lt_of_cell? w _ (hcell 0 (by omega)).1) W1 (by omega) (cell_kept hK2 hc1) (fun i hi => cell_kept KW1 (hcell i hi).1) (fun i hi => (hcell i hi).2)
   (LkI w l D r) (LkP w l D) ?_ ?_ ⟨hrc, hdf, KW1, by simp [prevL]⟩).mono ?_
  ·intro i X Y hX hO
   rw [hsz] at hO
   exact ⟨(hO.block _ (Array.getElem?_eq_some_iff.1 hX.rcd).1 (by omega)).trans hX.rcd, (hO.block _ (Array.getElem?_eq_some_iff.1 hX.def_).1 (by omega)).trans hX.def_, hX.kept.trans hO (fun j hj e => by omega), hX.chk⟩
  ·intro i X hi hX hXs
   have hil : i < l.length := by have := HN.out; omega
   obtain ⟨la, lc, sa, sc, e0, e1, _, _, hl0, hs0⟩ := HSER.out i hi
   obtain ⟨pa, pn, pc, xa, xn, xc, p0, p1, hpn, hpl⟩ : ∃ pa pn pc xa xn xc, (prevV (cellV w b o) i).1 = .slice pa pn pc ∧ (prevV (cellV w b o) i).2 = .slice xa xn xc ∧ (prevL l i).length ≤ 100000 ∧ Go.Proofs.YtllfanlhgnkcfaaGreatDoor.N.LabSrc w (.slice pa pn pc) (prevL l i) := by
    cases i with
    | zero => exact ⟨none, 0, 0, none, 0, 0, rfl, rfl, by simp [prevL], lab_nil w⟩
    | succ j =>
     have hjl : j < l.length := by omega
     obtain ⟨la, lc, sa, sc, e0, e1, _, _, hl0, _⟩ := HSER.out j (by omega)
     have hp : prevL l (j + 1) = l[j].1 := by
      unfold prevL
      rw [if_neg (by omega), show j + 1 - 1 = j by omega, List.getD_eq_getElem?_getD, List.getElem?_eq_getElem hjl]
      rfl
     rw [hp]
     exact ⟨_, _, _, _, _, _, e0, e1, (HBB.out _ (List.getElem_mem hjl)).1, hl0⟩
   rw [p0, p1, e0, e1]
   obtain ⟨hB1, hB2, hB3⟩ := HBB.out l[i] (List.getElem_mem hil)
   have hstep : checkF [] l = checkF (prevL l i) (l[i] :: l.drop (i + 1)) := by rw [hX.chk, List.drop_eq_getElem_cons hil]
   have hnx : prevL l (i + 1) = l[i].1 := by
    unfold prevL
    rw [if_neg (by omega), show i + 1 - 1 = i by omega, List.getD_eq_getElem?_getD, List.getElem?_eq_getElem hil]
    rfl
   obtain ⟨R, hR⟩ : ∃ R : Ending → World → Prop, R = fun e Y => (e = .returned (.bool true) ∧ LkI w l D r (i + 1) Y ∧ KpS w.heap.size W1.heap.size X Y) ∨ ∃ ch, e = .panicked ch ∧ LkP w l D ch Y := ⟨_, rfl⟩
   rw [← hR]
   have hre : ({ ({ r with state := .busy } : Loop) with state := .ready, pending := none } : Loop) = r := by rw [← HRR.out]
   obtain ⟨Z0, hZ0⟩ : ∃ Z0, (((X.alloc (.cells #[.slice pa pn pc, .slice xa xn xc] 48)).alloc (.cells #[.slice la l[i].1.length lc, .slice sa l[i].2.length sc] 48)).putObj (D + 1) (.loop { r with state := .busy })) = Z0 := ⟨_, rfl⟩
   have hXl := (Array.getElem?_eq_some_iff.1 hX.rcd).1
   have hkA : Kept X ((X.alloc (.cells #[.slice pa pn pc, .slice xa xn xc] 48)).alloc (.cells #[.slice la l[i].1.length lc, .slice sa l[i].2.length sc] 48)) := ((Only.refl _ X).alloc _).alloc _
   have hra := (hkA.block _ hXl (fun f => f)).trans hX.rcd
   have hO0 : Only (fun k => k = D + 1) X Z0 := by rw [← hZ0]; exact (hkA.mono (fun _ _ f => f.elim)).trans (only_put _) (fun _ _ e => e)
   have hr0 : Z0.heap[D + 1]? = some (.loop { r with state := .busy }) := by rw [← hZ0]; exact World.putObj_heap_same (Array.getElem?_eq_some_iff.1 hra).1
   have hd0 : Z0.heap[D]? = some (.deferred (some [])) := (hO0.block _ (Array.getElem?_eq_some_iff.1 hX.def_).1 (by omega)).trans hX.def_
   have hk0 : Kept w Z0 := hX.kept.trans hO0 (fun j hj e => by omega)
   have hbP : Blk Z0 X.heap.size [.slice pa pn pc, .slice xa xn xc] 48 := by
    rw [← hZ0]
    exact (only_put (l := D + 1) (.loop { r with state := .busy })).blk ((Blk.new X _ _).alloc _) (fun e => by omega)
   have hbC : Blk Z0 (X.heap.size + 1) [.slice la l[i].1.length lc, .slice sa l[i].2.length sc] 48 := by
    rw [← hZ0]
    have := Blk.new (X.alloc (.cells #[.slice pa pn pc, .slice xa xn xc] 48)) [.slice la l[i].1.length lc, .slice sa l[i].2.length sc] 48
    rw [World.size_alloc] at this
    exact (only_put (l := D + 1) (.loop { r with state := .busy })).blk this (fun e => by omega)
   have HOK : Hid (∀ Z, Kept Z0 Z → checkF [] l = checkF l[i].1 (l.drop (i + 1)) → R (.returned (.bool true)) (Z.putObj (D + 1) (.loop { ({ r with state := .busy } : Loop) with state := .ready, pending := none }))) := fun Z k hc => by
    have hrz := (k.block _ (Array.getElem?_eq_some_iff.1 hr0).1 (fun f => f)).trans hr0
    have hOf : Only (fun k => k = D + 1) X (Z.putObj (D + 1) (.loop r)) := (hO0.trans (k.mono (fun _ _ f => f.elim)) (fun _ _ e => e)).trans (only_put _) (fun _ _ e => e)
    rw [hre, hR]
    refine .inl ⟨rfl, ⟨World.putObj_heap_same (Array.getElem?_eq_some_iff.1 hrz).1, ?_, hX.kept.trans hOf (fun j hj e => by omega), by rw [hc, hnx]⟩, kp_only hOf hX.rcd (by omega)⟩
    exact (hOf.block _ (Array.getElem?_eq_some_iff.1 hX.def_).1 (by omega)).trans hX.def_
   have HRZ : Hid (∀ Z, Kept Z0 Z → Z.heap[D + 1]? = some (.loop { r with state := .busy })) := fun Z k => (k.block _ (Array.getElem?_eq_some_iff.1 hr0).1 (fun f => f)).trans hr0
   have HNO : Hid (∀ Z n, Kept Z0 Z → n ≠ 0 → checkF [] l = n → R (.panicked [{ v := failV n, recovered := false }]) Z) := fun Z n k hn hc => by
    rw [hR]
    exact .inr ⟨_, rfl, n, rfl, hn, hc, hk0.trans k (fun _ _ f => f), (k.block _ (Array.getElem?_eq_some_iff.1 hd0).1 (fun f => f)).trans hd0⟩
   have HL0 := hid hl0
   have HS0 := hid hs0
   have HPL := hid hpl
   have HK0 := hid hk0
   have HBP := hid hbP
   have HBC := hid hbC
   have HST := hid hstep
   have hra2 := hra
   refine yield_law (r := r) (fn := Tryz.f22) (by rw [← HRR.out]; exact Tryz.func22) hX.rcd (by rw [← HRR.out]; rfl) ?_
   obtain ⟨B, hB⟩ : ∃ B, X.heap.size = B := ⟨_, rfl⟩
   rw [hB] at HBP HBC
   generalize hLN : l[i].1.length = LN at HBC HL0 hZ0 hra2 hB1
   generalize hSN : l[i].2.length = SN at HBC HS0 hZ0 hra2 hB3
   clear hl0 hs0 hpl hbP hbC hstep hnx hR hre hXl hkA hra hO0 hr0 hd0 hk0 hX p0 p1 e0 e1 hser hcell KW1
   have HDW := hid hDw
   clear hDw
   rw [← HRR.out]
   dsimp only [loopRec]
   gi_wp2
   refine ⟨by rw [← HRR.out], ?_⟩
   clear hZ0 hra2
   have q0 := HBC.out.cell 0 rfl
   have q1 := HBC.out.cell 1 rfl
   have HMK := hid (Go.Proofs.YtllfanlhgnkcfaaGreatDoor.N.make_any Z0 _ l[i].1 (HL0.out.stay HK0.out) (by rw [hLN]; exact hB1) hB2)
   have HLN := hid hLN
   have HSN := hid hSN
   have HB1 := hid hB1
   have HPN := hid hpn
   have HB3 := hid hB3
   clear hLN hSN hB2 hpn
   refine wpIn_block (wpIn_seq (region_round0 rfl (by rintro ⟨_, _, h⟩; exact h) (by kernel_rfl) ?_))
   go_wp2_with fail
   refine HMK.out.mono ?_
   rintro e Z1 ⟨⟨u, n, rfl, hMA⟩, k1⟩
   have HK1 := hid k1
   have c0 := (k1.blk HBC.out (fun f => f)).cell 0 rfl
   clear q0 q1 HMK
   cases hm : Go.Proofs.YtllfanlhgnkcfaaGreatDoor.N.makeL l[i].1 with
   | none =>
    rw [hm] at hMA
    obtain ⟨rfl, rfl⟩ := hMA
    have HF := hid (HNO.out Z1 20 k1 (by decide) (by rw [HST.out]; simp only [checkF]; rw [if_neg (by rw [hm]; simp)]))
    clear k1 hm
    go_wp2_with fail
    refine wpIn_seq (region_round0 rfl (by rintro ⟨_, _, h⟩; exact h) (by kernel_rfl) ?_)
    go_wp2_with fail
    refine (HY.out 20 Z1).mono ?_
    rintro e w' ⟨rfl, hw⟩
    replace hw := hw.symm
    subst hw
    exact ⟨rfl, HF.out⟩
   | some mm =>
    rw [hm] at hMA
    obtain ⟨rfl, hat⟩ := hMA
    have HEQ := hid (Go.Proofs.YtllfanlhgnkcfaaGreatDoor.X.equal_any Z1 u (.slice la LN lc) mm l[i].1 hat.src (HL0.out.stay (HK0.out.trans k1 (fun _ _ f => f))) (by have := HB1.out; have := (Go.Proofs.YtllfanlhgnkcfaaGreatDoor.N.makeL_made hm).len16; omega) (by rw [HLN.out]; have := HB1.out; omega))
    obtain ⟨ua, uc, hu⟩ := hat.src.len
    generalize mm.length = ML at hu
    subst hu
    have HM := hid hm
    clear hat hm k1
    go_wp2_with fail
    refine wpIn_seq (region_round0 rfl (by rintro ⟨_, _, h⟩; exact h) (by kernel_rfl) ?_)
    go_wp2_with fail
    refine HEQ.out.mono ?_
    rintro e Z2 ⟨rfl, q2, hq2⟩
    have k2 : Kept Z1 Z2 := by rw [hq2]; exact Go.Proofs.YtllfanlhgnkcfaaGreatDoor.N.kept_drewN (Only.refl _ _) q2
    have HK2 := hid (HK1.out.trans k2 (fun _ _ f => f))
    clear hq2 k2 HEQ c0
    by_cases hme : mm = l[i].1
    ·have hdm : decide (mm = l[i].1) = true := decide_eq_true hme
     rw [hdm]
     have HMM : Hid (Go.Proofs.YtllfanlhgnkcfaaGreatDoor.N.makeL l[i].1 = some l[i].1) := by
      show _ = _
      rw [HM.out, hme]
     have c0 := (HK2.out.blk HBC.out (fun f => f)).cell 0 rfl
     have c1 := (HK2.out.blk HBC.out (fun f => f)).cell 1 rfl
     have b0 := (HK2.out.blk HBP.out (fun f => f)).cell 0 rfl
     have hkw := HK0.out.trans HK2.out (fun _ _ f => f)
     have HCM := hid (Go.Proofs.YtllfanlhgnkcfaaGreatDoor.N.cmp_any Z2 _ _ _ _ (HPL.out.stay hkw) (HL0.out.stay hkw) (by have := HPN.out; omega) (by rw [HLN.out]; have := HB1.out; omega))
     have hrg := Go.Proofs.YtllfanlhgnkcfaaGreatDoor.N.cmpL_good.rng (prevL l i) l[i].1
     have HCF : Hid (checkF [] l = if Go.Proofs.YtllfanlhgnkcfaaGreatDoor.N.cmpL (prevL l i) l[i].1 = -1 ∧ l[i].2 ≠ [] then (if timesB (l[i].2.map (·.1)) = true then checkF l[i].1 (l.drop (i + 1)) else 21) else 1) := by
      show _ = _
      rw [HST.out]
      simp only [checkF]
      rw [if_pos HMM.out]
     generalize Go.Proofs.YtllfanlhgnkcfaaGreatDoor.N.cmpL (prevL l i) l[i].1 = CM at HCM hrg HCF
     clear hkw hdm hme HM
     go_wp2_with fail
     refine (HR.out 20 Z2).mono ?_
     rintro e w' ⟨rfl, hw⟩
     replace hw := hw.symm
     subst hw
     go_wp2_with fail
     refine wpIn_seq (region_round0 rfl (by rintro ⟨_, _, h⟩; exact h) (by kernel_rfl) ?_)
     go_wp2_with fail
     refine HCM.out.mono ?_
     rintro e Z3 ⟨rfl, k3⟩
     have HK3 := hid (HK2.out.trans k3 (fun _ _ f => f))
     have c3 := (HK3.out.blk HBC.out (fun f => f)).cell 1 rfl
     clear k3 HCM c0 c1 b0
     by_cases hcm : CM = -1
     ·subst hcm
      clear hrg
      by_cases hsn : SN = 0
      ·have HF := hid (HNO.out Z3 1 HK3.out (by decide) (by rw [HCF.out, if_neg (fun h => h.2 (List.length_eq_zero_iff.1 (by rw [HSN.out]; exact hsn)))]))
       subst hsn
       go_wp2_with fail
       refine (HY.out 1 Z3).mono ?_
       rintro e w' ⟨rfl, hw⟩
       replace hw := hw.symm
       subst hw
       exact ⟨rfl, HF.out⟩
      ·have hs1 : ((SN : Int) == 0) = false := by simp; omega
       have hs2 : ¬ (SN : Int) = 0 := by omega
       have HCG : Hid (checkF [] l = if timesB (l[i].2.map (·.1)) = true then checkF l[i].1 (l.drop (i + 1)) else 21) := by
        show _ = _
        rw [HCF.out, if_pos ⟨rfl, fun e => hsn (by rw [← HSN.out, e]; rfl)⟩]
       have HLT := hid (lookTimes_any Z3 (.slice sa SN sc) l[i].2 (HS0.out.1.stay (HK0.out.trans HK3.out (fun _ _ f => f))) (by rw [HSN.out]; have := HB3.out; omega))
       clear hsn HCF
       go_wp2_with fail
       refine (HR.out 1 Z3).mono ?_
       rintro e w' ⟨rfl, hw⟩
       replace hw := hw.symm
       subst hw
       go_wp2_with fail
       refine region_round0 rfl (by rintro ⟨_, _, h⟩; exact h) (by kernel_rfl) ?_
       go_wp2_with fail
       refine HLT.out.mono ?_
       rintro e Z4 ⟨k4, hA⟩
       have HK4 := hid (HK3.out.trans k4 (fun _ _ f => f))
       by_cases htm : timesB (l[i].2.map (·.1)) = true
       ·rw [if_pos htm] at hA
        obtain ⟨_, rfl⟩ | ⟨h, _⟩ := hA
        ·have HF := hid (HOK.out Z4 HK4.out (by rw [HCG.out, if_pos htm]))
         clear htm k4 HLT
         go_wp2_with fail
         exact ⟨_, HRZ.out Z4 HK4.out, HF.out⟩
        ·exact absurd rfl h
       ·rw [if_neg htm] at hA
        obtain ⟨h, _⟩ | ⟨_, rfl⟩ := hA
        ·cases h
        ·exact ⟨rfl, HNO.out Z4 21 HK4.out (by decide) (by rw [HCG.out, if_neg htm])⟩
     ·have hge : 0 ≤ CM := by omega
      have dge : decide (0 ≤ CM) = true := decide_eq_true hge
      have HF := hid (HNO.out Z3 1 HK3.out (by decide) (by rw [HCF.out, if_neg (fun h => hcm h.1)]))
      clear hrg hcm
      go_wp2_with fail
      refine (HY.out 1 Z3).mono ?_
      rintro e w' ⟨rfl, hw⟩
      replace hw := hw.symm
      subst hw
      exact ⟨rfl, HF.out⟩
    ·have hdm : decide (mm = l[i].1) = false := decide_eq_false hme
     rw [hdm]
     have HF := hid (HNO.out Z2 20 HK2.out (by decide) (by rw [HST.out]; simp only [checkF]; rw [if_neg (by rw [HM.out]; simpa using hme)]))
     clear hdm hme
     go_wp2_with fail
     refine (HY.out 20 Z2).mono ?_
     rintro e w' ⟨rfl, hw⟩
     replace hw := hw.symm
     subst hw
     exact ⟨rfl, HF.out⟩
  ·rintro e Y (⟨v, rfl, hY⟩ | ⟨ch, rfl, n, rfl, hn, hch, hk, hdd⟩)
   ·refine ⟨r, hY.rcd, by rw [← HRR.out]; show LoopState.ready ≠ LoopState.busy; decide, by rw [← HRR.out], ?_⟩
    have hd2 : (Y.putObj (D + 1) (.loop { r with state := .exhausted })).heap[D]? = some (.deferred (some [])) := (World.putObj_heap_other (by omega)).trans hY.def_
    have hck : checkF [] l = 0 := by
     rw [hY.chk, List.drop_eq_nil_of_le (by have := HN.out; omega)]
     rfl
    refine ⟨by simp, .inl ⟨_, _, rfl, run_takeDeferred hd2, ?_⟩⟩
    exact ⟨_, results_none rfl _ _ _, kept_put (kept_put hY.kept (by omega) _) (by omega) _, .inl ⟨hck, rfl⟩⟩
   ·refine ⟨by simp, .inl ⟨_, _, rfl, run_takeDeferred hdd, ?_⟩⟩
    exact ⟨kept_put hk (by omega) _, .inr ⟨by rw [hch]; exact hn, by rw [hch]⟩⟩
end Go.Proofs.YtllfanlhgnkcfaaGreatDoor.K
