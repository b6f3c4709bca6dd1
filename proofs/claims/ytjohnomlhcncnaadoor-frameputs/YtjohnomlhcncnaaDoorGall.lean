/-
  Package frame: All.
-/
import Derived.Test.YtjohnomlhcncnaaDoorGi2
namespace Go.Proofs.YtjohnomlhcncnaaDoor.G
open Go.RowKit Go.Proofs.Lys Go.Shelf
set_option linter.unusedVariables false
attribute [local go_sem] Oper.semAt_some

theorem oper_append_run {P : Program} {w : World} {o : Oper} {a : Act} {K : Act → World → Prop} {Q : Exit → Act → World → Prop} (s x : Operand) (t : TypeId)
    (ho : o.op = .call { callee := .builtin .append, args := #[s, x], argTypes := #[t, t] }) {sv xv : Value} (hs : a.eval s = sv) (hx : a.eval x = xv) {v : Value} {w' : World}
    (hrun : Hid ((Builtin.append_ #[t, t] 0 #[sv, xv]).run P w = .ok v w')) (h : K (a.put o.dst v) w') : Oper.wp P o a w K Q := by
  have hr : (Builtin.append_ #[t, t] o.type #[sv, xv]).run P w = .ok v w' := hrun.out
  unfold Oper.wp execOp
  simp only [ho, resolve, invoke, builtin, Sem.run_bind, Sem.run_pure, Result.andThen_ok, List.map_toArray, List.map_cons, List.map_nil, hs, hx, hr]
  exact h

theorem RecsAt.cells {w w' : World} {row : Option Nat} (hg : w.grownBy w' row) (hr : ∀ r, row = some r → ∃ o : Obj, w.heap[r]? = some o ∧ o.isCells = false) {B : Nat} {v : Value} {l : Recs} (h : RecsAt w B v l) : RecsAt w' B v l := by
  obtain ⟨vs, h1, h2, h3⟩ := h
  exact ⟨vs, h1, row_cells hg hr h2, fun i hi => by obtain ⟨q, e, hq⟩ := h3 i hi; exact ⟨q, e, row_cells hg hr hq⟩⟩
/-- What stands between two rounds: the box of the records, the records, the box of the place, all that was there. -/
def AllI (w : World) (bs : List UInt8) (pre : List (FrmI bs.length)) (W : World) : Prop :=
  (∃ v, Boxed W w.heap.size 37 v ∧ RecsAt W (w.heap.size + 3) v (pre.map (recI bs))) ∧ Boxed W (w.heap.size + 1) 3 (.int .i64 (endI pre : Int)) ∧ Below w.heap.size w W ∧ w.heap.size + 3 ≤ W.heap.size
theorem allI_own (w : World) (bs : List UInt8) {B : Nat} (hB : w.heap.size ≤ B) : OwnFrom B (AllI w bs) :=
  OwnFrom.and (Own.from (fun s X Y row ⟨v, hb, ho⟩ hg hr => ⟨v, (grown_cells hg hr ⟨_, _, hb⟩).trans hb, ho.cells hg hr⟩) _)
    (OwnFrom.and (Own.from (boxed_own _ _ _) _) (OwnFrom.and (ownFrom_below (Nat.le_refl _) hB) (fun _ _ _ _ hs hg _ => Nat.le_trans hs hg.size)))
theorem allI_kept {w W W' : World} {bs : List UInt8} {pre : List (FrmI bs.length)} (h : AllI w bs pre W) (k : Kept W W') : AllI w bs pre W' :=
  allI_own w bs (Nat.le_refl _) pre W W' none h (kept_grown k) (fun r e => by cases e)

/-- A round of All. -/
theorem allI_step {w W w2 : World} {bs : List UInt8} {pre : List (FrmI bs.length)} {x : FrmI bs.length} {v u : Value} (hb : Boxed W w.heap.size 37 v) (hR : RecsAt W (w.heap.size + 3) v (pre.map (recI bs))) (hb1 : Boxed W (w.heap.size + 1) 3 (.int .i64 (endI pre : Int))) (hB : Below w.heap.size w W) (hs : w.heap.size + 3 ≤ W.heap.size)
    (hu : w2.ownsRow W.heap.size 5 1 u (frmB bs x).length ((frmB bs x).map bV)) (k2 : Kept W w2) (hl : pre.length ≤ 400000) :
    ∃ g cap w3, Hid ((Builtin.append_ #[37, 37] 0 #[v, .slice (some ⟨w2.heap.size, 0, none⟩) 1 1]).run Tryd.prog (w2.alloc (.cells #[.int .i64 (frmK bs x : Int), u] 41)) = .ok (.slice (some ⟨g, 0, none⟩) (pre.length + 1) cap) w3) ∧
      Only (fun j => v.ownBlock = some j) W w3 ∧ Boxed w3 w.heap.size 37 v ∧ Boxed w3 (w.heap.size + 1) 3 (.int .i64 (endI pre : Int)) ∧
      ∀ w4, w4 = (w3.setCell ⟨w.heap.size, 0, none⟩ (.slice (some ⟨g, 0, none⟩) (pre.length + 1) cap)).setCell ⟨w.heap.size + 1, 0, none⟩ (.int .i64 ((x.1.1 + (9 + x.1.2) : Nat) : Int)) →
        KeepsOthers W w4 ∧ KpB w.heap.size (w.heap.size + 1 + 1) W w4 ∧ AllI w bs (pre ++ [x]) w4 := by
  have hlm : (pre.map (recI bs)).length = pre.length := List.length_map _
  obtain ⟨g, cap, w3, Hr, hR3, hon⟩ := rec_app (q := recI bs x) (hR.stay k2) (Nat.le_trans hs k2.size) (own_base hu hs) (by rw [hlm]; omega)
  rw [hlm] at Hr hR3
  have hlow : ∀ j, v.ownBlock = some j → w.heap.size + 3 ≤ j := fun j hj => (hR.low hj).1
  have hO : Only (fun j => v.ownBlock = some j) W w3 := (k2.mono (O' := fun j => v.ownBlock = some j) (fun _ _ f => f.elim)).trans hon (fun _ _ h => h)
  have hb3 : Boxed w3 w.heap.size 37 v := (hO.block _ hb.lt (fun e => by have := hlow _ e; omega)).trans hb
  have hb13 : Boxed w3 (w.heap.size + 1) 3 (.int .i64 (endI pre : Int)) := (hO.block _ hb1.lt (fun e => by have := hlow _ e; omega)).trans hb1
  refine ⟨g, cap, w3, Hr, hO, hb3, hb13, ?_⟩
  obtain ⟨V, hV⟩ : ∃ V, Value.slice (some ⟨g, 0, none⟩) (pre.length + 1) cap = V := ⟨_, rfl⟩
  rw [hV] at hR3 ⊢
  clear Hr hV
  intro w4 e4
  have hS : Only (fun k => k = w.heap.size ∨ k = w.heap.size + 1) w3 w4 := by
    rw [e4]
    exact ((Only.refl (fun k => k = w.heap.size ∨ k = w.heap.size + 1) w3).setCell (p := ⟨w.heap.size, 0, none⟩) (fun _ => .inl rfl) _).setCell (p := ⟨w.heap.size + 1, 0, none⟩) (fun _ => .inr rfl) _
  have hk4 : Only (fun j => v.ownBlock = some j ∨ j = w.heap.size ∨ j = w.heap.size + 1) W w4 :=
    (hO.mono (O' := fun j => v.ownBlock = some j ∨ j = w.heap.size ∨ j = w.heap.size + 1) (fun _ _ h => .inl h)).trans hS (fun _ _ h => .inr h)
  have hbel : Below w.heap.size W w4 := hk4.toBelow (fun k hk => hk.elim (fun h => by have := hlow k h; omega) (fun h => by omega)) (by omega)
  have hb4 : Boxed w4 w.heap.size 37 V := by
    rw [e4]
    exact (hb3.set V).other (by omega) _
  have hb14 : Boxed w4 (w.heap.size + 1) 3 (.int .i64 ((x.1.1 + (9 + x.1.2) : Nat) : Int)) := by
    rw [e4]
    exact (hb13.other (by omega) _).set _
  refine ⟨hk4.others (fun k hk hlt => ?_), ⟨hbel, hk4.block _ (by omega) (fun h => h.elim (fun h => by have := hlow _ h; omega) (fun h => by omega))⟩, ⟨V, hb4, ?_⟩, ?_, hB.trans hbel, Nat.le_trans hs hk4.size⟩
  · rcases hk with hk | hk | hk
    · exact ⟨_, (hR.low hk).2⟩
    · subst hk; exact ⟨_, _, _, hb⟩
    · subst hk; exact ⟨_, _, _, hb1⟩
  · rw [List.map_append]
    exact hR3.only hS (fun j hj => by omega)
  · rw [endI_snoc]
    exact hb14

set_option maxRecDepth 100000 in
set_option maxHeartbeats 3200000 in
theorem all_any (w : World) (v : Value) (bs : List UInt8) (hs : BSrc w v bs) (hl : bs.length ≤ 400000) (hT : Tab w) :
    Calls Tryd.prog 16 #[v] w (AllPost w bs) := by
  have hmx : Tryd.prog.follows .mixedOrders = true := by kernel_rfl
  obtain ⟨a, c, rfl, hlc⟩ := hs.2
  obtain ⟨b, o, hab⟩ : ∃ b o, 0 < bs.length → a = some ⟨b, o, none⟩ := by
    rcases hs.1.shape with ⟨h0, _⟩ | ⟨hp, b, o, c2, hv, hcell⟩
    · have : bs = [] := List.map_eq_nil_iff.1 h0
      exact ⟨0, 0, fun h => by rw [this] at h; simp at h⟩
    · rw [List.length_map] at hv
      cases hv
      exact ⟨b, o, fun _ => rfl⟩
  have HS := hid hs
  clear hs
  refine (callsIn_wide (n := 3)).1 ?_
  refine callsIn_of_wp_marks Tryd.func16 rfl trivial ?_ rfl
  simp only [Tryd.ntmps16, List.size_toArray, List.length_cons, List.length_nil, Nat.reduceAdd, Nat.reduceSub, Array.replicate_succ, Array.replicate_zero, List.push_toArray, List.append_toArray, List.nil_append, List.cons_append]
  gi_wp2_with (refine ⟨trivial, ?_⟩; gi_at_call 21; refine (frames_in _ a bs.length c _).mono ?_; rintro e w' ⟨rfl, rfl⟩)
  have b0 := Boxed.new w 37 (.slice none 0 0)
  have b1 := Boxed.new (w.alloc (.cells #[.slice none 0 0] 37)) 3 (.int .i64 0)
  have bN := Boxed.new ((w.alloc (.cells #[.slice none 0 0] 37)).alloc (.cells #[.int .i64 0] 3)) 22 (.slice a bs.length c)
  simp only [World.size_alloc] at b1 bN
  have hB0 : Below w.heap.size w (((w.alloc (.cells #[.slice none 0 0] 37)).alloc (.cells #[.int .i64 0] 3)).alloc (.cells #[.slice a bs.length c] 22)) := (((Below.refl _ w).alloc (Nat.le_refl _) _).alloc (by simp) _).alloc (by simp; omega) _
  refine wpIn_rangeFunc_ownH rfl (by omega) (gf := 23) (lb := #[.pointer (some ⟨w.heap.size + 1 + 1, 0, none⟩)]) rfl trivial (enters_of Tryd.func23 (by kernel_rfl) rfl)
    (frames_stops _ (by omega) (w.heap.size + 1 + 1) b o c bs hl a w _ HS.out hT hab (by simp) bN.cell hB0) KpB.t (KpB.b (by simp; omega) (by simp)) (Below.refl _ _) (fun _ => rfl)
    (AllI w bs) (fun _ _ _ => False) (allI_own w bs (by simp; omega)) (fun _ _ _ _ _ hs _ _ => hs)
    ⟨⟨_, (b0.alloc _).alloc _, RecsAt_none _ _⟩, b1.alloc _, hB0, by simp⟩
    (fun x a' W => ∃ B, w.heap.size + 3 ≤ B ∧ Blk W B [.int .i64 (frmK bs x : Int), frmV b o c x] 41 ∧ (∃ v, Boxed W w.heap.size 37 v ∧ v.ownBlock ≠ some B) ∧ a' = { tmps := #[.slice a bs.length c, undef, .slice none 0 0, .int .i64 0, .pointer (some ⟨w.heap.size, 0, none⟩), .pointer (some ⟨w.heap.size + 1, 0, none⟩), .int .i64 ((x.1.1 + (9 + x.1.2) : Nat) : Int), .pointer (some ⟨B, 0, none⟩), .slice a bs.length c, .func (.func 23) #[] #[.pointer (some ⟨w.heap.size + 1 + 1, 0, none⟩)], .int .i64 ((x.1.1 + (9 + x.1.2) : Nat) : Int), .agg #[.int .i64 (frmK bs x : Int), frmV b o c x], undef, undef, undef, undef, undef, undef, undef, undef, undef, undef, undef, undef], defers := [] })
    (fun x a' => fun _ X Y row ⟨B, h1, h2, ⟨v, h4, h5⟩, h3⟩ hg hr => ⟨B, h1, h2.of_block (grown_cells hg (fun r e => (hr r e).2) h2.typed), ⟨v, (grown_cells hg (fun r e => (hr r e).2) ⟨_, _, h4⟩).trans h4, h5⟩, h3⟩) ?assign ?body ?done ?stop
  case assign =>
    intro l pre x W K hI hK
    obtain ⟨E, hE⟩ : ∃ E : Nat, x.1.1 + (9 + x.1.2) = E := ⟨_, rfl⟩
    obtain ⟨ka, kn, kc, hfv⟩ : ∃ ka kn kc, frmV b o c x = .slice (some ka) kn kc := ⟨_, _, _, rfl⟩
    obtain ⟨KK, hKK⟩ : ∃ KK, frmK bs x = KK := ⟨_, rfl⟩
    rw [hE, hfv, hKK] at hK ⊢
    clear b0 b1 bN hB0
    gi_wp2
    have hk1 : Kept W (W.alloc (.cells #[.int .i64 (KK : Int), .slice (some ka) kn kc] 41)) := (Only.refl _ W).alloc _
    have hsz := hI.2.2.2
    have hout : ∃ v, Boxed (W.alloc (.cells #[.int .i64 (KK : Int), .slice (some ka) kn kc] 41)) w.heap.size 37 v ∧ v.ownBlock ≠ some W.heap.size := by
      obtain ⟨⟨v, hb, hR⟩, _⟩ := hI
      refine ⟨v, hb.alloc _, fun e => ?_⟩
      obtain ⟨cs, fz, ht⟩ := (hR.low e).2
      have := (Array.getElem?_eq_some_iff.1 ht).1
      omega
    refine hK _ _ ((hk1.others (fun _ f => f.elim)).from _) ⟨hk1.toBelow (fun _ f => f.elim) (by omega), hk1.block _ (by omega) (fun f => f)⟩ (allI_kept hI hk1) ⟨W.heap.size, hsz, Blk.new W _ _, hout, rfl⟩
  case body =>
    rintro q pre x a' W hq hrec ⟨⟨v, hb, hR⟩, hb1, hBel, hs3⟩ ⟨B, hB3, hBk, ⟨v', hbv, hvB⟩, rfl⟩ hlt
    obtain rfl : v = v' := by
      have h1 := (show W.heap[w.heap.size]? = _ from hb).symm.trans hbv
      simpa using h1
    have hx := x.2
    obtain rfl := hab (by omega)
    have hcl := clone_any W.drew (frmV b o c x) (frmB bs x) ((frm_bsrc (HS.out.stay (Only.below hBel)) x).stay (Only.refl _ W).drew).1 (by rw [frmB_len]; omega)
    have hc0 := hb.cell
    have r0 := hBk.cell 0 rfl
    have r1 := hBk.cell 1 rfl
    have hBlt := hBk.lt
    have HBk := hid hBk
    have HB := hid hb
    have HR := hid hR
    have HB1 := hid hb1
    have HBel := hid hBel
    obtain ⟨E, hE⟩ : ∃ E : Nat, x.1.1 + (9 + x.1.2) = E := ⟨_, rfl⟩
    obtain ⟨ka, kn, kc, hfv⟩ : ∃ ka kn kc, frmV b o c x = .slice (some ka) kn kc := ⟨_, _, _, rfl⟩
    obtain ⟨KK, hKK⟩ : ∃ KK, frmK bs x = KK := ⟨_, rfl⟩
    rw [hfv] at hcl r1 HBk ⊢
    rw [hKK] at r0 HBk ⊢
    rw [hE]
    have HE := hid hE
    have HKK := hid hKK
    have HvB := hid hvB
    clear b0 b1 bN hB0 hab hb hR hb1 hBel hE hKK hfv hBk hbv hvB
    gi_wp2
    refine region_round (L := 9) (S := fun w' => w'.cell? ⟨w.heap.size, 0, none⟩ = some v ∧ w'.cell? ⟨B, 0, none⟩ = some (.int .i64 (KK : Int)) ∧ w'.cell? ⟨B, 1, none⟩ = some (.slice (some ka) kn kc)) hmx (by rintro ⟨_, _, h⟩; exact h) (by kernel_rfl) ?_
    have hS : (fun w' : World => w'.cell? ⟨w.heap.size, 0, none⟩ = some v ∧ w'.cell? ⟨B, 0, none⟩ = some (.int .i64 (KK : Int)) ∧ w'.cell? ⟨B, 1, none⟩ = some (.slice (some ka) kn kc)) W.drew := ⟨hc0, r0, r1⟩
    refine wpAnyL_take (i := 0) (v := v) rfl (by kernel_rfl) (by kernel_rfl) (by kernel_rfl) (by kernel_rfl) (by kernel_rfl) (fun _ _ _ h => h) (Or.inl ⟨by rfl, ?_⟩) hS ?_
    · (intro w' hSw; go_simp)
    go_frame
    refine wpAnyL_take (i := 1) (v := .pointer (some ⟨B, 0, none⟩)) rfl (by kernel_rfl) (by kernel_rfl) (by kernel_rfl) (by kernel_rfl) (by kernel_rfl) (fun _ _ _ h => h) (Or.inl ⟨by rfl, ?_⟩) hS ?_
    · (intro w' hSw; go_simp)
    go_frame
    refine wpAnyL_take (i := 2) (v := .int .i64 (KK : Int)) rfl (by kernel_rfl) (by kernel_rfl) (by kernel_rfl) (by kernel_rfl) (by kernel_rfl) (fun _ _ _ h => h) (Or.inl ⟨by rfl, ?_⟩) hS ?_
    · (intro w' hSw; go_simp)
    go_frame
    refine wpAnyL_take (i := 3) (v := .pointer (some ⟨B, 1, none⟩)) rfl (by kernel_rfl) (by kernel_rfl) (by kernel_rfl) (by kernel_rfl) (by kernel_rfl) (fun _ _ _ h => h) (Or.inl ⟨by rfl, ?_⟩) hS ?_
    · (intro w' hSw; go_simp)
    go_frame
    refine wpAnyL_take (i := 4) (v := .slice (some ka) kn kc) rfl (by kernel_rfl) (by kernel_rfl) (by kernel_rfl) (by kernel_rfl) (by kernel_rfl) (fun _ _ _ h => h) (Or.inl ⟨by rfl, ?_⟩) hS ?_
    · (intro w' hSw; go_simp)
    go_frame
    refine wpAnyL_one (i := 5) (by kernel_rfl) rfl rfl ?_
    go_simp
    refine hcl.mono ?_
    rintro e w2 ⟨u, rfl, hu, k2⟩
    have hk2 : Kept W w2 := (Only.refl (fun _ => False) W).drew.trans k2 (fun _ _ f => f)
    obtain ⟨g, cap, w3, Hr, hO, hb3, hb13, hend⟩ := allI_step HB.out HR.out HB1.out HBel.out hs3 hu hk2 (by omega)
    rw [HKK.out] at Hr
    have hBw3 : Blk w3 B [.int .i64 (KK : Int), .slice (some ka) kn kc] 41 := hO.blk HBk.out HvB.out
    have s2 : w2.cell? ⟨w.heap.size, 0, none⟩ = some v ∧ w2.cell? ⟨B, 0, none⟩ = some (.int .i64 (KK : Int)) ∧ w2.cell? ⟨B, 1, none⟩ = some (.slice (some ka) kn kc) := ⟨kept_cell hk2 hc0, kept_cell hk2 r0, kept_cell hk2 r1⟩
    have s2a : ∀ ob, (w2.alloc ob).cell? ⟨w.heap.size, 0, none⟩ = some v ∧ (w2.alloc ob).cell? ⟨B, 0, none⟩ = some (.int .i64 (KK : Int)) ∧ (w2.alloc ob).cell? ⟨B, 1, none⟩ = some (.slice (some ka) kn kc) := fun ob => ⟨kept_cell ((Only.refl _ w2).alloc ob) s2.1, kept_cell ((Only.refl _ w2).alloc ob) s2.2.1, kept_cell ((Only.refl _ w2).alloc ob) s2.2.2⟩
    have s3 : w3.cell? ⟨w.heap.size, 0, none⟩ = some v ∧ w3.cell? ⟨B, 0, none⟩ = some (.int .i64 (KK : Int)) ∧ w3.cell? ⟨B, 1, none⟩ = some (.slice (some ka) kn kc) := ⟨hb3.cell, hBw3.cell 0 rfl, hBw3.cell 1 rfl⟩
    have hc3 := hb3.cell
    have hf3 := hb3.frozen
    have hc13 := hb13.cell
    have hf13 := hb13.frozen
    obtain ⟨hko, hkp, hI⟩ := hend _ rfl
    rw [HE.out] at hko hkp hI
    obtain ⟨ua, uc, hue⟩ := own_slice hu
    subst hue
    obtain ⟨M, hM⟩ : ∃ M, pre.length = M := ⟨_, rfl⟩
    rw [hM] at Hr hko hkp hI
    have HE2 : Hid (KeepsOthers W ((w3.setCell ⟨w.heap.size, 0, none⟩ (.slice (some ⟨g, 0, none⟩) (M + 1) cap)).setCell ⟨w.heap.size + 1, 0, none⟩ (.int .i64 (E : Int))) ∧ KpB w.heap.size (w.heap.size + 1 + 1) W ((w3.setCell ⟨w.heap.size, 0, none⟩ (.slice (some ⟨g, 0, none⟩) (M + 1) cap)).setCell ⟨w.heap.size + 1, 0, none⟩ (.int .i64 (E : Int))) ∧
      AllI w bs (pre ++ [x]) ((w3.setCell ⟨w.heap.size, 0, none⟩ (.slice (some ⟨g, 0, none⟩) (M + 1) cap)).setCell ⟨w.heap.size + 1, 0, none⟩ (.int .i64 (E : Int)))) := ⟨hko, hkp, hI⟩
    clear hko hkp hI hend hcl hu k2 hk2 hO hb3 hb13 hBw3 hM
    refine ⟨s2, ?_⟩
    refine wpAnyL_one (i := 6) (by kernel_rfl) rfl rfl ?_
    go_simp
    refine wpAnyL_one (i := 7) (by kernel_rfl) rfl rfl ?_
    go_simp
    (first | refine ⟨s2a _, ?_⟩ | skip)
    refine wpAnyL_one (i := 8) (by kernel_rfl) rfl rfl (oper_append_run _ _ _ rfl rfl rfl Hr ?_)
    refine ⟨s3, ?_⟩
    go_frame
    refine wpAnyL_last (by kernel_rfl) (by kernel_rfl) rfl rfl ?_
    go_simp
    gi_wp2
    exact ⟨HE2.out.1.from _, HE2.out.2.1, HE2.out.2.2⟩
  case done =>
    rintro D ys W hD ⟨hC, hno⟩ ⟨⟨v, hb, hR⟩, hb1, hBel, hs3⟩ hK
    have hc0 := hb.cell
    have hc1 := hb1.cell
    have hKd : W.drew.heap[D]? = some (.deferred (some [])) := hK
    obtain ⟨E, hE⟩ : ∃ E, endI ys = E := ⟨_, rfl⟩
    have HF : Hid (Kept w (W.drew.putObj D (.deferred none)) ∧ RecsAt (W.drew.putObj D (.deferred none)) w.heap.size v (ys.map (recI bs)) ∧ Alls bs (ys.map (recI bs)) E) := by
      refine ⟨Only.below (hBel.trans ((Below.refl _ W).drew.trans (belowK_b (w := w) (Nat.le_refl _) W.drew D _ _ (by simp at hD; omega) hKd rfl rfl))), ?_, hC.1, by rw [hC.2, hE], by rw [← hE]; exact hno⟩
      have h1 := (hR.stay (Only.refl _ W).drew).cells (grownBy_putObj' W.drew D (.deferred none)) (fun r e => by cases e; exact ⟨_, hKd, rfl⟩)
      exact h1.base (by omega)
    rw [hE] at hc1
    clear b0 b1 bN hB0 hC hno hb hR hb1 hBel hE
    gi_wp2
    refine wpIn_wide.2 ?_
    go_region
    gi_wp2
    refine ⟨by simp, .inl ⟨_, _, rfl, run_takeDeferred hKd, ?_⟩⟩
    exact ⟨_, results_tmp2 rfl _ _ _, HF.out.1, _, _, E, rfl, HF.out.2.2, HF.out.2.1⟩
  case stop =>
    rintro D c pre W _ _ h _
    exact h.elim
end Go.Proofs.YtjohnomlhcncnaaDoor.G
