/-
  Cu6.
-/
import Derived.Test.YtbhpmeeknbbmmaaQ31

/-
  Package chunk: the first two parts of bytes.
-/
namespace Go.Proofs.Ytbhpmeeknbbmmaa.C
open Go.RowKit Go.Proofs.Lys Go.Shelf
set_option linter.unusedVariables false
attribute [local go_sem] Oper.semAt_some

theorem Try.infoBS : (Try.prog.info? 23).map (fun i => (i.zero, i.size, i.bytes)) = some (some (.slice none 0 0), 1, 24) := by kernel_rfl
theorem parts_app {w : World} {base : Nat} {v u : Value} {xs : List Value} (h : w.ownsRow base 23 1 v xs.length xs) (hb : base ≤ w.heap.size) (hl : xs.length ≤ 100000) (hu : ∃ a n c, u = .slice a n c) :
    ∃ g cap w1, Hid ((Builtin.append_ #[49, 49] 0 #[v, .slice (some ⟨w.heap.size, 0, none⟩) 1 1]).run Try.prog (w.alloc (.cells #[u] 23)) = .ok (.slice (some ⟨g, 0, none⟩) (xs.length + 1) cap) w1) ∧
      w1.ownsRow base 23 1 (.slice (some ⟨g, 0, none⟩) (xs.length + 1) cap) (xs.length + 1) (xs ++ [u]) ∧ Only (fun j => v.ownBlock = some j) w w1 := by
  obtain ⟨a, n, c, rfl⟩ := hu
  obtain ⟨v', w3, hrun, hown1, hgrow, hat⟩ := append_src (P := Try.prog) (xv := .slice (some ⟨w.heap.size, 0, none⟩) 1 1) (ys := [.slice a n c]) Try.underlying49 Try.infoBS rfl (by decide) (h.alloc (.cells #[.slice a n c] 23)) (own_src (World.ownsRow_lit w #[.slice a n c] 1 (Nat.zero_le _) (by decide) rfl)) (by intro u hu; simp at hu; subst hu; rfl) (by simp; omega) (by simp; omega)
  obtain ⟨g, cap, rfl⟩ := own_some hown1 (by simp)
  exact ⟨g, cap, w3, hrun, hown1, ((Only.refl _ w).alloc _).grown hgrow (fun j hj _ => hj)⟩

/-- What stands between two rounds. -/
def BthI (w : World) (b o : Nat) (bs : List UInt8) (pre : List (PartI bs.length)) (W : World) : Prop :=
  (∃ v, Boxed W w.heap.size 49 v ∧ W.ownsRow (w.heap.size + 3) 23 1 v pre.length (pre.map (partV b o))) ∧ Boxed W (w.heap.size + 1) 3 (.int .i64 (endP pre : Int)) ∧ Below w.heap.size w W ∧ w.heap.size + 3 ≤ W.heap.size
theorem bthI_own (w : World) (b o : Nat) (bs : List UInt8) {B : Nat} (hB : w.heap.size ≤ B) : OwnFrom B (BthI w b o bs) :=
  OwnFrom.and (Own.from (fun s X Y row ⟨v, hb, ho⟩ hg hr => ⟨v, (grown_cells hg hr ⟨_, _, hb⟩).trans hb, row_cells hg hr ho⟩) _)
    (OwnFrom.and (Own.from (boxed_own _ _ _) _) (OwnFrom.and (ownFrom_below (Nat.le_refl _) hB) (fun _ _ _ _ hs hg _ => Nat.le_trans hs hg.size)))

/-- A round of both. -/
theorem bthI_step {w W : World} {b o : Nat} {bs : List UInt8} {pre : List (PartI bs.length)} {v : Value} (x : PartI bs.length) (hb : Boxed W w.heap.size 49 v) (hr : W.ownsRow (w.heap.size + 3) 23 1 v pre.length (pre.map (partV b o))) (hb1 : Boxed W (w.heap.size + 1) 3 (.int .i64 (endP pre : Int))) (hB : Below w.heap.size w W) (hs : w.heap.size + 3 ≤ W.heap.size) (hl : pre.length ≤ 1000) :
    ∃ g cap w3, Hid ((Builtin.append_ #[49, 49] 0 #[v, .slice (some ⟨W.heap.size, 0, none⟩) 1 1]).run Try.prog (W.alloc (.cells #[partV b o x] 23)) = .ok (.slice (some ⟨g, 0, none⟩) (pre.length + 1) cap) w3) ∧
      Boxed w3 w.heap.size 49 v ∧ Boxed w3 (w.heap.size + 1) 3 (.int .i64 (endP pre : Int)) ∧
      ∀ w4, w4 = (w3.setCell ⟨w.heap.size, 0, none⟩ (.slice (some ⟨g, 0, none⟩) (pre.length + 1) cap)).setCell ⟨w.heap.size + 1, 0, none⟩ (.int .i64 (x.1.2 : Int)) →
        KeepsOthers W w4 ∧ KpB w.heap.size (w.heap.size + 2) W w4 ∧ BthI w b o bs (pre ++ [x]) w4 ∧ Boxed w4 w.heap.size 49 (.slice (some ⟨g, 0, none⟩) (pre.length + 1) cap) := by
  have hlm : (pre.map (partV b o)).length = pre.length := List.length_map _
  obtain ⟨g, cap, w3, Hr, ho3, hon⟩ := parts_app (u := partV b o x) (by rw [hlm]; exact hr) hs (by rw [hlm]; omega) ⟨_, _, _, rfl⟩
  rw [hlm] at Hr ho3
  have hlow : ∀ j, v.ownBlock = some j → w.heap.size + 3 ≤ j := fun j hj => (hr.lt j hj).1
  have hb3 : Boxed w3 w.heap.size 49 v := (hon.block _ hb.lt (fun e => by have := hlow _ e; omega)).trans hb
  have hb13 : Boxed w3 (w.heap.size + 1) 3 (.int .i64 (endP pre : Int)) := (hon.block _ hb1.lt (fun e => by have := hlow _ e; omega)).trans hb1
  obtain ⟨V, hV⟩ : ∃ V, Value.slice (some ⟨g, 0, none⟩) (pre.length + 1) cap = V := ⟨_, rfl⟩
  refine ⟨g, cap, w3, Hr, hb3, hb13, ?_⟩
  rw [hV] at ho3 ⊢
  clear Hr hV
  intro w4 e4
  subst e4
  have hS : Only (fun k => k = w.heap.size ∨ k = w.heap.size + 1) w3 ((w3.setCell ⟨w.heap.size, 0, none⟩ V).setCell ⟨w.heap.size + 1, 0, none⟩ (.int .i64 (x.1.2 : Int))) :=
    ((Only.refl (fun k => k = w.heap.size ∨ k = w.heap.size + 1) w3).setCell (p := ⟨w.heap.size, 0, none⟩) (fun _ => .inl rfl) _).setCell (p := ⟨w.heap.size + 1, 0, none⟩) (fun _ => .inr rfl) _
  have hk4 : Only (fun j => v.ownBlock = some j ∨ j = w.heap.size ∨ j = w.heap.size + 1) W ((w3.setCell ⟨w.heap.size, 0, none⟩ V).setCell ⟨w.heap.size + 1, 0, none⟩ (.int .i64 (x.1.2 : Int))) :=
    (hon.mono (O' := fun j => v.ownBlock = some j ∨ j = w.heap.size ∨ j = w.heap.size + 1) (fun _ _ h => .inl h)).trans hS (fun _ _ h => .inr h)
  have hbel : Below w.heap.size W ((w3.setCell ⟨w.heap.size, 0, none⟩ V).setCell ⟨w.heap.size + 1, 0, none⟩ (.int .i64 (x.1.2 : Int))) :=
    hk4.toBelow (fun k hk => hk.elim (fun h => by have := hlow k h; omega) (fun h => by omega)) (by omega)
  have hb4 : Boxed ((w3.setCell ⟨w.heap.size, 0, none⟩ V).setCell ⟨w.heap.size + 1, 0, none⟩ (.int .i64 (x.1.2 : Int))) w.heap.size 49 V := (hb3.set V).other (by omega) _
  have hrow4 := own_only ho3 hS (fun j hj e => by have := (ho3.lt j hj).1; omega)
  refine ⟨hk4.others (fun k hk hlt => ?_), ⟨hbel, hk4.block _ (by omega) (fun h => h.elim (fun h => by have := hlow _ h; omega) (fun h => by omega))⟩, ⟨⟨V, hb4, ?_⟩, ?_, hB.trans hbel, Nat.le_trans hs hk4.size⟩, hb4⟩
  · rcases hk with hk | hk | hk
    · exact ⟨_, own_typed hr hk⟩
    · subst hk; exact ⟨_, _, _, hb⟩
    · subst hk; exact ⟨_, _, _, hb1⟩
  · rw [List.map_append, List.length_append]
    exact hrow4
  · rw [endP_snoc]
    exact (hb13.other (by omega) _).set _

/-- What both leaves. -/
def BothPost (w : World) (bs : List UInt8) (e : Ending) (w' : World) : Prop :=
  Kept w w' ∧ ∃ a n c t, e = .returned (.tuple #[.slice a n c, .int .i64 t]) ∧
    ((n < 2 ∧ (∀ a1 R1, cutR bs = some (a1, R1) → cutR R1 = none)) ∨
     ∃ a1 R1 a2 R2 g v1 v2, cutR bs = some (a1, R1) ∧ cutR R1 = some (a2, R2) ∧ R2.length ≤ bs.length ∧ a1.length ≤ bs.length ∧ a2.length ≤ bs.length ∧ n = 2 ∧ a = some ⟨g, 0, none⟩ ∧ w'.cell? ⟨g, 0, none⟩ = some v1 ∧ w'.cell? ⟨g, 1, none⟩ = some v2 ∧ BSrc w' v1 a1 ∧ BSrc w' v2 a2 ∧ t = ((bs.length - R2.length : Nat) : Int))

/-- The world in which both ends. -/
theorem both_end {w W W8 : World} {v E : Value} {n D : Nat} {xs : List Value} (e8 : W8 = ((W.setCell ⟨w.heap.size, 0, none⟩ v).setCell ⟨w.heap.size + 1, 0, none⟩ E).drew) (hb : Boxed W w.heap.size 49 v) (hb1 : Boxed W (w.heap.size + 1) 3 E) (hr : W.ownsRow (w.heap.size + 3) 23 1 v n xs) (hB : Below w.heap.size w W) (hs3 : w.heap.size + 3 ≤ W.heap.size) (hD : w.heap.size + 3 ≤ D) (hK : W.heap[D]? = some (.deferred (some []))) :
    W8.heap[D]? = some (.deferred (some [])) ∧ Kept w (W8.putObj D (.deferred none)) ∧ (W8.putObj D (.deferred none)).cell? ⟨w.heap.size, 0, none⟩ = some v ∧ (W8.putObj D (.deferred none)).cell? ⟨w.heap.size + 1, 0, none⟩ = some E ∧ (W8.putObj D (.deferred none)).ownsRow (w.heap.size + 3) 23 1 v n xs := by
  have hS : Only (fun k => k = w.heap.size ∨ k = w.heap.size + 1) W W8 := by
    rw [e8]
    exact (((Only.refl (fun k => k = w.heap.size ∨ k = w.heap.size + 1) W).setCell (p := ⟨w.heap.size, 0, none⟩) (fun _ => .inl rfl) _).setCell (p := ⟨w.heap.size + 1, 0, none⟩) (fun _ => .inr rfl) _).drew
  have h0 : Boxed W8 w.heap.size 49 v := by
    rw [e8]
    exact (hb.set v).other (by omega) _
  have h1 : Boxed W8 (w.heap.size + 1) 3 E := by
    rw [e8]
    exact (hb1.other (by omega) _).set _
  have hr8 := own_only hr hS (fun j hj e => by have := (hr.lt j hj).1; omega)
  have hK8 : W8.heap[D]? = some (.deferred (some [])) := (hS.block D (Array.getElem?_eq_some_iff.1 hK).1 (fun e => by omega)).trans hK
  have hB8 : Below w.heap.size w W8 := hB.trans (hS.toBelow (fun k hk => by omega) (by omega))
  refine ⟨hK8, Only.below (hB8.trans (belowK_b (w := w) (Nat.le_refl _) W8 D _ _ (by omega) hK8 rfl rfl)), ?_, ?_, ownsRow_putObj hr8 _ hK8 rfl⟩
  · exact Boxed.cell (t := 49) ((World.putObj_heap_other (by omega)).trans h0)
  · exact Boxed.cell (t := 3) ((World.putObj_heap_other (by omega)).trans h1)

set_option maxRecDepth 100000 in
set_option maxHeartbeats 3200000 in
theorem both_any (w : World) (v : Value) (bs : List UInt8) (hs : BSrc w v bs) (hl : bs.length ≤ 100000) : Calls Try.prog 26 #[v] w (BothPost w bs) := by
  have hmx : Try.prog.follows .mixedOrders = true := by kernel_rfl
  obtain ⟨a, c, rfl, hlc⟩ := hs.2
  obtain ⟨b, o, hab⟩ : ∃ b o, 0 < bs.length → a = some ⟨b, o, none⟩ := by
    rcases hs.1.shape with ⟨h0, _⟩ | ⟨hp, b, o, c2, hv, hcell⟩
    · have : bs = [] := List.map_eq_nil_iff.1 h0
      exact ⟨0, 0, fun h => by rw [this] at h; simp at h⟩
    · rw [List.length_map] at hv
      cases hv
      exact ⟨b, o, fun _ => rfl⟩
  have HS := hid hs
  clear hs
  refine (callsIn_wide (n := 3)).1 ?_
  refine callsIn_of_wp_marks Try.func26 rfl trivial ?_ rfl
  simp only [Try.ntmps26, List.size_toArray, List.length_cons, List.length_nil, Nat.reduceAdd, Nat.reduceSub, Array.replicate_succ, Array.replicate_zero, List.push_toArray, List.append_toArray, List.nil_append, List.cons_append]
  gi_wp2_with (refine ⟨trivial, ?_⟩; gi_at_call 45; refine (parts_in _ a bs.length c _).mono ?_; rintro e w' ⟨rfl, rfl⟩)
  have b0 := Boxed.new w 49 (.slice none 0 0)
  have b1 := Boxed.new (w.alloc (.cells #[.slice none 0 0] 49)) 3 (.int .i64 0)
  have bN := Boxed.new ((w.alloc (.cells #[.slice none 0 0] 49)).alloc (.cells #[.int .i64 0] 3)) 23 (.slice a bs.length c)
  simp only [World.size_alloc] at b1 bN
  have hB0 : Below w.heap.size w (((w.alloc (.cells #[.slice none 0 0] 49)).alloc (.cells #[.int .i64 0] 3)).alloc (.cells #[.slice a bs.length c] 23)) := (((Below.refl _ w).alloc (Nat.le_refl _) _).alloc (by simp) _).alloc (by simp; omega) _
  refine wpIn_rangeFunc_ownG rfl (by omega) (gf := 58) (lb := #[.pointer (some ⟨w.heap.size + 1 + 1, 0, none⟩)]) rfl trivial (enters_of Try.func58 (by kernel_rfl) rfl)
    (parts_stops _ (by omega) (w.heap.size + 1 + 1) b o c bs hl a w _ HS.out hab (by simp) bN.cell hB0) KpB.t (KpB.b (by simp; omega) (by simp)) (Below.refl _ _) (fun _ => rfl)
    (fun pre W => BthI w b o bs pre W ∧ pre.length < 2) (fun c pre W => BthI w b o bs pre W ∧ pre.length = 2 ∧ c = .exit 0)
    (OwnFrom.and (bthI_own w b o bs (by simp; omega)) (ownFrom_pure _ _)) (fun c => OwnFrom.and (bthI_own w b o bs (by simp; omega)) (ownFrom_pure _ _))
    ⟨⟨⟨_, (b0.alloc _).alloc _, World.ownsRow_nil _ _ _ _⟩, b1.alloc _, hB0, by simp⟩, by simp⟩
    (fun x => { tmps := #[.slice a bs.length c, undef, .pointer (some ⟨w.heap.size, 0, none⟩), .pointer (some ⟨w.heap.size + 1, 0, none⟩), .int .i64 (x.1.2 : Int), partV b o x, .slice a bs.length c, .func (.func 58) #[] #[.pointer (some ⟨w.heap.size + 1 + 1, 0, none⟩)], .int .i64 (x.1.2 : Int), partV b o x, undef, undef, undef, undef, undef, undef, undef, undef, undef, undef], defers := [] }) ?assign ?body ?done ?stop
  case assign =>
    intro l x W K hK
    gi_wp2
    exact hK
  case body =>
    rintro q pre x W ⟨⟨⟨v, hb, hr⟩, hb1, hB, hs3⟩, hp2⟩ hlt
    obtain ⟨g, cap, w3, Hr, hb3, hb13, hend⟩ := bthI_step x hb hr hb1 hB hs3 (by omega)
    have hc0 := hb.cell
    have hc3 := hb3.cell
    have hf3 := hb3.frozen
    have hc13 := hb13.cell
    have hf13 := hb13.frozen
    obtain ⟨hko, hkp, hI, hb4⟩ := hend _ rfl
    have hc4 := hb4.cell
    have hPV : ∃ ad ln, partV b o x = .slice (some ad) ln ln := ⟨_, _, rfl⟩
    obtain ⟨ad, ln, hPV⟩ := hPV
    rw [hPV] at Hr ⊢
    obtain ⟨E, hE⟩ : ∃ E, x.1.2 = E := ⟨_, rfl⟩
    rw [hE] at hko hkp hI hc4 ⊢
    obtain ⟨M, hM⟩ : ∃ M, pre.length = M := ⟨_, rfl⟩
    rw [hM] at Hr hko hkp hI hc4 hp2
    have HM := hid hM
    have HE : Hid (KeepsOthers W ((w3.setCell ⟨w.heap.size, 0, none⟩ (.slice (some ⟨g, 0, none⟩) (M + 1) cap)).setCell ⟨w.heap.size + 1, 0, none⟩ (.int .i64 (E : Int))) ∧ KpB w.heap.size (w.heap.size + 2) W ((w3.setCell ⟨w.heap.size, 0, none⟩ (.slice (some ⟨g, 0, none⟩) (M + 1) cap)).setCell ⟨w.heap.size + 1, 0, none⟩ (.int .i64 (E : Int))) ∧ BthI w b o bs (pre ++ [x]) ((w3.setCell ⟨w.heap.size, 0, none⟩ (.slice (some ⟨g, 0, none⟩) (M + 1) cap)).setCell ⟨w.heap.size + 1, 0, none⟩ (.int .i64 (E : Int)))) := ⟨hko, hkp, hI⟩
    clear hko hkp hI hend hb hr hb1 hB hb3 hb13 hb4 hPV hE hM b0 b1 bN hB0
    have hM2 : M = 0 ∨ M = 1 := by omega
    rcases hM2 with rfl | rfl
    · gi_wp2_with (gi_at_builtin; refine wpListIn_append_run rfl _ _ _ rfl rfl rfl Hr ?_)
      exact ⟨HE.out.1.from _, HE.out.2.1, HE.out.2.2, by rw [List.length_append, HM.out]; simp⟩
    · gi_wp2_with (gi_at_builtin; refine wpListIn_append_run rfl _ _ _ rfl rfl rfl Hr ?_)
      exact ⟨HE.out.1.from _, HE.out.2.2, by rw [List.length_append, HM.out]; simp, rfl⟩
  case done =>
    rintro D pre W hD ⟨hSp, hno⟩ ⟨⟨⟨v, hb, hr⟩, hb1, hB, hs3⟩, hp2⟩ hK
    obtain ⟨M, hM⟩ : ∃ M, pre.length = M := ⟨_, rfl⟩
    rw [hM] at hr hp2
    obtain ⟨g, cap, rfl⟩ := own_slice hr
    obtain ⟨E, hE⟩ : ∃ E, endP pre = E := ⟨_, rfl⟩
    rw [hE] at hb1
    have hc0 := hb.cell
    have hf0 := hb.frozen
    have hc1 := hb1.cell
    have hf1 := hb1.frozen
    have HH : Hid (∀ a1 R1, cutR bs = some (a1, R1) → cutR R1 = none) := by
      intro a1 R1 hc
      cases pre with
      | nil =>
        rw [show endP ([] : List (PartI bs.length)) = 0 from rfl, List.drop_zero, hc] at hno
        cases hno
      | cons x r =>
        have hr0 : r = [] := List.length_eq_zero_iff.1 (by rw [List.length_cons] at hM; omega)
        subst hr0
        have h1 := hSp.1
        rw [List.drop_zero, hc] at h1
        cases h1
        exact hno
    have HD : Hid (w.heap.size + 3 ≤ D) := by simp at hD; exact hD
    clear b0 b1 bN hB0 hSp hno hM
    gi_wp2
    refine wpIn_wide.2 ?_
    go_region
    obtain ⟨W8, e8⟩ : ∃ W8, ((W.setCell ⟨w.heap.size, 0, none⟩ (.slice g M cap)).setCell ⟨w.heap.size + 1, 0, none⟩ (.int .i64 (E : Int))).drew = W8 := ⟨_, rfl⟩
    obtain ⟨hK8, hkept, x0, x1, hrow⟩ := both_end e8.symm hb hb1 hr hB hs3 HD.out hK
    rw [e8]
    clear hb hb1 hr hK e8
    gi_wp2
    refine ⟨by simp, .inl ⟨_, _, rfl, run_takeDeferred hK8, ?_⟩⟩
    refine ⟨.tuple #[.slice g M cap, .int .i64 (E : Int)], by simp [results, Try.results26, go_sem, x0, x1], ?_⟩
    exact ⟨hkept, _, _, _, _, rfl, .inl ⟨hp2, HH.out⟩⟩
  case stop =>
    rintro D c pre W hD hSp ⟨⟨⟨v, hb, hr⟩, hb1, hB, hs3⟩, hp2, rfl⟩ hK
    rw [hp2] at hr
    obtain ⟨g, cap, rfl⟩ := own_some hr (by omega)
    obtain ⟨E, hE⟩ : ∃ E, endP pre = E := ⟨_, rfl⟩
    rw [hE] at hb1
    have hc0 := hb.cell
    have hf0 := hb.frozen
    have hc1 := hb1.cell
    have hf1 := hb1.frozen
    obtain ⟨x, y, hxy⟩ : ∃ x y, pre = [x, y] := by
      match pre, hp2 with
      | [x, y], _ => exact ⟨x, y, rfl⟩
    subst hxy
    have HD : Hid (w.heap.size + 3 ≤ D) := by simp at hD; exact hD
    obtain ⟨h1, hx0, h2, hxy, _⟩ := hSp
    rw [List.drop_zero] at h1
    have hx := x.2
    have hy := y.2
    have hE' : y.1.2 = E := hE
    obtain rfl := hab (by omega)
    have HX : Hid (cutR bs = some (partB bs x, bs.drop x.1.2) ∧ cutR (bs.drop x.1.2) = some (partB bs y, bs.drop y.1.2)) := ⟨h1, h2⟩
    have HR := hid hr
    clear b0 b1 bN hB0 h1 h2 hr
    gi_wp2
    refine wpIn_wide.2 ?_
    go_region
    obtain ⟨W8, e8⟩ : ∃ W8, ((W.setCell ⟨w.heap.size, 0, none⟩ (.slice (some ⟨g, 0, none⟩) 2 cap)).setCell ⟨w.heap.size + 1, 0, none⟩ (.int .i64 (E : Int))).drew = W8 := ⟨_, rfl⟩
    obtain ⟨hK8, hkept, x0, x1, hrow⟩ := both_end e8.symm hb hb1 HR.out hB hs3 HD.out hK
    rw [e8]
    clear hb hb1 hK e8
    gi_wp2
    refine ⟨by simp, .inl ⟨_, _, rfl, run_takeDeferred hK8, ?_⟩⟩
    refine ⟨.tuple #[.slice (some ⟨g, 0, none⟩) 2 cap, .int .i64 (E : Int)], by simp [results, Try.results26, go_sem, x0, x1], ?_⟩
    refine ⟨hkept, _, _, _, _, rfl, .inr ⟨_, _, _, _, g, partV b o x, partV b o y, HX.out.1, HX.out.2, by rw [List.length_drop]; omega, by rw [partB_len]; omega, by rw [partB_len]; omega, rfl, rfl, hrow.cellAt 0 (by omega), hrow.cellAt 1 (by omega), part_bsrc (HS.out.stay hkept) x, part_bsrc (HS.out.stay hkept) y, ?_⟩⟩
    rw [List.length_drop]
    omega
end Go.Proofs.Ytbhpmeeknbbmmaa.C
