/-
  Package frame: Get.
-/
import Derived.Test.YtjohnomlhcncnaaDoorGall
namespace Go.Proofs.YtjohnomlhcncnaaDoor.G
open Go.RowKit Go.Proofs.Lys Go.Shelf
set_option linter.unusedVariables false
attribute [local go_sem] Oper.semAt_some

/-- The four results, as they lie. -/
structure Res (W : World) (n : Nat) (k : Int) (u : Value) (e x : Int) : Prop where
  k : Boxed W n 3 (.int .i64 k)
  u : Boxed W (n + 1) 22 u
  e : Boxed W (n + 1 + 1) 3 (.int .i64 e)
  x : Boxed W (n + 1 + 1 + 1) 26 (.int .i64 x)
theorem Res.cells {W W' : World} {row : Option Nat} (hg : W.grownBy W' row) (hr : ∀ r, row = some r → ∃ o : Obj, W.heap[r]? = some o ∧ o.isCells = false) {n : Nat} {k : Int} {u : Value} {e x : Int} (h : Res W n k u e x) : Res W' n k u e x :=
  ⟨(grown_cells hg hr ⟨_, _, h.k⟩).trans h.k, (grown_cells hg hr ⟨_, _, h.u⟩).trans h.u, (grown_cells hg hr ⟨_, _, h.e⟩).trans h.e, (grown_cells hg hr ⟨_, _, h.x⟩).trans h.x⟩
theorem Res.kept {W W' : World} {n : Nat} {k : Int} {u : Value} {e x : Int} (h : Res W n k u e x) (hk : Kept W W') : Res W' n k u e x := h.cells (kept_grown hk) (fun r e => by cases e)
/-- The results written. -/
def put4 (W : World) (n : Nat) (k : Int) (u : Value) (e x : Int) : World :=
  (((W.setCell ⟨n, 0, none⟩ (.int .i64 k)).setCell ⟨n + 1, 0, none⟩ u).setCell ⟨n + 1 + 1, 0, none⟩ (.int .i64 e)).setCell ⟨n + 1 + 1 + 1, 0, none⟩ (.int .i64 x)
theorem Res.put {W : World} {n : Nat} {k : Int} {u : Value} {e x : Int} (h : Res W n k u e x) (k' : Int) (u' : Value) (e' x' : Int) : Res (put4 W n k' u' e' x') n k' u' e' x' ∧ Only (fun j => n ≤ j ∧ j < n + 4) W (put4 W n k' u' e' x') := by
  refine ⟨⟨?_, ?_, ?_, ?_⟩, ?_⟩
  · exact (((h.k.set _).other (by omega) _).other (by omega) _).other (by omega) _
  · exact (((h.u.other (by omega) _).set _).other (by omega) _).other (by omega) _
  · exact (((h.e.other (by omega) _).other (by omega) _).set _).other (by omega) _
  · exact (((h.x.other (by omega) _).other (by omega) _).other (by omega) _).set _
  · exact ((((Only.refl (fun j => n ≤ j ∧ j < n + 4) W).setCell (p := ⟨n, 0, none⟩) (fun _ => ⟨Nat.le_refl _, by show n < n + 4; omega⟩) _).setCell (p := ⟨n + 1, 0, none⟩) (fun _ => ⟨by show n ≤ n + 1; omega, by show n + 1 < n + 4; omega⟩) _).setCell (p := ⟨n + 1 + 1, 0, none⟩) (fun _ => ⟨by show n ≤ n + 1 + 1; omega, by show n + 1 + 1 < n + 4; omega⟩) _).setCell (p := ⟨n + 1 + 1 + 1, 0, none⟩) (fun _ => ⟨by show n ≤ n + 1 + 1 + 1; omega, by show n + 1 + 1 + 1 < n + 4; omega⟩) _
theorem put_typed {W : World} {n : Nat} {k : Int} {u : Value} {e x : Int} (h : Res W n k u e x) {j : Nat} (hj : n ≤ j ∧ j < n + 4) : ∃ T, Typed W j T := by
  have h4 : j = n ∨ j = n + 1 ∨ j = n + 1 + 1 ∨ j = n + 1 + 1 + 1 := by omega
  rcases h4 with rfl | rfl | rfl | rfl
  · exact ⟨_, _, _, h.k⟩
  · exact ⟨_, _, _, h.u⟩
  · exact ⟨_, _, _, h.e⟩
  · exact ⟨_, _, _, h.x⟩

def GetI (w : World) (bs : List UInt8) (pre : List (FrmI bs.length)) (W : World) : Prop :=
  pre = [] ∧ Res W w.heap.size 0 (.slice none 0 0) 0 0 ∧ Below w.heap.size w W ∧ w.heap.size + 5 ≤ W.heap.size
theorem getI_own (w : World) (bs : List UInt8) {B : Nat} (hB : w.heap.size ≤ B) : OwnFrom B (GetI w bs) :=
  OwnFrom.and (ownFrom_pure _ _) (OwnFrom.and (Own.from (fun s X Y row h hg hr => h.cells hg hr) _) (OwnFrom.and (ownFrom_below (Nat.le_refl _) hB) (fun _ _ _ _ hs hg _ => Nat.le_trans hs hg.size)))
def GetX (w : World) (bs : List UInt8) (c : Code) (pre : List (FrmI bs.length)) (W : World) : Prop :=
  (c = .ret) ∧ (∃ x u, pre = [x] ∧ Res W w.heap.size (frmK bs x) u ((x.1.1 + (9 + x.1.2) : Nat) : Int) 0 ∧ W.ownsRow (w.heap.size + 5) 5 1 u (frmB bs x).length ((frmB bs x).map bV)) ∧ Below w.heap.size w W ∧ w.heap.size + 5 ≤ W.heap.size
theorem getX_own (w : World) (bs : List UInt8) (c : Code) {B : Nat} (hB : w.heap.size ≤ B) : OwnFrom B (GetX w bs c) :=
  OwnFrom.and (ownFrom_pure _ (fun _ => c = .ret)) (OwnFrom.and (Own.from (fun s X Y row ⟨x, u, e, h, ho⟩ hg hr => ⟨x, u, e, h.cells hg hr, row_cells hg hr ho⟩) _) (OwnFrom.and (ownFrom_below (Nat.le_refl _) hB) (fun _ _ _ _ hs hg _ => Nat.le_trans hs hg.size)))

set_option maxRecDepth 100000 in
set_option maxHeartbeats 3200000 in
theorem get_any (w : World) (v : Value) (bs : List UInt8) (hs : BSrc w v bs) (hl : bs.length ≤ 400000) (hT : Tab w) :
    Calls Tryd.prog 14 #[v] w (GetPost w bs) := by
  have hmx : Tryd.prog.follows .mixedOrders = true := by kernel_rfl
  obtain ⟨a, c, rfl, hlc⟩ := hs.2
  obtain ⟨b, o, hab⟩ : ∃ b o, 0 < bs.length → a = some ⟨b, o, none⟩ := by
    rcases hs.1.shape with ⟨h0, _⟩ | ⟨hp, b, o, c2, hv, hcell⟩
    · have : bs = [] := List.map_eq_nil_iff.1 h0
      exact ⟨0, 0, fun h => by rw [this] at h; simp at h⟩
    · rw [List.length_map] at hv
      cases hv
      exact ⟨b, o, fun _ => rfl⟩
  have HS := hid hs
  clear hs
  refine (callsIn_wide (n := 3)).1 ?_
  refine callsIn_of_wp_marks Tryd.func14 rfl trivial ?_ rfl
  simp only [Tryd.ntmps14, List.size_toArray, List.length_cons, List.length_nil, Nat.reduceAdd, Nat.reduceSub, Array.replicate_succ, Array.replicate_zero, List.push_toArray, List.append_toArray, List.nil_append, List.cons_append]
  gi_wp2_with (refine ⟨trivial, ?_⟩; gi_at_call 21; refine (frames_in _ a bs.length c _).mono ?_; rintro e w' ⟨rfl, rfl⟩)
  obtain ⟨w4, e4⟩ : ∃ w4, (((w.alloc (.cells #[.int .i64 0] 3)).alloc (.cells #[.slice none 0 0] 22)).alloc (.cells #[.int .i64 0] 3)).alloc (.cells #[.int .i64 0] 26) = w4 := ⟨_, rfl⟩
  have hz4 : w4.heap.size = w.heap.size + 1 + 1 + 1 + 1 := by rw [← e4]; simp
  have hres : Res w4 w.heap.size 0 (.slice none 0 0) 0 0 := by
    have b0 := Boxed.new w 3 (.int .i64 0)
    have b1 := Boxed.new (w.alloc (.cells #[.int .i64 0] 3)) 22 (.slice none 0 0)
    have b2 := Boxed.new ((w.alloc (.cells #[.int .i64 0] 3)).alloc (.cells #[.slice none 0 0] 22)) 3 (.int .i64 0)
    have b3 := Boxed.new (((w.alloc (.cells #[.int .i64 0] 3)).alloc (.cells #[.slice none 0 0] 22)).alloc (.cells #[.int .i64 0] 3)) 26 (.int .i64 0)
    simp only [World.size_alloc] at b1 b2 b3
    rw [← e4]
    exact ⟨((b0.alloc _).alloc _).alloc _, (b1.alloc _).alloc _, b2.alloc _, b3⟩
  have hB4 : Below w.heap.size w w4 := by
    rw [← e4]
    exact ((((Below.refl _ w).alloc (Nat.le_refl _) _).alloc (by simp) _).alloc (by simp; omega) _).alloc (by simp; omega) _
  rw [e4]
  clear e4
  have bN := Boxed.new w4 22 (.slice a bs.length c)
  rw [hz4] at bN
  have hB0 : Below w.heap.size w (w4.alloc (.cells #[.slice a bs.length c] 22)) := hB4.alloc (by omega) _
  have hz5 : (w4.alloc (.cells #[.slice a bs.length c] 22)).heap.size = w.heap.size + 1 + 1 + 1 + 1 + 1 := by rw [World.size_alloc, hz4]
  refine wpIn_rangeFunc_ownH rfl (by omega) (gf := 23) (lb := #[.pointer (some ⟨w.heap.size + 1 + 1 + 1 + 1, 0, none⟩)]) rfl trivial (enters_of Tryd.func23 (by kernel_rfl) rfl)
    (frames_stops _ (by omega) (w.heap.size + 1 + 1 + 1 + 1) b o c bs hl a w _ HS.out hT hab (by omega) bN.cell hB0) KpB.t (KpB.b (by omega) (by omega)) (Below.refl _ _) (fun _ => rfl)
    (GetI w bs) (GetX w bs) (getI_own w bs (by omega)) (fun c => getX_own w bs c (by omega))
    ⟨rfl, hres.kept ((Only.refl _ w4).alloc _), hB0, by omega⟩
    (fun x a' W => ∃ B, w.heap.size + 5 ≤ B ∧ Blk W B [.int .i64 (frmK bs x : Int), frmV b o c x] 41 ∧ a' = { tmps := #[.slice a bs.length c, undef, .pointer (some ⟨w.heap.size, 0, none⟩), .pointer (some ⟨w.heap.size + 1, 0, none⟩), .pointer (some ⟨w.heap.size + 1 + 1, 0, none⟩), .pointer (some ⟨w.heap.size + 1 + 1 + 1, 0, none⟩), .int .i64 ((x.1.1 + (9 + x.1.2) : Nat) : Int), .pointer (some ⟨B, 0, none⟩), .slice a bs.length c, .func (.func 23) #[] #[.pointer (some ⟨w.heap.size + 1 + 1 + 1 + 1, 0, none⟩)], .int .i64 ((x.1.1 + (9 + x.1.2) : Nat) : Int), .agg #[.int .i64 (frmK bs x : Int), frmV b o c x], undef, undef, undef, undef, undef, undef], defers := [] })
    (fun x a' => fun _ X Y row ⟨B, h1, h2, h3⟩ hg hr => ⟨B, h1, h2.of_block (grown_cells hg (fun r e => (hr r e).2) h2.typed), h3⟩) ?assign ?body ?done ?stop
  case assign =>
    intro l pre x W K hI hK
    obtain ⟨E, hE⟩ : ∃ E : Nat, x.1.1 + (9 + x.1.2) = E := ⟨_, rfl⟩
    obtain ⟨ka, kn, kc, hfv⟩ : ∃ ka kn kc, frmV b o c x = .slice (some ka) kn kc := ⟨_, _, _, rfl⟩
    obtain ⟨KK, hKK⟩ : ∃ KK, frmK bs x = KK := ⟨_, rfl⟩
    rw [hE, hfv, hKK] at hK ⊢
    clear bN hB0 hres hB4 hz4
    gi_wp2
    have hk1 : Kept W (W.alloc (.cells #[.int .i64 (KK : Int), .slice (some ka) kn kc] 41)) := (Only.refl _ W).alloc _
    have hsz := hI.2.2.2
    refine hK _ _ ((hk1.others (fun _ f => f.elim)).from _) ⟨hk1.toBelow (fun _ f => f.elim) (by omega), hk1.block _ (by omega) (fun f => f)⟩ (getI_own w bs (Nat.le_refl _) pre W _ none hI (kept_grown hk1) (fun r e => by cases e)) ⟨W.heap.size, hsz, Blk.new W _ _, rfl⟩
  case body =>
    rintro q pre x a' W hq hrec ⟨rfl, hRes, hBel, hs5⟩ ⟨B, hB5, hBk, rfl⟩ hlt
    have hx := x.2
    obtain rfl := hab (by omega)
    have hcl := clone_any W.drew (frmV b o c x) (frmB bs x) ((frm_bsrc (HS.out.stay (Only.below hBel)) x).stay (Only.refl _ W).drew).1 (by rw [frmB_len]; omega)
    have r0 := hBk.cell 0 rfl
    have r1 := hBk.cell 1 rfl
    have hBlt := hBk.lt
    have HBk := hid hBk
    have HRes := hid hRes
    have HBel := hid hBel
    obtain ⟨E, hE⟩ : ∃ E : Nat, x.1.1 + (9 + x.1.2) = E := ⟨_, rfl⟩
    obtain ⟨ka, kn, kc, hfv⟩ : ∃ ka kn kc, frmV b o c x = .slice (some ka) kn kc := ⟨_, _, _, rfl⟩
    obtain ⟨KK, hKK⟩ : ∃ KK, frmK bs x = KK := ⟨_, rfl⟩
    rw [hfv] at hcl r1 HBk ⊢
    rw [hKK] at r0 HBk ⊢
    rw [hE]
    have HE := hid hE
    have HKK := hid hKK
    clear bN hB0 hres hB4 hab hRes hBel hE hKK hfv hBk
    gi_wp2
    refine region_round (L := 9) (S := fun w' => w'.cell? ⟨B, 0, none⟩ = some (.int .i64 (KK : Int)) ∧ w'.cell? ⟨B, 1, none⟩ = some (.slice (some ka) kn kc)) hmx (by rintro ⟨_, _, h⟩; exact h) (by kernel_rfl) ?_
    have hS : (fun w' : World => w'.cell? ⟨B, 0, none⟩ = some (.int .i64 (KK : Int)) ∧ w'.cell? ⟨B, 1, none⟩ = some (.slice (some ka) kn kc)) W.drew := ⟨r0, r1⟩
    refine wpAnyL_take (i := 0) (v := .pointer (some ⟨B, 0, none⟩)) rfl (by kernel_rfl) (by kernel_rfl) (by kernel_rfl) (by kernel_rfl) (by kernel_rfl) (fun _ _ _ h => h) (Or.inl ⟨by rfl, ?_⟩) hS ?_
    · (intro w' hSw; go_simp)
    go_frame
    refine wpAnyL_take (i := 1) (v := .int .i64 (KK : Int)) rfl (by kernel_rfl) (by kernel_rfl) (by kernel_rfl) (by kernel_rfl) (by kernel_rfl) (fun _ _ _ h => h) (Or.inl ⟨by rfl, ?_⟩) hS ?_
    · (intro w' hSw; go_simp)
    go_frame
    refine wpAnyL_take (i := 2) (v := .pointer (some ⟨B, 1, none⟩)) rfl (by kernel_rfl) (by kernel_rfl) (by kernel_rfl) (by kernel_rfl) (by kernel_rfl) (fun _ _ _ h => h) (Or.inl ⟨by rfl, ?_⟩) hS ?_
    · (intro w' hSw; go_simp)
    go_frame
    refine wpAnyL_take (i := 3) (v := .slice (some ka) kn kc) rfl (by kernel_rfl) (by kernel_rfl) (by kernel_rfl) (by kernel_rfl) (by kernel_rfl) (fun _ _ _ h => h) (Or.inl ⟨by rfl, ?_⟩) hS ?_
    · (intro w' hSw; go_simp)
    go_frame
    refine wpAnyL_take (i := 5) (v := .int .i64 (E : Int)) rfl (by kernel_rfl) (by kernel_rfl) (by kernel_rfl) (by kernel_rfl) (by kernel_rfl) (fun _ _ _ h => h) (Or.inl ⟨by rfl, ?_⟩) hS ?_
    · (intro w' hSw; go_simp)
    go_frame
    refine wpAnyL_one (i := 4) (by kernel_rfl) rfl rfl ?_
    go_simp
    refine hcl.mono ?_
    rintro e w2 ⟨u, rfl, hu, k2⟩
    have hk2 : Kept W w2 := (Only.refl (fun _ => False) W).drew.trans k2 (fun _ _ f => f)
    have hR2 := HRes.out.kept hk2
    obtain ⟨ua, uc, hue⟩ := own_slice hu
    subst hue
    obtain ⟨U, hU⟩ : ∃ U, (frmB bs x).length = U := ⟨_, rfl⟩
    obtain ⟨hR6, hO6⟩ := hR2.put (KK : Int) (.slice ua U uc) (E : Int) 0
    have hO : Only (fun j => w.heap.size ≤ j ∧ j < w.heap.size + 4) W (put4 w2 w.heap.size (KK : Int) (.slice ua U uc) (E : Int) 0) := (hk2.mono (O' := fun j => w.heap.size ≤ j ∧ j < w.heap.size + 4) (fun _ _ f => f.elim)).trans hO6 (fun _ _ h => h)
    have HF : Hid (KeepsOthers W (put4 w2 w.heap.size (KK : Int) (.slice ua U uc) (E : Int) 0) ∧ GetX w bs .ret ([] ++ [x]) (put4 w2 w.heap.size (KK : Int) (.slice ua U uc) (E : Int) 0)) := by
      refine ⟨hO.others (fun k hk hlt => put_typed HRes.out hk), rfl, ⟨x, .slice ua U uc, rfl, ?_, ?_⟩, HBel.out.trans (hO.toBelow (fun k hk => hk.1) (by omega)), Nat.le_trans hs5 hO.size⟩
      · rw [HKK.out, HE.out]
        exact hR6
      · rw [hU] at hu ⊢
        exact own_base (own_only hu hO6 (fun j hj e => by have := (hu.lt j hj).1; have h2 : W.drew.heap.size = W.heap.size := rfl; omega)) (by have h2 : W.drew.heap.size = W.heap.size := rfl; omega)
    unfold put4 at HF
    rw [hU]
    have s2 : w2.cell? ⟨B, 0, none⟩ = some (.int .i64 (KK : Int)) ∧ w2.cell? ⟨B, 1, none⟩ = some (.slice (some ka) kn kc) := ⟨kept_cell hk2 r0, kept_cell hk2 r1⟩
    have d0 : ∀ (X : World) (p : Nat) (y : Value), p < w.heap.size + 4 → X.cell? ⟨B, 0, none⟩ = some (.int .i64 (KK : Int)) ∧ X.cell? ⟨B, 1, none⟩ = some (.slice (some ka) kn kc) → (X.setCell ⟨p, 0, none⟩ y).cell? ⟨B, 0, none⟩ = some (.int .i64 (KK : Int)) ∧ (X.setCell ⟨p, 0, none⟩ y).cell? ⟨B, 1, none⟩ = some (.slice (some ka) kn kc) := by
      intro X p y hp hX
      have hne : B ≠ p := by omega
      refine ⟨?_, ?_⟩
      · rw [World.cell?_of_block (w := X) (a := ⟨B, 0, none⟩) (Below.heap_setCell X ⟨p, 0, none⟩ y B hne)]; exact hX.1
      · rw [World.cell?_of_block (w := X) (a := ⟨B, 1, none⟩) (Below.heap_setCell X ⟨p, 0, none⟩ y B hne)]; exact hX.2
    have c0 := hR2.k.cell
    have f0 := hR2.k.frozen
    have c1 := hR2.u.cell
    have f1 := hR2.u.frozen
    have c2 := hR2.e.cell
    have f2 := hR2.e.frozen
    have c3 := hR2.x.cell
    have f3 := hR2.x.frozen
    have D0 := hid d0
    clear hcl hu k2 hk2 hR2 hR6 hO6 hO hU d0
    refine ⟨s2, ?_⟩
    refine wpAnyL_one (i := 6) (by kernel_rfl) rfl rfl ?_
    go_simp
    refine wpAnyL_one (i := 7) (by kernel_rfl) rfl rfl ?_
    go_simp
    refine wpAnyL_one (i := 8) (by kernel_rfl) rfl rfl ?_
    go_simp
    refine wpAnyL_last (by kernel_rfl) (by kernel_rfl) rfl rfl ?_
    go_simp
    gi_wp2
    exact ⟨HF.out.1.from _, HF.out.2⟩
  case done =>
    rintro D ys W hD ⟨hC, hno⟩ ⟨rfl, hRes, hBel, hs5⟩ hK
    have hN : Hid (readF bs = none) := by
      have h := hno
      rw [show endI ([] : List (FrmI bs.length)) = 0 from rfl, List.drop_zero] at h
      exact h
    obtain ⟨hR6, hO6⟩ := hRes.put 0 (.slice none 0 0) 0 5
    have hD5 : w.heap.size + 5 ≤ D := by rw [hz5] at hD; omega
    have hK6 : (put4 W w.heap.size 0 (.slice none 0 0) 0 5).heap[D]? = some (.deferred (some [])) := (hO6.block D (Array.getElem?_eq_some_iff.1 hK).1 (fun e => by omega)).trans hK
    have hR7 : Res ((put4 W w.heap.size 0 (.slice none 0 0) 0 5).putObj D (.deferred none)) w.heap.size 0 (.slice none 0 0) 0 5 :=
      hR6.cells (grownBy_putObj' _ D (.deferred none)) (fun r e => by cases e; exact ⟨_, hK6, rfl⟩)
    have HF : Hid (Kept w ((put4 W w.heap.size 0 (.slice none 0 0) 0 5).putObj D (.deferred none))) :=
      Only.below ((hBel.trans (hO6.toBelow (fun k hk => hk.1) (by omega))).trans (belowK_b (w := w) (Nat.le_refl _) _ D _ _ (by omega) hK6 rfl rfl))
    have c0 := hRes.k.cell
    have f0 := hRes.k.frozen
    have c1 := hRes.u.cell
    have f1 := hRes.u.frozen
    have c2 := hRes.e.cell
    have f2 := hRes.e.frozen
    have c3 := hRes.x.cell
    have f3 := hRes.x.frozen
    have x0 := hR7.k.cell
    have x1 := hR7.u.cell
    have x2 := hR7.e.cell
    have x3 := hR7.x.cell
    unfold put4 at hK6 x0 x1 x2 x3 HF
    clear bN hB0 hres hB4 hC hno hR6 hO6 hR7
    gi_wp2
    refine ⟨by simp, .inl ⟨_, _, rfl, run_takeDeferred hK6, ?_⟩⟩
    refine ⟨.tuple #[.int .i64 0, .slice none 0 0, .int .i64 0, .int .i64 5], by simp [results, Tryd.results14, go_sem, x0, x1, x2, x3], ?_⟩
    exact GetPost.none HF.out hN.out
  case stop =>
    rintro D c pre W hD hSp ⟨rfl, ⟨x, u, rfl, hRes, ho⟩, hBel, hs5⟩ hK
    have hD5 : w.heap.size + 5 ≤ D := by rw [hz5] at hD; omega
    have hR7 : Res (W.putObj D (.deferred none)) w.heap.size (frmK bs x) u ((x.1.1 + (9 + x.1.2) : Nat) : Int) 0 :=
      hRes.cells (grownBy_putObj' _ D (.deferred none)) (fun r e => by cases e; exact ⟨_, hK, rfl⟩)
    have ho7 := own_base (row_cells (grownBy_putObj' W D (.deferred none)) (fun r e => by cases e; exact ⟨_, hK, rfl⟩) ho) (show w.heap.size ≤ w.heap.size + 5 by omega)
    have HF : Hid (Kept w (W.putObj D (.deferred none))) :=
      Only.below (hBel.trans (belowK_b (w := w) (Nat.le_refl _) _ D _ _ (by omega) hK rfl rfl))
    have HR : Hid (x.1.1 = 0 ∧ readF bs = some (frmK bs x, frmB bs x, 9 + x.1.2)) := by
      have h1 := hSp.1.1
      have h2 := hSp.2
      rw [List.drop_zero] at h1
      have h3 : (recI bs x).2.length = x.1.2 := frmB_len bs x
      rw [h3] at h1
      refine ⟨?_, h1⟩
      have h4 : endF 0 ([x].map (recI bs)) = 0 + (9 + (recI bs x).2.length) := rfl
      rw [h4, h3, show endI [x] = x.1.1 + (9 + x.1.2) from rfl] at h2
      omega
    have x0 := hR7.k.cell
    have x1 := hR7.u.cell
    have x2 := hR7.e.cell
    have x3 := hR7.x.cell
    clear bN hB0 hres hB4 hRes hBel
    gi_wp2
    refine ⟨by simp, .inl ⟨_, _, rfl, run_takeDeferred hK, ?_⟩⟩
    refine ⟨.tuple #[.int .i64 (frmK bs x : Int), u, .int .i64 ((x.1.1 + (9 + x.1.2) : Nat) : Int), .int .i64 0], by simp [results, Tryd.results14, go_sem, x0, x1, x2, x3], ?_⟩
    refine ⟨HF.out, _, u, frmB bs x, _, _, rfl, .inr ⟨_, _, _, HR.out.2, rfl, rfl, ?_, rfl⟩, ho7⟩
    rw [HR.out.1, Nat.zero_add]
end Go.Proofs.YtjohnomlhcncnaaDoor.G
