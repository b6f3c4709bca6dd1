/-
  Package rollup: hand, which hands on each bucket, moved to its multiple, to a row.
-/
import Derived.Test.YtjjmidooikgaaaaYseq
namespace Go.Proofs.Ytjjmidooikgaaaa.Ru
open Go Go.RowKit Go.Proofs.Lys Go.Shelf
set_option linter.unusedVariables false
set_option linter.unusedSimpArgs false
attribute [local go_sem] Oper.semAt_some

/-- What is ahead of all times. -/
abbrev T0 : Int := -9007199254740993
def joinV (P : Nat) : Value := .func (.func 25) #[.pointer (some ⟨P, 0, none⟩)] #[]
/-- The boxes of hand. -/
structure HBox (W : World) (N : Nat) (x : Int) (P : Nat) (a : Int) : Prop where
  wi : Blk W N [.int .i64 x] 3
  jo : Blk W (N + 1) [joinV P] 59
  re : Blk W (N + 1 + 1) [.int .i64 0] 25
  er : Blk W (N + 1 + 1 + 1) [.int .i64 0] 25
  ah : Blk W (N + 1 + 1 + 1 + 1) [.int .i64 a] 3
theorem HBox.only {W W' : World} {N : Nat} {x : Int} {P : Nat} {a : Int} {O : Nat → Prop} (h : HBox W N x P a) (k : Only O W W') (hO : ∀ i, i < 5 → ¬ O (N + i)) : HBox W' N x P a :=
  ⟨Only.blk k h.wi (hO 0 (by omega)), Only.blk k h.jo (hO 1 (by omega)), Only.blk k h.re (hO 2 (by omega)), Only.blk k h.er (hO 3 (by omega)), Only.blk k h.ah (hO 4 (by omega))⟩
theorem blk_cells {w w' : World} {row : Option Nat} (hg : w.grownBy w' row) (hr : ∀ r, row = some r → ∃ o : Obj, w.heap[r]? = some o ∧ o.isCells = false) {b : Nat} {vs : List Value} {T : TypeId} (h : Blk w b vs T) : Blk w' b vs T :=
  h.of_block (grown_cells hg hr h.typed)
theorem HBox.cells {w w' : World} {row : Option Nat} (hg : w.grownBy w' row) (hr : ∀ r, row = some r → ∃ o : Obj, w.heap[r]? = some o ∧ o.isCells = false) {N : Nat} {x : Int} {P : Nat} {a : Int} (h : HBox w N x P a) : HBox w' N x P a :=
  ⟨blk_cells hg hr h.wi, blk_cells hg hr h.jo, blk_cells hg hr h.re, blk_cells hg hr h.er, blk_cells hg hr h.ah⟩
/-- The row. -/
def RowA (W : World) (P B : Nat) (l : Bks) : Prop := ∃ v, Blk W P [v] 57 ∧ BkAt W B v l
theorem RowA.cells {w w' : World} {row : Option Nat} (hg : w.grownBy w' row) (hr : ∀ r, row = some r → ∃ o : Obj, w.heap[r]? = some o ∧ o.isCells = false) {P B : Nat} {l : Bks} (h : RowA w P B l) : RowA w' P B l := by
  obtain ⟨v, h1, h2⟩ := h
  exact ⟨v, blk_cells hg hr h1, row_cells hg hr h2⟩
theorem ownFrom_only {β : Type} {O : Nat → Prop} {w : World} {B : Nat} (hB : w.heap.size ≤ B) : OwnFrom B (fun (_ : β) W => Only O w W) := fun s W W' row hs hg hr =>
  hs.grown hg (fun k hk hlt => by have := (hr k hk).1; omega)
/-- What stands between two rounds. -/
def HandI {M : Nat} (w : World) (x : Int) (P : Nat) (pre : List (BkX M)) (W : World) : Prop :=
  okT T0 (xs_ pre) ∧ HBox W w.heap.size x P (ahd T0 (xs_ pre)) ∧ RowA W P (w.heap.size + 5) (gat x (xs_ pre)) ∧ Only (fun j => j = P) w W ∧ w.heap.size + 5 ≤ W.heap.size
def HandX {M : Nat} (w : World) (P : Nat) (c : Code) (pre : List (BkX M)) (W : World) : Prop :=
  (c = .ret ∧ ¬ okT T0 (xs_ pre)) ∧ Blk W (w.heap.size + 1 + 1) [.int .i64 21] 25 ∧ Only (fun j => j = P) w W ∧ w.heap.size + 5 ≤ W.heap.size
theorem handI_own {M : Nat} (w : World) (x : Int) (P : Nat) {B : Nat} (hB : w.heap.size ≤ B) : OwnFrom B (HandI (M := M) w x P) :=
  OwnFrom.and (ownFrom_pure _ _) (OwnFrom.and (Own.from (fun s X Y row h hg hr => h.cells hg hr) _) (OwnFrom.and (Own.from (fun s X Y row h hg hr => h.cells hg hr) _)
    (OwnFrom.and (ownFrom_only hB) (fun _ _ _ _ hs hg _ => Nat.le_trans hs hg.size))))
theorem handX_own {M : Nat} (w : World) (P : Nat) (c : Code) {B : Nat} (hB : w.heap.size ≤ B) : OwnFrom B (HandX (M := M) w P c) :=
  OwnFrom.and (ownFrom_pure _ _) (OwnFrom.and (Own.from (fun s X Y row h hg hr => blk_cells hg hr h) _) (OwnFrom.and (ownFrom_only hB) (fun _ _ _ _ hs hg _ => Nat.le_trans hs hg.size)))
theorem gatA_ok (x : Int) (M : Nat) : ∀ (l acc : Bks) (m : Nat), (∀ b ∈ acc, BkOk m b) → (∀ b ∈ l, BkOk M b) → ∀ b ∈ gatA x acc l, BkOk (m + M * l.length) b := by
  intro l
  induction l with
  | nil => intro acc m h _ b hb; exact (h b hb).mono (by omega)
  | cons y r ih =>
    intro acc m h hl b hb
    have h1 := ih (push acc (mv x y)) (m + M) (push_ok h ((hl y List.mem_cons_self).mv x)) (fun z hz => hl z (List.mem_cons_of_mem _ hz)) b hb
    exact h1.mono (by rw [List.length_cons, Nat.mul_succ]; omega)
theorem gat_ok (x : Int) (M : Nat) (l : Bks) (hl : ∀ b ∈ l, BkOk M b) : ∀ b ∈ gat x l, BkOk (M * l.length) b := fun b hb => by
  have h := gatA_ok x M l [] 0 (fun b hb => by cases hb) hl b hb
  rw [Nat.zero_add] at h
  exact h
theorem xs_ok {M : Nat} (l : List (BkX M)) : ∀ b ∈ xs_ l, BkOk M b := by
  intro b hb
  obtain ⟨x, _, rfl⟩ := List.mem_map.1 hb
  exact x.2
theorem xs_len {M : Nat} (l : List (BkX M)) : (xs_ l).length = l.length := List.length_map _
theorem rowj_any (W : World) (P B : Nat) (v : Value) (acc : Bks) (b : Bk) (m k : Nat) (hP : Blk W P [v] 57) (hR : BkAt W B v acc) (hB : B ≤ W.heap.size) (hPB : P < B) (hl : acc.length ≤ 90000) (hacc : ∀ y ∈ acc, BkOk m y) (hb : BkOk k b) (hmk : m + k ≤ 1000000000) :
    Calls Try.prog 25 #[.pointer (some ⟨P, 0, none⟩), bkV b] W (RowP W P B v (push acc b)) := by
  rcases List.eq_nil_or_concat acc with rfl | ⟨t, y, e⟩
  · exact row_nil W P B v b hP hR hB hPB
  · rw [List.concat_eq_append] at e
    subst e
    exact row_snoc W P B v t y b hP hR hB hPB (by simp at hl; omega) m k (hacc y (by simp)) hb hmk

/-- What hand leaves. -/
def HandP (w : World) (x : Int) (P : Nat) (bl : Bks) (e : Ending) (w' : World) : Prop :=
  Only (fun j => j = P) w w' ∧ (((x < 1 ∨ 9007199254740992 < x) ∧ e = .returned (.int .i64 1)) ∨
    (1 ≤ x ∧ x ≤ 9007199254740992 ∧ ¬ okT T0 bl ∧ e = .returned (.int .i64 21)) ∨
    (1 ≤ x ∧ x ≤ 9007199254740992 ∧ okT T0 bl ∧ e = .returned (.int .i64 0) ∧ RowA w' P w.heap.size (gat x bl)))

set_option maxRecDepth 100000 in
set_option maxHeartbeats 3200000 in
theorem hand_any (M : Nat) (W0 w : World) (gf : Nat) (lb : Array Value) (bl : Bks) (x : Int) (P : Nat) (v : Value) (hG : Gives M gf lb bl W0) (hent : ∀ args w, (callFunc gf args).run Try.prog w = .ok (.enter gf args) w)
    (hb0 : Below W0.heap.size W0 w) (hP0 : W0.heap.size ≤ P) (hP : Blk w P [v] 57) (hR : BkAt w w.heap.size v []) (hx : In64 x) (hl : bl.length ≤ 90000) (hM : M * (bl.length + 2) ≤ 1000000000) :
    Calls Try.prog 24 #[.func (.func gf) #[] lb, .int .i64 x, joinV P] w (HandP w x P bl) := by
  obtain ⟨PQ, hPQ⟩ : ∃ PQ, HandP w x P bl = PQ := ⟨_, rfl⟩
  rw [hPQ]
  have HPQ := hid hPQ
  have hPl := hP.lt
  unfold joinV
  by_cases hbad : x < 1 ∨ 9007199254740992 < x
  · obtain ⟨w3, e3⟩ : ∃ w3, ((w.alloc (.cells #[.int .i64 x] 3)).alloc (.cells #[.func (.func 25) #[.pointer (some ⟨P, 0, none⟩)] #[]] 59)).alloc (.cells #[.int .i64 1] 25) = w3 := ⟨_, rfl⟩
    have HF : Hid (PQ (.returned (.int .i64 1)) w3) := by
      rw [← hPQ, ← e3]
      exact hid ⟨(((Only.refl _ w).alloc _).alloc _).alloc _, .inl ⟨hbad, rfl⟩⟩
    have x0 : w3.cell? ⟨w.heap.size + 1 + 1, 0, none⟩ = some (.int .i64 1) := by
      have b2 := Blk.new ((w.alloc (.cells #[.int .i64 x] 3)).alloc (.cells #[joinV P] 59)) [.int .i64 1] 25
      simp only [World.size_alloc] at b2
      rw [← e3]
      exact b2.cell 0 rfl
    refine (callsIn_wide (n := 3)).1 ?_
    refine callsIn_of_wp_marks Try.func24 rfl trivial ?_ rfl
    simp only [Try.ntmps24, List.size_toArray, List.length_cons, List.length_nil, Nat.reduceAdd, Nat.reduceSub, Array.replicate_succ, Array.replicate_zero, List.push_toArray, List.append_toArray, List.nil_append, List.cons_append]
    have E3 := hid e3
    by_cases h1 : x < 1
    · have d1 : decide (x < 1) = true := by simp [h1]
      clear e3 hbad hPQ
      gi_wp2
      rw [E3.out]
      refine ⟨.int .i64 1, by simp [results, Try.results24, go_sem, x0], ?_⟩
      exact HF.out
    · have d1 : decide (x < 1) = false := by simp; omega
      have d2 : decide (9007199254740992 < x) = true := by simp; omega
      clear e3 hbad hPQ
      gi_wp2
      rw [E3.out]
      refine ⟨.int .i64 1, by simp [results, Try.results24, go_sem, x0], ?_⟩
      exact HF.out
  · have h1 : 1 ≤ x := by omega
    have h2 : x ≤ 9007199254740992 := by omega
    have HX := hid (And.intro h1 h2)
    clear hbad hPQ
    refine (callsIn_wide (n := 3)).1 ?_
    refine callsIn_of_wp_marks Try.func24 rfl trivial ?_ rfl
    simp only [Try.ntmps24, List.size_toArray, List.length_cons, List.length_nil, Nat.reduceAdd, Nat.reduceSub, Array.replicate_succ, Array.replicate_zero, List.push_toArray, List.append_toArray, List.nil_append, List.cons_append]
    have d1 : decide (x < 1) = false := by simp; omega
    have d2 : decide (9007199254740992 < x) = false := by simp; omega
    gi_wp2
    obtain ⟨w5, e5⟩ : ∃ w5, (((((w.alloc (.cells #[.int .i64 x] 3)).alloc (.cells #[.func (.func 25) #[.pointer (some ⟨P, 0, none⟩)] #[]] 59)).alloc (.cells #[.int .i64 0] 25)).alloc (.cells #[.int .i64 0] 25)).alloc (.cells #[.int .i64 (-9007199254740993)] 3)) = w5 := ⟨_, rfl⟩
    have hz5 : w5.heap.size = w.heap.size + 1 + 1 + 1 + 1 + 1 := by rw [← e5]; simp
    have hbox : HBox w5 w.heap.size x P T0 := by
      have b0 := Blk.new w [.int .i64 x] 3
      have b1 := Blk.new (w.alloc (.cells #[.int .i64 x] 3)) [joinV P] 59
      have b2 := Blk.new ((w.alloc (.cells #[.int .i64 x] 3)).alloc (.cells #[joinV P] 59)) [.int .i64 0] 25
      have b3 := Blk.new (((w.alloc (.cells #[.int .i64 x] 3)).alloc (.cells #[joinV P] 59)).alloc (.cells #[.int .i64 0] 25)) [.int .i64 0] 25
      have b4 := Blk.new ((((w.alloc (.cells #[.int .i64 x] 3)).alloc (.cells #[joinV P] 59)).alloc (.cells #[.int .i64 0] 25)).alloc (.cells #[.int .i64 0] 25)) [.int .i64 (-9007199254740993)] 3
      simp only [World.size_alloc] at b1 b2 b3 b4
      rw [← e5]
      exact ⟨(((b0.alloc _).alloc _).alloc _).alloc _, ((b1.alloc _).alloc _).alloc _, (b2.alloc _).alloc _, b3.alloc _, b4⟩
    have hk5 : Kept w w5 := by
      rw [← e5]
      exact (((((Only.refl _ w).alloc _).alloc _).alloc _).alloc _).alloc _
    have hB5 : Below W0.heap.size W0 w5 := hb0.trans (hk5.toBelow (fun _ f => f.elim) hb0.size)
    rw [e5]
    clear e5
    have hrow : RowA w5 P (w.heap.size + 5) [] := ⟨v, Only.blk hk5 hP (fun f => f), by
      rcases hR.2 with ⟨rfl, _⟩ | ⟨g, cap, cur, rfl, hb, hg, _⟩
      · exact bk_nil _ _
      · have := (Array.getElem?_eq_some_iff.1 hg).1
        omega⟩
    refine wpIn_rangeFunc_ownH rfl (by omega) (gf := gf) (lb := lb) rfl trivial hent
      hG (fun h k => h.trans k) (fun W l o o' hl h h1 h2 => belowK_b (w := w5) (by have := hB5.size; omega) W l o o' hl h h1 h2) hB5 (fun _ => rfl)
      (HandI w x P) (HandX w P) (handI_own w x P (by omega)) (fun c => handX_own w P c (by omega))
      ⟨trivial, hbox, hrow, hk5.mono (fun _ _ f => f.elim), by omega⟩
      (fun y a' W => ∃ B, w.heap.size + 5 ≤ B ∧ Blk W B (bkC y.1) 62 ∧ (∃ u, Blk W P [u] 57 ∧ u.ownBlock ≠ some B) ∧ a' = { tmps := #[.func (.func gf) #[] lb, .int .i64 x, .func (.func 25) #[.pointer (some ⟨P, 0, none⟩)] #[], undef, .pointer (some ⟨w.heap.size, 0, none⟩), .pointer (some ⟨w.heap.size + 1, 0, none⟩), .pointer (some ⟨w.heap.size + 1 + 1, 0, none⟩), .pointer (some ⟨w.heap.size + 1 + 1 + 1, 0, none⟩), .pointer (some ⟨w.heap.size + 1 + 1 + 1 + 1, 0, none⟩), .pointer (some ⟨B, 0, none⟩), .int .i64 x, .bool false, .bool false, .int .i64 x, .bool false, .bool false, .func (.func gf) #[] lb, bkV y.1, undef, undef, undef, undef, undef, undef, undef, undef, undef, undef, undef, undef, undef, undef, undef, undef, undef, undef, undef, undef, undef, undef, undef], defers := [] })
      (fun y a' => fun _ X Y row ⟨B, h1, h2, ⟨u, h4, h5⟩, h3⟩ hg hr => ⟨B, h1, blk_cells hg (fun r e => (hr r e).2) h2, ⟨u, blk_cells hg (fun r e => (hr r e).2) h4, h5⟩, h3⟩) ?assign ?body ?done ?stop
    case assign =>
      intro l pre y W K hI hK
      obtain ⟨y, hy⟩ := y
      obtain ⟨y0, y1, y2, y3, y4, y5⟩ := y
      unfold bkV
      simp only [bkC] at hK ⊢
      have HI := hid hI
      have hsz := hI.2.2.2.2
      clear hbox hk5 hrow hI
      gi_wp2
      have hk1 : Kept W (W.alloc (.cells #[.int .i64 y0, .int .i64 y1, .int .i64 y2, .int .i64 y3, .int .i64 y4, .int .i64 y5] 62)) := (Only.refl _ W).alloc _
      have hout : ∃ u, Blk (W.alloc (.cells #[.int .i64 y0, .int .i64 y1, .int .i64 y2, .int .i64 y3, .int .i64 y4, .int .i64 y5] 62)) P [u] 57 ∧ u.ownBlock ≠ some W.heap.size := by
        obtain ⟨u, h1, h2⟩ := HI.out.2.2.1
        exact ⟨u, h1.alloc _, fun e => by have := (ownN_lt h2 e).2; omega⟩
      refine hK _ _ ((hk1.others (fun _ f => f.elim)).from _) (hk1.toBelow (fun _ f => f.elim) (by have := hB5.size; have := hb0.size; omega)) (handI_own w x P (Nat.le_refl _) pre W _ none HI.out (kept_grown hk1) (fun r e => by cases e)) ⟨W.heap.size, hsz, Blk.new W _ _, hout, rfl⟩
    case body =>
      rintro q pre ⟨y, hy⟩ a' W hq hrec ⟨hok, hbx, ⟨u, hPu, hRu⟩, hon, hs5⟩ ⟨B, hB6, hBk, ⟨u', hPu', huB⟩, rfl⟩ hlt
      obtain rfl : u = u' := by simpa using (hPu.inj hPu').1
      have hxs := xs_snoc pre ⟨y, hy⟩
      have hlen := xs_len pre
      have hyT := hy.t
      have hgat := gat_snoc x (xs_ pre) y
      have hgok := gat_ok x M (xs_ pre) (xs_ok pre)
      have hglen := gat_len x (xs_ pre)
      obtain ⟨A, hA⟩ : ∃ A, ahd T0 (xs_ pre) = A := ⟨_, rfl⟩
      have hoks := okT_snoc T0 (xs_ pre) y
      have hahs := ahd_snoc T0 (xs_ pre) y
      rw [hA] at hbx hoks
      obtain ⟨acc, hacc⟩ : ∃ acc, gat x (xs_ pre) = acc := ⟨_, rfl⟩
      rw [hacc] at hRu hgat hgok hglen
      have hBlt := hBk.lt
      have hjo := hbx.jo.cell 0 rfl
      unfold joinV at hjo
      have hwi := hbx.wi.cell 0 rfl
      have hre := hbx.re.cell 0 rfl
      have hfr := hbx.re.frozen 0
      have hah := hbx.ah.cell 0 rfl
      have hfa := hbx.ah.frozen 0
      have hfb := hBk.frozen 0
      have HQ := hid (And.intro hPu hRu)
      have HBX := hid hbx
      have HBK := hid hBk
      have HON := hid hon
      have HOK := hid hok
      have HMM : Hid (M * pre.length + M ≤ 1000000000) := by
        have h1 : M * (pre.length + 1) ≤ M * (bl.length + 2) := Nat.mul_le_mul_left M (by omega)
        have h2 : M * (pre.length + 1) = M * pre.length + M := Nat.mul_succ M pre.length
        exact hid (by omega)
      have hjoin := fun (W2 : World) (h1 : Blk W2 P [u] 57) (h2 : BkAt W2 (w.heap.size + 5) u acc) (h3 : w.heap.size + 5 ≤ W2.heap.size) => rowj_any W2 P (w.heap.size + 5) u acc (mv x y) (M * (xs_ pre).length) M h1 h2 h3 (by omega) (by omega) hgok (hy.mv x) (by rw [hlen]; exact HMM.out)
      have HJ := hid hjoin
      have HUL : Hid (∀ j, u.ownBlock = some j → w.heap.size + 5 ≤ j ∧ Typed W j 62) := hid (fun j hj => ⟨(ownN_lt hRu hj).1, ownN_typed hRu hj⟩)
      have HUB := hid huB
      have HFL := hid (fun W => floor_any y.t x W hyT hx)
      have HLN := hid (And.intro hglen hlen)
      obtain ⟨y0, y1, y2, y3, y4, y5⟩ := y
      simp only [bkC] at hBk hBlt HBK hfb hoks hahs hyT HFL
      have hy1 := hy.c
      simp only at hy1
      have r0 := hBk.cell 0 rfl
      have r1 := hBk.cell 1 rfl
      have r2 := hBk.cell 2 rfl
      have r3 := hBk.cell 3 rfl
      have r4 := hBk.cell 4 rfl
      have r5 := hBk.cell 5 rfl
      unfold bkV
      simp only
      by_cases hbt : y0 ≤ A ∨ 9007199254740992 < y0
      · have HN : Hid (¬ okT T0 (xs_ (pre ++ [(⟨⟨y0, y1, y2, y3, y4, y5⟩, hy⟩ : BkX M)]))) := hid (by rw [hxs, hoks]; intro h; omega)
        have hO : Only (fun j => j = w.heap.size + 1 + 1) W (W.setCell ⟨w.heap.size + 1 + 1, 0, none⟩ (.int .i64 21)) := (Only.refl (fun j => j = w.heap.size + 1 + 1) W).setCell (fun _ => rfl) _
        have HF : Hid (KeepsOthers W (W.setCell ⟨w.heap.size + 1 + 1, 0, none⟩ (.int .i64 21)) ∧ Blk (W.setCell ⟨w.heap.size + 1 + 1, 0, none⟩ (.int .i64 21)) (w.heap.size + 1 + 1) [.int .i64 21] 25 ∧ Only (fun j => j = P) w (W.setCell ⟨w.heap.size + 1 + 1, 0, none⟩ (.int .i64 21)) ∧ w.heap.size + 5 ≤ (W.setCell ⟨w.heap.size + 1 + 1, 0, none⟩ (.int .i64 21)).heap.size) :=
          hid ⟨hO.others (fun k hk hlt => by subst hk; exact ⟨_, HBX.out.re.typed⟩), HBX.out.re.set 0 _, HON.out.trans hO (fun j hj e => by omega), Nat.le_trans hs5 hO.size⟩
        clear hO hjoin hRu hPu hPu' hbx hBk hon hok hgok huB hyT hxs hoks hahs hgat hacc hA
        by_cases hb1 : y0 ≤ A
        · have e1 : decide (y0 ≤ A) = true := by simp [hb1]
          clear hbt hb1
          gi_wp2
          exact ⟨HF.out.1.from _, ⟨rfl, HN.out⟩, HF.out.2⟩
        · have hb2 : 9007199254740992 < y0 := by omega
          have e1 : decide (y0 ≤ A) = false := by simp; omega
          have e2 : decide (9007199254740992 < y0) = true := by simp [hb2]
          clear hbt hb1 hb2
          gi_wp2
          exact ⟨HF.out.1.from _, ⟨rfl, HN.out⟩, HF.out.2⟩
      · have e1 : decide (y0 ≤ A) = false := by simp; omega
        have e2 : decide (9007199254740992 < y0) = false := by simp; omega
        have e3 : decide (y1 < 1) = false := by simp; omega
        have HOKN : Hid (okT T0 (xs_ (pre ++ [(⟨⟨y0, y1, y2, y3, y4, y5⟩, hy⟩ : BkX M)]))) := hid (by rw [hxs, hoks]; exact ⟨HOK.out, by omega, by omega⟩)
        have HAHN : Hid (ahd T0 (xs_ (pre ++ [(⟨⟨y0, y1, y2, y3, y4, y5⟩, hy⟩ : BkX M)])) = y0) := hid (by rw [hxs]; exact hahs)
        have HGN : Hid (gat x (xs_ (pre ++ [(⟨⟨y0, y1, y2, y3, y4, y5⟩, hy⟩ : BkX M)])) = push acc (mv x ⟨y0, y1, y2, y3, y4, y5⟩)) := hid (by rw [hxs]; exact hgat)
        obtain ⟨F, hF⟩ : ∃ F, floorB y0 x = F := ⟨_, rfl⟩
        have HMV : Hid (bkV (mv x ⟨y0, y1, y2, y3, y4, y5⟩) = .agg #[.int .i64 F, .int .i64 y1, .int .i64 y2, .int .i64 y3, .int .i64 y4, .int .i64 y5]) := hid (by rw [← hF]; rfl)
        rw [hF] at HFL
        obtain ⟨W2, hW2⟩ : ∃ W2, (W.setCell ⟨w.heap.size + 1 + 1 + 1 + 1, 0, none⟩ (.int .i64 y0)).setCell ⟨B, 0, none⟩ (.int .i64 F) = W2 := ⟨_, rfl⟩
        have hO2 : Only (fun j => j = w.heap.size + 1 + 1 + 1 + 1 ∨ j = B) W W2 := by
          rw [← hW2]
          exact ((Only.refl (fun j => j = w.heap.size + 1 + 1 + 1 + 1 ∨ j = B) W).setCell (fun _ => .inl rfl) _).setCell (fun _ => .inr rfl) _
        have hP2 := Only.blk hO2 hPu (fun h => by rcases h with h | h <;> omega)
        have hR2 := ownN_only hRu hO2 (fun j hj h => by
          have h6 := (HUL.out j hj).1
          rcases h with h | h
          · omega
          · exact HUB.out (by rw [hj, h]))
        have hz2 : w.heap.size + 5 ≤ W2.heap.size := Nat.le_trans hs5 hO2.size
        have HJ2 := hid (HJ.out W2 hP2 hR2 hz2)
        rw [HMV.out] at HJ2
        have HO2 := hid hO2
        have HW2 := hid hW2
        have HHB2 : Hid (HBox W2 w.heap.size x P y0) := by
          have g0 := HBX.out
          have hb : Only (fun j => j = w.heap.size + 1 + 1 + 1 + 1) W (W.setCell ⟨w.heap.size + 1 + 1 + 1 + 1, 0, none⟩ (.int .i64 y0)) := (Only.refl (fun j => j = w.heap.size + 1 + 1 + 1 + 1) W).setCell (fun _ => rfl) _
          rw [← hW2]
          exact hid ⟨(Only.blk hb g0.wi (by omega)).other (by show w.heap.size ≠ B; omega) _, (Only.blk hb g0.jo (by omega)).other (by show w.heap.size + 1 ≠ B; omega) _, (Only.blk hb g0.re (by omega)).other (by show w.heap.size + 1 + 1 ≠ B; omega) _, (Only.blk hb g0.er (by omega)).other (by show w.heap.size + 1 + 1 + 1 ≠ B; omega) _, (g0.ah.set 0 _).other (by show w.heap.size + 1 + 1 + 1 + 1 ≠ B; omega) _⟩
        clear hO2 hP2 hR2 hz2 hW2 hjoin hRu hPu hPu' hbx hBk hon hok hgok huB hyT hxs hoks hahs hgat hacc hA hF hbt HJ HMV
        gi_wp2_with (refine ⟨trivial, ?_⟩; gi_at_call 28; refine (CallsIn.inRound _ (callsIn_wide.2 (HFL.out _))).mono ?_; rintro e w' ⟨rfl, hw⟩; replace hw := hw.symm; subst hw)
        refine ⟨trivial, ?_⟩
        rw [HW2.out]
        refine (CallsIn.inRound _ (callsIn_wide.2 HJ2.out)).mono ?_
        rintro e w3 ⟨rfl, v3, h3P, h3R, h3O⟩
        have hO3 : Only (fun j => j = P ∨ u.ownBlock = some j ∨ j = w.heap.size + 1 + 1 + 1 + 1 ∨ j = B) W w3 :=
          (HO2.out.mono (O' := fun j => j = P ∨ u.ownBlock = some j ∨ j = w.heap.size + 1 + 1 + 1 + 1 ∨ j = B) (fun j _ h => h.elim (fun h => .inr (.inr (.inl h))) (fun h => .inr (.inr (.inr h))))).trans h3O (fun j _ h => h.elim .inl (fun h => .inr (.inl h)))
        have HF : Hid (KeepsOthers W w3 ∧ Below W0.heap.size W w3 ∧ HandI w x P (pre ++ [(⟨⟨y0, y1, y2, y3, y4, y5⟩, hy⟩ : BkX M)]) w3) := by
          have hn0 := hb0.size
          refine hid ⟨hO3.others (fun k hk hlt => ?_), hO3.toBelow (fun k hk => ?_) (by omega), HOKN.out, ?_, ?_, HON.out.trans hO3 (fun j hj h => ?_), Nat.le_trans hs5 hO3.size⟩
          · rcases hk with rfl | hk | rfl | rfl
            · exact ⟨_, HQ.out.1.typed⟩
            · exact ⟨_, (HUL.out k hk).2⟩
            · exact ⟨_, HBX.out.ah.typed⟩
            · exact ⟨_, HBK.out.typed⟩
          · rcases hk with rfl | hk | rfl | rfl
            · exact hP0
            · have := (HUL.out k hk).1; omega
            · omega
            · omega
          · rw [HAHN.out]
            refine HHB2.out.only h3O (fun i hi h => ?_)
            rcases h with h | h
            · omega
            · have := (HUL.out _ h).1; omega
          · rw [HGN.out]
            exact ⟨v3, h3P, h3R⟩
          · rcases h with h | h | h | h
            · exact h
            · have := (HUL.out j h).1; omega
            · omega
            · omega
        clear h3P h3R h3O hO3
        gi_wp2
        exact ⟨HF.out.1.from _, HF.out.2⟩
    case done =>
      rintro D ys W hD hSy ⟨hok, hbx, hrow5, hon, hs5⟩ hK
      have hD5 : w.heap.size + 5 ≤ D := by rw [hz5] at hD; exact hD
      have her := hbx.er.cell 0 rfl
      have hre := hbx.re.cell 0 rfl
      have hfr := hbx.re.frozen 0
      obtain ⟨W8, e8⟩ : ∃ W8, W.setCell ⟨w.heap.size + 1 + 1, 0, none⟩ (.int .i64 0) = W8 := ⟨_, rfl⟩
      have hO8 : Only (fun j => j = w.heap.size + 1 + 1) W W8 := by rw [← e8]; exact (Only.refl (fun j => j = w.heap.size + 1 + 1) W).setCell (fun _ => rfl) _
      have hK8 : W8.heap[D]? = some (.deferred (some [])) := (hO8.block D (Array.getElem?_eq_some_iff.1 hK).1 (fun e => by omega)).trans hK
      have hr8 : Blk W8 (w.heap.size + 1 + 1) [.int .i64 0] 25 := by rw [← e8]; exact hbx.re.set 0 _
      have hgr := grownBy_putObj' W8 D (.deferred none)
      have hcl : ∀ r, some D = some r → ∃ o : Obj, W8.heap[r]? = some o ∧ o.isCells = false := fun r e => by cases e; exact ⟨_, hK8, rfl⟩
      have x0 := (blk_cells hgr hcl hr8).cell 0 rfl
      have HF : Hid (HandP w x P bl (.returned (.int .i64 0)) (W8.putObj D (.deferred none))) := by
        obtain ⟨u, g1, g2⟩ := hrow5
        have g3 := Only.blk hO8 g1 (fun e => by omega)
        have g4 := ownN_only g2 hO8 (fun j hj e => by have := (ownN_lt g2 hj).1; omega)
        have g5 : RowA W8 P (w.heap.size + 5) (gat x (xs_ ys)) := ⟨u, g3, g4⟩
        obtain ⟨u2, q1, q2⟩ := g5.cells hgr hcl
        rw [hSy] at hok q2
        refine hid ⟨?_, .inr (.inr ⟨HX.out.1, HX.out.2, hok, rfl, u2, q1, ownN_base q2 (by omega)⟩)⟩
        exact (hon.trans hO8 (fun j hj e => by omega)).grown hgr (fun k e hlt => by cases e; omega)
      clear hbx hrow5 hon hok hO8 hr8 hgr hcl hbox hk5 hrow
      gi_wp2
      refine ⟨by simp, .inl ⟨_, _, rfl, run_takeDeferred hK8, ?_⟩⟩
      refine ⟨.int .i64 0, by simp [results, Try.results24, go_sem, x0], ?_⟩
      rw [← HPQ.out]
      exact HF.out
    case stop =>
      rintro D c pre W hD ⟨r, hr⟩ ⟨⟨rfl, hno⟩, hre, hon, hs5⟩ hK
      have hD5 : w.heap.size + 5 ≤ D := by rw [hz5] at hD; exact hD
      have hgr := grownBy_putObj' W D (.deferred none)
      have hcl : ∀ r, some D = some r → ∃ o : Obj, W.heap[r]? = some o ∧ o.isCells = false := fun r e => by cases e; exact ⟨_, hK, rfl⟩
      have x0 := (blk_cells hgr hcl hre).cell 0 rfl
      have HF : Hid (HandP w x P bl (.returned (.int .i64 21)) (W.putObj D (.deferred none))) := by
        refine hid ⟨hon.grown hgr (fun k e hlt => by cases e; omega), .inr (.inl ⟨HX.out.1, HX.out.2, fun h => hno ?_, rfl⟩)⟩
        rw [← hr] at h
        exact okT_left _ _ _ h
      clear hon hno hre hgr hcl hbox hk5 hrow
      gi_wp2
      refine ⟨by simp, .inl ⟨_, _, rfl, run_takeDeferred hK, ?_⟩⟩
      refine ⟨.int .i64 21, by simp [results, Try.results24, go_sem, x0], ?_⟩
      rw [← HPQ.out]
      exact HF.out
end Go.Proofs.Ytjjmidooikgaaaa.Ru
