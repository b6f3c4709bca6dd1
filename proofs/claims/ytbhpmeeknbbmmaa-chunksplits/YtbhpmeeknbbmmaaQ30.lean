/-
  Cu4.
-/
import Derived.Test.YtbhpmeeknbbmmaaQ29
import Derived.Test.YtbhpmeeknbbmmaaQ24

/-
  Package chunk: Split.
-/
namespace Go.Proofs.Ytbhpmeeknbbmmaa.C
open Go.RowKit Go.Proofs.Lys Go.Shelf
set_option linter.unusedVariables false
attribute [local go_sem] Oper.semAt_some

/-- One list more. -/
theorem OutAt.more {base : Nat} {w1 w2 : World} {v u : Value} {ls : List Smps} {vs : List Value} {q : Smps} (h : OutAt w1 base v ls vs) (hk : base ≤ w1.heap.size) (k2 : Kept w1 w2) (hu : SmpAt w2 w1.heap.size u q) (hl : ls.length ≤ 100000) :
    ∃ g cap w3, Hid ((Builtin.append_ #[39, 39] 0 #[v, .slice (some ⟨w2.heap.size, 0, none⟩) 1 1]).run Try.prog (w2.alloc (.cells #[u] 22)) = .ok (.slice (some ⟨g, 0, none⟩) (ls.length + 1) cap) w3) ∧ OutAt w3 base (.slice (some ⟨g, 0, none⟩) (ls.length + 1) cap) (ls ++ [q]) (vs ++ [u]) ∧ Only (fun j => v.ownBlock = some j) w2 w3 := by
  have hs1 := hk
  have hs2 := k2.size
  have hrow2 := own_only h.row k2 (fun _ _ f => f)
  obtain ⟨ua, uc, rfl⟩ := ownN_slice hu
  obtain ⟨v', w3, hrun, hown1, hgrow, hat⟩ := append_src (P := Try.prog) (xv := .slice (some ⟨w2.heap.size, 0, none⟩) 1 1) (ys := [.slice ua q.length uc]) Try.underlying39 Try.infoL rfl (by decide) (hrow2.alloc (.cells #[.slice ua q.length uc] 22)) (own_src (World.ownsRow_lit w2 #[.slice ua q.length uc] 1 (Nat.zero_le _) (by decide) rfl)) (by intro u hu; simp at hu; subst hu; rfl) (by have := h.len; simp; omega) (by simp; omega)
  obtain ⟨g, cap, rfl⟩ := own_some hown1 (by simp)
  have hO : Only (fun j => v.ownBlock = some j) w2 w3 := ((Only.refl _ w2).alloc _).grown hgrow (fun j hj _ => hj)
  refine ⟨g, cap, w3, ?_, ⟨by simp [h.len], ?_, ?_, ?_, ?_⟩, hO⟩
  · have e : vs.length + [Value.slice ua q.length uc].length = ls.length + 1 := by simp [h.len]
    rw [← e]
    exact hrun
  · have e : (vs ++ [Value.slice ua q.length uc]).length = ls.length + 1 := by simp [h.len]
    have e2 : vs.length + [Value.slice ua q.length uc].length = ls.length + 1 := by simp [h.len]
    rw [e, ← e2]
    exact hown1
  · intro i hi hi'
    rw [List.length_append, List.length_singleton] at hi hi'
    by_cases e : i < ls.length
    · have hv : i < vs.length := by have := h.len; omega
      rw [List.getElem_append_left hv, List.getElem_append_left e]
      have h1 := h.each i e hv
      refine ownN_only (ownN_stay h1 k2) hO (fun b hb hvb => ?_)
      exact (ownN_typed h1 hb).ne (own_typed h.row hvb) (by decide) rfl
    · have e1 : i = ls.length := by omega
      subst e1
      have e2 : ls.length = vs.length := h.len.symm
      rw [List.getElem_append_right (by omega), List.getElem_append_right (Nat.le_refl _)]
      simp only [e2, Nat.sub_self, List.getElem_singleton]
      refine ownN_base (ownN_only hu hO (fun b hb hvb => ?_)) hs1
      have h1 := (ownN_lt hu hb).1
      have h2 := (h.row.lt b hvb).2
      omega
  · intro i j hi hj hne p hp hq
    rw [List.length_append, List.length_singleton] at hi hj
    have low : ∀ k (hk : k < vs.length) b, vs[k].ownBlock = some b → b < w1.heap.size := fun k hk b hb => (ownN_lt (h.each k (by have := h.len; omega) hk) hb).2
    by_cases ei : i < vs.length
    · by_cases ej : j < vs.length
      · rw [List.getElem_append_left ei] at hp
        rw [List.getElem_append_left ej] at hq
        exact h.apart i j ei ej hne p hp hq
      · have e1 : j = vs.length := by omega
        subst e1
        rw [List.getElem_append_left ei] at hp
        rw [List.getElem_append_right (Nat.le_refl _)] at hq
        simp only [Nat.sub_self, List.getElem_singleton] at hq
        have h1 := low i ei p hp
        have h2 := (ownN_lt hu hq).1
        omega
    · have e1 : i = vs.length := by omega
      subst e1
      have ej : j < vs.length := by omega
      rw [List.getElem_append_left ej] at hq
      rw [List.getElem_append_right (Nat.le_refl _)] at hp
      simp only [Nat.sub_self, List.getElem_singleton] at hp
      have h1 := low j ej p hq
      have h2 := (ownN_lt hu hp).1
      omega
  · intro x hx
    rcases List.mem_append.1 hx with hx | hx
    · exact h.plain x hx
    · exact ⟨_, _, _, List.mem_singleton.1 hx⟩


def partS (l : Smps) (x : CutI l.length) : Smps := (l.take x.1.2).drop x.1.1
theorem partS_len (l : Smps) (x : CutI l.length) : (partS l x).length = x.1.2 - x.1.1 := by
  have := x.2
  unfold partS
  rw [List.length_drop, List.length_take]
  omega
theorem cuts_split (l : Smps) : ∀ (ys : List (CutI l.length)) (at_ : Nat), Cuts at_ ys → (ys ≠ [] → endC ys = l.length) → (ys = [] → l.length ≤ at_) → ys.map (partS l) = splitL (l.drop at_)
  | [], at_, _, _, h => by rw [List.drop_of_length_le (h rfl)]; rfl
  | x :: r, at_, ⟨h1, h2, h3⟩, he, _ => by
    have hx := x.2
    have hne : l.drop at_ ≠ [] := fun e => by
      have := congrArg List.length e
      rw [List.length_drop] at this
      simp at this
      omega
    rw [splitL_cons hne, List.map_cons, List.drop_drop]
    have e1 : partS l x = (l.drop at_).take 120 := by
      unfold partS
      rw [h1, h2, List.drop_take, show at_ + min 120 (l.length - at_) - at_ = min 120 (l.length - at_) by omega]
      rcases Nat.le_total 120 (l.length - at_) with h | h
      · rw [Nat.min_eq_left h]
      · rw [Nat.min_eq_right h, List.take_of_length_le (by rw [List.length_drop]; omega), List.take_of_length_le (by rw [List.length_drop]; omega)]
    have e2 : r.map (partS l) = splitL (l.drop (at_ + 120)) := by
      have h4 := cuts_split l r x.1.2 h3 (fun hr => by
        have := he (by simp)
        cases r with
        | nil => exact absurd rfl hr
        | cons z r => exact this) (fun hr => by
        subst hr
        have := he (by simp)
        have e : endC [x] = x.1.2 := rfl
        omega)
      rw [h4]
      rcases Nat.le_total 120 (l.length - at_) with h | h
      · rw [h2, Nat.min_eq_left h]
      · rw [h2, Nat.min_eq_right h, List.drop_of_length_le (by omega), List.drop_of_length_le (by omega)]
    rw [e1, e2]

set_option maxHeartbeats 400000 in
theorem cuts_in (n : Nat) (a : Option Addr) (L c : Nat) (w : World) :
    CallsIn Fence.wide n Try.prog 34 #[.slice a L c] w fun e w' => e = .returned (.func (.func 52) #[] #[.pointer (some ⟨w.heap.size, 0, none⟩)]) ∧ w' = w.alloc (.cells #[.slice a L c] 22) := by
  have hmf : ∀ (fn : Fn) (first cap : Array Value) (w : World), (Instr.makeFunc fn first cap).run Try.prog w = .ok (.func fn first cap) w := fun _ _ _ _ => rfl
  refine callsIn_of_wp Try.func34 rfl trivial ?_ rfl
  simp only [Try.ntmps34, List.size_toArray, List.length_cons, List.length_nil, Nat.reduceAdd, Nat.reduceSub, Array.replicate_succ, Array.replicate_zero, List.push_toArray, List.append_toArray, List.nil_append, List.cons_append]
  gi_wp2
  go_ret
  exact ⟨rfl, rfl⟩

theorem cuts_stops (n : Nat) (hn : 1 ≤ n) (Bn n₀ b o L c : Nat) (hL : L ≤ 100000) (hc : L ≤ c) (a : Option Addr) (ha : 0 < L → a = some ⟨b, o, none⟩) (w : World) (hlt : Bn < w.heap.size) (hBn : w.cell? ⟨Bn, 0, none⟩ = some (.slice a L c)) :
    SeqStopsK Fence.wide n Try.prog 52 #[.pointer (some ⟨Bn, 0, none⟩)] (fun x : CutI L => #[cutV b o x]) (KpB n₀ Bn) (fun ys => Cuts 0 ys ∧ endC ys = L) (fun _ => True) (L + 1) w := fun l J Jx W hW _ _ hY h0 =>
  cuts1_in n hn l Bn n₀ b o L c hL hc a ha J Jx hY W ((hW.cell (p := ⟨Bn, 0, none⟩) hlt).trans hBn) h0

/-- What stands between two rounds: the box of the lists, the lists, all that was there. -/
def SplI (w : World) (l : Smps) (pre : List (CutI l.length)) (W : World) : Prop :=
  (∃ v vs, Boxed W w.heap.size 39 v ∧ OutAt W (w.heap.size + 2) v (pre.map (partS l)) vs) ∧ Below w.heap.size w W ∧ w.heap.size + 2 ≤ W.heap.size
theorem OutAt.cells {w w' : World} {row : Option Nat} (hg : w.grownBy w' row) (hr : ∀ r, row = some r → ∃ o : Obj, w.heap[r]? = some o ∧ o.isCells = false) {base : Nat} {v : Value} {ls : List Smps} {vs : List Value} (h : OutAt w base v ls vs) : OutAt w' base v ls vs :=
  ⟨h.len, row_cells hg hr h.row, fun i h1 h2 => row_cells hg hr (h.each i h1 h2), h.apart, h.plain⟩
theorem splI_own (w : World) (l : Smps) {B : Nat} (hB : w.heap.size ≤ B) : OwnFrom B (SplI w l) :=
  OwnFrom.and (Own.from (fun s X Y row ⟨v, vs, hb, ho⟩ hg hr => ⟨v, vs, (grown_cells hg hr ⟨_, _, hb⟩).trans hb, ho.cells hg hr⟩) _) (OwnFrom.and (ownFrom_below (Nat.le_refl _) hB) (fun _ _ _ _ hs hg _ => Nat.le_trans hs hg.size))

/-- A round of Split. -/
theorem splI_step {w W w2 : World} {l : Smps} {pre : List (CutI l.length)} {x : CutI l.length} {v u : Value} {vs : List Value} (hb : Boxed W w.heap.size 39 v) (ho : OutAt W (w.heap.size + 2) v (pre.map (partS l)) vs) (hB : Below w.heap.size w W) (hs : w.heap.size + 2 ≤ W.heap.size)
    (hu : SmpAt w2 W.heap.size u (partS l x)) (k2 : Kept W w2) (hl : pre.length ≤ 100000) :
    ∃ g cap w3, Hid ((Builtin.append_ #[39, 39] 0 #[v, .slice (some ⟨w2.heap.size, 0, none⟩) 1 1]).run Try.prog (w2.alloc (.cells #[u] 22)) = .ok (.slice (some ⟨g, 0, none⟩) (pre.length + 1) cap) w3) ∧
      Boxed w2 w.heap.size 39 v ∧ Boxed w3 w.heap.size 39 v ∧
      KeepsOthers W (w3.setCell ⟨w.heap.size, 0, none⟩ (.slice (some ⟨g, 0, none⟩) (pre.length + 1) cap)) ∧ KpB w.heap.size (w.heap.size + 1) W (w3.setCell ⟨w.heap.size, 0, none⟩ (.slice (some ⟨g, 0, none⟩) (pre.length + 1) cap)) ∧
      SplI w l (pre ++ [x]) (w3.setCell ⟨w.heap.size, 0, none⟩ (.slice (some ⟨g, 0, none⟩) (pre.length + 1) cap)) := by
  obtain ⟨g, cap, w3, Hr, hO3, hon⟩ := ho.more hs k2 hu (by rw [List.length_map]; exact hl)
  rw [List.length_map] at Hr hO3
  have hb2 : Boxed w2 w.heap.size 39 v := (k2.block _ hb.lt (fun f => f)).trans hb
  have hrow2 := own_only ho.row k2 (fun _ _ f => f)
  have hb3 : Boxed w3 w.heap.size 39 v := (hon.block _ hb2.lt (fun e => (own_typed hrow2 e).ne ⟨_, _, hb2⟩ (by decide) rfl)).trans hb2
  have hz2 := k2.size
  have hz3 := hon.size
  obtain ⟨V, hV⟩ : ∃ V, Value.slice (some ⟨g, 0, none⟩) (pre.length + 1) cap = V := ⟨_, rfl⟩
  rw [hV] at hO3
  have hS : Only (fun k => k = w.heap.size) w3 (w3.setCell ⟨w.heap.size, 0, none⟩ V) := (Only.refl (fun k => k = w.heap.size) w3).setCell (p := ⟨w.heap.size, 0, none⟩) (fun _ => rfl) _
  have hb4 : Boxed (w3.setCell ⟨w.heap.size, 0, none⟩ V) w.heap.size 39 V := hb3.set V
  have hO4 : OutAt (w3.setCell ⟨w.heap.size, 0, none⟩ V) (w.heap.size + 2) V ((pre.map (partS l)) ++ [partS l x]) (vs ++ [u]) :=
    ⟨hO3.len, own_only hO3.row hS (fun b hb e => by have := (hO3.row.lt b hb).1; omega), fun i h1 h2 => ownN_only (hO3.each i h1 h2) hS (fun b hb e => by have := (ownN_lt (hO3.each i h1 h2) hb).1; omega), hO3.apart, hO3.plain⟩
  have hlow : ∀ j, v.ownBlock = some j → w.heap.size + 2 ≤ j := fun j hj => (ho.row.lt j hj).1
  have hk3 : Only (fun j => v.ownBlock = some j) W w3 := (k2.mono (O' := fun j => v.ownBlock = some j) (fun _ _ f => f.elim)).trans hon (fun _ _ h => h)
  have hk4 : Only (fun j => v.ownBlock = some j ∨ j = w.heap.size) W (w3.setCell ⟨w.heap.size, 0, none⟩ V) := (hk3.mono (O' := fun j => v.ownBlock = some j ∨ j = w.heap.size) (fun _ _ h => .inl h)).trans hS (fun _ _ h => .inr h)
  have hbel : Below w.heap.size W (w3.setCell ⟨w.heap.size, 0, none⟩ V) := hk4.toBelow (fun k hk => hk.elim (fun h => by have := hlow k h; omega) (fun h => by omega)) (by omega)
  subst hV
  refine ⟨g, cap, w3, Hr, hb2, hb3, ?_, ⟨hbel, ?_⟩, ⟨_, vs ++ [u], hb4, ?_⟩, hB.trans hbel, Nat.le_trans hs hk4.size⟩
  · exact hk4.others (fun k hk hlt => by
      rcases hk with hk | hk
      · exact ⟨_, own_typed ho.row hk⟩
      · subst hk
        exact ⟨_, _, _, hb⟩)
  · exact hk4.block _ (by omega) (fun h => h.elim (fun h => by have := hlow _ h; omega) (fun h => by omega))
  · rw [List.map_append]
    exact hO4

theorem part_src {w : World} {b o c : Nat} {l : Smps} (h : SmpSrc w (.slice (some ⟨b, o, none⟩) l.length c) l) (x : CutI l.length) : SmpSrc w (cutV b o x) (partS l x) := by
  have hx := x.2
  have hlen := partS_len l x
  rcases h with ⟨a, c', e, h0⟩ | ⟨hp, b', o', c', e, hc⟩
  · have h1 : l.length = 0 := by rw [h0]; rfl
    omega
  · cases e
    refine .inr ⟨by omega, b, o + x.1.1 * 2, x.1.2 - x.1.1, by rw [hlen]; rfl, fun i hi => ?_⟩
    have := hc (x.1.1 + i) (by omega)
    have e5 : (partS l x)[i] = l[x.1.1 + i]'(by omega) := by
      simp [partS, List.getElem_drop, List.getElem_take]
    rw [e5, show o + x.1.1 * 2 + i * 2 = o + (x.1.1 + i) * 2 by omega]
    exact this

set_option maxRecDepth 100000 in
set_option maxHeartbeats 3200000 in
theorem split_any (w : World) (v : Value) (l : Smps) (hs : SSrc w v l) (hl : l.length ≤ 2000) :
    Calls Try.prog 15 #[v] w fun e w' => ∃ u vs, e = .returned u ∧ OutAt w' w.heap.size u (splitL l) vs ∧ Kept w w' := by
  have hmx : Try.prog.follows .mixedOrders = true := by kernel_rfl
  obtain ⟨hsrc, a, c, rfl, hlc⟩ := hs
  obtain ⟨b, o, hab⟩ : ∃ b o, 0 < l.length → a = some ⟨b, o, none⟩ := by
    rcases hsrc with ⟨x, y, hv, hn⟩ | ⟨hp, b, o, c2, hv, hcell⟩
    · exact ⟨0, 0, fun h => by rw [hn] at h; simp at h⟩
    · cases hv
      exact ⟨b, o, fun _ => rfl⟩
  have HS := hid hsrc
  clear hsrc
  refine (callsIn_wide (n := 3)).1 ?_
  refine callsIn_of_wp_marks Try.func15 rfl trivial ?_ rfl
  simp only [Try.ntmps15, List.size_toArray, List.length_cons, List.length_nil, Nat.reduceAdd, Nat.reduceSub, Array.replicate_succ, Array.replicate_zero, List.push_toArray, List.append_toArray, List.nil_append, List.cons_append]
  gi_wp2_with (refine ⟨trivial, ?_⟩; gi_at_call 34; refine (cuts_in _ a l.length c _).mono ?_; rintro e w' ⟨rfl, rfl⟩)
  have bO := Boxed.new w 39 (.slice none 0 0)
  have bN := Boxed.new (w.alloc (.cells #[.slice none 0 0] 39)) 22 (.slice a l.length c)
  rw [World.size_alloc] at bN
  have hB0 : Below w.heap.size w ((w.alloc (.cells #[.slice none 0 0] 39)).alloc (.cells #[.slice a l.length c] 22)) := ((Below.refl _ w).alloc (Nat.le_refl _) _).alloc (by simp) _
  refine wpIn_rangeFunc_ownG rfl (by omega) (gf := 52) (lb := #[.pointer (some ⟨w.heap.size + 1, 0, none⟩)]) rfl trivial (enters_of Try.func52 (by kernel_rfl) rfl)
    (cuts_stops _ (by omega) (w.heap.size + 1) w.heap.size b o l.length c (by omega) hlc a hab _ (by simp) bN.cell) KpB.t (KpB.b (by simp; omega) (by simp)) (Below.refl _ _) (fun _ => rfl)
    (SplI w l) (fun _ _ _ => False) (splI_own w l (by simp; omega)) (fun _ _ _ _ _ hs _ _ => hs)
    ⟨⟨_, [], bO.alloc _, rfl, World.ownsRow_nil _ _ _ _, fun i h => absurd h (Nat.not_lt_zero _), fun i j h => absurd h (Nat.not_lt_zero _), fun u hu => by cases hu⟩, hB0, by simp⟩
    (fun x => { tmps := #[.slice a l.length c, undef, .slice none 0 0, .pointer (some ⟨w.heap.size, 0, none⟩), cutV b o x, .slice a l.length c, .func (.func 52) #[] #[.pointer (some ⟨w.heap.size + 1, 0, none⟩)], cutV b o x, undef, undef, undef, undef, undef, undef], defers := [] }) ?assign ?body ?done ?stop
  case assign =>
    intro l x W K hK
    gi_wp2
    exact hK
  case body =>
    rintro q pre x W ⟨⟨v, vs, hb, ho⟩, hB, hs2⟩ hlt
    have hx := x.2
    obtain rfl := hab (by omega)
    have hlen := partS_len l x
    have hpart : SmpSrc W.drew (cutV b o x) (partS l x) := part_src (HS.out.stay (Only.below hB)) x
    have hcl := sclone_some W.drew ⟨b, o + x.1.1 * 2, none⟩ (x.1.2 - x.1.1) (partS l x) (by rw [hlen]; exact hpart) (by omega)
    rw [hlen] at hcl
    change Calls Try.prog 35 #[cutV b o x] W.drew _ at hcl
    have hc0 := hb.cell
    have HB := hid hb
    have HO := hid ho
    have HBel := hid hB
    clear bO bN hB0 hab hpart hb ho hB hlen
    gi_wp2
    refine region_round (L := 5) (S := fun w' => w'.cell? ⟨w.heap.size, 0, none⟩ = some v) hmx (by rintro ⟨_, _, h⟩; exact h) (by kernel_rfl) ?_
    have hS : (fun w' : World => w'.cell? ⟨w.heap.size, 0, none⟩ = some v) W.drew := hc0
    refine wpAnyL_take (i := 0) (v := v) rfl (by kernel_rfl) (by kernel_rfl) (by kernel_rfl) (by kernel_rfl) (by kernel_rfl) (fun _ _ _ h => h) (Or.inl ⟨by rfl, ?_⟩) hS ?_
    · (intro w' hSw; go_simp)
    go_frame
    refine wpAnyL_take (i := 1) (v := cutV b o x) rfl (by kernel_rfl) (by kernel_rfl) (by kernel_rfl) (by kernel_rfl) (by kernel_rfl) (fun _ _ _ h => h) (Or.inl ⟨by rfl, ?_⟩) hS ?_
    · (intro w' hSw; go_simp)
    go_frame
    refine wpAnyL_one (i := 2) (by kernel_rfl) rfl rfl ?_
    go_simp
    refine hcl.mono ?_
    rintro e w2 ⟨u, rfl, hu, k2⟩
    have hk2 : Kept W w2 := (Only.refl (fun _ => False) W).drew.trans k2 (fun _ _ f => f)
    obtain ⟨g, cap, w3, Hr, hb2, hb3, hko, hkp, hI⟩ := splI_step HB.out HO.out HBel.out hs2 hu hk2 (by omega)
    obtain ⟨ua, uc, hue⟩ := ownN_slice hu
    subst hue
    have hc2 := hb2.cell
    have hc3 := hb3.cell
    have hf3 := hb3.frozen
    have hc2a := (hb2.alloc (.cells #[.slice ua (partS l x).length uc] 22)).cell
    have HE : Hid (KeepsOthers W (w3.setCell ⟨w.heap.size, 0, none⟩ (.slice (some ⟨g, 0, none⟩) (pre.length + 1) cap)) ∧ KpB w.heap.size (w.heap.size + 1) W (w3.setCell ⟨w.heap.size, 0, none⟩ (.slice (some ⟨g, 0, none⟩) (pre.length + 1) cap)) ∧
      SplI w l (pre ++ [x]) (w3.setCell ⟨w.heap.size, 0, none⟩ (.slice (some ⟨g, 0, none⟩) (pre.length + 1) cap))) := ⟨hko, hkp, hI⟩
    clear hko hkp hI hcl hu k2 hk2
    refine ⟨hc2, ?_⟩
    refine wpAnyL_one (i := 3) (by kernel_rfl) rfl rfl ?_
    go_simp
    refine wpAnyL_one (i := 4) (by kernel_rfl) rfl rfl (oper_append_run _ _ _ rfl rfl rfl Hr ?_)
    refine ⟨hc3, ?_⟩
    go_frame
    refine wpAnyL_last (by kernel_rfl) (by kernel_rfl) rfl rfl ?_
    go_simp
    exact ⟨HE.out.1.from _, HE.out.2.1, HE.out.2.2⟩
  case done =>
    rintro D ys W hD ⟨hC, hE⟩ ⟨⟨v, vs, hb, ho⟩, hB, hs2⟩ hK
    have hc := hb.cell
    have e := cuts_split l ys 0 hC (fun _ => hE) (fun h => by rw [h] at hE; have : endC ([] : List (CutI l.length)) = 0 := rfl; omega)
    rw [List.drop_zero] at e
    rw [e] at ho
    have HO : Hid (OutAt (W.putObj D (.deferred none)) w.heap.size v (splitL l) vs ∧ Kept w (W.putObj D (.deferred none))) := by
      refine ⟨?_, Only.below (hB.trans (belowK_b (w := w) (Nat.le_refl _) W D _ _ (by simp at hD; omega) hK rfl rfl))⟩
      have h1 := ho.cells (grownBy_putObj' W D (.deferred none)) (fun r e => by cases e; exact ⟨_, hK, rfl⟩)
      exact ⟨h1.len, own_base h1.row (by omega), fun i a b => ownN_base (h1.each i a b) (by omega), h1.apart, h1.plain⟩
    clear e ho hC hE
    gi_wp2
    refine ⟨by simp, .inl ⟨_, _, rfl, run_takeDeferred hK, ?_⟩⟩
    exact ⟨_, results_tmp rfl _ _ _, v, vs, rfl, HO.out⟩
  case stop =>
    rintro D c pre W _ _ h _
    exact h.elim
end Go.Proofs.Ytbhpmeeknbbmmaa.C
