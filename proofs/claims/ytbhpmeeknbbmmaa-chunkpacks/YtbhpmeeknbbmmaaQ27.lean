/-
  Csplits.
-/
import Derived.Test.YtbhpmeeknbbmmaaQ24
import Derived.Test.YtbhpmeeknbbmmaaQ11

/-
  The law ChunkSplits, given what Split must give.
-/
namespace Go.Proofs.Ytbhpmeeknbbmmaa.C
open Go.RowKit Go.Proofs.Lys
set_option linter.unusedVariables false

/-- What Split must give: lists, each its own. -/
def SplitC : Prop := ∀ (w : World) (v : Value) (l : Smps), SSrc w v l → l.length ≤ 2000 → Calls Try.prog 15 #[v] w fun e w' => ∃ u vs, e = .returned u ∧ OutAt w' w.heap.size u (splitL l) vs ∧ Kept w w'

theorem OutAt.only {O : Nat → Prop} {w w' : World} {base : Nat} {v : Value} {ls : List Smps} {vs : List Value} (h : OutAt w base v ls vs) (k : Only O w w') (hO : ∀ b, O b → b < base) : OutAt w' base v ls vs :=
  ⟨h.len, own_only h.row k (fun b hb ho => by have := (h.row.lt b hb).1; have := hO b ho; omega), fun i hi hi' => ownN_only (h.each i hi hi') k (fun b hb ho => by have := (ownN_lt (h.each i hi hi') hb).1; have := hO b ho; omega), h.apart, h.plain⟩

/-- The lists from the i-th on are as they were laid. -/
structure LeftAt (w : World) (base i : Nat) (v : Value) (ls : List Smps) (vs cur : List Value) : Prop where
  len : cur.length = ls.length
  vlen : vs.length = ls.length
  row : w.ownsRow base 22 1 v ls.length cur
  same : ∀ j, i ≤ j → j < ls.length → cur[j]? = vs[j]?
  each : ∀ j (h : j < ls.length) (h' : j < vs.length), i ≤ j → SmpAt w base vs[j] ls[j]
  apart : ∀ i j (h : i < vs.length) (h' : j < vs.length), i ≠ j → ∀ q, vs[i].ownBlock = some q → vs[j].ownBlock ≠ some q

theorem OutAt.left {w : World} {base : Nat} {v : Value} {ls : List Smps} {vs : List Value} (h : OutAt w base v ls vs) : LeftAt w base 0 v ls vs vs :=
  ⟨h.len, h.len, by have := h.row; rw [h.len] at this; exact this, fun _ _ _ => rfl, fun j h1 h2 _ => h.each j h1 h2, h.apart⟩

/-- What a round may change. -/
def roundO (ug : Nat) (x : Value) (b : Nat) : Prop := b = ug ∨ x.ownBlock = some b

/-- A list is made longer and laid in its place. -/
theorem LeftAt.put {w w1 : World} {i ug uc : Nat} {ls : List Smps} {vs cur : List Value} (h : LeftAt w1 w.heap.size i (.slice (some ⟨ug, 0, none⟩) ls.length uc) ls vs cur) (hk : Kept w w1) (hi : i < ls.length) (hv : i < vs.length) (hl : ls[i].length ≤ 100000) (p : Int × Int) :
    ∃ g cap w2, Hid ((Builtin.append_ #[22, 22] 0 #[vs[i], .slice (some ⟨w1.heap.size, 0, none⟩) 1 1]).run Try.prog (w1.alloc (.cells #[.int .i64 p.1, .int .i64 p.2] 42)) = .ok (.slice (some ⟨g, 0, none⟩) (ls[i].length + 1) cap) w2) ∧
      w2.ownsRow w.heap.size 22 1 (.slice (some ⟨ug, 0, none⟩) ls.length uc) ls.length cur ∧
      SmpAt (w2.setCell ⟨ug, i, none⟩ (.slice (some ⟨g, 0, none⟩) (ls[i].length + 1) cap)) w.heap.size (.slice (some ⟨g, 0, none⟩) (ls[i].length + 1) cap) (ls[i] ++ [p]) ∧
      (w2.setCell ⟨ug, i, none⟩ (.slice (some ⟨g, 0, none⟩) (ls[i].length + 1) cap)).ownsRow w.heap.size 22 1 (.slice (some ⟨ug, 0, none⟩) ls.length uc) ls.length (cur.set i (.slice (some ⟨g, 0, none⟩) (ls[i].length + 1) cap)) ∧
      Only (roundO ug vs[i]) w1 (w2.setCell ⟨ug, i, none⟩ (.slice (some ⟨g, 0, none⟩) (ls[i].length + 1) cap)) ∧
      (g < w1.heap.size → roundO ug vs[i] g) := by
  have hown := h.each i hi hv (Nat.le_refl _)
  have k1 : Kept w1 (w1.alloc (.cells #[.int .i64 p.1, .int .i64 p.2] 42)) := (Only.refl _ w1).alloc _
  obtain ⟨v', w2, hr, h1, h2, h3⟩ := smp_append (ownN_stay hown k1) (smp_lit w1 p) (by simp; omega) (Nat.le_trans hk.size k1.size)
  obtain ⟨g, cap, rfl⟩ := ownN_some h1 (by simp)
  have hn : (ls[i] ++ [p]).length = ls[i].length + 1 := by simp
  rw [hn] at hr h1
  have hO : Only (fun b => vs[i].ownBlock = some b) w1 w2 := ((Only.refl _ w1).alloc _).grown h2 (fun j hj _ => hj)
  have hrow : w2.ownsRow w.heap.size 22 1 (.slice (some ⟨ug, 0, none⟩) ls.length uc) ls.length cur := own_only h.row hO (fun b hb hvb => (ownN_typed hown hvb).ne (own_typed h.row hb) (by decide) rfl)
  have hne : g ≠ ug := fun e => (ownN_typed h1 (k := g) rfl).ne (own_typed hrow (k := ug) rfl) (by decide) e
  have hS : Only (fun b => b = ug) w2 (w2.setCell ⟨ug, i, none⟩ (.slice (some ⟨g, 0, none⟩) (ls[i].length + 1) cap)) := (Only.refl (fun b => b = ug) w2).setCell (p := ⟨ug, i, none⟩) (fun _ => rfl) _
  refine ⟨g, cap, w2, hr, hrow, ?_, (hrow.stored i _).1, ?_, ?_⟩
  · exact ownN_only h1 hS (fun b hb e => hne (by cases hb; exact e))
  · exact (hO.mono (fun j _ hj => .inr hj)).trans hS (fun j _ hj => .inl hj)
  · intro hlt
    rcases h3 with h3 | h3
    · exact .inr h3.symm
    · have : g = (w1.alloc (.cells #[.int .i64 p.1, .int .i64 p.2] 42)).heap.size := by simpa [Value.ownBlock] using h3
      have := k1.size
      omega

/-- A sample of a list is laid anew. -/
theorem smp_set {w : World} {base g n cap k : Nat} {q : Smps} (h : SmpAt w base (.slice (some ⟨g, 0, none⟩) n cap) q) (hn : q.length = n) (hk : k < n) (p : Int × Int) :
    w.frozen? ⟨g, k * 2, none⟩ = false ∧ (w.setCell ⟨g, k * 2, none⟩ (.int .i64 p.1)).frozen? ⟨g, k * 2 + 1, none⟩ = false ∧ (∃ x y, w.cell? ⟨g, k * 2, none⟩ = some (.int .i64 x) ∧ w.cell? ⟨g, k * 2 + 1, none⟩ = some (.int .i64 y)) ∧
    ∃ q' : Smps, q'.length = n ∧ SmpAt ((w.setCell ⟨g, k * 2, none⟩ (.int .i64 p.1)).setCell ⟨g, k * 2 + 1, none⟩ (.int .i64 p.2)) base (.slice (some ⟨g, 0, none⟩) n cap) q' := by
  subst hn
  have hx := smpL_at q k hk
  refine ⟨h.frozenAt _, ((h.stored (k * 2) (.int .i64 p.1)).1).frozenAt _, ⟨_, _, by rw [h.cellAt _ (by omega)]; exact hx.1, by rw [h.cellAt _ (by omega)]; exact hx.2⟩, q.set k p, List.length_set, ?_⟩
  have h1 := (((h.stored (k * 2) (.int .i64 p.1)).1).stored (k * 2 + 1) (.int .i64 p.2)).1
  have e : smpL (q.set k p) = ((smpL q).set (k * 2) (.int .i64 p.1)).set (k * 2 + 1) (.int .i64 p.2) := by
    clear h h1 hx
    induction q generalizing k with
    | nil => simp at hk
    | cons a q ih =>
      cases k with
      | zero => rfl
      | succ k =>
        have := ih (k := k) (by simpa using hk)
        rw [List.set_cons_succ]
        simp only [smpL, show (k + 1) * 2 = k * 2 + 1 + 1 by omega, List.set_cons_succ, this]
  show World.ownsRow _ _ _ _ _ _ _
  rw [List.length_set, e]
  exact h1

theorem LeftAt.stay {w w' : World} {base i : Nat} {v : Value} {ls : List Smps} {vs cur : List Value} (h : LeftAt w base i v ls vs cur) (k : Kept w w') : LeftAt w' base i v ls vs cur :=
  ⟨h.len, h.vlen, own_only h.row k (fun _ _ f => f), h.same, fun j h1 h2 h3 => ownN_stay (h.each j h1 h2 h3) k, h.apart⟩
theorem LeftAt.next {w w' : World} {base i ug uc : Nat} {x : Value} {ls : List Smps} {vs cur : List Value} (h : LeftAt w base i (.slice (some ⟨ug, 0, none⟩) ls.length uc) ls vs cur) (hv : i < vs.length) (k : Only (roundO ug vs[i]) w w')
    (hrow : w'.ownsRow base 22 1 (.slice (some ⟨ug, 0, none⟩) ls.length uc) ls.length (cur.set i x)) : LeftAt w' base (i + 1) (.slice (some ⟨ug, 0, none⟩) ls.length uc) ls vs (cur.set i x) := by
  refine ⟨by rw [List.length_set]; exact h.len, h.vlen, hrow, fun j h1 h2 => ?_, fun j h1 h2 h3 => ?_, h.apart⟩
  · rw [List.getElem?_set_ne (by omega)]
    exact h.same j (by omega) h2
  · have he := h.each j h1 h2 (by omega)
    refine ownN_only he k (fun b hb ho => ?_)
    rcases ho with rfl | ho
    · exact (ownN_typed he hb).ne (own_typed h.row (k := b) rfl) (by decide) rfl
    · exact h.apart i j hv h2 (by omega) b ho hb
theorem splitL_each (n : Nat) : ∀ l : Smps, l.length = n → ∀ q ∈ splitL l, q.length ≤ 120 := by
  induction n using Nat.strongRecOn with
  | _ n ih =>
    intro l hl q hq
    by_cases h : l = []
    · rw [h, splitL_nil] at hq
      cases hq
    · rw [splitL_cons h] at hq
      rcases List.mem_cons.1 hq with rfl | hq
      · rw [List.length_take]
        omega
      · have : l.length ≠ 0 := fun e => h (List.length_eq_zero_iff.1 e)
        exact ih (n - 120) (by omega) _ (by rw [List.length_drop, hl]) q hq

set_option maxRecDepth 100000 in
set_option maxHeartbeats 3200000 in
theorem splits8_walk (hP : PackC) (hS : SplitC) (w : World) (v0 : Value) (l : Smps) (h0 : SSrc w v0 l) :
    Calls Try.prog 5 #[v0] w fun e w' => e = .returned (.bool true) ∧ Kept w w' := by
  have hnot : ∀ (x : Bool) (w : World), (Op.unary .not (.bool x)).run Try.prog w = .ok (.bool (!x)) w := fun _ _ => rfl
  obtain ⟨a0, c0, e0⟩ := h0.1.len
  obtain ⟨L, hL⟩ : ∃ L, l.length = L := ⟨_, rfl⟩
  rw [hL] at e0
  subst e0
  by_cases hb0 : 2000 < L
  · go_enter Try.func5, Try.ntmps5
    go_wp2_with (go_at_call 6; refine (alive8_any hP _).mono ?_; rintro e w1 ⟨rfl, hk⟩)
    go_ret
    exact ⟨rfl, hk⟩
  have d0 : decide ((2000 : Int) < (L : Int)) = false := by simp; omega
  have HL := hid hL
  have H0 := hid h0
  clear hL h0
  go_enter Try.func5, Try.ntmps5
  go_wp2_with fail
  refine (alive8_any hP _).mono ?_
  rintro e w1 ⟨rfl, hk1⟩
  have hp := hS w1 _ l (H0.out.stay hk1) (by have := HL.out; omega)
  have HK1 := hid hk1
  clear hk1
  go_wp2_with fail
  refine hp.mono ?_
  rintro e w2 ⟨ua, vs, rfl, hO2, hk2⟩
  clear hp
  have hp := rchunks_any w2 _ l (H0.out.stay (HK1.out.trans hk2 (fun _ _ f => f))) (by have := HL.out; omega)
  have HO2 := hid hO2
  have HK2 := hid hk2
  clear hO2 hk2
  go_wp2_with fail
  refine hp.mono ?_
  rintro e w3 ⟨ub, vs', rfl, hO3, hk3⟩
  clear hp
  obtain ⟨ls, hls⟩ : ∃ ls, splitL l = ls := ⟨_, rfl⟩
  obtain ⟨N, hN⟩ : ∃ N, ls.length = N := ⟨_, rfl⟩
  have hlen := splitL_len L l HL.out
  have heach := splitL_each L l HL.out
  rw [hls] at hlen heach hO3
  rw [hN] at hlen
  have hO2 := HO2.out
  rw [hls] at hO2
  have hA := (hO2.only hk3 (fun _ f => f.elim)).left
  have HLowU : Hid (∀ b, ua.ownBlock = some b → b < w2.heap.size) := fun b hb => (hO2.row.lt b hb).2
  have HLowV : Hid (∀ j (h : j < vs.length) b, vs[j].ownBlock = some b → b < w2.heap.size) := fun j h b hb => (ownN_lt (hO2.each j (by have := hO2.len; omega) h) hb).2
  obtain ⟨aa, ca, hua⟩ := own_slice hA.row
  have hrb := hO3.row
  rw [hO3.len] at hrb
  obtain ⟨ab, cb, hub⟩ := own_slice hrb
  rw [hN] at hua hub
  subst hua
  subst hub
  have HA := hid hA
  have HB := hid hO3
  have HN := hid hN
  have HE := hid heach
  have HK3 : Hid (Kept w1 w3) := HK2.out.trans hk3 (fun _ _ f => f)
  have HLen := hid hlen
  have hNb : N ≤ 100 := by omega
  clear hA hO3 hO2 hk3 hrb hN heach hls HO2 hlen
  go_wp2_with fail
  go_loopw [6, 7] (fun i _ wr => ∃ (k : Nat) (cur : List Value), k ≤ N ∧ i = .int .i64 (k : Int) ∧ LeftAt wr w1.heap.size k (.slice aa N ca) ls vs cur ∧ OutAt wr w2.heap.size (.slice ab N cb) ls vs' ∧ Kept w1 wr) (fun i _ _ => N - (intOf i).toNat)
  case atStart => exact ⟨0, vs, by omega, rfl, HA.out, HB.out, HK3.out⟩
  case round =>
    obtain ⟨k, cur, hk, rfl, hA, hB, hkr⟩ := hrel
    by_cases hlt : k < N
    · have hkl : k < ls.length := by have := HN.out; omega
      have hkv : k < vs.length := by have := hA.vlen; omega
      have hkb : k < vs'.length := by have := hB.len; omega
      obtain ⟨ug, uc, hg⟩ := own_some hA.row (by omega)
      rw [HN.out] at hg
      cases hg
      have hrb := hB.row
      rw [hB.len] at hrb
      obtain ⟨ub, ubc, hg⟩ := own_some hrb (by omega)
      rw [HN.out] at hg
      cases hg
      have HC0 : Hid (∀ W, Kept wr W → W.cell? ⟨ug, k, none⟩ = some vs[k] ∧ W.cell? ⟨ub, k, none⟩ = some vs'[k]) := fun W hW => by
        have hr := (hA.stay hW).row
        have hrb' := own_only hrb hW (fun _ _ f => f)
        rw [HN.out] at hr hrb'
        exact ⟨by rw [hr.cellAt k (by omega), hA.same k (Nat.le_refl _) hkl, List.getElem?_eq_getElem hkv], by rw [hrb'.cellAt k (by omega), List.getElem?_eq_getElem hkb]⟩
      have hsame0 : Hid (∀ W, Kept wr W → Calls Try.prog 13 #[vs[k], vs'[k]] W fun e w' => e = .returned (.bool true) ∧ Kept W w') := fun W hW => same_any W vs[k] vs'[k] ls[k] (SmpAt.src ((hA.stay hW).each k hkl hkv (Nat.le_refl _))) (SmpAt.src ((hB.only hW (fun _ f => f.elim)).each k hkl hkb)) (by have := HE.out _ (List.getElem_mem hkl); omega)
      have HCur0 : Hid (cur[k]? = some vs[k]) := by show _ = _; rw [hA.same k (Nat.le_refl _) hkl, List.getElem?_eq_getElem hkv]
      have HVb : Hid (∃ a c, vs'[k] = .slice a ls[k].length c) := ownN_slice (hB.each k hkl hkb)
      have HVa : Hid (∃ a c, vs[k] = .slice a ls[k].length c) := ownN_slice (hA.each k hkl hkv (Nat.le_refl _))
      have HA1 := hid hA
      have HB1 := hid hB
      have HKr := hid hkr
      clear hA hB hkr hrb
      have hn120 := HE.out _ (List.getElem_mem hkl)
      have HV := HLowV.out k hkv
      have HPut : Hid (∀ W, Kept wr W → LeftAt W w1.heap.size k (.slice (some ⟨ug, 0, none⟩) N ca) ls vs cur) := fun W hW => HA1.out.stay hW
      have HPut2 := fun W (hW : Kept wr W) => (by rw [HN.out]; exact HPut.out W hW : LeftAt W w1.heap.size k (.slice (some ⟨ug, 0, none⟩) ls.length ca) ls vs cur).put (HKr.out.trans hW (fun _ _ f => f)) hkl hkv (by omega) (9, 0)
      have HPut3 := hid HPut2
      have HNext : Hid (∀ W W' x, Kept wr W → Only (roundO ug vs[k]) W W' → W'.ownsRow w1.heap.size 22 1 (.slice (some ⟨ug, 0, none⟩) N ca) N (cur.set k x) → LeftAt W' w1.heap.size (k + 1) (.slice (some ⟨ug, 0, none⟩) N ca) ls vs (cur.set k x) ∧ OutAt W' w2.heap.size (.slice (some ⟨ub, 0, none⟩) N cb) ls vs' ∧ Kept w1 W') := by
        intro W W' x hW hO hrow
        have hB := HB1.out.only hW (fun _ f => f.elim)
        have hL := HPut.out W hW
        have hlow : ∀ b, roundO ug vs[k] b → b < w2.heap.size := fun b hb => by
          rcases hb with rfl | hb
          · exact HLowU.out _ rfl
          · exact HV b hb
        have hhigh : ∀ b, roundO ug vs[k] b → w1.heap.size ≤ b := fun b hb => by
          rcases hb with rfl | hb
          · exact (hL.row.lt b rfl).1
          · exact (ownN_lt (hL.each k hkl hkv (Nat.le_refl _)) hb).1
        refine ⟨?_, hB.only hO hlow, (HKr.out.trans hW (fun _ _ f => f)).trans hO (fun j hj ho => by have := hhigh j ho; omega)⟩
        have := LeftAt.next (w := W) (w' := W') (x := x) (ls := ls) (cur := cur) (vs := vs) (uc := ca) (ug := ug) (base := w1.heap.size) (i := k) (by rw [HN.out]; exact hL) hkv hO (by rw [HN.out]; exact hrow)
        rw [HN.out] at this
        exact this
      obtain ⟨xa, xc, hxa⟩ := HVa.out
      obtain ⟨xb, xd, hxb⟩ := HVb.out
      obtain ⟨n, hn⟩ : ∃ n, ls[k].length = n := ⟨_, rfl⟩
      rw [hn] at hxa hxb hn120
      have HXA := hid hxa
      have HCur : Hid (cur[k]? = some (.slice xa n xc)) := by rw [← hxa]; exact HCur0.out
      have HC : Hid (∀ W, Kept wr W → W.cell? ⟨ug, k, none⟩ = some (.slice xa n xc) ∧ W.cell? ⟨ub, k, none⟩ = some (.slice xb n xd)) := fun W hW => by rw [← hxa, ← hxb]; exact HC0.out W hW
      have hsame : Hid (∀ W, Kept wr W → Calls Try.prog 13 #[.slice xa n xc, .slice xb n xd] W fun e w' => e = .returned (.bool true) ∧ Kept W w') := fun W hW => by rw [← hxa, ← hxb]; exact hsame0.out W hW
      have HNN := hid hn
      obtain ⟨t1, t2⟩ := HC.out wr (Only.refl _ _)
      clear hxa hxb hn HVa HVb HPut2 HA1 HB1 HPut HC0 hsame0
      go_wp2_with fail
      refine wp_region_noPanic ?_
      refine wp_region_last (L := 1000) (S := fun w' => w'.cell? ⟨ug, k, none⟩ = some (.slice xa n xc) ∧ w'.cell? ⟨ub, k, none⟩ = some (.slice xb n xd)) (by kernel_rfl) ?_
      have hS : (fun w' : World => w'.cell? ⟨ug, k, none⟩ = some (.slice xa n xc) ∧ w'.cell? ⟨ub, k, none⟩ = some (.slice xb n xd)) wr.drew := ⟨t1, t2⟩
      refine wpAnyN_take (i := 0) (v := .slice (some ⟨ug, 0, none⟩) N ca) rfl (by kernel_rfl) (by kernel_rfl) (by kernel_rfl) (by decide) (by kernel_rfl) (fun _ _ _ h => h) (Or.inl ⟨by rfl, ?_⟩) hS ?_
      · (intro w' hSw; go_simp)
      go_frame
      refine wpAnyN_take (i := 1) (v := .int .i64 (k : Int)) rfl (by kernel_rfl) (by kernel_rfl) (by kernel_rfl) (by decide) (by kernel_rfl) (fun _ _ _ h => h) (Or.inl ⟨by rfl, ?_⟩) hS ?_
      · (intro w' hSw; go_simp)
      go_frame
      refine wpAnyN_take (i := 2) (v := .pointer (some ⟨ug, k, none⟩)) rfl (by kernel_rfl) (by kernel_rfl) (by kernel_rfl) (by decide) (by kernel_rfl) (fun _ _ _ h => h) (Or.inl ⟨by rfl, ?_⟩) hS ?_
      · (intro w' hSw; go_simp)
      go_frame
      refine wpAnyN_take (i := 3) (v := .slice xa n xc) rfl (by kernel_rfl) (by kernel_rfl) (by kernel_rfl) (by decide) (by kernel_rfl) (fun _ _ _ h => h) (Or.inl ⟨by rfl, ?_⟩) hS ?_
      · (intro w' hSw; go_simp)
      go_frame
      refine wpAnyN_take (i := 4) (v := .slice (some ⟨ub, 0, none⟩) N cb) rfl (by kernel_rfl) (by kernel_rfl) (by kernel_rfl) (by decide) (by kernel_rfl) (fun _ _ _ h => h) (Or.inl ⟨by rfl, ?_⟩) hS ?_
      · (intro w' hSw; go_simp)
      go_frame
      refine wpAnyN_take (i := 5) (v := .int .i64 (k : Int)) rfl (by kernel_rfl) (by kernel_rfl) (by kernel_rfl) (by decide) (by kernel_rfl) (fun _ _ _ h => h) (Or.inl ⟨by rfl, ?_⟩) hS ?_
      · (intro w' hSw; go_simp)
      go_frame
      refine wpAnyN_take (i := 6) (v := .pointer (some ⟨ub, k, none⟩)) rfl (by kernel_rfl) (by kernel_rfl) (by kernel_rfl) (by decide) (by kernel_rfl) (fun _ _ _ h => h) (Or.inl ⟨by rfl, ?_⟩) hS ?_
      · (intro w' hSw; go_simp)
      go_frame
      refine wpAnyN_take (i := 7) (v := .slice xb n xd) rfl (by kernel_rfl) (by kernel_rfl) (by kernel_rfl) (by decide) (by kernel_rfl) (fun _ _ _ h => h) (Or.inl ⟨by rfl, ?_⟩) hS ?_
      · (intro w' hSw; go_simp)
      go_frame
      refine wpAnyL_one (i := 8) (by kernel_rfl) rfl rfl ?_
      go_simp
      refine (hsame.out _ (Only.refl _ wr).drew).mono ?_
      rintro e w4 ⟨rfl, k4'⟩
      have k4 : Kept wr w4 := (Only.refl _ wr).drew.trans k4' (fun _ _ f => f)
      obtain ⟨y1, y2⟩ := HC.out w4 k4
      refine ⟨⟨y1, y2⟩, ?_⟩
      refine wpAnyL_one (i := 9) (by kernel_rfl) rfl rfl ?_
      go_simp
      refine wpAnyN_done (by kernel_rfl) ?_
      refine NoPanic.normal ?_
      clear hS
      clear t1 t2 y2 k4'
      obtain ⟨g, cap, w5, Hr, hrow5, hx6, hrow6, hO6, hgo⟩ := HPut3.out w4 k4
      rw [HXA.out, HNN.out] at Hr
      rw [HNN.out] at hx6 hrow6 hO6
      rw [HN.out] at hrow5 hrow6
      have t5 : w5.cell? ⟨ug, k, none⟩ = some (.slice xa n xc) := by rw [hrow5.cellAt k (by omega), HCur.out]
      have t6 : w5.frozen? ⟨ug, k, none⟩ = false := hrow5.frozenAt k
      have H6 := hid hx6
      have HR6 := hid hrow6
      have HO6 := hid hO6
      have HG := hid hgo
      have HK4 := hid k4
      have hkN : (k : Int) < (N : Int) := by omega
      clear hx6 hrow6 hO6 hgo k4 hrow5
      go_wp2_with (at_builtin; refine wpList_append_run rfl _ _ _ rfl rfl rfl Hr ?_)
      go_loopw [7] (fun i wr2 => ∃ (m : Nat) (q : Smps), m ≤ n + 1 ∧ i = .int .i64 (m : Int) ∧ q.length = n + 1 ∧ SmpAt wr2 w1.heap.size (.slice (some ⟨g, 0, none⟩) (n + 1) cap) q ∧ wr2.ownsRow w1.heap.size 22 1 (.slice (some ⟨ug, 0, none⟩) N ca) N (cur.set k (.slice (some ⟨g, 0, none⟩) (n + 1) cap)) ∧ Only (roundO ug vs[k]) w4 wr2) (fun i _ => n + 1 - (intOf i).toNat)
      case atStart => exact ⟨0, _, by omega, rfl, by rw [List.length_append, HNN.out]; rfl, H6.out, HR6.out, HO6.out⟩
      case round =>
        obtain ⟨m, q, hm, rfl, hq, hx, hrow, hO⟩ := hrel
        have z1 : wr.cell? ⟨ug, k, none⟩ = some (.slice (some ⟨g, 0, none⟩) (n + 1) cap) := by rw [hrow.cellAt k (by omega), List.getElem?_set_self (by have := (List.getElem?_eq_some_iff.1 HCur.out).1; exact this)]
        by_cases hlt2 : m < n + 1
        · obtain ⟨f0, f1, ⟨x0, y0, c0', c1'⟩, q', hq', hx'⟩ := smp_set hx hq hlt2 (-1, 0)
          have hne : g ≠ ug := fun e => (ownN_typed hx (k := g) rfl).ne (own_typed hrow (k := ug) rfl) (by decide) e
          have HS2 : Hid (Only (fun b => b = g) wr ((wr.setCell ⟨g, m * 2, none⟩ (.int .i64 (-1))).setCell ⟨g, m * 2 + 1, none⟩ (.int .i64 0))) := ((Only.refl (fun b => b = g) wr).setCell (p := ⟨g, m * 2, none⟩) (fun _ => rfl) _).setCell (p := ⟨g, m * 2 + 1, none⟩) (fun _ => rfl) _
          have HROW : Hid (((wr.setCell ⟨g, m * 2, none⟩ (.int .i64 (-1))).setCell ⟨g, m * 2 + 1, none⟩ (.int .i64 0)).ownsRow w1.heap.size 22 1 (.slice (some ⟨ug, 0, none⟩) N ca) N (cur.set k (.slice (some ⟨g, 0, none⟩) (n + 1) cap))) := own_only hrow HS2.out (fun b hb e => hne (by cases hb; exact e.symm))
          have HON : Hid (Only (roundO ug vs[k]) w4 ((wr.setCell ⟨g, m * 2, none⟩ (.int .i64 (-1))).setCell ⟨g, m * 2 + 1, none⟩ (.int .i64 0))) := (hO.setCell (p := ⟨g, m * 2, none⟩) HG.out _).setCell (p := ⟨g, m * 2 + 1, none⟩) HG.out _
          have HX' := hid hx'
          have HQ' := hid hq'
          have hm2 : (m : Int) < (n : Int) + 1 := by omega
          clear hx hrow hO hx' hq hq' hne
          go_wp2_with fail
          go_roundw
          case rel => exact ⟨m + 1, q', by omega, by go_num, HQ'.out, HX'.out, HROW.out, HON.out⟩
          case measure => simp [intOf]; omega
        · have hF := HNext.out w4 wr _ HK4.out hO hrow
          have HF := hid hF
          have e : m = n + 1 := by omega
          subst e
          clear hF hx hrow hO
          go_wp2_with fail
          go_roundw
          case rel => exact ⟨k + 1, _, by omega, by go_num, HF.out.1, HF.out.2.1, HF.out.2.2⟩
          case measure => simp [intOf]; omega
    · have e : k = N := by omega
      subst e
      have HKr := hid hkr
      have hlen := HLen.out
      clear hA hB hkr
      go_wp2_with fail
      all_goals (go_ret; exact ⟨rfl, HK1.out.trans HKr.out (fun _ _ f => f)⟩)
end Go.Proofs.Ytbhpmeeknbbmmaa.C
