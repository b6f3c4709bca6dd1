/-
  The law's own code: how great rows are, whether series are the same, how many samples series have.
-/
import Derived.Test.YtnbfbnhiikliaaaGreatHlaw1
import Derived.Test.YtnbfbnhiikliaaaGreatHall
namespace Go.Proofs.YtnbfbnhiikliaaaGreat.Hd
open Go.RowKit Go.Proofs.Lys Go.Maps Go.Proofs.YtnbfbnhiikliaaaGreat.N
set_option linter.unusedVariables false
set_option linter.unusedSimpArgs false

/-- Rows that came in. -/
structure RowsIn (w : World) (v : Value) (rs : List Row) : Prop where
  src : RowSrc w (fun _ => True) v rs
  came : ∀ r ∈ rs, Came r.1 ∧ r.1.length ≤ 1000000000000000
  len : rs.length ≤ 1000000000000000
/-- What BigRows answers. -/
def BigA (rs : List Row) (e : Ending) : Prop := ∃ b, e = .returned (.bool b) ∧ (b = false → ∀ r ∈ rs, bigN r.1 ≤ 4000)
set_option maxRecDepth 100000 in
set_option maxHeartbeats 1600000 in
theorem bigrows_any (w : World) (v : Value) (rs : List Row) (hs : RowsIn w v rs) :
    Calls Tryz.prog 6 #[v] w fun e w' => BigA rs e ∧ Kept w w' := by
  have HS := hid hs
  obtain ⟨a1, c1, rfl⟩ := hs.src.len
  obtain ⟨L, hL⟩ : ∃ L, rs.length = L := ⟨_, rfl⟩
  have hLb : L ≤ 1000000000000000 := by rw [← hL]; exact hs.len
  have HL := hid hL
  have HSR := hid hs.src
  rw [hL] at HSR ⊢
  clear hs hL
  go_enter Tryz.func6, Tryz.ntmps6
  go_wp2
  go_loopw [3, 4] (fun s3 s4 wr => ∃ (k n : Nat), k ≤ L ∧ s4 = .int .i64 (k : Int) ∧ s3 = .int .i64 (n : Int) ∧ n ≤ 60000 ∧ (∀ i (hi : i < rs.length), i < k → bigN rs[i].1 ≤ 4000) ∧ Kept w wr) (fun _ s4 _ => L - (intOf s4).toNat)
  case atStart => exact ⟨0, 0, by omega, rfl, rfl, by omega, (fun i _ h => absurd h (by omega)), Only.refl _ _⟩
  case round =>
    obtain ⟨k, n, hk, rfl, rfl, hn, hok, kr⟩ := hrel
    have HO := hid hok
    have HK := hid kr
    clear hok
    by_cases hlt : k < L
    · by_cases hbig : n ≤ 20000
      · have hkl : k < rs.length := by have := HL.out; omega
        obtain ⟨b1, o1, lv, rfl, x0, x1, x2, hlv, _⟩ := (HSR.out.stay kr).cell HL.out k hlt
        obtain ⟨a3, c3, rfl⟩ := hlv.len
        obtain ⟨hcm, hcl⟩ := HS.out.came _ (List.getElem_mem hkl)
        have HB := hid (big_any wr _ _ hlv (by omega) hcm)
        have HLV := hid hlv
        have hx0 := hid x0
        clear hlv x1 x2 kr
        have hd1 : ((k : Int) < (L : Int)) := by omega
        have hd2 : ((n : Int) ≤ 20000) := by omega
        have HT : Hid (bigN (rs[k]'hkl).1 ≤ 4000 → ∀ i (hi : i < rs.length), i < k + 1 → bigN rs[i].1 ≤ 4000) := fun h i hi hik => by
          by_cases e : i < k
          · exact HO.out i hi e
          · have : i = k := by omega
            subst this
            exact h
        have hle := bigN_len (rs[k]'hkl).1
        generalize (rs[k]'hkl).1 = rl at *
        generalize hrn : rl.length = rn at *
        go_wp2_with fail
        refine HB.out.mono ?_
        rintro e w1 ⟨rfl, k1⟩
        have HK1 := hid (HK.out.trans k1 (fun _ _ f => f))
        have x01 := only_cell k1 (fun f => f) hx0.out
        clear k1 HB x0 hx0 HLV
        by_cases hb : 4000 < bigN rl
        · rw [decide_eq_true hb]
          go_wp2
          go_ret
          exact ⟨⟨true, rfl, fun h => by cases h⟩, HK1.out⟩
        · rw [decide_eq_false hb]
          have hrb : rn ≤ 4000 := by omega
          have hw1 : IntKind.i64.wrap ((n : Int) + 10) = (n : Int) + 10 := by rw [IntKind.wrap_i64]; omega
          have hw2 : IntKind.i64.wrap ((rn : Int) * 8) = (rn : Int) * 8 := by rw [IntKind.wrap_i64]; omega
          have hw3 : IntKind.i64.wrap ((n : Int) + 10 + (rn : Int) * 8) = (n : Int) + 10 + (rn : Int) * 8 := by rw [IntKind.wrap_i64]; omega
          have HT2 := hid (HT.out (by omega))
          clear hb hle HT
          go_wp2
          refine ⟨⟨k + 1, n + 10 + rn * 8, by omega, by go_num, by go_num, by omega, HT2.out, HK1.out⟩, ?_⟩
          simp [intOf]
          omega
      · have hd1 : ((k : Int) < (L : Int)) := by omega
        have hd2 : ¬ ((n : Int) ≤ 20000) := by omega
        have hd3 : (20000 : Int) < (n : Int) := by omega
        go_wp2
        go_ret
        exact ⟨⟨true, rfl, fun h => by cases h⟩, HK.out⟩
    · have e : k = L := by omega
      subst e
      by_cases hbig : n ≤ 20000
      · have hd3 : ¬ (20000 : Int) < (n : Int) := by omega
        have hd4 : decide ((20000 : Int) < (n : Int)) = false := decide_eq_false hd3
        go_wp2
        go_ret
        refine ⟨⟨false, rfl, fun _ r hr => ?_⟩, HK.out⟩
        · obtain ⟨i, hi, rfl⟩ := List.getElem_of_mem hr
          exact HO.out i hi (by have := HL.out; omega)
      · have hd3 : (20000 : Int) < (n : Int) := by omega
        go_wp2
        go_ret
        exact ⟨⟨true, rfl, fun h => by cases h⟩, HK.out⟩

set_option maxHeartbeats 1000000 in
theorem ssame_any (w : World) (va vb : Value) (l : Smps) (ha : SmpSrc w va l) (hb : SmpSrc w vb l) (hl : l.length ≤ 1000000) :
    Calls Tryz.prog 27 #[va, vb] w fun e w' => e = .returned (.bool true) ∧ Kept w w' := by
  obtain ⟨a1, c1, rfl⟩ := ha.len
  obtain ⟨a2, c2, rfl⟩ := hb.len
  obtain ⟨L, hL⟩ : ∃ L, l.length = L := ⟨_, rfl⟩
  rw [hL] at ha hb hl ⊢
  have HA := hid ha
  have HB := hid hb
  have HL := hid hL
  clear ha hb hL
  go_enter Tryz.func27, Tryz.ntmps27
  go_wp2
  go_loopw [5] (fun s wr => ∃ (k : Nat), k ≤ L ∧ s = .int .i64 (k : Int) ∧ Kept w wr) (fun s _ => L - (intOf s).toNat)
  case atStart => exact ⟨0, by omega, rfl, Only.refl _ _⟩
  case round =>
    obtain ⟨k, hk, rfl, kr⟩ := hrel
    by_cases hlt : k < L
    · obtain ⟨b1, o1, rfl, x1, y1⟩ := (HA.out.stay kr).cell HL.out k hlt
      obtain ⟨b2, o2, rfl, x2, y2⟩ := (HB.out.stay kr).cell HL.out k hlt
      generalize (l[k]'(by have := HL.out; omega)).1 = X at x1 x2
      generalize (l[k]'(by have := HL.out; omega)).2 = Y at y1 y2
      go_wp2_with fail
      go_quiet (fail)
      go_wp2_with fail
      go_roundw
      case rel => exact ⟨k + 1, by omega, by go_num, kept_drewN kr nq⟩
      case measure => simp [intOf]; omega
    · have e : k = L := by omega
      subst e
      go_wp2
      go_ret
      exact ⟨rfl, kr⟩

/-- Series that are read. -/
structure SerSrc (w : World) (v : Value) (xs : Mod) : Prop where
  row : (∃ a c, v = .slice a 0 c ∧ xs = []) ∨ (0 < xs.length ∧ ∃ b o c, v = .slice (some ⟨b, o, none⟩) xs.length c ∧ ∀ i (hi : i < xs.length), ∃ lv sv, w.cell? ⟨b, o + i * 2, none⟩ = some lv ∧ w.cell? ⟨b, o + i * 2 + 1, none⟩ = some sv ∧ LabSrc w lv xs[i].1 ∧ SmpSrc w sv xs[i].2)
theorem SerSrc.stay {w W : World} {v : Value} {xs : Mod} (h : SerSrc w v xs) (k : Kept w W) : SerSrc W v xs := by
  refine ⟨?_⟩
  rcases h.row with h | ⟨h0, b, o, c, rfl, hc⟩
  · exact .inl h
  · refine .inr ⟨h0, b, o, c, rfl, fun i hi => ?_⟩
    obtain ⟨lv, sv, h1, h2, h3, h4⟩ := hc i hi
    exact ⟨lv, sv, only_cell k (fun f => f) h1, only_cell k (fun f => f) h2, h3.stay k, h4.stay k⟩
theorem SerSrc.len {w : World} {v : Value} {xs : Mod} (h : SerSrc w v xs) : ∃ a c, v = .slice a xs.length c := by
  rcases h.row with ⟨a, c, rfl, rfl⟩ | ⟨_, b, o, c, rfl, _⟩
  · exact ⟨a, c, rfl⟩
  · exact ⟨_, c, rfl⟩
theorem SerSrc.cell {w : World} {a : Option Addr} {c M : Nat} {xs : Mod} (h : SerSrc w (.slice a M c) xs) (hM : xs.length = M) (k : Nat) (hk : k < M) : ∃ b o lv sv, a = some ⟨b, o, none⟩ ∧ w.cell? ⟨b, o + k * 2, none⟩ = some lv ∧ w.cell? ⟨b, o + k * 2 + 1, none⟩ = some sv ∧ LabSrc w lv (xs[k]'(by omega)).1 ∧ SmpSrc w sv (xs[k]'(by omega)).2 := by
  rcases h.row with ⟨a, c, e, e2⟩ | ⟨hpos, b, o, c, e1, hc⟩
  · subst e2
    simp at hM
    omega
  · rw [hM] at e1
    cases e1
    obtain ⟨lv, sv, h1⟩ := hc k (by omega)
    exact ⟨b, o, lv, sv, rfl, h1⟩
theorem SerAt.src {w : World} {B : Nat} {v : Value} {qs : List SV} (h : SerAt w B v qs) : SerSrc w v (qs.map serV) := by
  refine ⟨?_⟩
  by_cases h0 : qs.length = 0
  · have : qs = [] := List.length_eq_zero_iff.1 h0
    subst this
    obtain ⟨a, c, e⟩ := ownN_slice h.row
    exact .inl ⟨a, c, e, rfl⟩
  · obtain ⟨g, cap, e⟩ := ownN_some h.row (by omega)
    subst e
    refine .inr ⟨by rw [List.length_map]; omega, g, 0, cap, by rw [List.length_map], fun i hi => ?_⟩
    rw [List.length_map] at hi
    have hx := svL_at qs i hi
    rw [Nat.zero_add, List.getElem_map]
    exact ⟨_, _, by rw [h.row.cellAt (i * 2) (by omega)]; exact hx.1, by rw [h.row.cellAt (i * 2 + 1) (by omega)]; exact hx.2, LabAt.src (h.lab _ (List.getElem_mem hi)), SmpAt.src (h.smp _ (List.getElem_mem hi))⟩

set_option maxRecDepth 100000 in
set_option maxHeartbeats 2000000 in
theorem same_series (w : World) (va vb : Value) (xs : Mod) (ha : SerSrc w va xs) (hb : SerSrc w vb xs) (hl : xs.length ≤ 1000000) (hll : ∀ x ∈ xs, x.1.length ≤ 1000000 ∧ x.2.length ≤ 1000000) :
    Calls Tryz.prog 20 #[va, vb] w fun e w' => e = .returned (.bool true) ∧ Kept w w' := by
  obtain ⟨a1, c1, rfl⟩ := ha.len
  obtain ⟨a2, c2, rfl⟩ := hb.len
  obtain ⟨L, hL⟩ : ∃ L, xs.length = L := ⟨_, rfl⟩
  rw [hL] at ha hb hl ⊢
  have HA := hid ha
  have HB := hid hb
  have HL := hid hL
  have HLL := hid hll
  clear ha hb hL hll
  go_enter Tryz.func20, Tryz.ntmps20
  go_wp2
  go_loopw [5] (fun s wr => ∃ (k : Nat), k ≤ L ∧ s = .int .i64 (k : Int) ∧ Kept w wr) (fun s _ => L - (intOf s).toNat)
  case atStart => exact ⟨0, by omega, rfl, Only.refl _ _⟩
  case round =>
    obtain ⟨k, hk, rfl, kr⟩ := hrel
    have HK := hid kr
    by_cases hlt : k < L
    · have hkl : k < xs.length := by have := HL.out; omega
      obtain ⟨b1, o1, lv1, sv1, rfl, x1, y1, p1, q1⟩ := (HA.out.stay kr).cell HL.out k hlt
      obtain ⟨b2, o2, lv2, sv2, rfl, x2, y2, p2, q2⟩ := (HB.out.stay kr).cell HL.out k hlt
      obtain ⟨hl1, hl2⟩ := HLL.out _ (List.getElem_mem hkl)
      have HS1 := hid (fun W (kW : Kept wr W) => same_any W _ _ _ (p1.stay kW) (p2.stay kW) hl1)
      have HS2 := hid (fun W (kW : Kept wr W) => ssame_any W _ _ _ (q1.stay kW) (q2.stay kW) hl2)
      obtain ⟨a3, c3, e3⟩ := p1.len
      obtain ⟨a4, c4, e4⟩ := p2.len
      obtain ⟨a5, c5, e5⟩ := q1.len
      obtain ⟨a6, c6, e6⟩ := q2.len
      subst e3 e4 e5 e6
      have S0 : Hid (∀ W, Kept wr W → W.cell? ⟨b1, o1 + k * 2, none⟩ = some _ ∧ W.cell? ⟨b1, o1 + k * 2 + 1, none⟩ = some _ ∧ W.cell? ⟨b2, o2 + k * 2, none⟩ = some _ ∧ W.cell? ⟨b2, o2 + k * 2 + 1, none⟩ = some _) := fun W kW => ⟨only_cell kW (fun f => f) x1, only_cell kW (fun f => f) y1, only_cell kW (fun f => f) x2, only_cell kW (fun f => f) y2⟩
      clear p1 p2 q1 q2 kr
      generalize (xs[k]'hkl).1.length = n1 at *
      generalize (xs[k]'hkl).2.length = n2 at *
      go_wp2_with fail
      refine wp_region_noPanic ?_
      refine wp_region_last (L := 1000) (S := fun w' => Kept wr w') (by kernel_rfl) ?_
      have hS : (fun w' : World => Kept wr w') wr.drew := (Only.refl (fun _ => False) wr).drew
      refine wpAnyN_take (i := 0) (v := .slice (some ⟨b1, o1, none⟩) L c1) rfl (by kernel_rfl) (by kernel_rfl) (by kernel_rfl) (by decide) (by kernel_rfl) (fun _ _ _ h => h) (Or.inl ⟨by rfl, ?_⟩) hS ?_
      · (intro w' hSw; obtain ⟨s0, s1, s2, s3⟩ := S0.out w' hSw; clear hSw; go_simp)
      go_frame
      refine wpAnyN_take (i := 1) (v := .int .i64 (k : Int)) rfl (by kernel_rfl) (by kernel_rfl) (by kernel_rfl) (by decide) (by kernel_rfl) (fun _ _ _ h => h) (Or.inl ⟨by rfl, ?_⟩) hS ?_
      · (intro w' hSw; obtain ⟨s0, s1, s2, s3⟩ := S0.out w' hSw; clear hSw; go_simp)
      go_frame
      refine wpAnyN_take (i := 2) (v := .pointer (some ⟨b1, o1 + k * 2, none⟩)) rfl (by kernel_rfl) (by kernel_rfl) (by kernel_rfl) (by decide) (by kernel_rfl) (fun _ _ _ h => h) (Or.inl ⟨by rfl, ?_⟩) hS ?_
      · (intro w' hSw; obtain ⟨s0, s1, s2, s3⟩ := S0.out w' hSw; clear hSw; go_simp)
      go_frame
      refine wpAnyN_take (i := 3) (v := .pointer (some ⟨b1, o1 + k * 2, none⟩)) rfl (by kernel_rfl) (by kernel_rfl) (by kernel_rfl) (by decide) (by kernel_rfl) (fun _ _ _ h => h) (Or.inl ⟨by rfl, ?_⟩) hS ?_
      · (intro w' hSw; obtain ⟨s0, s1, s2, s3⟩ := S0.out w' hSw; clear hSw; go_simp)
      go_frame
      refine wpAnyN_take (i := 4) (v := .slice a3 n1 c3) rfl (by kernel_rfl) (by kernel_rfl) (by kernel_rfl) (by decide) (by kernel_rfl) (fun _ _ _ h => h) (Or.inl ⟨by rfl, ?_⟩) hS ?_
      · (intro w' hSw; obtain ⟨s0, s1, s2, s3⟩ := S0.out w' hSw; clear hSw; go_simp)
      go_frame
      refine wpAnyN_take (i := 5) (v := .slice (some ⟨b2, o2, none⟩) L c2) rfl (by kernel_rfl) (by kernel_rfl) (by kernel_rfl) (by decide) (by kernel_rfl) (fun _ _ _ h => h) (Or.inl ⟨by rfl, ?_⟩) hS ?_
      · (intro w' hSw; obtain ⟨s0, s1, s2, s3⟩ := S0.out w' hSw; clear hSw; go_simp)
      go_frame
      refine wpAnyN_take (i := 6) (v := .int .i64 (k : Int)) rfl (by kernel_rfl) (by kernel_rfl) (by kernel_rfl) (by decide) (by kernel_rfl) (fun _ _ _ h => h) (Or.inl ⟨by rfl, ?_⟩) hS ?_
      · (intro w' hSw; obtain ⟨s0, s1, s2, s3⟩ := S0.out w' hSw; clear hSw; go_simp)
      go_frame
      refine wpAnyN_take (i := 7) (v := .pointer (some ⟨b2, o2 + k * 2, none⟩)) rfl (by kernel_rfl) (by kernel_rfl) (by kernel_rfl) (by decide) (by kernel_rfl) (fun _ _ _ h => h) (Or.inl ⟨by rfl, ?_⟩) hS ?_
      · (intro w' hSw; obtain ⟨s0, s1, s2, s3⟩ := S0.out w' hSw; clear hSw; go_simp)
      go_frame
      refine wpAnyN_take (i := 8) (v := .pointer (some ⟨b2, o2 + k * 2, none⟩)) rfl (by kernel_rfl) (by kernel_rfl) (by kernel_rfl) (by decide) (by kernel_rfl) (fun _ _ _ h => h) (Or.inl ⟨by rfl, ?_⟩) hS ?_
      · (intro w' hSw; obtain ⟨s0, s1, s2, s3⟩ := S0.out w' hSw; clear hSw; go_simp)
      go_frame
      refine wpAnyN_take (i := 9) (v := .slice a4 n1 c4) rfl (by kernel_rfl) (by kernel_rfl) (by kernel_rfl) (by decide) (by kernel_rfl) (fun _ _ _ h => h) (Or.inl ⟨by rfl, ?_⟩) hS ?_
      · (intro w' hSw; obtain ⟨s0, s1, s2, s3⟩ := S0.out w' hSw; clear hSw; go_simp)
      go_frame
      refine wpAnyL_one (i := 10) (by kernel_rfl) rfl rfl ?_
      go_simp
      refine (HS1.out _ ((Only.refl (fun _ => False) wr).drew)).mono ?_
      rintro e w2 ⟨rfl, kw2⟩
      have Kw2 := hid (show Kept wr w2 from ((Only.refl (fun _ => False) wr).drew).trans kw2 (fun _ _ f => f))
      clear kw2
      refine ⟨Kw2.out, ?_⟩
      (try go_frame)
      refine wpAnyL_one (i := 11) (by kernel_rfl) rfl rfl ?_
      go_simp
      refine ⟨Kw2.out, ?_⟩
      (try go_frame)
      refine wpAnyN_done (by kernel_rfl) ?_
      refine NoPanic.normal ?_
      clear hS
      go_wp2_with fail
      refine wp_region_noPanic ?_
      refine wp_region_last (L := 1000) (S := fun w' => Kept wr w') (by kernel_rfl) ?_
      have hS : (fun w' : World => Kept wr w') w2.drew := Kw2.out.drew
      refine wpAnyN_take (i := 0) (v := .slice (some ⟨b1, o1, none⟩) L c1) rfl (by kernel_rfl) (by kernel_rfl) (by kernel_rfl) (by decide) (by kernel_rfl) (fun _ _ _ h => h) (Or.inl ⟨by rfl, ?_⟩) hS ?_
      · (intro w' hSw; obtain ⟨s0, s1, s2, s3⟩ := S0.out w' hSw; clear hSw; go_simp)
      go_frame
      refine wpAnyN_take (i := 1) (v := .int .i64 (k : Int)) rfl (by kernel_rfl) (by kernel_rfl) (by kernel_rfl) (by decide) (by kernel_rfl) (fun _ _ _ h => h) (Or.inl ⟨by rfl, ?_⟩) hS ?_
      · (intro w' hSw; obtain ⟨s0, s1, s2, s3⟩ := S0.out w' hSw; clear hSw; go_simp)
      go_frame
      refine wpAnyN_take (i := 2) (v := .pointer (some ⟨b1, o1 + k * 2, none⟩)) rfl (by kernel_rfl) (by kernel_rfl) (by kernel_rfl) (by decide) (by kernel_rfl) (fun _ _ _ h => h) (Or.inl ⟨by rfl, ?_⟩) hS ?_
      · (intro w' hSw; obtain ⟨s0, s1, s2, s3⟩ := S0.out w' hSw; clear hSw; go_simp)
      go_frame
      refine wpAnyN_take (i := 3) (v := .pointer (some ⟨b1, o1 + k * 2 + 1, none⟩)) rfl (by kernel_rfl) (by kernel_rfl) (by kernel_rfl) (by decide) (by kernel_rfl) (fun _ _ _ h => h) (Or.inl ⟨by rfl, ?_⟩) hS ?_
      · (intro w' hSw; obtain ⟨s0, s1, s2, s3⟩ := S0.out w' hSw; clear hSw; go_simp)
      go_frame
      refine wpAnyN_take (i := 4) (v := .slice a5 n2 c5) rfl (by kernel_rfl) (by kernel_rfl) (by kernel_rfl) (by decide) (by kernel_rfl) (fun _ _ _ h => h) (Or.inl ⟨by rfl, ?_⟩) hS ?_
      · (intro w' hSw; obtain ⟨s0, s1, s2, s3⟩ := S0.out w' hSw; clear hSw; go_simp)
      go_frame
      refine wpAnyN_take (i := 5) (v := .slice (some ⟨b2, o2, none⟩) L c2) rfl (by kernel_rfl) (by kernel_rfl) (by kernel_rfl) (by decide) (by kernel_rfl) (fun _ _ _ h => h) (Or.inl ⟨by rfl, ?_⟩) hS ?_
      · (intro w' hSw; obtain ⟨s0, s1, s2, s3⟩ := S0.out w' hSw; clear hSw; go_simp)
      go_frame
      refine wpAnyN_take (i := 6) (v := .int .i64 (k : Int)) rfl (by kernel_rfl) (by kernel_rfl) (by kernel_rfl) (by decide) (by kernel_rfl) (fun _ _ _ h => h) (Or.inl ⟨by rfl, ?_⟩) hS ?_
      · (intro w' hSw; obtain ⟨s0, s1, s2, s3⟩ := S0.out w' hSw; clear hSw; go_simp)
      go_frame
      refine wpAnyN_take (i := 7) (v := .pointer (some ⟨b2, o2 + k * 2, none⟩)) rfl (by kernel_rfl) (by kernel_rfl) (by kernel_rfl) (by decide) (by kernel_rfl) (fun _ _ _ h => h) (Or.inl ⟨by rfl, ?_⟩) hS ?_
      · (intro w' hSw; obtain ⟨s0, s1, s2, s3⟩ := S0.out w' hSw; clear hSw; go_simp)
      go_frame
      refine wpAnyN_take (i := 8) (v := .pointer (some ⟨b2, o2 + k * 2 + 1, none⟩)) rfl (by kernel_rfl) (by kernel_rfl) (by kernel_rfl) (by decide) (by kernel_rfl) (fun _ _ _ h => h) (Or.inl ⟨by rfl, ?_⟩) hS ?_
      · (intro w' hSw; obtain ⟨s0, s1, s2, s3⟩ := S0.out w' hSw; clear hSw; go_simp)
      go_frame
      refine wpAnyN_take (i := 9) (v := .slice a6 n2 c6) rfl (by kernel_rfl) (by kernel_rfl) (by kernel_rfl) (by decide) (by kernel_rfl) (fun _ _ _ h => h) (Or.inl ⟨by rfl, ?_⟩) hS ?_
      · (intro w' hSw; obtain ⟨s0, s1, s2, s3⟩ := S0.out w' hSw; clear hSw; go_simp)
      go_frame
      refine wpAnyL_one (i := 10) (by kernel_rfl) rfl rfl ?_
      go_simp
      refine (HS2.out _ (Kw2.out.drew)).mono ?_
      rintro e w3 ⟨rfl, kw3⟩
      have Kw3 := hid (show Kept wr w3 from (Kw2.out.drew).trans kw3 (fun _ _ f => f))
      clear kw3
      refine ⟨Kw3.out, ?_⟩
      (try go_frame)
      refine wpAnyL_one (i := 11) (by kernel_rfl) rfl rfl ?_
      go_simp
      refine ⟨Kw3.out, ?_⟩
      (try go_frame)
      refine wpAnyN_done (by kernel_rfl) ?_
      refine NoPanic.normal ?_
      clear hS
      have HKB := hid (HK.out.trans Kw3.out (fun _ _ f => f))
      go_wp2
      refine ⟨⟨k + 1, by omega, by go_num, HKB.out⟩, ?_⟩
      simp [intOf]
      omega
    · have e : k = L := by omega
      subst e
      go_wp2
      go_ret
      exact ⟨rfl, HK.out⟩
end Go.Proofs.YtnbfbnhiikliaaaGreat.Hd
