/-
  The law's own small ones; matchers that came in.
-/
import Derived.Test.YtbdcaikcdhfdoaaMtxt
import Derived.Test.YtbdcaikcdhfdoaaMfits
import Derived.Test.YtbdcaikcdhfdoaaNopen
namespace Go.Proofs.Ytbdcaikcdhfdoaa.N
open Go.RowKit Go.Proofs.Lys
set_option linter.unusedVariables false
set_option linter.unusedSimpArgs false

theorem mnum_any (w : World) (n : Int) : Calls Try.prog 11 #[.int .i64 n] w fun e w' => e = .returned (.int .i64 n) ∧ w' = w := by
  go_enter Try.func11, Try.ntmps11
  go_wp2
  go_ret
  exact ⟨rfl, rfl⟩

set_option maxRecDepth 100000 in
set_option maxHeartbeats 1600000 in
theorem msame_any (w : World) (va vb : Value) (l : Mats) (ha : MatSrc w va l) (hb : MatSrc w vb l) (hl : l.length ≤ 1000000) :
    Calls Try.prog 18 #[va, vb] w fun e w' => e = .returned (.bool true) ∧ Kept w w' := by
  obtain ⟨a1, c1, rfl⟩ := ha.len
  obtain ⟨a2, c2, rfl⟩ := hb.len
  obtain ⟨L, hL⟩ : ∃ L, l.length = L := ⟨_, rfl⟩
  rw [hL] at ha hb hl ⊢
  have HA := hid ha
  have HB := hid hb
  have HL := hid hL
  clear ha hb hL
  go_enter Try.func18, Try.ntmps18
  go_wp2
  go_loopw [5] (fun s wr => ∃ (k : Nat), k ≤ L ∧ s = .int .i64 (k : Int) ∧ Kept w wr) (fun s _ => L - (intOf s).toNat)
  case atStart => exact ⟨0, by omega, rfl, Only.refl _ _⟩
  case round =>
    obtain ⟨k, hk, rfl, kr⟩ := hrel
    by_cases hlt : k < L
    · obtain ⟨b1, o1, rfl, x1, y1, z1⟩ := (HA.out.stay kr).cell HL.out k hlt
      obtain ⟨b2, o2, rfl, x2, y2, z2⟩ := (HB.out.stay kr).cell HL.out k hlt
      generalize (l[k]'(by have := HL.out; omega)).1 = N at x1 x2
      generalize (l[k]'(by have := HL.out; omega)).2.1 = X at y1 y2
      generalize (l[k]'(by have := HL.out; omega)).2.2 = Y at z1 z2
      go_wp2_with fail
      go_quiet (fail)
      go_wp2_with fail
      go_roundw
      case rel => exact ⟨k + 1, by omega, by go_num, kept_drewN kr nq⟩
      case measure => simp [intOf]; omega
    · have e : k = L := by omega
      subst e
      go_wp2
      go_ret
      exact ⟨rfl, kr⟩

/-- How much matchers are. -/
def bigM : Mats → Nat
  | [] => 0
  | x :: r => 1 + x.2.1.size + x.2.2.size + bigM r
theorem bigM_app (l : Mats) (x : Mat) : bigM (l ++ [x]) = bigM l + (1 + x.2.1.size + x.2.2.size) := by
  induction l with
  | nil => simp [bigM]
  | cons y r ih => simp only [List.cons_append, bigM, ih]; omega
theorem bigM_le (l : Mats) (k : Nat) : bigM (l.take k) ≤ bigM l := by
  induction l generalizing k with
  | nil => simp
  | cons x r ih =>
    cases k with
    | zero => simp [bigM]
    | succ k => simp only [List.take_succ_cons, bigM]; have := ih k; omega
theorem bigM_len (l : Mats) : l.length ≤ bigM l := by
  induction l with
  | nil => simp
  | cons x r ih => simp only [List.length_cons, bigM]; omega
theorem bigM_small {l : Mats} (h : bigM l ≤ 4000) : SmallM l ∧ l.length ≤ 4000 := by
  refine ⟨fun x hx => ?_, Nat.le_trans (bigM_len l) h⟩
  induction l with
  | nil => cases hx
  | cons y r ih =>
    simp only [bigM] at h
    rcases List.mem_cons.1 hx with rfl | hx
    · omega
    · exact ih (by omega) hx
/-- Matchers that came in: their texts are not longer than a text can be. -/
def CameM (l : Mats) : Prop := ∀ x ∈ l, x.2.1.size ≤ 1000000000000000 ∧ x.2.2.size ≤ 1000000000000000
set_option maxRecDepth 100000 in
set_option maxHeartbeats 1600000 in
theorem mbig_any (w : World) (v : Value) (l : Mats) (hs : MatSrc w v l) (hl : l.length ≤ 9223372036854775807) (hC : CameM l) :
    Calls Try.prog 8 #[v] w fun e w' => e = .returned (.bool (decide (4000 < bigM l))) ∧ Kept w w' := by
  obtain ⟨a1, c1, rfl⟩ := hs.len
  obtain ⟨L, hL⟩ : ∃ L, l.length = L := ⟨_, rfl⟩
  rw [hL] at hs hl ⊢
  have HS := hid hs
  have HL := hid hL
  have HC := hid hC
  clear hs hL hC
  go_enter Try.func8, Try.ntmps8
  go_wp2
  go_loopw [3, 4] (fun n s wr => ∃ (k : Nat) (N : Nat), k ≤ L ∧ s = .int .i64 (k : Int) ∧ n = .int .i64 (N : Int) ∧ N = bigM (l.take k) ∧ N ≤ 2000000000005000 ∧ Kept w wr) (fun _ s _ => L - (intOf s).toNat)
  case atStart => exact ⟨0, 0, by omega, rfl, rfl, by simp [bigM], by omega, Only.refl _ _⟩
  case round =>
    obtain ⟨k, N, hk, rfl, rfl, hN, hN2, kr⟩ := hrel
    have HN := hid hN
    have HK := hid kr
    clear hN
    by_cases hlt : k < L
    · by_cases hn : N ≤ 4000
      · have hkl : k < l.length := by have := HL.out; omega
        obtain ⟨b1, o1, rfl, x1, y1, z1⟩ := (HS.out.stay kr).cell HL.out k hlt
        have HT : Hid (bigM (l.take (k + 1)) = N + (1 + (l[k]'hkl).2.1.size + (l[k]'hkl).2.2.size)) := by
          refine hid ?_
          rw [← List.take_append_getElem hkl, bigM_app, HN.out]
        have hc := HC.out _ (List.getElem_mem hkl)
        clear kr
        generalize l[k]'hkl = x at x1 y1 z1 HT hc
        obtain ⟨M, X, Y⟩ := x
        simp only at x1 y1 z1 HT hc
        have hn' : (N : Int) ≤ 4000 := by omega
        go_wp2_with fail
        go_quiet (fail)
        go_wp2_with fail
        go_roundw
        case rel =>
          have e1 : IntKind.i64.wrap ((N : Int) + 1) = (N : Int) + 1 := by rw [IntKind.wrap_i64]; omega
          have e2 : IntKind.i64.wrap ((N : Int) + 1 + (X.size : Int)) = (N : Int) + 1 + (X.size : Int) := by rw [IntKind.wrap_i64]; omega
          have e3 : IntKind.i64.wrap ((N : Int) + 1 + (X.size : Int) + (Y.size : Int)) = (N : Int) + 1 + (X.size : Int) + (Y.size : Int) := by rw [IntKind.wrap_i64]; omega
          exact ⟨k + 1, N + (1 + X.size + Y.size), by omega, by go_num, by rw [e1, e2, e3]; go_num, HT.out.symm, by omega, kept_drewN HK.out nq⟩
        case measure => simp [intOf]; omega
      · have HE : Hid (decide (4000 < bigM l) = true) := by
          refine hid ?_
          have := bigM_le l k
          rw [← HN.out] at this
          exact decide_eq_true (by omega)
        have hn' : decide ((N : Int) ≤ 4000) = false := by simp; omega
        go_wp2
        go_ret
        exact ⟨by rw [HE.out]; simp; omega, kr⟩
    · have e : k = L := by omega
      subst e
      have HE : Hid (bigM l = N) := by
        refine hid ?_
        rw [HN.out, List.take_of_length_le (by have := HL.out; omega)]
      go_wp2
      go_ret
      refine ⟨?_, kr⟩
      rw [HE.out]
      simp
      omega

/-! ### The document's examples -/
abbrev exA : Mats := [(1, ⟨#[106, 111, 98]⟩, ⟨#[97, 112, 105]⟩), (3, ⟨#[104, 111, 115, 116]⟩, ⟨#[97]⟩)]
abbrev exB : Mats := [(2, ⟨#[106, 111, 98]⟩, ⟨#[120]⟩)]
abbrev exC : Labs := [(⟨#[97]⟩, ⟨#[49]⟩)]
theorem exA_text : mkB (mtxtL exA) = ⟨#[106, 111, 98, 61, 34, 97, 112, 105, 34, 44, 104, 111, 115, 116, 94, 61, 34, 97, 34]⟩ := by decide +kernel
theorem exB_fits : fitsB exB exC = true := by decide +kernel
theorem exA_fits : fitsB exA [] = false := by decide +kernel
theorem exA_small : SmallM exA := by
  intro x hx
  simp at hx
  rcases hx with rfl | rfl <;> decide
theorem exB_small : SmallM exB := by
  intro x hx
  simp at hx
  subst hx
  decide
theorem exA_src (w : World) : MatSrc (w.alloc (.cells #[.int .i64 1, .string ⟨#[106, 111, 98]⟩, .string ⟨#[97, 112, 105]⟩, .int .i64 3, .string ⟨#[104, 111, 115, 116]⟩, .string ⟨#[97]⟩] 40)) (.slice (some ⟨w.heap.size, 0, none⟩) 2 2) exA := by
  have hb := Blk.new w [.int .i64 1, .string ⟨#[106, 111, 98]⟩, .string ⟨#[97, 112, 105]⟩, .int .i64 3, .string ⟨#[104, 111, 115, 116]⟩, .string ⟨#[97]⟩] 40
  refine .inr ⟨by decide, w.heap.size, 0, 2, rfl, fun i hi => ?_⟩
  have : i = 0 ∨ i = 1 := by simp at hi; omega
  rcases this with rfl | rfl
  · exact ⟨hb.cell 0 rfl, hb.cell 1 rfl, hb.cell 2 rfl⟩
  · exact ⟨hb.cell 3 rfl, hb.cell 4 rfl, hb.cell 5 rfl⟩

set_option maxRecDepth 100000 in
set_option maxHeartbeats 1600000 in
theorem malive_any (w : World) : Calls Try.prog 7 #[] w fun e w' => e = .returned (.bool true) ∧ Kept w w' := by
  have hsA := exA_src w
  have HS := hid hsA
  have H1 := hid (mtext_any _ _ exA hsA (by decide) exA_small)
  rw [exA_text] at H1
  have HK0 := hid ((Only.refl (fun _ => False) w).alloc (.cells #[.int .i64 1, .string ⟨#[106, 111, 98]⟩, .string ⟨#[97, 112, 105]⟩, .int .i64 3, .string ⟨#[104, 111, 115, 116]⟩, .string ⟨#[97]⟩] 40))
  clear hsA
  go_enter Try.func7, Try.ntmps7
  go_wp2_with fail
  generalize w.alloc (.cells #[.int .i64 1, .string ⟨#[106, 111, 98]⟩, .string ⟨#[97, 112, 105]⟩, .int .i64 3, .string ⟨#[104, 111, 115, 116]⟩, .string ⟨#[97]⟩] 40) = w0 at HS H1 HK0 ⊢
  refine H1.out.mono ?_
  rintro e w1 ⟨rfl, k1⟩
  have HK1 := hid (HK0.out.trans k1 (fun _ _ f => f))
  have HS1 := hid (HS.out.stay k1)
  clear k1 H1 HK0 HS
  have hB := mat_lit w1 (2, ⟨#[106, 111, 98]⟩, ⟨#[120]⟩)
  have hC := lab_lit (w1.alloc (.cells #[.int .i64 2, .string ⟨#[106, 111, 98]⟩, .string ⟨#[120]⟩] 40)) (⟨#[97]⟩, ⟨#[49]⟩)
  have hws : (w1.alloc (.cells #[.int .i64 2, .string ⟨#[106, 111, 98]⟩, .string ⟨#[120]⟩] 40)).heap.size = w1.heap.size + 1 := by simp
  rw [hws] at hC
  have H2 := hid (fits_any _ _ _ exB exC (hB.stay ((Only.refl (fun _ => False) _).alloc (.cells #[.string ⟨#[97]⟩, .string ⟨#[49]⟩] 43))) (by decide) exB_small hC (by decide))
  rw [exB_fits] at H2
  have HK2 := hid ((HK1.out.alloc (.cells #[.int .i64 2, .string ⟨#[106, 111, 98]⟩, .string ⟨#[120]⟩] 40)).alloc (.cells #[.string ⟨#[97]⟩, .string ⟨#[49]⟩] 43))
  have HS2 := hid (HS1.out.stay (((Only.refl (fun _ => False) _).alloc (.cells #[.int .i64 2, .string ⟨#[106, 111, 98]⟩, .string ⟨#[120]⟩] 40)).alloc (.cells #[.string ⟨#[97]⟩, .string ⟨#[49]⟩] 43)))
  clear hB hC hws
  go_wp2_with fail
  generalize (w1.alloc (.cells #[.int .i64 2, .string ⟨#[106, 111, 98]⟩, .string ⟨#[120]⟩] 40)).alloc (.cells #[.string ⟨#[97]⟩, .string ⟨#[49]⟩] 43) = w2 at H2 HK2 HS2 ⊢
  refine H2.out.mono ?_
  rintro e w3 ⟨rfl, k3⟩
  have HK3 := hid (HK2.out.trans k3 (fun _ _ f => f))
  have H3 := hid (fits_any w3 _ (.slice none 0 0) exA [] (HS2.out.stay k3) (by decide) exA_small (.inl ⟨none, 0, rfl, rfl⟩) (by decide))
  rw [exA_fits] at H3
  clear k3 H2
  go_wp2_with fail
  refine H3.out.mono ?_
  rintro e w4 ⟨rfl, k4⟩
  go_wp2
  go_ret
  exact ⟨rfl, HK3.out.trans k4 (fun _ _ f => f)⟩

/-! ### Matchers that came in -/
section
variable {H : Type} {enc : TypeId × Value → H} {w : World} {spare : Nat → Bool} {held : Bool} {base fuel : Nat}
theorem Try.byteMat : 1 ≤ Try.prog.bytesOf 40 := by decide +kernel
theorem Try.cellsMat : Try.prog.cellsOf 40 = 3 := by kernel_rfl
theorem Try.cellsIntN : Try.prog.cellsOf 3 = 1 := by kernel_rfl
set_option maxRecDepth 100000 in
theorem open_mat {cs : List Value} {x : DataW H × List MemPlace}
    (h : DataW.trod enc Try.prog w base spare held fuel 40 cs = some x) (hz : ∀ n ∈ x.1.weights Try.prog 40, n ≤ reachBytes) : ∃ q : Mat, cs = [.int .i64 q.1, .string q.2.1, .string q.2.2] ∧ q.2.1.size ≤ 1000000000000000 ∧ q.2.2.size ≤ 1000000000000000 := by
  obtain ⟨xs, m, _, rfl, hlen, hxl, hf⟩ := DataW.trod_struct Try.underlying40 h
  rw [Try.cellsMat] at hlen
  have hxl2 : xs.length = 3 := hxl
  have hr := reachBytes_lt
  match cs, hlen with
  | [v0, v1, v2], _ =>
    have g0 : DataW.trod enc Try.prog w base spare held m 3 ((([v0, v1, v2] : List Value).drop 0).take (Try.prog.cellsOf 3)) = xs[0]? := hf 0 _ rfl
    have g1 : DataW.trod enc Try.prog w base spare held m 9 ((([v0, v1, v2] : List Value).drop 1).take (Try.prog.cellsOf 9)) = xs[1]? := hf 1 _ rfl
    have g2 : DataW.trod enc Try.prog w base spare held m 9 ((([v0, v1, v2] : List Value).drop 2).take (Try.prog.cellsOf 9)) = xs[2]? := hf 2 _ rfl
    rw [Try.cellsStrN, List.getElem?_eq_getElem (by omega)] at g1 g2
    rw [Try.cellsIntN, List.getElem?_eq_getElem (by omega)] at g0
    obtain ⟨i0, e0, _⟩ := DataW.trod_int Try.underlying3 g0
    obtain ⟨s1, e1, _, _⟩ := DataW.trod_string Try.underlying9 g1
    obtain ⟨s2, e2, _, _⟩ := DataW.trod_string Try.underlying9 g2
    have z1 := string_sized (v := v1) Try.underlying9 g1 (struct_sized Try.underlying40 hz (j := 1) rfl (List.getElem?_eq_getElem (by omega)))
    have z2 := string_sized (v := v2) Try.underlying9 g2 (struct_sized Try.underlying40 hz (j := 2) rfl (List.getElem?_eq_getElem (by omega)))
    have f0 := List.head_eq_of_cons_eq e0
    have f1 := List.head_eq_of_cons_eq e1
    have f2 := List.head_eq_of_cons_eq e2
    subst f0 f1 f2
    have t1 := z1 _ rfl
    have t2 := z2 _ rfl
    exact ⟨(i0, s1, s2), rfl, by show s1.size ≤ _; omega, by show s2.size ≤ _; omega⟩
/-- Matchers that came in. -/
structure InM (w : World) (v : Value) (l : Mats) : Prop where
  src : MatSrc w v l
  came : CameM l
  len : l.length ≤ 1000000000000000
set_option maxRecDepth 100000 in
theorem open_mats {a0 : Option Addr} {len0 cap0 : Nat} {x : DataW H × List MemPlace}
    (h : ∃ m, DataW.trod enc Try.prog w base spare held m 22 (Value.slice a0 len0 cap0).cells.toList = some x) (hz : ∀ n ∈ x.1.weights Try.prog 22, n ≤ reachBytes) : ∃ l : Mats, InM w (.slice a0 len0 cap0) l := by
  obtain ⟨fuel, hf⟩ := h
  rcases Deep.open_slice Try.underlying22 hf with ⟨hcs, _⟩ | ⟨a, len, cap, m, n, D, Pl, hcs, _, hl, hm, hmm, rfl, hx⟩
  · simp [Value.cells] at hcs
    obtain ⟨rfl, rfl, rfl⟩ := hcs
    exact ⟨[], .inl ⟨_, _, rfl, rfl⟩, fun x hx => (by cases hx), by simp⟩
  · simp [Value.cells] at hcs
    obtain ⟨rfl, rfl, rfl⟩ := hcs
    have hlm : len0 ≤ m := by rw [hmm]; split <;> omega
    have hr := reachBytes_lt
    have hlen : len0 ≤ reachBytes := by
      have h1 := hz ((len0 + (m - len0)) * Try.prog.bytesOf 40) (by simp [DataW.weights, Try.underlying22])
      have h2 : (len0 + (m - len0)) * 1 ≤ (len0 + (m - len0)) * Try.prog.bytesOf 40 := Nat.mul_le_mul_left _ Try.byteMat
      omega
    have hzi : ∀ i, i < len0 → ∀ n ∈ (D i).weights Try.prog 40, n ≤ reachBytes := fun i hi n hn => by
      refine hz n ?_
      simp only [DataW.weights, Try.underlying22]
      refine List.mem_cons_of_mem _ (List.mem_append_left _ (weights_all (List.mem_map.2 ⟨i, List.mem_range.2 hi, rfl⟩) n hn))
    have each : ∀ i, i < len0 → ∃ q : Mat, w.cell? (a.add (i * 3)) = some (.int .i64 q.1) ∧ w.cell? (a.add (i * 3 + 1)) = some (.string q.2.1) ∧ w.cell? (a.add (i * 3 + 2)) = some (.string q.2.2) ∧ q.2.1.size ≤ 1000000000000000 ∧ q.2.2.size ≤ 1000000000000000 := by
      intro i hi
      obtain ⟨cs', h1, h2⟩ := hx i (by omega)
      rw [Try.cellsMat] at h1
      obtain ⟨_, hlen, hcell⟩ := World.cells?_some h1
      obtain ⟨q, rfl, hq⟩ := open_mat h2 (hzi i hi)
      have c0 := hcell 0 (by omega)
      have c1 := hcell 1 (by omega)
      have c2 := hcell 2 (by omega)
      rw [Deep.add_add] at c0 c1 c2
      exact ⟨q, by simpa using c0, by simpa using c1, by simpa using c2, hq⟩
    obtain ⟨q, hq⟩ := Deep.choose_lt each
    have hll : ((List.range len0).map q).length = len0 := by simp
    refine ⟨(List.range len0).map q, ?_, ?_, by rw [hll]; omega⟩
    · by_cases h0 : len0 = 0
      · subst h0
        exact .inl ⟨_, _, rfl, rfl⟩
      · refine .inr ⟨by rw [hll]; omega, ?_⟩
        obtain ⟨b, o, spot⟩ := a
        have hs : spot = none := by simpa [Addr.add] using World.cell?_spot (hq 0 (by omega)).1
        subst hs
        refine ⟨b, o, cap0, by rw [hll], fun i hi => ?_⟩
        have hi' : i < len0 := by rw [hll] at hi; exact hi
        have := hq i hi'
        rw [add_none, add_none, add_none, ← Nat.add_assoc, ← Nat.add_assoc] at this
        simp only [List.getElem_map, List.getElem_range]
        exact ⟨this.1, this.2.1, this.2.2.1⟩
    · intro y hy
      obtain ⟨i, hi, rfl⟩ := List.mem_map.1 hy
      exact (hq i (List.mem_range.1 hi)).2.2.2
end
end Go.Proofs.Ytbdcaikcdhfdoaa.N
