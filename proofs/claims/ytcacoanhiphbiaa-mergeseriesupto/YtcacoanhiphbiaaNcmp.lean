/-
  The order of labels: Cmp, and the document's own.
-/
import Derived.Test.YtcacoanhiphbiaaNref
import Derived.Test.YtcacoanhiphbiaaShelf
import Derived.Test.YtcacoanhiphbiaaWlast
import Derived.WalkMore
namespace Go.Proofs.Ytcacoanhiphbiaa.N
open Go.RowKit Go.Proofs.Lys
set_option linter.unusedVariables false
set_option linter.unusedSimpArgs false

theorem or_any (w : World) (b : Nat) (x y : Int) (c0 : w.cell? ⟨b, 0, none⟩ = some (.int .i64 x)) (c1 : w.cell? ⟨b, 1, none⟩ = some (.int .i64 y)) :
    Calls Try.prog 38 #[.slice (some ⟨b, 0, none⟩) 2 2] w fun e w' => e = .returned (.int .i64 (if x ≠ 0 then x else y)) ∧ w' = w := by
  by_cases hx : x = 0
  · subst hx
    by_cases hy : y = 0
    · subst hy
      go_enter Try.func38, Try.ntmps38
      go_wp2
      refine wp_loop_rounds 3 ?_
      rw [rounds_succ]
      go_wp2
      rw [rounds_succ]
      go_wp2
      rw [rounds_succ]
      go_wp2
      go_ret
      exact ⟨rfl, rfl⟩
    · go_enter Try.func38, Try.ntmps38
      go_wp2
      refine wp_loop_rounds 2 ?_
      rw [rounds_succ]
      go_wp2
      rw [rounds_succ]
      go_wp2
      go_ret
      exact ⟨rfl, rfl⟩
  · go_enter Try.func38, Try.ntmps38
    go_wp2
    refine wp_loop_rounds 1 ?_
    rw [rounds_succ]
    go_wp2
    go_ret
    exact ⟨rfl, rfl⟩

structure CmpS (b : Nat) (a1 a2 b1 b2 : ByteArray) (w : World) : Prop where
  x : Blk w b [.string a1, .string a2] 45
  y : Blk w (b + 1) [.string b1, .string b2] 45
theorem CmpS.alloc {b : Nat} {a1 a2 b1 b2 : ByteArray} {w : World} (h : CmpS b a1 a2 b1 b2 w) (o : Obj) : CmpS b a1 a2 b1 b2 (w.alloc o) := ⟨h.x.alloc o, h.y.alloc o⟩
set_option maxRecDepth 20000 in
set_option maxHeartbeats 2000000 in
theorem clos_any (x y : Lab) (w : World) : Calls Try.prog 37 #[.agg #[.string x.1, .string x.2], .agg #[.string y.1, .string y.2]] w fun e w' => e = .returned (.int .i64 (labC x y)) ∧ Kept w w' := by
  have h1 := fun W => Try.strings_Compare x.1 y.1 W
  have h2 := fun W => Try.strings_Compare x.2 y.2 W
  have hf : labC x y = if Lib.compareBytes x.1.data.toList y.1.data.toList ≠ 0 then Lib.compareBytes x.1.data.toList y.1.data.toList else Lib.compareBytes x.2.data.toList y.2.data.toList := rfl
  generalize labC x y = r at hf ⊢
  generalize Lib.compareBytes x.1.data.toList y.1.data.toList = P1 at h1 hf
  generalize Lib.compareBytes x.2.data.toList y.2.data.toList = P2 at h2 hf
  generalize x.1 = a1 at *
  generalize x.2 = a2 at *
  generalize y.1 = b1 at *
  generalize y.2 = b2 at *
  have HO := hid (fun (W : World) (b : Nat) (c0 : W.cell? ⟨b, 0, none⟩ = some (.int .i64 P1)) (c1 : W.cell? ⟨b, 1, none⟩ = some (.int .i64 P2)) => or_any W b P1 P2 c0 c1)
  rw [← hf] at HO
  clear hf
  have H1 := hid h1
  have H2 := hid h2
  clear h1 h2
  have hb1 := (Blk.new w [.string a1, .string a2] 45).alloc (.cells #[.string b1, .string b2] 45)
  have hb2 := Blk.new (w.alloc (.cells #[.string a1, .string a2] 45)) [.string b1, .string b2] 45
  simp only [World.size_alloc] at hb2
  obtain ⟨w2, hw2⟩ : ∃ w2, w2 = (w.alloc (.cells #[.string a1, .string a2] 45)).alloc (.cells #[.string b1, .string b2] 45) := ⟨_, rfl⟩
  have hb1' : Blk w2 w.heap.size [.string a1, .string a2] 45 := by rw [hw2]; exact hb1
  have hb2' : Blk w2 (w.heap.size + 1) [.string b1, .string b2] 45 := by rw [hw2]; exact hb2
  have HS := hid (show CmpS w.heap.size a1 a2 b1 b2 w2.drew from ⟨hb1'.drew, hb2'.drew⟩)
  have hw2' := hid hw2
  clear hb1 hb2 hw2 hb1' hb2'
  go_enter Try.func37, Try.ntmps37
  go_wp2_with fail
  refine wp_region_noPanic ?_
  refine wp_region_last (L := 1000) (S := CmpS w.heap.size a1 a2 b1 b2) (by kernel_rfl) ?_
  rw [← hw2'.out]
  have hS : CmpS w.heap.size a1 a2 b1 b2 w2.drew := HS.out
  refine wpAnyN_take (i := 0) (v := .pointer (some ⟨w.heap.size, 0, none⟩)) rfl (by kernel_rfl) (by kernel_rfl) (by kernel_rfl) (by decide) (by kernel_rfl) (fun _ _ _ h => h) (Or.inl ⟨by rfl, ?_⟩) hS ?_
  · (intro w' hSw; have s0 := hSw.x.cell 0 rfl; have s1 := hSw.x.cell 1 rfl; have s2 := hSw.y.cell 0 rfl; have s3 := hSw.y.cell 1 rfl; clear hSw; go_simp)
  go_frame
  refine wpAnyN_take (i := 1) (v := .string a1) rfl (by kernel_rfl) (by kernel_rfl) (by kernel_rfl) (by decide) (by kernel_rfl) (fun _ _ _ h => h) (Or.inl ⟨by rfl, ?_⟩) hS ?_
  · (intro w' hSw; have s0 := hSw.x.cell 0 rfl; have s1 := hSw.x.cell 1 rfl; have s2 := hSw.y.cell 0 rfl; have s3 := hSw.y.cell 1 rfl; clear hSw; go_simp)
  go_frame
  refine wpAnyN_take (i := 2) (v := .pointer (some ⟨w.heap.size + 1, 0, none⟩)) rfl (by kernel_rfl) (by kernel_rfl) (by kernel_rfl) (by decide) (by kernel_rfl) (fun _ _ _ h => h) (Or.inl ⟨by rfl, ?_⟩) hS ?_
  · (intro w' hSw; have s0 := hSw.x.cell 0 rfl; have s1 := hSw.x.cell 1 rfl; have s2 := hSw.y.cell 0 rfl; have s3 := hSw.y.cell 1 rfl; clear hSw; go_simp)
  go_frame
  refine wpAnyN_take (i := 3) (v := .string b1) rfl (by kernel_rfl) (by kernel_rfl) (by kernel_rfl) (by decide) (by kernel_rfl) (fun _ _ _ h => h) (Or.inl ⟨by rfl, ?_⟩) hS ?_
  · (intro w' hSw; have s0 := hSw.x.cell 0 rfl; have s1 := hSw.x.cell 1 rfl; have s2 := hSw.y.cell 0 rfl; have s3 := hSw.y.cell 1 rfl; clear hSw; go_simp)
  go_frame
  refine wpAnyN_take (i := 5) (v := .pointer (some ⟨w.heap.size, 1, none⟩)) rfl (by kernel_rfl) (by kernel_rfl) (by kernel_rfl) (by decide) (by kernel_rfl) (fun _ _ _ h => h) (Or.inl ⟨by rfl, ?_⟩) hS ?_
  · (intro w' hSw; have s0 := hSw.x.cell 0 rfl; have s1 := hSw.x.cell 1 rfl; have s2 := hSw.y.cell 0 rfl; have s3 := hSw.y.cell 1 rfl; clear hSw; go_simp)
  go_frame
  refine wpAnyN_take (i := 6) (v := .string a2) rfl (by kernel_rfl) (by kernel_rfl) (by kernel_rfl) (by decide) (by kernel_rfl) (fun _ _ _ h => h) (Or.inl ⟨by rfl, ?_⟩) hS ?_
  · (intro w' hSw; have s0 := hSw.x.cell 0 rfl; have s1 := hSw.x.cell 1 rfl; have s2 := hSw.y.cell 0 rfl; have s3 := hSw.y.cell 1 rfl; clear hSw; go_simp)
  go_frame
  refine wpAnyN_take (i := 7) (v := .pointer (some ⟨w.heap.size + 1, 1, none⟩)) rfl (by kernel_rfl) (by kernel_rfl) (by kernel_rfl) (by decide) (by kernel_rfl) (fun _ _ _ h => h) (Or.inl ⟨by rfl, ?_⟩) hS ?_
  · (intro w' hSw; have s0 := hSw.x.cell 0 rfl; have s1 := hSw.x.cell 1 rfl; have s2 := hSw.y.cell 0 rfl; have s3 := hSw.y.cell 1 rfl; clear hSw; go_simp)
  go_frame
  refine wpAnyN_take (i := 8) (v := .string b2) rfl (by kernel_rfl) (by kernel_rfl) (by kernel_rfl) (by decide) (by kernel_rfl) (fun _ _ _ h => h) (Or.inl ⟨by rfl, ?_⟩) hS ?_
  · (intro w' hSw; have s0 := hSw.x.cell 0 rfl; have s1 := hSw.x.cell 1 rfl; have s2 := hSw.y.cell 0 rfl; have s3 := hSw.y.cell 1 rfl; clear hSw; go_simp)
  go_frame
  refine wpAnyL_one (i := 4) (by kernel_rfl) rfl rfl ?_
  go_simp
  refine (H1.out _).mono ?_
  rintro e w' ⟨rfl, hw⟩
  replace hw := hw.symm
  subst hw
  refine ⟨hS, ?_⟩
  (try go_frame)
  refine wpAnyL_one (i := 9) (by kernel_rfl) rfl rfl ?_
  go_simp
  refine (H2.out _).mono ?_
  rintro e w' ⟨rfl, hw⟩
  replace hw := hw.symm
  subst hw
  refine ⟨hS, ?_⟩
  (try go_frame)
  refine wpAnyL_one (i := 10) (by kernel_rfl) rfl rfl ?_
  go_simp
  have hS3 : CmpS w.heap.size a1 a2 b1 b2 (w2.alloc (.cells #[.int .i64 P1, .int .i64 P2] 3)).drew := hS.alloc _
  have hbb := (Blk.new w2 [.int .i64 P1, .int .i64 P2] 3).drew
  refine ⟨hS3, ?_⟩
  (try go_frame)
  refine wpAnyL_one (i := 11) (by kernel_rfl) rfl rfl ?_
  go_simp
  refine (HO.out _ _ (hbb.cell 0 rfl) (hbb.cell 1 rfl)).mono ?_
  rintro e w' ⟨rfl, hw⟩
  replace hw := hw.symm
  subst hw
  refine ⟨hS3, ?_⟩
  (try go_frame)
  refine wpAnyL_one (i := 12) (by kernel_rfl) rfl rfl ?_
  go_simp
  refine ⟨by kernel_rfl, ?_⟩
  refine NoPanic.normal ?_
  clear hS hS3 hbb
  go_wp2_with fail
  go_ret
  refine ⟨rfl, ?_⟩
  rw [hw2'.out]
  exact ((((Only.refl _ w).alloc _).alloc _).alloc _).drew
/-- The first so many are the same. -/
def SameTo (a b : Labs) (k : Nat) : Prop := cmpL a b = cmpL (a.drop k) (b.drop k)
theorem same_step {a b : Labs} {k : Nat} (h : SameTo a b k) (ha : k < a.length) (hb : k < b.length) (h0 : labC a[k] b[k] = 0) : SameTo a b (k + 1) := by
  unfold SameTo at h ⊢
  rw [h, List.drop_eq_getElem_cons ha, List.drop_eq_getElem_cons hb]
  show (if labC a[k] b[k] ≠ 0 then _ else lexC labC (a.drop (k + 1)) (b.drop (k + 1))) = _
  rw [if_neg (by omega)]
  rfl
theorem same_ne {a b : Labs} {k : Nat} (h : SameTo a b k) (ha : k < a.length) (hb : k < b.length) (h0 : labC a[k] b[k] ≠ 0) : cmpL a b = labC a[k] b[k] := by
  unfold SameTo at h
  rw [h, List.drop_eq_getElem_cons ha, List.drop_eq_getElem_cons hb]
  show (if labC a[k] b[k] ≠ 0 then labC a[k] b[k] else _) = _
  rw [if_pos h0]
theorem same_long {a b : Labs} {k : Nat} (h : SameTo a b k) (ha : k < a.length) (hb : b.length ≤ k) : cmpL a b = 1 := by
  unfold SameTo at h
  rw [h, List.drop_eq_getElem_cons ha, List.drop_of_length_le hb]
  rfl
theorem same_short {a b : Labs} {k : Nat} (h : SameTo a b k) (ha : a.length ≤ k) (hb : k < b.length) : cmpL a b = -1 := by
  unfold SameTo at h
  rw [h, List.drop_eq_getElem_cons hb, List.drop_of_length_le ha]
  rfl
theorem same_end {a b : Labs} {k : Nat} (h : SameTo a b k) (ha : a.length ≤ k) (hb : b.length ≤ k) : cmpL a b = 0 := by
  unfold SameTo at h
  rw [h, List.drop_of_length_le ha, List.drop_of_length_le hb]
  rfl

set_option maxRecDepth 100000 in
set_option maxHeartbeats 1600000 in
theorem compare_any (w : World) (va vb : Value) (a b : Labs) (ha : LabSrc w va a) (hb : LabSrc w vb b) (hla : a.length ≤ 1000000) (hlb : b.length ≤ 1000000) :
    Calls Try.prog 36 #[va, vb, .func (.func 37) #[] #[]] w fun e w' => e = .returned (.int .i64 (cmpL a b)) ∧ Kept w w' := by
  obtain ⟨a1, c1, rfl⟩ := ha.len
  obtain ⟨a2, c2, rfl⟩ := hb.len
  obtain ⟨L, hL⟩ : ∃ L, a.length = L := ⟨_, rfl⟩
  obtain ⟨M, hM⟩ : ∃ M, b.length = M := ⟨_, rfl⟩
  rw [hL] at ha hla ⊢
  rw [hM] at hb hlb ⊢
  have HA := hid ha
  have HB := hid hb
  have HL := hid hL
  have HM := hid hM
  clear ha hb hL hM
  go_enter Try.func36, Try.ntmps36
  go_wp2
  go_loopw [13] (fun s wr => ∃ (k : Nat), k ≤ L ∧ k ≤ M ∧ s = .int .i64 (k : Int) ∧ SameTo a b k ∧ Kept w wr) (fun s _ => L - (intOf s).toNat)
  case atStart => exact ⟨0, by omega, by omega, rfl, rfl, Only.refl _ _⟩
  case round =>
    obtain ⟨k, hk, hkm, rfl, hS, kr⟩ := hrel
    have HS := hid hS
    have HK := hid kr
    clear hS
    by_cases hlt : k < L
    · have hka : k < a.length := by have := HL.out; omega
      obtain ⟨b1, o1, rfl, x1, y1⟩ := (HA.out.stay kr).cell HL.out k hlt
      by_cases hm : k < M
      · have hkb : k < b.length := by have := HM.out; omega
        obtain ⟨b2, o2, rfl, x2, y2⟩ := (HB.out.stay kr).cell HM.out k hm
        have HN := hid (fun h => same_ne HS.out hka hkb h)
        have HT := hid (fun h => same_step HS.out hka hkb h)
        clear kr
        generalize a[k]'hka = x at x1 y1 HN HT
        generalize b[k]'hkb = y at x2 y2 HN HT
        obtain ⟨X1, Y1⟩ := x
        obtain ⟨X2, Y2⟩ := y
        simp only at x1 y1 x2 y2
        have HX := hid (fun W => clos_any (X1, Y1) (X2, Y2) W)
        have bl1 := World.block_lt_of_cell? _ _ x2
        have x2' : (wr.alloc (.cells #[.string X1, .string Y1] 45)).cell? ⟨b2, o2 + k * 2, none⟩ = some (.string X2) := by
          rw [World.cell?_of_block (w := wr) (Below.heap_alloc wr _ b2 bl1)]; exact x2
        have y2' : (wr.alloc (.cells #[.string X1, .string Y1] 45)).cell? ⟨b2, o2 + k * 2 + 1, none⟩ = some (.string Y2) := by
          rw [World.cell?_of_block (w := wr) (Below.heap_alloc wr _ b2 bl1)]; exact y2
        go_wp2_with fail
        refine (HX.out _).mono ?_
        rintro e w2 ⟨rfl, k2⟩
        have HK2 := hid (((HK.out.alloc _).alloc _).trans k2 (fun _ _ f => f))
        clear k2 x2' y2'
        generalize hr : labC (X1, Y1) (X2, Y2) = r at HN HT ⊢
        by_cases h0 : r = 0
        · subst h0
          have HT2 := hid (HT.out rfl)
          go_wp2
          refine ⟨⟨k + 1, by omega, by omega, by go_num, HT2.out, HK2.out⟩, ?_⟩
          simp [intOf]
          omega
        · have HN2 := hid (HN.out h0)
          go_wp2
          go_ret
          exact ⟨by rw [HN2.out]; rfl, HK2.out⟩
      · have HE := hid (same_long HS.out hka (by have := HM.out; omega))
        go_wp2
        go_ret
        exact ⟨by rw [HE.out]; rfl, kr.alloc _⟩
    · have e : k = L := by omega
      subst e
      by_cases hm : k < M
      · have HE := hid (same_short HS.out (by have := HL.out; omega) (by have := HM.out; omega))
        go_wp2
        go_ret
        exact ⟨by rw [HE.out]; rfl, kr⟩
      · have HE := hid (same_end HS.out (by have := HL.out; omega) (by have := HM.out; omega))
        go_wp2
        go_ret
        exact ⟨by rw [HE.out]; rfl, kr⟩

theorem cmp_any (w : World) (va vb : Value) (a b : Labs) (ha : LabSrc w va a) (hb : LabSrc w vb b) (hla : a.length ≤ 1000000) (hlb : b.length ≤ 1000000) :
    Calls Try.prog 28 #[va, vb] w fun e w' => e = .returned (.int .i64 (cmpL a b)) ∧ Kept w w' := by
  have HC := hid (compare_any w va vb a b ha hb hla hlb)
  obtain ⟨a1, c1, rfl⟩ := ha.len
  obtain ⟨a2, c2, rfl⟩ := hb.len
  clear ha hb
  go_enter Try.func28, Try.ntmps28
  go_wp2_with (go_at_call 36; refine HC.out.mono ?_)
  rintro e w1 ⟨rfl, k1⟩
  go_wp2
  go_ret
  exact ⟨rfl, k1⟩

set_option maxRecDepth 100000 in
set_option maxHeartbeats 1600000 in
theorem rcmp_any (w : World) (va vb : Value) (a b : Labs) (ha : LabSrc w va a) (hb : LabSrc w vb b) (hla : a.length ≤ 1000000) (hlb : b.length ≤ 1000000) :
    Calls Try.prog 20 #[va, vb] w fun e w' => e = .returned (.int .i64 (cmpL a b)) ∧ Kept w w' := by
  obtain ⟨a1, c1, rfl⟩ := ha.len
  obtain ⟨a2, c2, rfl⟩ := hb.len
  obtain ⟨L, hL⟩ : ∃ L, a.length = L := ⟨_, rfl⟩
  obtain ⟨M, hM⟩ : ∃ M, b.length = M := ⟨_, rfl⟩
  rw [hL] at ha hla ⊢
  rw [hM] at hb hlb ⊢
  have HA := hid ha
  have HB := hid hb
  have HL := hid hL
  have HM := hid hM
  clear ha hb hL hM
  go_enter Try.func20, Try.ntmps20
  go_wp2
  go_loopw [5] (fun s wr => ∃ (k : Nat), k ≤ L ∧ k ≤ M ∧ s = .int .i64 (k : Int) ∧ SameTo a b k ∧ Kept w wr) (fun s _ => L - (intOf s).toNat)
  case atStart => exact ⟨0, by omega, by omega, rfl, rfl, Only.refl _ _⟩
  case round =>
    obtain ⟨k, hk, hkm, rfl, hS, kr⟩ := hrel
    have HS := hid hS
    have HK := hid kr
    clear hS
    by_cases hlt : k < L
    · have hka : k < a.length := by have := HL.out; omega
      obtain ⟨b1, o1, rfl, x1, y1⟩ := (HA.out.stay kr).cell HL.out k hlt
      by_cases hm : k < M
      · have hkb : k < b.length := by have := HM.out; omega
        obtain ⟨b2, o2, rfl, x2, y2⟩ := (HB.out.stay kr).cell HM.out k hm
        have HN := hid (fun h => same_ne HS.out hka hkb h)
        have HT := hid (fun h => same_step HS.out hka hkb h)
        clear kr
        generalize a[k]'hka = x at x1 y1 HN HT
        generalize b[k]'hkb = y at x2 y2 HN HT
        obtain ⟨X1, Y1⟩ := x
        obtain ⟨X2, Y2⟩ := y
        simp only at x1 y1 x2 y2
        have H1 := hid (fun W => less_any W X1 X2)
        have H2 := hid (fun W => less_any W Y1 Y2)
        have hf : labC (X1, Y1) (X2, Y2) = if cmpB X1 X2 ≠ 0 then cmpB X1 X2 else cmpB Y1 Y2 := rfl
        rw [hf] at HN HT
        generalize cmpB X1 X2 = P1 at H1 HN HT
        generalize cmpB Y1 Y2 = P2 at H2 HN HT
        clear hf
        go_wp2_with fail
        go_quiet ((go_at_call 29; exact Calls.quiet_of_same (H1.out _)))
        by_cases h1 : P1 = 0
        · subst h1
          have HKq := hid (kept_drewN HK.out nq)
          have y1q : (wr.drewN nq).cell? ⟨b1, o1 + k * 2 + 1, none⟩ = some (.string Y1) := y1
          have y2q : (wr.drewN nq).cell? ⟨b2, o2 + k * 2 + 1, none⟩ = some (.string Y2) := y2
          generalize wr.drewN nq = wq at HKq y1q y2q ⊢
          clear x1 y1 x2 y2
          go_wp2_with fail
          go_quiet ((go_at_call 29; exact Calls.quiet_of_same (H2.out _)))
          have hp : (if (0 : Int) ≠ 0 then (0 : Int) else P2) = P2 := if_neg (fun h => h rfl)
          rw [hp] at HN HT
          by_cases h2 : P2 = 0
          · subst h2
            have HT2 := hid (HT.out rfl)
            go_wp2
            refine ⟨⟨k + 1, by omega, by omega, by go_num, HT2.out, kept_drewN HKq.out _⟩, ?_⟩
            simp [intOf]
            omega
          · have HN2 := hid (HN.out h2)
            go_wp2
            go_ret
            exact ⟨by rw [HN2.out]; rfl, kept_drewN HKq.out _⟩
        · have hp : (if P1 ≠ 0 then P1 else P2) = P1 := if_pos h1
          rw [hp] at HN
          have HN2 := hid (HN.out h1)
          go_wp2
          go_ret
          exact ⟨by rw [HN2.out]; rfl, kept_drewN HK.out nq⟩
      · have HE := hid (same_long HS.out hka (by have := HM.out; omega))
        go_wp2
        go_ret
        exact ⟨by rw [HE.out]; rfl, kr⟩
    · have e : k = L := by omega
      subst e
      by_cases hm : k < M
      · have HE := hid (same_short HS.out (by have := HL.out; omega) (by have := HM.out; omega))
        go_wp2
        go_ret
        exact ⟨by rw [HE.out]; rfl, kr⟩
      · have HE := hid (same_end HS.out (by have := HL.out; omega) (by have := HM.out; omega))
        go_wp2
        go_ret
        exact ⟨by rw [HE.out]; rfl, kr⟩
end Go.Proofs.Ytcacoanhiphbiaa.N
