/-
  Mkind, Mcheck.
-/
import Derived.Test.YteknpfldemgmnaaGreatQ12
import Derived.Test.YteknpfldemgmnaaGreatQ42
import Derived.Deep.WholeRow
import Derived.Laws.EntriesVeiled

/-
  The table of kinds; which names can be; Check.
-/
namespace Go.Proofs.YteknpfldemgmnaaGreat.N
open Go.RowKit Go.Proofs.Lys
set_option linter.unusedVariables false
set_option linter.unusedSimpArgs false

abbrev fIs : Value := .func (.func 102) #[] #[]
abbrev fNot : Value := .func (.func 103) #[] #[]
abbrev fBeg : Value := .func (.func 104) #[] #[]
abbrev fHas : Value := .func (.func 105) #[] #[]
/-- The table, as a value. -/
def tabK : Array Value := #[.string ⟨#[]⟩, .int .i64 0, .nilFunc, .string ⟨#[61]⟩, .int .i64 64, fIs, .string ⟨#[33, 61]⟩, .int .i64 64, fNot, .string ⟨#[94, 61]⟩, .int .i64 64, fBeg, .string ⟨#[]⟩, .int .i64 0, fHas]
theorem tabK_size : (Tryz.prog.info? 138).map (fun i => i.size) = some tabK.size := by kernel_rfl
theorem tabK_one : tabK.all (fun x => x.oneCell') = true := by decide +kernel

set_option maxRecDepth 100000 in
theorem kinds_any (w : World) : Calls Tryz.prog 87 #[] w fun e w' => e = .returned (.agg tabK) ∧ Kept w w' := by
  go_enter Tryz.func87, Tryz.ntmps87
  go_wp2_with (refine wpList_store_row rfl 138 _ _ rfl w.heap.size tabK rfl rfl 138 _ (heap_alloc_last w _) tabK_size rfl tabK_one ?_)
  rw [World.setRow_alloc_new]
  exact bodyPost_ret (v := .agg tabK) (results_cell_row rfl _ _ w.heap.size 138 tabK (0, 0) _ rfl (heap_alloc_last w _) Tryz.underlying138 rfl tabK_size) rfl ⟨rfl, (Only.refl _ w).alloc _⟩

theorem results_cell_tmp1 {P : Program} {fn : Func} {p u : Tmp} {ty : TypeId} (h : fn.results = #[.cell p ty, .tmp u]) (tmps : Array Value) (w : World) (g : Nat) (t : TypeId) (cs : Array Value) (fr : Nat × Nat) (d : TypeDesc)
    (hp : tmps.getD p undef = .pointer (some ⟨g, 0, none⟩)) (hg : w.heap[g]? = some (.cells cs t fr))
    (hu : P.underlying ty = some d) (hd : (match d with | .struct _ | .array _ _ => true | _ => false) = true) (hi : (P.info? ty).map (·.size) = some cs.size) :
    (results fn tmps).run P w = .ok (.tuple #[.agg cs, tmps.getD u undef]) w := by
  have hp' : tmps[p]?.getD undef = .pointer (some ⟨g, 0, none⟩) := by simpa using hp
  simp [results, h, hp', asAddr, run_loadVar_row w g t ty cs fr d hg hu hd hi]
theorem Tryz.sizeKind : (Tryz.prog.info? 114).map (·.size) = some 3 := by kernel_rfl

/-- A kind's row. -/
def rowK (n : Int) : Array Value := if n = 1 then #[.string ⟨#[61]⟩, .int .i64 64, fIs] else if n = 2 then #[.string ⟨#[33, 61]⟩, .int .i64 64, fNot] else if n = 3 then #[.string ⟨#[94, 61]⟩, .int .i64 64, fBeg] else if n = 4 then #[.string ⟨#[]⟩, .int .i64 0, fHas] else #[.string ⟨#[]⟩, .int .i64 0, .nilFunc]

theorem rowK_size (n : Int) : (rowK n).size = 3 := by
  unfold rowK
  repeat' split
  all_goals rfl

theorem nil_nil (w : World) : (binOp .eql 112 .nilFunc .nilFunc).run Tryz.prog w = .ok (.bool true) w := by kernel_rfl
theorem nil_fun (w : World) (f : Nat) : (binOp .eql 112 (.func (.func f) #[] #[]) .nilFunc).run Tryz.prog w = .ok (.bool false) w := by kernel_rfl

set_option maxRecDepth 100000 in
set_option maxHeartbeats 1600000 in
theorem kindOf_any (w : World) (n : Int) : Calls Tryz.prog 63 #[.int .i64 n] w fun e w' => e = .returned (.tuple #[.agg (rowK n), .bool (kindOk n)]) ∧ Kept w w' := by
  have H0 := hid (kinds_any (w.alloc (.cells #[.string ⟨#[]⟩, .int .i64 0, .nilFunc] 114)))
  have hb0 := Blk.new w [.string ⟨#[]⟩, .int .i64 0, .nilFunc] 114
  have HK0 : Hid (Kept w (w.alloc (.cells #[.string ⟨#[]⟩, .int .i64 0, .nilFunc] 114))) := (Only.refl _ w).alloc _
  have hn : n < 0 ∨ 5 ≤ n ∨ n = 0 ∨ n = 1 ∨ n = 2 ∨ n = 3 ∨ n = 4 := by omega
  have hsK := rowK_size n
  go_enter Tryz.func63, Tryz.ntmps63
  go_wp2_with fail
  generalize w.alloc (.cells #[.string ⟨#[]⟩, .int .i64 0, .nilFunc] 114) = w0 at hb0 HK0 H0 ⊢
  refine H0.out.mono ?_
  rintro e w1 ⟨rfl, k1⟩
  have hb1 := Only.blk k1 hb0 (fun f => f)
  have HK1 := hid (HK0.out.trans k1 (fun _ _ f => f))
  clear k1 hb0 H0
  have hbT : Blk (w1.alloc (.cells tabK 138)) w1.heap.size tabK.toList 138 := Blk.new w1 tabK.toList 138
  have hb2 := Only.blk ((Only.refl (fun _ => False) w1).alloc (.cells tabK 138)) hb1 (fun f => f)
  have HK2 := hid (HK1.out.alloc (.cells tabK 138))
  have HB := hid hb2
  have c0 := hb2.cell 0 rfl
  have c1 := hb2.cell 1 rfl
  have c2 := hb2.cell 2 rfl
  have f0 := hb2.frozen 0
  have f1 := hb2.frozen 1
  have f2 := hb2.frozen 2
  clear hb1 hb2 HK1
  rcases hn with hn | hn | rfl | rfl | rfl | rfl | rfl
  · have hk : Hid (kindOk n = false) := by refine hid ?_; unfold kindOk; simp; omega
    have hr : Hid (rowK n = #[.string ⟨#[]⟩, .int .i64 0, .nilFunc]) := by refine hid ?_; unfold rowK; rw [if_neg (by omega), if_neg (by omega), if_neg (by omega), if_neg (by omega)]
    clear hbT
    go_wp2_with (refine wpList_store_row rfl 138 _ _ rfl w1.heap.size tabK rfl rfl 138 _ (heap_alloc_last w1 _) tabK_size rfl tabK_one ?_; rw [World.setRow_alloc_new]; generalize w1.alloc (.cells tabK 138) = w2 at HK2 HB c0 c1 c2 f0 f1 f2 ⊢)
    all_goals try (exfalso; omega)
    have hres := ((HB.out.set 0 (.string ⟨#[]⟩)).set 1 (.int .i64 0)).set 2 (.nilFunc)
    refine bodyPost_ret (results_cell_tmp1 (fn := Tryz.f63) (p := 2) (u := 3) rfl _ _ w.heap.size 114 #[.string ⟨#[]⟩, .int .i64 0, .nilFunc] (0, 0) _ rfl hres Tryz.underlying114 rfl Tryz.sizeKind) rfl ?_
    exact ⟨by rw [hk.out, hr.out]; rfl, ((HK2.out.setCell (fun hlt => absurd hlt (Nat.lt_irrefl _)) _).setCell (fun hlt => absurd hlt (Nat.lt_irrefl _)) _).setCell (fun hlt => absurd hlt (Nat.lt_irrefl _)) _⟩
  · have hk : Hid (kindOk n = false) := by refine hid ?_; unfold kindOk; simp; omega
    have hr : Hid (rowK n = #[.string ⟨#[]⟩, .int .i64 0, .nilFunc]) := by refine hid ?_; unfold rowK; rw [if_neg (by omega), if_neg (by omega), if_neg (by omega), if_neg (by omega)]
    clear hbT
    go_wp2_with (refine wpList_store_row rfl 138 _ _ rfl w1.heap.size tabK rfl rfl 138 _ (heap_alloc_last w1 _) tabK_size rfl tabK_one ?_; rw [World.setRow_alloc_new]; generalize w1.alloc (.cells tabK 138) = w2 at HK2 HB c0 c1 c2 f0 f1 f2 ⊢)
    all_goals try (exfalso; omega)
    have hres := ((HB.out.set 0 (.string ⟨#[]⟩)).set 1 (.int .i64 0)).set 2 (.nilFunc)
    refine bodyPost_ret (results_cell_tmp1 (fn := Tryz.f63) (p := 2) (u := 3) rfl _ _ w.heap.size 114 #[.string ⟨#[]⟩, .int .i64 0, .nilFunc] (0, 0) _ rfl hres Tryz.underlying114 rfl Tryz.sizeKind) rfl ?_
    exact ⟨by rw [hk.out, hr.out]; rfl, ((HK2.out.setCell (fun hlt => absurd hlt (Nat.lt_irrefl _)) _).setCell (fun hlt => absurd hlt (Nat.lt_irrefl _)) _).setCell (fun hlt => absurd hlt (Nat.lt_irrefl _)) _⟩
  · have hk : Hid (kindOk 0 = false) := hid (by decide)
    have hr : Hid (rowK 0 = #[.string ⟨#[]⟩, .int .i64 0, .nilFunc]) := hid rfl
    have q0 := nil_nil
    have q1 := nil_fun
    have d0 := hbT.cell 0 rfl
    have d1 := hbT.cell 1 rfl
    have d2 := hbT.cell 2 rfl
    clear hbT
    go_wp2_with (refine wpList_store_row rfl 138 _ _ rfl w1.heap.size tabK rfl rfl 138 _ (heap_alloc_last w1 _) tabK_size rfl tabK_one ?_; rw [World.setRow_alloc_new]; generalize w1.alloc (.cells tabK 138) = w2 at HK2 HB c0 c1 c2 f0 f1 f2 d0 d1 d2 ⊢)
    all_goals try (exfalso; omega)
    have hres := ((HB.out.set 0 (.string ⟨#[]⟩)).set 1 (.int .i64 0)).set 2 (.nilFunc)
    refine bodyPost_ret (results_cell_tmp1 (fn := Tryz.f63) (p := 2) (u := 3) rfl _ _ w.heap.size 114 #[.string ⟨#[]⟩, .int .i64 0, .nilFunc] (0, 0) _ rfl hres Tryz.underlying114 rfl Tryz.sizeKind) rfl ?_
    exact ⟨by rw [hk.out, hr.out]; rfl, ((HK2.out.setCell (fun hlt => absurd hlt (Nat.lt_irrefl _)) _).setCell (fun hlt => absurd hlt (Nat.lt_irrefl _)) _).setCell (fun hlt => absurd hlt (Nat.lt_irrefl _)) _⟩
  · have hk : Hid (kindOk 1 = true) := hid (by decide)
    have hr : Hid (rowK 1 = #[.string ⟨#[61]⟩, .int .i64 64, fIs]) := hid rfl
    have q0 := nil_nil
    have q1 := nil_fun
    have d0 := hbT.cell 3 rfl
    have d1 := hbT.cell 4 rfl
    have d2 := hbT.cell 5 rfl
    clear hbT
    go_wp2_with (refine wpList_store_row rfl 138 _ _ rfl w1.heap.size tabK rfl rfl 138 _ (heap_alloc_last w1 _) tabK_size rfl tabK_one ?_; rw [World.setRow_alloc_new]; generalize w1.alloc (.cells tabK 138) = w2 at HK2 HB c0 c1 c2 f0 f1 f2 d0 d1 d2 ⊢)
    all_goals try (exfalso; omega)
    have hres := ((HB.out.set 0 (.string ⟨#[61]⟩)).set 1 (.int .i64 64)).set 2 (fIs)
    refine bodyPost_ret (results_cell_tmp1 (fn := Tryz.f63) (p := 2) (u := 3) rfl _ _ w.heap.size 114 #[.string ⟨#[61]⟩, .int .i64 64, fIs] (0, 0) _ rfl hres Tryz.underlying114 rfl Tryz.sizeKind) rfl ?_
    exact ⟨by rw [hk.out, hr.out]; rfl, ((HK2.out.setCell (fun hlt => absurd hlt (Nat.lt_irrefl _)) _).setCell (fun hlt => absurd hlt (Nat.lt_irrefl _)) _).setCell (fun hlt => absurd hlt (Nat.lt_irrefl _)) _⟩
  · have hk : Hid (kindOk 2 = true) := hid (by decide)
    have hr : Hid (rowK 2 = #[.string ⟨#[33, 61]⟩, .int .i64 64, fNot]) := hid rfl
    have q0 := nil_nil
    have q1 := nil_fun
    have d0 := hbT.cell 6 rfl
    have d1 := hbT.cell 7 rfl
    have d2 := hbT.cell 8 rfl
    clear hbT
    go_wp2_with (refine wpList_store_row rfl 138 _ _ rfl w1.heap.size tabK rfl rfl 138 _ (heap_alloc_last w1 _) tabK_size rfl tabK_one ?_; rw [World.setRow_alloc_new]; generalize w1.alloc (.cells tabK 138) = w2 at HK2 HB c0 c1 c2 f0 f1 f2 d0 d1 d2 ⊢)
    all_goals try (exfalso; omega)
    have hres := ((HB.out.set 0 (.string ⟨#[33, 61]⟩)).set 1 (.int .i64 64)).set 2 (fNot)
    refine bodyPost_ret (results_cell_tmp1 (fn := Tryz.f63) (p := 2) (u := 3) rfl _ _ w.heap.size 114 #[.string ⟨#[33, 61]⟩, .int .i64 64, fNot] (0, 0) _ rfl hres Tryz.underlying114 rfl Tryz.sizeKind) rfl ?_
    exact ⟨by rw [hk.out, hr.out]; rfl, ((HK2.out.setCell (fun hlt => absurd hlt (Nat.lt_irrefl _)) _).setCell (fun hlt => absurd hlt (Nat.lt_irrefl _)) _).setCell (fun hlt => absurd hlt (Nat.lt_irrefl _)) _⟩
  · have hk : Hid (kindOk 3 = true) := hid (by decide)
    have hr : Hid (rowK 3 = #[.string ⟨#[94, 61]⟩, .int .i64 64, fBeg]) := hid rfl
    have q0 := nil_nil
    have q1 := nil_fun
    have d0 := hbT.cell 9 rfl
    have d1 := hbT.cell 10 rfl
    have d2 := hbT.cell 11 rfl
    clear hbT
    go_wp2_with (refine wpList_store_row rfl 138 _ _ rfl w1.heap.size tabK rfl rfl 138 _ (heap_alloc_last w1 _) tabK_size rfl tabK_one ?_; rw [World.setRow_alloc_new]; generalize w1.alloc (.cells tabK 138) = w2 at HK2 HB c0 c1 c2 f0 f1 f2 d0 d1 d2 ⊢)
    all_goals try (exfalso; omega)
    have hres := ((HB.out.set 0 (.string ⟨#[94, 61]⟩)).set 1 (.int .i64 64)).set 2 (fBeg)
    refine bodyPost_ret (results_cell_tmp1 (fn := Tryz.f63) (p := 2) (u := 3) rfl _ _ w.heap.size 114 #[.string ⟨#[94, 61]⟩, .int .i64 64, fBeg] (0, 0) _ rfl hres Tryz.underlying114 rfl Tryz.sizeKind) rfl ?_
    exact ⟨by rw [hk.out, hr.out]; rfl, ((HK2.out.setCell (fun hlt => absurd hlt (Nat.lt_irrefl _)) _).setCell (fun hlt => absurd hlt (Nat.lt_irrefl _)) _).setCell (fun hlt => absurd hlt (Nat.lt_irrefl _)) _⟩
  · have hk : Hid (kindOk 4 = true) := hid (by decide)
    have hr : Hid (rowK 4 = #[.string ⟨#[]⟩, .int .i64 0, fHas]) := hid rfl
    have q0 := nil_nil
    have q1 := nil_fun
    have d0 := hbT.cell 12 rfl
    have d1 := hbT.cell 13 rfl
    have d2 := hbT.cell 14 rfl
    clear hbT
    go_wp2_with (refine wpList_store_row rfl 138 _ _ rfl w1.heap.size tabK rfl rfl 138 _ (heap_alloc_last w1 _) tabK_size rfl tabK_one ?_; rw [World.setRow_alloc_new]; generalize w1.alloc (.cells tabK 138) = w2 at HK2 HB c0 c1 c2 f0 f1 f2 d0 d1 d2 ⊢)
    all_goals try (exfalso; omega)
    have hres := ((HB.out.set 0 (.string ⟨#[]⟩)).set 1 (.int .i64 0)).set 2 (fHas)
    refine bodyPost_ret (results_cell_tmp1 (fn := Tryz.f63) (p := 2) (u := 3) rfl _ _ w.heap.size 114 #[.string ⟨#[]⟩, .int .i64 0, fHas] (0, 0) _ rfl hres Tryz.underlying114 rfl Tryz.sizeKind) rfl ?_
    exact ⟨by rw [hk.out, hr.out]; rfl, ((HK2.out.setCell (fun hlt => absurd hlt (Nat.lt_irrefl _)) _).setCell (fun hlt => absurd hlt (Nat.lt_irrefl _)) _).setCell (fun hlt => absurd hlt (Nat.lt_irrefl _)) _⟩
end Go.Proofs.YteknpfldemgmnaaGreat.N

/-
  Which names can be; Check.
-/
namespace Go.Proofs.YteknpfldemgmnaaGreat.N
open Go.RowKit Go.Proofs.Lys
set_option linter.unusedVariables false
set_option linter.unusedSimpArgs false

theorem make_one (s : ByteArray) : makeL [(s, ⟨#[118]⟩)] = if nameOk s then some [(s, ⟨#[118]⟩)] else none := by
  have hv : valOk ⟨#[118]⟩ = true := by decide
  unfold makeL
  rw [if_neg (by simp)]
  by_cases h : nameOk s = true
  · rw [if_pos h, if_pos (by simp [labOk, h, hv])]
    rfl
  · rw [if_neg h, if_neg (by simp [labOk, h])]
set_option maxRecDepth 100000 in
theorem misName_any (w : World) (s : ByteArray) (hs : s.size ≤ 100000) : Calls Tryz.prog 64 #[.string s] w fun e w' => e = .returned (.bool (nameOk s)) ∧ Kept w w' := by
  have H := hid (make_any _ _ _ (lab_lit w (s, ⟨#[118]⟩)) (by simp) (fun x hx => by rw [List.mem_singleton.1 hx]; exact ⟨hs, by show (1 : Nat) ≤ 100000; decide⟩))
  rw [make_one] at H
  have HK := hid ((Only.refl (fun _ => False) w).alloc (.cells #[.string s, .string ⟨#[118]⟩] 43))
  go_enter Tryz.func64, Tryz.ntmps64
  go_wp2_with fail
  refine H.out.mono ?_
  rintro e w1 ⟨⟨u, n, rfl, hA⟩, k1⟩
  have HK1 := hid (HK.out.trans k1 (fun _ _ f => f))
  clear k1 H
  cases hn : nameOk s with
  | true =>
    rw [hn] at hA
    obtain ⟨rfl, hat⟩ := hA
    obtain ⟨oa, oc, rfl⟩ := ownN_slice hat
    clear hat
    go_wp2
    go_ret
    exact ⟨by rw [hn]; rfl, HK1.out⟩
  | false =>
    rw [hn] at hA
    obtain ⟨rfl, rfl⟩ := hA
    go_wp2
    go_ret
    exact ⟨by rw [hn]; rfl, HK1.out⟩

/-- Matchers of texts that are not too long. -/
def SmallM (l : Mats) : Prop := ∀ x ∈ l, x.2.1.size ≤ 100000 ∧ x.2.2.size ≤ 100000
theorem check_bad {l : Mats} {k : Nat} (hk : k < l.length) (h8 : l.length ≤ 8) (h : matOk l[k] = false) : checkM l = 20 := by
  unfold checkM
  rw [if_neg (by omega), if_neg]
  intro hall
  have := List.all_eq_true.1 hall _ (List.getElem_mem hk)
  rw [h] at this
  cases this
theorem check_good {l : Mats} (h8 : l.length ≤ 8) (h : ∀ k (hk : k < l.length), matOk l[k] = true) : checkM l = 0 := by
  refine checkM_zero.2 ⟨h8, fun m hm => ?_⟩
  obtain ⟨k, hk, rfl⟩ := List.getElem_of_mem hm
  exact h k hk
theorem rowK_at (n : Int) (h : kindOk n = true) : ∃ M f, rowK n = #[.string M, .int .i64 (roomN n : Nat), .func (.func f) #[] #[]] := by
  simp only [kindOk, Bool.and_eq_true, decide_eq_true_eq] at h
  have : n = 1 ∨ n = 2 ∨ n = 3 ∨ n = 4 := by omega
  rcases this with rfl | rfl | rfl | rfl
  · exact ⟨⟨#[61]⟩, 102, rfl⟩
  · exact ⟨⟨#[33, 61]⟩, 103, rfl⟩
  · exact ⟨⟨#[94, 61]⟩, 104, rfl⟩
  · exact ⟨⟨#[]⟩, 105, rfl⟩
theorem rowK_no (n : Int) (h : kindOk n = false) : rowK n = #[.string ⟨#[]⟩, .int .i64 0, .nilFunc] := by
  have : ¬ (1 ≤ n ∧ n ≤ 4) := fun ⟨h1, h2⟩ => by
    simp [kindOk, h1, h2] at h
  unfold rowK
  rw [if_neg (by omega), if_neg (by omega), if_neg (by omega), if_neg (by omega)]

set_option maxRecDepth 100000 in
set_option maxHeartbeats 1600000 in
theorem mcheck_any (w : World) (v : Value) (l : Mats) (hs : MatSrc w v l) (hl : l.length ≤ 100000) (hB : SmallM l) :
    Calls Tryz.prog 41 #[v] w fun e w' => e = .returned (.int .i64 (checkM l)) ∧ Kept w w' := by
  obtain ⟨a1, c1, rfl⟩ := hs.len
  obtain ⟨L, hL⟩ : ∃ L, l.length = L := ⟨_, rfl⟩
  rw [hL] at hs hl ⊢
  have HS := hid hs
  have HL := hid hL
  have HB := hid hB
  clear hs hL hB
  by_cases h8 : L ≤ 8
  · have H1 : Hid (∀ k (hk : k < l.length), matOk l[k] = false → checkM l = 20) := fun k hk h => check_bad hk (by have := HL.out; omega) h
    have H2 : Hid ((∀ k (hk : k < l.length), matOk l[k] = true) → checkM l = 0) := fun h => check_good (by have := HL.out; omega) h
    generalize checkM l = C at H1 H2 ⊢
    have h8' : ¬ ((8 : Int) < (L : Int)) := by omega
    go_enter Tryz.func41, Tryz.ntmps41
    go_wp2
    go_loopw [12] (fun s wr => ∃ (k : Nat), k ≤ L ∧ s = .int .i64 (k : Int) ∧ (∀ i (hi : i < l.length), i < k → matOk l[i] = true) ∧ Kept w wr) (fun s _ => L - (intOf s).toNat)
    case atStart => exact ⟨0, by omega, rfl, fun i _ h => absurd h (by omega), Only.refl _ _⟩
    case round =>
      obtain ⟨k, hk, rfl, hok, kr⟩ := hrel
      have HO := hid hok
      have HK := hid kr
      by_cases hlt : k < L
      · have hkl : k < l.length := by have := HL.out; omega
        obtain ⟨b1, o1, rfl, x1, y1, z1⟩ := (HS.out.stay kr).cell HL.out k hlt
        have hbd := HB.out _ (List.getElem_mem hkl)
        have HF := hid (fun h => H1.out k hkl h)
        have HT : Hid (matOk (l[k]'hkl) = true → ∀ i (hi : i < l.length), i < k + 1 → matOk l[i] = true) := fun h i hi hik => by
          by_cases e : i < k
          · exact HO.out i hi e
          · have : i = k := by omega
            subst this
            exact h
        clear hok kr
        generalize l[k]'hkl = x at x1 y1 z1 HF HT hbd
        obtain ⟨N, X, Y⟩ := x
        simp only at x1 y1 z1 hbd
        have Hk := hid (fun W => kindOf_any W N)
        have Hn := hid (fun W => misName_any W X (by omega))
        have e : matOk (N, X, Y) = (kindOk N && nameOk X && decide (Y.size ≤ roomN N)) := rfl
        rw [e] at HF HT
        go_wp2_with fail
        refine (Hk.out _).mono ?_
        rintro e1 w1 ⟨rfl, k1⟩
        have HB1 := Only.blk k1 (Blk.new wr [.int .i64 N, .string X, .string Y] 49) (fun f => f)
        have HK1 := hid ((HK.out.alloc _).trans k1 (fun _ _ f => f))
        clear k1 Hk
        cases hkn : kindOk N with
        | false =>
          rw [hkn] at HF
          have hmk := hid (HF.out rfl)
          rw [rowK_no N hkn]
          go_wp2
          go_ret
          exact ⟨by rw [hmk.out]; rfl, HK1.out.alloc _⟩
        | true =>
          rw [hkn] at HF HT
          obtain ⟨M, f, hrow⟩ := rowK_at N hkn
          rw [hrow]
          have hlt1 := HB1.lt
          have b1' := HB1.cell 1 rfl
          have b2' := HB1.cell 2 rfl
          have hrl : roomN N ≤ 64 := by unfold roomN; split <;> omega
          generalize roomN N = R at HF HT hrl ⊢
          go_wp2_with (go_at_call 64; refine (Hn.out _).mono ?_)
          rintro e2 w2 ⟨rfl, k2⟩
          have HB2 := Only.blk k2 (Only.blk ((Only.refl (fun _ => False) w1).alloc (.cells #[.string M, .int .i64 (R : Int), .func (.func f) #[] #[]] 114)) HB1 (fun h => h)) (fun h => h)
          have HB3 := Only.blk k2 (Blk.new w1 [.string M, .int .i64 (R : Int), .func (.func f) #[] #[]] 114) (fun h => h)
          have HK2 := hid ((HK1.out.alloc _).trans k2 (fun _ _ f => f))
          have d2 := HB2.cell 2 rfl
          have d3 := HB3.cell 1 rfl
          clear k2 HB1 HB2 HB3 b1' b2'
          cases hn : nameOk X with
          | false =>
            rw [hn] at HF
            have hmk := hid (HF.out rfl)
            go_wp2
            go_ret
            exact ⟨by rw [hmk.out]; rfl, HK2.out⟩
          | true =>
            rw [hn] at HF HT
            by_cases hr : Y.size ≤ R
            · rw [decide_eq_true hr] at HT
              have HT2 := hid (HT.out rfl)
              have hr' : ¬ ((R : Int) < (Y.size : Int)) := by omega
              go_wp2
              all_goals try (exfalso; omega)
              refine ⟨⟨k + 1, by omega, by go_num, HT2.out, HK2.out⟩, ?_⟩
              simp [intOf]
              omega
            · rw [decide_eq_false hr] at HF
              have hmk := hid (HF.out rfl)
              have hr' : (R : Int) < (Y.size : Int) := by omega
              go_wp2
              all_goals try (exfalso; omega)
              go_ret
              exact ⟨by rw [hmk.out]; rfl, HK2.out⟩
      · have e : k = L := by omega
        subst e
        have hmk := hid (H2.out (fun i hi => HO.out i hi (by have := HL.out; omega)))
        go_wp2
        go_ret
        exact ⟨by rw [hmk.out]; rfl, kr⟩
  · have hmk : Hid (checkM l = 2) := by refine hid ?_; unfold checkM; rw [if_pos (by have := HL.out; omega)]
    have h8' : (8 : Int) < (L : Int) := by omega
    go_enter Tryz.func41, Tryz.ntmps41
    go_wp2
    go_ret
    exact ⟨by rw [hmk.out]; rfl, Only.refl _ _⟩
end Go.Proofs.YteknpfldemgmnaaGreat.N
