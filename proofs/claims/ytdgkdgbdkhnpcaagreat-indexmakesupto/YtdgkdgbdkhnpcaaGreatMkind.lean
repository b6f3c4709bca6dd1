/-
  The table of kinds; which names can be; Check.
-/
import Derived.Test.YtdgkdgbdkhnpcaaGreatNmake
import Derived.Test.YtdgkdgbdkhnpcaaGreatMrow
import Derived.Deep.WholeRow
import Derived.Laws.EntriesVeiled
namespace Go.Proofs.YtdgkdgbdkhnpcaaGreat.N
open Go.RowKit Go.Proofs.Lys
set_option linter.unusedVariables false
set_option linter.unusedSimpArgs false

abbrev fIs : Value := .func (.func 107) #[] #[]
abbrev fNot : Value := .func (.func 108) #[] #[]
abbrev fBeg : Value := .func (.func 109) #[] #[]
abbrev fHas : Value := .func (.func 110) #[] #[]
/-- The table, as a value. -/
def tabK : Array Value := #[.string ⟨#[]⟩, .int .i64 0, .nilFunc, .string ⟨#[61]⟩, .int .i64 64, fIs, .string ⟨#[33, 61]⟩, .int .i64 64, fNot, .string ⟨#[94, 61]⟩, .int .i64 64, fBeg, .string ⟨#[]⟩, .int .i64 0, fHas]
theorem tabK_size : (Tryz.prog.info? 143).map (fun i => i.size) = some tabK.size := by kernel_rfl
theorem tabK_one : tabK.all (fun x => x.oneCell') = true := by decide +kernel

set_option maxRecDepth 100000 in
theorem kinds_any (w : World) : Calls Tryz.prog 92 #[] w fun e w' => e = .returned (.agg tabK) ∧ Kept w w' := by
  go_enter Tryz.func92, Tryz.ntmps92
  go_wp2_with (refine wpList_store_row rfl 143 _ _ rfl w.heap.size tabK rfl rfl 143 _ (heap_alloc_last w _) tabK_size rfl tabK_one ?_)
  rw [World.setRow_alloc_new]
  exact bodyPost_ret (v := .agg tabK) (results_cell_row rfl _ _ w.heap.size 143 tabK (0, 0) _ rfl (heap_alloc_last w _) Tryz.underlying143 rfl tabK_size) rfl ⟨rfl, (Only.refl _ w).alloc _⟩

theorem results_cell_tmp1 {P : Program} {fn : Func} {p u : Tmp} {ty : TypeId} (h : fn.results = #[.cell p ty, .tmp u]) (tmps : Array Value) (w : World) (g : Nat) (t : TypeId) (cs : Array Value) (fr : Nat × Nat) (d : TypeDesc)
    (hp : tmps.getD p undef = .pointer (some ⟨g, 0, none⟩)) (hg : w.heap[g]? = some (.cells cs t fr))
    (hu : P.underlying ty = some d) (hd : (match d with | .struct _ | .array _ _ => true | _ => false) = true) (hi : (P.info? ty).map (·.size) = some cs.size) :
    (results fn tmps).run P w = .ok (.tuple #[.agg cs, tmps.getD u undef]) w := by
  have hp' : tmps[p]?.getD undef = .pointer (some ⟨g, 0, none⟩) := by simpa using hp
  simp [results, h, hp', asAddr, run_loadVar_row w g t ty cs fr d hg hu hd hi]
theorem Tryz.sizeKind : (Tryz.prog.info? 119).map (·.size) = some 3 := by kernel_rfl

/-- A kind's row. -/
def rowK (n : Int) : Array Value := if n = 1 then #[.string ⟨#[61]⟩, .int .i64 64, fIs] else if n = 2 then #[.string ⟨#[33, 61]⟩, .int .i64 64, fNot] else if n = 3 then #[.string ⟨#[94, 61]⟩, .int .i64 64, fBeg] else if n = 4 then #[.string ⟨#[]⟩, .int .i64 0, fHas] else #[.string ⟨#[]⟩, .int .i64 0, .nilFunc]

theorem rowK_size (n : Int) : (rowK n).size = 3 := by
  unfold rowK
  repeat' split
  all_goals rfl

theorem nil_nil (w : World) : (binOp .eql 117 .nilFunc .nilFunc).run Tryz.prog w = .ok (.bool true) w := by kernel_rfl
theorem nil_fun (w : World) (f : Nat) : (binOp .eql 117 (.func (.func f) #[] #[]) .nilFunc).run Tryz.prog w = .ok (.bool false) w := by kernel_rfl

set_option maxRecDepth 100000 in
set_option maxHeartbeats 1600000 in
theorem kindOf_any (w : World) (n : Int) : Calls Tryz.prog 68 #[.int .i64 n] w fun e w' => e = .returned (.tuple #[.agg (rowK n), .bool (kindOk n)]) ∧ Kept w w' := by
  have H0 := hid (kinds_any (w.alloc (.cells #[.string ⟨#[]⟩, .int .i64 0, .nilFunc] 119)))
  have hb0 := Blk.new w [.string ⟨#[]⟩, .int .i64 0, .nilFunc] 119
  have HK0 : Hid (Kept w (w.alloc (.cells #[.string ⟨#[]⟩, .int .i64 0, .nilFunc] 119))) := (Only.refl _ w).alloc _
  have hn : n < 0 ∨ 5 ≤ n ∨ n = 0 ∨ n = 1 ∨ n = 2 ∨ n = 3 ∨ n = 4 := by omega
  have hsK := rowK_size n
  go_enter Tryz.func68, Tryz.ntmps68
  go_wp2_with fail
  generalize w.alloc (.cells #[.string ⟨#[]⟩, .int .i64 0, .nilFunc] 119) = w0 at hb0 HK0 H0 ⊢
  refine H0.out.mono ?_
  rintro e w1 ⟨rfl, k1⟩
  have hb1 := Only.blk k1 hb0 (fun f => f)
  have HK1 := hid (HK0.out.trans k1 (fun _ _ f => f))
  clear k1 hb0 H0
  have hbT : Blk (w1.alloc (.cells tabK 143)) w1.heap.size tabK.toList 143 := Blk.new w1 tabK.toList 143
  have hb2 := Only.blk ((Only.refl (fun _ => False) w1).alloc (.cells tabK 143)) hb1 (fun f => f)
  have HK2 := hid (HK1.out.alloc (.cells tabK 143))
  have HB := hid hb2
  have c0 := hb2.cell 0 rfl
  have c1 := hb2.cell 1 rfl
  have c2 := hb2.cell 2 rfl
  have f0 := hb2.frozen 0
  have f1 := hb2.frozen 1
  have f2 := hb2.frozen 2
  clear hb1 hb2 HK1
  rcases hn with hn | hn | rfl | rfl | rfl | rfl | rfl
  · have hk : Hid (kindOk n = false) := by refine hid ?_; unfold kindOk; simp; omega
    have hr : Hid (rowK n = #[.string ⟨#[]⟩, .int .i64 0, .nilFunc]) := by refine hid ?_; unfold rowK; rw [if_neg (by omega), if_neg (by omega), if_neg (by omega), if_neg (by omega)]
    clear hbT
    go_wp2_with (refine wpList_store_row rfl 143 _ _ rfl w1.heap.size tabK rfl rfl 143 _ (heap_alloc_last w1 _) tabK_size rfl tabK_one ?_; rw [World.setRow_alloc_new]; generalize w1.alloc (.cells tabK 143) = w2 at HK2 HB c0 c1 c2 f0 f1 f2 ⊢)
    all_goals try (exfalso; omega)
    have hres := ((HB.out.set 0 (.string ⟨#[]⟩)).set 1 (.int .i64 0)).set 2 (.nilFunc)
    refine bodyPost_ret (results_cell_tmp1 (fn := Tryz.f68) (p := 2) (u := 3) rfl _ _ w.heap.size 119 #[.string ⟨#[]⟩, .int .i64 0, .nilFunc] (0, 0) _ rfl hres Tryz.underlying119 rfl Tryz.sizeKind) rfl ?_
    exact ⟨by rw [hk.out, hr.out]; rfl, ((HK2.out.setCell (fun hlt => absurd hlt (Nat.lt_irrefl _)) _).setCell (fun hlt => absurd hlt (Nat.lt_irrefl _)) _).setCell (fun hlt => absurd hlt (Nat.lt_irrefl _)) _⟩
  · have hk : Hid (kindOk n = false) := by refine hid ?_; unfold kindOk; simp; omega
    have hr : Hid (rowK n = #[.string ⟨#[]⟩, .int .i64 0, .nilFunc]) := by refine hid ?_; unfold rowK; rw [if_neg (by omega), if_neg (by omega), if_neg (by omega), if_neg (by omega)]
    clear hbT
    go_wp2_with (refine wpList_store_row rfl 143 _ _ rfl w1.heap.size tabK rfl rfl 143 _ (heap_alloc_last w1 _) tabK_size rfl tabK_one ?_; rw [World.setRow_alloc_new]; generalize w1.alloc (.cells tabK 143) = w2 at HK2 HB c0 c1 c2 f0 f1 f2 ⊢)
    all_goals try (exfalso; omega)
    have hres := ((HB.out.set 0 (.string ⟨#[]⟩)).set 1 (.int .i64 0)).set 2 (.nilFunc)
    refine bodyPost_ret (results_cell_tmp1 (fn := Tryz.f68) (p := 2) (u := 3) rfl _ _ w.heap.size 119 #[.string ⟨#[]⟩, .int .i64 0, .nilFunc] (0, 0) _ rfl hres Tryz.underlying119 rfl Tryz.sizeKind) rfl ?_
    exact ⟨by rw [hk.out, hr.out]; rfl, ((HK2.out.setCell (fun hlt => absurd hlt (Nat.lt_irrefl _)) _).setCell (fun hlt => absurd hlt (Nat.lt_irrefl _)) _).setCell (fun hlt => absurd hlt (Nat.lt_irrefl _)) _⟩
  · have hk : Hid (kindOk 0 = false) := hid (by decide)
    have hr : Hid (rowK 0 = #[.string ⟨#[]⟩, .int .i64 0, .nilFunc]) := hid rfl
    have q0 := nil_nil
    have q1 := nil_fun
    have d0 := hbT.cell 0 rfl
    have d1 := hbT.cell 1 rfl
    have d2 := hbT.cell 2 rfl
    clear hbT
    go_wp2_with (refine wpList_store_row rfl 143 _ _ rfl w1.heap.size tabK rfl rfl 143 _ (heap_alloc_last w1 _) tabK_size rfl tabK_one ?_; rw [World.setRow_alloc_new]; generalize w1.alloc (.cells tabK 143) = w2 at HK2 HB c0 c1 c2 f0 f1 f2 d0 d1 d2 ⊢)
    all_goals try (exfalso; omega)
    have hres := ((HB.out.set 0 (.string ⟨#[]⟩)).set 1 (.int .i64 0)).set 2 (.nilFunc)
    refine bodyPost_ret (results_cell_tmp1 (fn := Tryz.f68) (p := 2) (u := 3) rfl _ _ w.heap.size 119 #[.string ⟨#[]⟩, .int .i64 0, .nilFunc] (0, 0) _ rfl hres Tryz.underlying119 rfl Tryz.sizeKind) rfl ?_
    exact ⟨by rw [hk.out, hr.out]; rfl, ((HK2.out.setCell (fun hlt => absurd hlt (Nat.lt_irrefl _)) _).setCell (fun hlt => absurd hlt (Nat.lt_irrefl _)) _).setCell (fun hlt => absurd hlt (Nat.lt_irrefl _)) _⟩
  · have hk : Hid (kindOk 1 = true) := hid (by decide)
    have hr : Hid (rowK 1 = #[.string ⟨#[61]⟩, .int .i64 64, fIs]) := hid rfl
    have q0 := nil_nil
    have q1 := nil_fun
    have d0 := hbT.cell 3 rfl
    have d1 := hbT.cell 4 rfl
    have d2 := hbT.cell 5 rfl
    clear hbT
    go_wp2_with (refine wpList_store_row rfl 143 _ _ rfl w1.heap.size tabK rfl rfl 143 _ (heap_alloc_last w1 _) tabK_size rfl tabK_one ?_; rw [World.setRow_alloc_new]; generalize w1.alloc (.cells tabK 143) = w2 at HK2 HB c0 c1 c2 f0 f1 f2 d0 d1 d2 ⊢)
    all_goals try (exfalso; omega)
    have hres := ((HB.out.set 0 (.string ⟨#[61]⟩)).set 1 (.int .i64 64)).set 2 (fIs)
    refine bodyPost_ret (results_cell_tmp1 (fn := Tryz.f68) (p := 2) (u := 3) rfl _ _ w.heap.size 119 #[.string ⟨#[61]⟩, .int .i64 64, fIs] (0, 0) _ rfl hres Tryz.underlying119 rfl Tryz.sizeKind) rfl ?_
    exact ⟨by rw [hk.out, hr.out]; rfl, ((HK2.out.setCell (fun hlt => absurd hlt (Nat.lt_irrefl _)) _).setCell (fun hlt => absurd hlt (Nat.lt_irrefl _)) _).setCell (fun hlt => absurd hlt (Nat.lt_irrefl _)) _⟩
  · have hk : Hid (kindOk 2 = true) := hid (by decide)
    have hr : Hid (rowK 2 = #[.string ⟨#[33, 61]⟩, .int .i64 64, fNot]) := hid rfl
    have q0 := nil_nil
    have q1 := nil_fun
    have d0 := hbT.cell 6 rfl
    have d1 := hbT.cell 7 rfl
    have d2 := hbT.cell 8 rfl
    clear hbT
    go_wp2_with (refine wpList_store_row rfl 143 _ _ rfl w1.heap.size tabK rfl rfl 143 _ (heap_alloc_last w1 _) tabK_size rfl tabK_one ?_; rw [World.setRow_alloc_new]; generalize w1.alloc (.cells tabK 143) = w2 at HK2 HB c0 c1 c2 f0 f1 f2 d0 d1 d2 ⊢)
    all_goals try (exfalso; omega)
    have hres := ((HB.out.set 0 (.string ⟨#[33, 61]⟩)).set 1 (.int .i64 64)).set 2 (fNot)
    refine bodyPost_ret (results_cell_tmp1 (fn := Tryz.f68) (p := 2) (u := 3) rfl _ _ w.heap.size 119 #[.string ⟨#[33, 61]⟩, .int .i64 64, fNot] (0, 0) _ rfl hres Tryz.underlying119 rfl Tryz.sizeKind) rfl ?_
    exact ⟨by rw [hk.out, hr.out]; rfl, ((HK2.out.setCell (fun hlt => absurd hlt (Nat.lt_irrefl _)) _).setCell (fun hlt => absurd hlt (Nat.lt_irrefl _)) _).setCell (fun hlt => absurd hlt (Nat.lt_irrefl _)) _⟩
  · have hk : Hid (kindOk 3 = true) := hid (by decide)
    have hr : Hid (rowK 3 = #[.string ⟨#[94, 61]⟩, .int .i64 64, fBeg]) := hid rfl
    have q0 := nil_nil
    have q1 := nil_fun
    have d0 := hbT.cell 9 rfl
    have d1 := hbT.cell 10 rfl
    have d2 := hbT.cell 11 rfl
    clear hbT
    go_wp2_with (refine wpList_store_row rfl 143 _ _ rfl w1.heap.size tabK rfl rfl 143 _ (heap_alloc_last w1 _) tabK_size rfl tabK_one ?_; rw [World.setRow_alloc_new]; generalize w1.alloc (.cells tabK 143) = w2 at HK2 HB c0 c1 c2 f0 f1 f2 d0 d1 d2 ⊢)
    all_goals try (exfalso; omega)
    have hres := ((HB.out.set 0 (.string ⟨#[94, 61]⟩)).set 1 (.int .i64 64)).set 2 (fBeg)
    refine bodyPost_ret (results_cell_tmp1 (fn := Tryz.f68) (p := 2) (u := 3) rfl _ _ w.heap.size 119 #[.string ⟨#[94, 61]⟩, .int .i64 64, fBeg] (0, 0) _ rfl hres Tryz.underlying119 rfl Tryz.sizeKind) rfl ?_
    exact ⟨by rw [hk.out, hr.out]; rfl, ((HK2.out.setCell (fun hlt => absurd hlt (Nat.lt_irrefl _)) _).setCell (fun hlt => absurd hlt (Nat.lt_irrefl _)) _).setCell (fun hlt => absurd hlt (Nat.lt_irrefl _)) _⟩
  · have hk : Hid (kindOk 4 = true) := hid (by decide)
    have hr : Hid (rowK 4 = #[.string ⟨#[]⟩, .int .i64 0, fHas]) := hid rfl
    have q0 := nil_nil
    have q1 := nil_fun
    have d0 := hbT.cell 12 rfl
    have d1 := hbT.cell 13 rfl
    have d2 := hbT.cell 14 rfl
    clear hbT
    go_wp2_with (refine wpList_store_row rfl 143 _ _ rfl w1.heap.size tabK rfl rfl 143 _ (heap_alloc_last w1 _) tabK_size rfl tabK_one ?_; rw [World.setRow_alloc_new]; generalize w1.alloc (.cells tabK 143) = w2 at HK2 HB c0 c1 c2 f0 f1 f2 d0 d1 d2 ⊢)
    all_goals try (exfalso; omega)
    have hres := ((HB.out.set 0 (.string ⟨#[]⟩)).set 1 (.int .i64 0)).set 2 (fHas)
    refine bodyPost_ret (results_cell_tmp1 (fn := Tryz.f68) (p := 2) (u := 3) rfl _ _ w.heap.size 119 #[.string ⟨#[]⟩, .int .i64 0, fHas] (0, 0) _ rfl hres Tryz.underlying119 rfl Tryz.sizeKind) rfl ?_
    exact ⟨by rw [hk.out, hr.out]; rfl, ((HK2.out.setCell (fun hlt => absurd hlt (Nat.lt_irrefl _)) _).setCell (fun hlt => absurd hlt (Nat.lt_irrefl _)) _).setCell (fun hlt => absurd hlt (Nat.lt_irrefl _)) _⟩
end Go.Proofs.YtdgkdgbdkhnpcaaGreat.N
