/-
  Nread.
-/
import Derived.Test.YtmacfhhmpnmjeaaGreatDoorQ24
import Derived.Test.YtmacfhhmpnmjeaaGreatDoorQ27
import Derived.Test.YtmacfhhmpnmjeaaGreatDoorQ33
import Derived.Shelf.Vars

/-
  A text taken apart into labels.
-/
namespace Go.Proofs.YtmacfhhmpnmjeaaGreatDoor.N
open Go.RowKit Go.Proofs.Lys
set_option linter.unusedVariables false
set_option linter.unusedSimpArgs false

/-- The library's variable MaxLen holds a number. -/
def Mx (w : World) : Prop := ∃ m, w.cell? ⟨1, 0, none⟩ = some (.int .i64 m)
theorem Mx.stay {w W : World} (h : Mx w) (k : Kept w W) : Mx W := by
  obtain ⟨m, hm⟩ := h
  refine ⟨m, ?_⟩
  rw [World.cell?_of_block (w := w) (w' := W) (k.block _ (World.block_lt_of_cell? w _ hm) (fun f => f))]
  exact hm

theorem results_cell_tmp2 {P : Program} {fn : Func} {p u v : Tmp} {ty : TypeId} (h : fn.results = #[.cell p ty, .tmp u, .tmp v]) (tmps : Array Value) (w : World) (g : Nat) (t : TypeId) (cs : Array Value) (fr : Nat × Nat) (d : TypeDesc)
    (hp : tmps.getD p undef = .pointer (some ⟨g, 0, none⟩)) (hg : w.heap[g]? = some (.cells cs t fr))
    (hu : P.underlying ty = some d) (hd : (match d with | .struct _ | .array _ _ => true | _ => false) = true) (hi : (P.info? ty).map (·.size) = some cs.size) :
    (results fn tmps).run P w = .ok (.tuple #[.agg cs, tmps.getD u undef, tmps.getD v undef]) w := by
  have hp' : tmps[p]?.getD undef = .pointer (some ⟨g, 0, none⟩) := by simpa using hp
  simp [results, h, hp', asAddr, run_loadVar_row w g t ty cs fr d hg hu hd hi]

theorem clone_any (w : World) (s : ByteArray) (hs : s.size ≤ 1000000) : Calls Tryz.prog 162 #[.string s] w fun e w' => e = .returned (.string s) ∧ Kept w w' := by
  have H := hid (Tryz.stringslite_Clone s w (by omega))
  go_enter Tryz.func162, Tryz.ntmps162
  go_wp2_with fail
  refine H.out.mono ?_
  rintro e w1 ⟨rfl, k1⟩
  go_wp2
  go_ret
  exact ⟨rfl, ⟨k1.os, k1.tape, k1.output, k1.size, fun q hq _ => k1.block q hq⟩⟩

theorem cut_any (w : World) (s sep : ByteArray) (hM : Mx w) (hs : s.size ≤ 1000000) : Calls Tryz.prog 160 #[.string s, .string sep] w fun e w' => e = .returned (.tuple #[.string (mkB (Lib.cut s.data.toList sep.data.toList).1), .string (mkB (Lib.cut s.data.toList sep.data.toList).2.1), .bool (Lib.cut s.data.toList sep.data.toList).2.2]) ∧ Kept w w' := by
  obtain ⟨m, hm⟩ := hM
  refine (Tryz.strings_Cut s sep m w (by omega) hm).mono ?_
  rintro e w' ⟨he, n, rfl⟩
  exact ⟨he, kept_drewN (Only.refl _ w) n⟩

/-- What readLabel answers. -/
def LabelA (e : Ending) : Option ((List UInt8 × List UInt8) × List UInt8) → Prop
  | some (x, r) => e = .returned (.tuple #[.agg #[.string (mkB x.1), .string (mkB x.2)], .string (mkB r), .bool true])
  | none => ∃ X Y R, e = .returned (.tuple #[.agg #[.string X, .string Y], .string R, .bool false])
theorem Tryz.sizeLabN : (Tryz.prog.info? 80).map (·.size) = some 2 := by kernel_rfl
theorem cut_len (s sep : List UInt8) : (Lib.cut s sep).1.length ≤ s.length ∧ (Lib.cut s sep).2.1.length ≤ s.length := by
  unfold Lib.cut
  split
  · simp only [List.length_take, List.length_drop]
    omega
  · simp
theorem mkB_size (l : List UInt8) : (mkB l).size = l.length := by rw [Lib.size_eq]

set_option maxRecDepth 100000 in
set_option maxHeartbeats 1600000 in
theorem label_any (w : World) (s : ByteArray) (hM : Mx w) (hs : s.size ≤ 100000) : Calls Tryz.prog 152 #[.string s] w fun e w' => LabelA e (labR s.data.toList) ∧ Kept w w' := by
  have HMx := hid hM
  clear hM
  have hb0 := Blk.new w [.string ⟨#[]⟩, .string ⟨#[]⟩] 80
  have HK0 : Hid (Kept w (w.alloc (.cells #[.string ⟨#[]⟩, .string ⟨#[]⟩] 80))) := (Only.refl _ w).alloc _
  have H1 := hid (cut_any (w.alloc (.cells #[.string ⟨#[]⟩, .string ⟨#[]⟩] 80)) s ⟨#[61, 34]⟩ (HMx.out.stay HK0.out) (by omega))
  have hl1 := cut_len s.data.toList [61, 34]
  rw [← Lib.size_eq] at hl1
  have HLR : Hid (labR s.data.toList = if (Lib.cut s.data.toList [61, 34]).2.2 then
    if (Lib.cut (Lib.cut s.data.toList [61, 34]).2.1 [34]).2.2 then
      (unqL (Lib.cut (Lib.cut s.data.toList [61, 34]).2.1 [34]).1).map (fun v => (((Lib.cut s.data.toList [61, 34]).1, v), (Lib.cut (Lib.cut s.data.toList [61, 34]).2.1 [34]).2.1))
    else none
  else none) := rfl
  have e2 : (⟨#[61, 34]⟩ : ByteArray).data.toList = [61, 34] := rfl
  rw [e2] at H1
  clear e2
  generalize Lib.cut s.data.toList [61, 34] = C at H1 hl1 HLR
  obtain ⟨n, r, b⟩ := C
  simp only at H1 hl1 HLR
  generalize labR s.data.toList = R at HLR ⊢
  go_enter Tryz.func152, Tryz.ntmps152
  go_wp2_with fail
  generalize w.alloc (.cells #[.string ⟨#[]⟩, .string ⟨#[]⟩] 80) = w0 at hb0 HK0 H1 ⊢
  refine H1.out.mono ?_
  rintro e w1 ⟨rfl, k1⟩
  have hb1 := Only.blk k1 hb0 (fun f => f)
  have HK1 := hid (HK0.out.trans k1 (fun _ _ f => f))
  clear k1 hb0 H1
  have c0 := hb1.cell 0 rfl
  have c1 := hb1.cell 1 rfl
  have f0 := hb1.frozen 0
  have f1 := hb1.frozen 1
  have HBk := hid hb1
  clear hb1
  cases b with
  | false =>
    have HRn : Hid (R = none) := by refine hid ?_; rw [HLR.out]; rfl
    go_wp2
    have hres := (HBk.out.set 0 (.string ⟨#[]⟩)).set 1 (.string ⟨#[]⟩)
    refine bodyPost_ret (results_cell_tmp2 (fn := Tryz.f152) (p := 2) (u := 3) (v := 4) rfl _ _ w.heap.size 80 #[.string ⟨#[]⟩, .string ⟨#[]⟩] (0, 0) _ rfl hres Tryz.underlying80 rfl Tryz.sizeLabN) rfl ?_
    refine ⟨?_, (HK1.out.setCell (fun hlt => absurd hlt (Nat.lt_irrefl _)) _).setCell (fun hlt => absurd hlt (Nat.lt_irrefl _)) _⟩
    rw [HRn.out]
    exact ⟨_, _, _, rfl⟩
  | true =>
    have H2 := hid (cut_any w1 (mkB r) ⟨#[34]⟩ (HMx.out.stay HK1.out) (by rw [mkB_size]; omega))
    have e2 : (⟨#[34]⟩ : ByteArray).data.toList = [34] := rfl
    have e3 : (mkB r).data.toList = r := rfl
    rw [e2, e3] at H2
    have hl2 := cut_len r [34]
    have HLR2 : Hid (R = if (Lib.cut r [34]).2.2 then (unqL (Lib.cut r [34]).1).map (fun v => ((n, v), (Lib.cut r [34]).2.1)) else none) := by refine hid ?_; rw [HLR.out]; rfl
    clear e2 e3 HLR
    generalize Lib.cut r [34] = C at H2 hl2 HLR2
    obtain ⟨q, r2, b2⟩ := C
    simp only at H2 hl2 HLR2
    go_wp2_with fail
    refine H2.out.mono ?_
    rintro e w2 ⟨rfl, k2⟩
    have hb2 := Only.blk k2 HBk.out (fun f => f)
    have HK2 := hid (HK1.out.trans k2 (fun _ _ f => f))
    have HBk2 := hid hb2
    have c0 := hb2.cell 0 rfl
    have c1 := hb2.cell 1 rfl
    have f0 := hb2.frozen 0
    have f1 := hb2.frozen 1
    clear hb2 k2 H2
    cases b2 with
    | false =>
      have HRn : Hid (R = none) := by refine hid ?_; rw [HLR2.out]; rfl
      go_wp2
      have hres := (HBk2.out.set 0 (.string ⟨#[]⟩)).set 1 (.string ⟨#[]⟩)
      refine bodyPost_ret (results_cell_tmp2 (fn := Tryz.f152) (p := 2) (u := 3) (v := 4) rfl _ _ w.heap.size 80 #[.string ⟨#[]⟩, .string ⟨#[]⟩] (0, 0) _ rfl hres Tryz.underlying80 rfl Tryz.sizeLabN) rfl ?_
      refine ⟨?_, (HK2.out.setCell (fun hlt => absurd hlt (Nat.lt_irrefl _)) _).setCell (fun hlt => absurd hlt (Nat.lt_irrefl _)) _⟩
      rw [HRn.out]
      exact ⟨_, _, _, rfl⟩
    | true =>
      have H3 := hid (rquoted_any w2 (mkB q) (by rw [mkB_size]; omega))
      have e3 : (mkB q).data.toList = q := rfl
      rw [e3] at H3
      have HLR3 : Hid (R = (unqL q).map (fun v => ((n, v), r2))) := by refine hid ?_; rw [HLR2.out]; rfl
      clear e3 HLR2
      go_wp2_with fail
      refine H3.out.mono ?_
      rintro e w3 ⟨⟨v, b3, rfl, hq⟩, k3⟩
      have hb3 := Only.blk k3 HBk2.out (fun f => f)
      have HK3 := hid (HK2.out.trans k3 (fun _ _ f => f))
      have HBk3 := hid hb3
      clear hb3 k3 H3 c0 c1 f0 f1
      obtain ⟨V, hvV⟩ : ∃ V, v = .string V := by
        cases hu : unqL q with
        | none => rw [hu] at hq; exact ⟨_, hq.2⟩
        | some z => rw [hu] at hq; exact ⟨_, hq.2⟩
      subst hvV
      have HQ := hid hq
      clear hq
      have H4 := hid (clone_any w3 (mkB n) (by rw [mkB_size]; omega))
      go_wp2_with fail
      refine H4.out.mono ?_
      rintro e w4 ⟨rfl, k4⟩
      have hb4 := Only.blk k4 HBk3.out (fun f => f)
      have HK4 := hid (HK3.out.trans k4 (fun _ _ f => f))
      have HBk4 := hid hb4
      have c0 := hb4.cell 0 rfl
      have c1 := hb4.cell 1 rfl
      have f0 := hb4.frozen 0
      have f1 := hb4.frozen 1
      clear hb4 k4 H4
      go_wp2
      have hres := (HBk4.out.set 0 (.string (mkB n))).set 1 (.string V)
      refine bodyPost_ret (results_cell_tmp2 (fn := Tryz.f152) (p := 2) (u := 3) (v := 4) rfl _ _ w.heap.size 80 #[.string (mkB n), .string V] (0, 0) _ rfl hres Tryz.underlying80 rfl Tryz.sizeLabN) rfl ?_
      refine ⟨?_, (HK4.out.setCell (fun hlt => absurd hlt (Nat.lt_irrefl _)) _).setCell (fun hlt => absurd hlt (Nat.lt_irrefl _)) _⟩
      have hq := HQ.out
      rw [HLR3.out]
      cases hu : unqL q with
      | none =>
        rw [hu] at hq
        obtain ⟨rfl, _⟩ := hq
        exact ⟨_, _, _, rfl⟩
      | some z =>
        rw [hu] at hq
        obtain ⟨rfl, hz⟩ := hq
        cases hz
        rfl
end Go.Proofs.YtmacfhhmpnmjeaaGreatDoor.N
