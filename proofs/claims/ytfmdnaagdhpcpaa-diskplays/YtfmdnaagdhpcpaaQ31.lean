/-
  Ecl1.
-/
import Derived.Test.YtfmdnaagdhpcpaaQ30

/-
  The document's own disk: the first loop of Crash.
-/
namespace Go.Proofs.Ytfmdnaagdhpcpaa
open Go.RowKit Go.Proofs.Lys Go.Maps Go.Shelf
set_option linter.unusedVariables false

/-- A part of a function's code. -/
def subC : List Nat → Code → Code
  | [], c => c
  | 0 :: p, .seq a _ => subC p a
  | _ :: p, .seq _ b => subC p b
  | _ :: p, .block _ a => subC p a
  | _ :: p, .loop a => subC p a
  | _, _ => .skip
theorem wp_as {P : Program} {c c' : Code} {Q : Exit → Act → World → Prop} {a : Act} {w : World} (e : c = c') (h : c'.wp P Q a w) : c.wp P Q a w := e ▸ h

theorem int_src {w : World} {ka : Option Addr} {kc : Nat} {l : List Int} (h : SrcOf w (.slice ka l.length kc) (l.map (Value.int .i64))) (j : Nat) (hj : j < l.length) : ∃ b o, ka = some ⟨b, o, none⟩ ∧ w.cell? ⟨b, o + j, none⟩ = some (.int .i64 ((l.drop j).headD 0)) := by
  rcases h.shape with ⟨e, _⟩ | ⟨_, b, o, c, e, hc⟩
  · have : l = [] := List.map_eq_nil_iff.1 e
    subst this
    simp at hj
  · rw [List.length_map] at e
    cases e
    refine ⟨b, o, rfl, hc j _ ?_⟩
    rw [List.getElem?_map, List.getElem?_eq_getElem hj, List.drop_eq_getElem_cons hj]
    rfl
theorem past_src {l : List Int} {j : Nat} (hj : ¬ j < l.length) : (l.drop j).headD 0 = 0 := by
  rw [List.drop_of_length_le (by omega)]
  rfl
theorem keep_step {acts : List DAct} {keep : List Int} {cur tot : DDir} {kl : List Int} {j : Nat} (hj : j < acts.length) (h : DModel.keepActs (acts.drop j) (keep.drop j) cur = (tot, kl)) : DModel.keepActs (acts.drop (j + 1)) (keep.drop (j + 1)) (if DModel.oddB ((keep.drop j).headD 0) then DD.act cur acts[j] else cur) = (tot, kl) := by
  rw [List.drop_eq_getElem_cons hj] at h
  have e : keep.drop (j + 1) = (keep.drop j).tail := by rw [List.tail_drop]
  rw [e]
  exact h

theorem Try.infoT0 : (Try.prog.info? 4).map (fun i => (i.zero, i.size, i.bytes)) = some (some (.bool false), 1, 1) := by kernel_rfl

section
variable {w : World} {c : RConc} {O : Nat → Prop} {m : DModel}

set_option maxRecDepth 100000 in
set_option maxHeartbeats 12800000 in
theorem loop1_any {K : Act → World → Prop} {Q : Exit → Act → World → Prop} {ka : Option Addr} {kc KL A acap : Nat} {aa : Option Addr} {keep : List Int} {tot : DDir} {kl : List Int} (HKL : Hid (keep.length = KL)) (HC : Hid (Cr w O w c m)) (HS : Hid (SrcOf w (.slice ka KL kc) (keep.map (Value.int .i64)))) (HAP : Hid (∀ a, ka = some a → 0 < keep.length → ¬ O a.block)) (hkl : KL ≤ 1000000) (HKI : Hid (∀ a ∈ m.acts, a.kind ≤ 2)) (HSZ : Hid (m.sure.length + m.acts.length ≤ 10000))
    (HT : Hid (DModel.keepActs m.acts keep m.sure = (tot, kl))) (HA : Hid (c.ac.length = A)) (HAM : Hid (m.acts.length = A)) (HAV : Hid (c.av = .slice aa A acap)) (hAl : A ≤ 10000)
    (HK : Hid (∀ (u6 u7 u8 u9 u20 u21 u22 u23 u24 u25 u26 u27 u28 u29 u30 u31 u32 u33 u34 u35 u36 u37 u38 u39 u40 u41 u42 u43 u44 u45 u46 u47 u48 u49 u50 u51 u52 u53 u54 u55 u56 u57 u58 u59 u60 u61 u62 u63 u64 u65 u66 u67 u68 u69 u70 u71 u72 u73 u74 u75 u76 u77 u78 u79 u80 u81 u82 u83 u84 u85 u86 u87 u88 u89 u90 u91 u92 u93 u94 u95 u96 u97 u98 u99 u100 u101 u102 u103 u104 u105 u106 u107 u108 u109 : Value) (wr : World) (sv : Value) (cur : DDir), Cr w O wr { c with sv := sv } { m with sure := cur } → cur.length ≤ m.sure.length + A → DModel.keepActs (m.acts.drop A) (keep.drop A) cur = (tot, kl) → K { tmps := #[.pointer (some ⟨c.d, 0, none⟩), .slice ka KL kc, undef, undef, .int .i64 (A : Int), .int .i64 (A : Int), u6, u7, u8, u9, undef, undef, undef, undef, undef, undef, undef, undef, undef, undef, u20, u21, u22, u23, u24, u25, u26, u27, u28, u29, u30, u31, u32, u33, u34, u35, u36, u37, u38, u39, u40, u41, u42, u43, u44, u45, u46, u47, u48, u49, u50, u51, u52, u53, u54, u55, u56, u57, u58, u59, u60, u61, u62, u63, u64, u65, u66, u67, u68, u69, u70, u71, u72, u73, u74, u75, u76, u77, u78, u79, u80, u81, u82, u83, u84, u85, u86, u87, u88, u89, u90, u91, u92, u93, u94, u95, u96, u97, u98, u99, u100, u101, u102, u103, u104, u105, u106, u107, u108, u109, undef, undef, undef, undef, undef, undef, undef, undef, undef, undef, undef, undef, undef, undef, undef, undef, undef, undef, undef, undef, undef, undef, undef, undef, undef, undef, undef, undef, undef, undef, undef, undef, undef, undef, undef, undef, undef, undef, undef, undef, undef, undef, undef, undef, undef, undef, undef, undef, undef, undef, undef, undef, undef, undef, undef, undef, undef, undef, undef, undef, undef, undef, undef, undef, undef, undef, undef, undef, undef, undef, undef, undef, undef, undef, undef, undef, undef, undef, undef, undef, undef, undef, undef, undef, undef, undef, undef, undef, undef, undef, undef, undef, undef, undef, undef, undef, undef, undef, undef, undef, undef, undef, undef, undef, undef, undef, undef, undef, undef, undef, undef, undef, undef, undef, undef, undef, undef, undef, undef, undef, undef, undef, undef, undef, undef, undef, undef, undef, undef, undef, undef, undef, undef, undef, undef, undef, undef, undef, undef, undef, undef, undef, undef, undef, undef, undef], defers := [] } wr)) :
    (subC [1, 0, 1, 0] (Try.f18.body.getD .skip)).wp Try.prog (Exit.inBlock 0 (Exit.then K Q)) { tmps := #[.pointer (some ⟨c.d, 0, none⟩), .slice ka KL kc, undef, undef, .int .i64 0, .int .i64 0, undef, undef, undef, undef, undef, undef, undef, undef, undef, undef, undef, undef, undef, undef, undef, undef, undef, undef, undef, undef, undef, undef, undef, undef, undef, undef, undef, undef, undef, undef, undef, undef, undef, undef, undef, undef, undef, undef, undef, undef, undef, undef, undef, undef, undef, undef, undef, undef, undef, undef, undef, undef, undef, undef, undef, undef, undef, undef, undef, undef, undef, undef, undef, undef, undef, undef, undef, undef, undef, undef, undef, undef, undef, undef, undef, undef, undef, undef, undef, undef, undef, undef, undef, undef, undef, undef, undef, undef, undef, undef, undef, undef, undef, undef, undef, undef, undef, undef, undef, undef, undef, undef, undef, undef, undef, undef, undef, undef, undef, undef, undef, undef, undef, undef, undef, undef, undef, undef, undef, undef, undef, undef, undef, undef, undef, undef, undef, undef, undef, undef, undef, undef, undef, undef, undef, undef, undef, undef, undef, undef, undef, undef, undef, undef, undef, undef, undef, undef, undef, undef, undef, undef, undef, undef, undef, undef, undef, undef, undef, undef, undef, undef, undef, undef, undef, undef, undef, undef, undef, undef, undef, undef, undef, undef, undef, undef, undef, undef, undef, undef, undef, undef, undef, undef, undef, undef, undef, undef, undef, undef, undef, undef, undef, undef, undef, undef, undef, undef, undef, undef, undef, undef, undef, undef, undef, undef, undef, undef, undef, undef, undef, undef, undef, undef, undef, undef, undef, undef, undef, undef, undef, undef, undef, undef, undef, undef, undef, undef, undef, undef, undef, undef, undef, undef, undef, undef, undef, undef, undef, undef, undef, undef, undef, undef, undef, undef, undef, undef, undef, undef], defers := [] } w := by
  simp only [subC, Try.f18, Option.getD_some]
  go_loopw [4, 5] (fun t s wr => ∃ (j : Nat) (sv : Value) (cur : DDir), j ≤ A ∧ t = .int .i64 (j : Int) ∧ s = .int .i64 (j : Int) ∧ Cr w O wr { c with sv := sv } { m with sure := cur } ∧ cur.length ≤ m.sure.length + j ∧ DModel.keepActs (m.acts.drop j) (keep.drop j) cur = (tot, kl)) (fun t s _ => A - (intOf s).toNat)
  case atStart => exact ⟨0, c.sv, m.sure, by omega, rfl, rfl, HC.out, by omega, HT.out⟩
  case round =>
    obtain ⟨j, sv, cur, hj, rfl, rfl, hcr, hcl, hkp⟩ := hrel
    have hcd : Blk wr c.d (RCells { c with sv := sv } { m with sure := cur }) 63 := hcr.at5.cells
    have hl1 := hcd.lt
    have x3 : wr.cell? ⟨c.d, 3, none⟩ = some (.slice aa A acap) := by
      have h1 : wr.cell? ⟨c.d, 3, none⟩ = some c.av := hcd.cell 3 rfl
      rw [HAV.out] at h1
      exact h1
    have N := Hid.mk hcr
    have HCL := Hid.mk hcl
    have HKP := Hid.mk hkp
    clear hcr hcl hkp
    by_cases hlt : j < A
    · have hjm : j < m.acts.length := by have := HAM.out; omega
      have hja : j < c.ac.length := by have := HA.out; omega
      have HST := Hid.mk (keep_step hjm HKP.out)
      obtain ⟨X, hX⟩ : ∃ X, (keep.drop j).headD 0 = X := ⟨_, rfl⟩
      rw [hX] at HST
      have hrem := rem_two X
      -- even: nothing
      have Hev : Hid (DModel.oddB X = false → ∃ (j1 : Nat) (sv1 : Value) (cur1 : DDir), j1 ≤ A ∧ Value.int .i64 ((j : Int) + 1) = .int .i64 (j1 : Int) ∧ Value.int .i64 ((j : Int) + 1) = .int .i64 (j1 : Int) ∧ Cr w O wr { c with sv := sv1 } { m with sure := cur1 } ∧ cur1.length ≤ m.sure.length + j1 ∧ DModel.keepActs (m.acts.drop j1) (keep.drop j1) cur1 = (tot, kl)) := fun ho => by
        have h1 := HST.out
        rw [ho] at h1
        exact ⟨j + 1, sv, cur, by omega, by go_num, by go_num, N.out, by have := HCL.out; omega, h1⟩
      -- odd: the act is done tt the sure directory
      have Hod : Hid (DModel.oddB X = true → ∀ W v, Cr w O W { c with sv := v } { m with sure := DD.act cur (c.ac[j]) } → ∃ (j1 : Nat) (sv1 : Value) (cur1 : DDir), j1 ≤ A ∧ Value.int .i64 ((j : Int) + 1) = .int .i64 (j1 : Int) ∧ Value.int .i64 ((j : Int) + 1) = .int .i64 (j1 : Int) ∧ Cr w O W { c with sv := sv1 } { m with sure := cur1 } ∧ cur1.length ≤ m.sure.length + j1 ∧ DModel.keepActs (m.acts.drop j1) (keep.drop j1) cur1 = (tot, kl)) := fun ho W v hW => by
        have h1 := HST.out
        have e2 : m.acts[j] = plainAct c.ac[j] := by
          have h5 : m.acts = c.ac.map plainAct := N.out.at5.acm.symm
          have h6 : m.acts[j]? = some (plainAct c.ac[j]) := by rw [h5, List.getElem?_map, List.getElem?_eq_getElem hja]; rfl
          rw [List.getElem?_eq_getElem hjm] at h6
          exact Option.some.inj h6
        rw [ho, if_pos rfl, e2, act_plain] at h1
        have hle := act_le cur c.ac[j]
        exact ⟨j + 1, v, _, by omega, by go_num, by go_num, hW, by have := HCL.out; omega, h1⟩
      by_cases hjk : j < KL
      · obtain ⟨kb, ko, hka, kcell⟩ := int_src (l := keep) (by rw [HKL.out]; exact HS.out) j (by rw [HKL.out]; exact hjk)
        subst hka
        have kc2 : wr.cell? ⟨kb, ko + j, none⟩ = some (.int .i64 X) := by
          rw [World.cell?_of_block (w := w) (w' := wr) (a := ⟨kb, ko + j, none⟩) (N.out.only.block kb (World.block_lt_of_cell? w _ kcell) (HAP.out _ rfl (by rw [HKL.out]; omega))), ← hX]
          exact kcell
        clear kcell hX
        cases ho : DModel.oddB X with
        | false =>
          rw [ho] at hrem
          have HE := Hid.mk (Hev.out ho)
          clear ho
          go_wp2_with fail
          go_roundw
          case rel => exact HE.out
          case measure => simp [intOf]; omega
        | true =>
          rw [ho] at hrem
          have HO := Hid.mk (Hod.out ho)
          clear ho Hev Hod
          obtain ⟨ag, acap2, hag⟩ := ownN_some N.out.at5.acts (show 0 < c.ac.length by omega)
          have hag2 : c.av = .slice (some ⟨ag, 0, none⟩) c.ac.length acap2 := hag
          have hag3 := HAV.out.symm.trans hag2
          rw [HA.out] at hag3
          cases hag3
          have hrow : wr.ownsRow 0 73 4 (.slice (some ⟨ag, 0, none⟩) A acap) A (actL c.ac) := by
            have h1 : wr.ownsRow 0 73 4 c.av c.ac.length (actL c.ac) := N.out.at5.acts
            rw [HAV.out, HA.out] at h1
            exact h1
          obtain ⟨t0, t1, t2, t3⟩ := actL_at c.ac j hja
          have q0 := hrow.cellAt (j * 4) (by omega)
          have q1 := hrow.cellAt (j * 4 + 1) (by omega)
          have q2 := hrow.cellAt (j * 4 + 2) (by omega)
          have q3 := hrow.cellAt (j * 4 + 3) (by omega)
          rw [t0] at q0
          rw [t1] at q1
          rw [t2] at q2
          rw [t3] at q3
          unfold nmV at q1 q2
          have hkk : c.ac[j].kind ≤ 2 := by
            have := HKI.out (plainAct c.ac[j]) (by rw [← N.out.at5.acm]; exact List.mem_map_of_mem (List.getElem_mem hja))
            rw [(plain_name _).2.2] at this
            exact this
          obtain ⟨ac, hac⟩ : ∃ ac, c.ac[j] = ac := ⟨_, rfl⟩
          rw [hac] at q0 q1 q2 q3 hkk HO
          obtain ⟨kd, nm, tt, fl⟩ := ac
          simp only at q0 q1 q2 q3 hkk
          obtain ⟨M, hM⟩ : ∃ M, cur.length = M := ⟨_, rfl⟩
          obtain ⟨sa, sc, hsv⟩ := ownN_slice N.out.at5.sure
          have hsv2 : sv = .slice sa M sc := by rw [← hM]; exact hsv
          subst hsv2
          have x2 : wr.cell? ⟨c.d, 2, none⟩ = some (.slice sa M sc) := hcd.cell 2 rfl
          have hMl : Hid (M + 1 ≤ 10000) := by have := HCL.out; have := HSZ.out; have := HAM.out; show _ ≤ _; omega
          have HM := Hid.mk hM
          clear hac hag hag2 hrow t0 t1 t2 t3 hsv hM
          go_wp2_with fail
          have N4 := N.out.stay ((Only.refl (fun _ => False) wr).alloc (.cells #[.int .i64 (kd : Int), .string ⟨nm.toArray⟩, .string ⟨tt.toArray⟩, .int .i64 (fl : Int)] 73))
          have hab := Blk.new wr [.int .i64 (kd : Int), .string ⟨nm.toArray⟩, .string ⟨tt.toArray⟩, .int .i64 (fl : Int)] 73
          have Nw := Hid.mk N4
          have Hab := Hid.mk hab
          change Hid (Blk (wr.alloc (.cells #[.int .i64 (kd : Int), .string ⟨nm.toArray⟩, .string ⟨tt.toArray⟩, .int .i64 (fl : Int)] 73)) _ _ _) at Hab
          clear N4 hab x2 x3 q0 q1 q2 q3 hcd hl1 kc2
          generalize wr.alloc (.cells #[.int .i64 (kd : Int), .string ⟨nm.toArray⟩, .string ⟨tt.toArray⟩, .int .i64 (fl : Int)] 73) = wa at Nw Hab ⊢
          generalize wr.heap.size = ab at Hab ⊢
          have hcd := Nw.out.at5.cells
          have x2 : wa.cell? ⟨c.d, 2, none⟩ = some (.slice sa M sc) := hcd.cell 2 rfl
          have y1 := Hab.out.cell 1 rfl
          have hFind : Hid (∀ i, Calls Try.prog 36 #[.slice sa M sc, .string ⟨nm.toArray⟩] (wa.drewN i) fun e w' => e = .returned (.int .i64 (fidx cur nm)) ∧ w' = wa.drewN i) := fun i => by
            exact rfind_any (Nw.out.stay (Kept.drewN' (Only.refl _ wa) i)).at5.sure.src (show cur.length ≤ 1000000 by have := hMl.out; have := HM.out; omega) nm
          clear hcd
          go_quiet ((go_at_call 36; exact Calls.quiet_of_same (hFind.out _)))
          have N5 := Hid.mk (Nw.out.stay (Kept.drewN' (Only.refl (fun _ => False) wa) nq))
          have Haq : Hid (Blk (wa.drewN nq) ab [.int .i64 (kd : Int), .string ⟨nm.toArray⟩, .string ⟨tt.toArray⟩, .int .i64 (fl : Int)] 73) := (Kept.drewN' (Only.refl (fun _ => False) wa) nq).blk Hab.out (fun f => f)
          clear hFind x2 y1 Nw Hab
          generalize wa.drewN nq = wq at N5 Haq ⊢
          have hcd := N5.out.at5.cells
          have hl1 : c.d < wq.heap.size := hcd.lt
          have x2 : wq.cell? ⟨c.d, 2, none⟩ = some (.slice sa M sc) := hcd.cell 2 rfl
          have y0 := Haq.out.cell 0 rfl
          have y1 := Haq.out.cell 1 rfl
          have y2 := Haq.out.cell 2 rfl
          have y3 := Haq.out.cell 3 rfl
          have hes : EntSrc wq (.slice sa M sc) cur := N5.out.at5.sure.src
          have hne : ab ≠ c.d := fun e => Haq.out.ne hcd (by decide) e
          rcases (by omega : kd = 0 ∨ kd = 1 ∨ kd = 2) with e | e | e
          · subst e
            have hput := Hid.mk (rput_any (w := wq.drew) (hes.stay (Only.refl _ wq).drew) (by have := hMl.out; have := HM.out; omega) nm fl)
            generalize fidx cur nm = fi
            clear hes hcd
            go_wp2_with fail
            refine wp_region_noPanic ?_
            refine wp_region_last (L := 12) (S := fun w' => w'.cell? ⟨c.d, 2, none⟩ = some (.slice sa M sc) ∧ w'.cell? ⟨ab, 1, none⟩ = some (.string ⟨nm.toArray⟩) ∧ w'.cell? ⟨ab, 3, none⟩ = some (.int .i64 (fl : Int))) (by kernel_rfl) ?_
            have hS : (fun w' : World => w'.cell? ⟨c.d, 2, none⟩ = some (.slice sa M sc) ∧ w'.cell? ⟨ab, 1, none⟩ = some (.string ⟨nm.toArray⟩) ∧ w'.cell? ⟨ab, 3, none⟩ = some (.int .i64 (fl : Int))) wq.drew := ⟨x2, y1, y3⟩
            refine wpAnyL_take (i := 0) (v := .pointer (some ⟨c.d, 0, none⟩)) rfl (by kernel_rfl) (by kernel_rfl) (by kernel_rfl) (by kernel_rfl) (by kernel_rfl) (fun _ _ _ h => h) (Or.inl ⟨by rfl, ?_⟩) hS ?_
            · (intro w' hSw; go_simp)
            go_frame
            refine wpAnyL_take (i := 1) (v := .pointer (some ⟨c.d, 0, none⟩)) rfl (by kernel_rfl) (by kernel_rfl) (by kernel_rfl) (by kernel_rfl) (by kernel_rfl) (fun _ _ _ h => h) (Or.inl ⟨by rfl, ?_⟩) hS ?_
            · (intro w' hSw; go_simp)
            go_frame
            refine wpAnyL_take (i := 2) (v := .pointer (some ⟨c.d, 0, none⟩)) rfl (by kernel_rfl) (by kernel_rfl) (by kernel_rfl) (by kernel_rfl) (by kernel_rfl) (fun _ _ _ h => h) (Or.inl ⟨by rfl, ?_⟩) hS ?_
            · (intro w' hSw; go_simp)
            go_frame
            refine wpAnyL_take (i := 3) (v := .pointer (some ⟨c.d, 2, none⟩)) rfl (by kernel_rfl) (by kernel_rfl) (by kernel_rfl) (by kernel_rfl) (by kernel_rfl) (fun _ _ _ h => h) (Or.inl ⟨by rfl, ?_⟩) hS ?_
            · (intro w' hSw; go_simp)
            go_frame
            refine wpAnyL_take (i := 4) (v := .slice sa M sc) rfl (by kernel_rfl) (by kernel_rfl) (by kernel_rfl) (by kernel_rfl) (by kernel_rfl) (fun _ _ _ h => h) (Or.inl ⟨by rfl, ?_⟩) hS ?_
            · (intro w' hSw; go_simp)
            go_frame
            refine wpAnyL_take (i := 5) (v := .pointer (some ⟨ab, 1, none⟩)) rfl (by kernel_rfl) (by kernel_rfl) (by kernel_rfl) (by kernel_rfl) (by kernel_rfl) (fun _ _ _ h => h) (Or.inl ⟨by rfl, ?_⟩) hS ?_
            · (intro w' hSw; go_simp)
            go_frame
            refine wpAnyL_take (i := 6) (v := .string ⟨nm.toArray⟩) rfl (by kernel_rfl) (by kernel_rfl) (by kernel_rfl) (by kernel_rfl) (by kernel_rfl) (fun _ _ _ h => h) (Or.inl ⟨by rfl, ?_⟩) hS ?_
            · (intro w' hSw; go_simp)
            go_frame
            refine wpAnyL_take (i := 7) (v := .pointer (some ⟨ab, 3, none⟩)) rfl (by kernel_rfl) (by kernel_rfl) (by kernel_rfl) (by kernel_rfl) (by kernel_rfl) (fun _ _ _ h => h) (Or.inl ⟨by rfl, ?_⟩) hS ?_
            · (intro w' hSw; go_simp)
            go_frame
            refine wpAnyL_take (i := 8) (v := .int .i64 (fl : Int)) rfl (by kernel_rfl) (by kernel_rfl) (by kernel_rfl) (by kernel_rfl) (by kernel_rfl) (fun _ _ _ h => h) (Or.inl ⟨by rfl, ?_⟩) hS ?_
            · (intro w' hSw; go_simp)
            go_frame
            refine wpAnyL_one (i := 9) (by kernel_rfl) rfl rfl ?_
            go_simp
            refine hput.out.mono ?_
            rintro e w6 ⟨v6, rfl, ho6, hk6⟩
            have hk6' : Kept wq w6 := (Only.refl (fun _ => False) wq).drew.trans hk6 (fun _ _ f => f)
            obtain ⟨hc6, N6⟩ := Cr.sure N5.out hk6' ho6
            have c2 : w6.cell? ⟨c.d, 2, none⟩ = some (.slice sa M sc) := hc6.cell 2 rfl
            have f2 : w6.frozen? ⟨c.d, 2, none⟩ = false := hc6.frozen 2
            have ha6 := hk6'.blk Haq.out (fun f => f)
            have z1 := ha6.cell 1 rfl
            have z2 := ha6.cell 2 rfl
            have z3 := ha6.cell 3 rfl
            obtain ⟨a6, cp6, rfl⟩ := ownN_slice ho6
            have HN6 := Hid.mk (HO.out _ _ N6)
            clear hc6 N6 ha6 ho6 hk6 hk6'
            refine ⟨⟨c2, z1, z3⟩, ?_⟩
            refine wpAnyL_one (i := 10) (by kernel_rfl) rfl rfl ?_
            go_simp
            refine wpAnyL_one (i := 11) (by kernel_rfl) rfl rfl ?_
            go_simp
            refine wpAnyL_last (by kernel_rfl) (by kernel_rfl) rfl rfl ?_
            go_simp
            refine NoPanic.normal ?_
            clear hS
            go_wp2_with fail
            go_roundw
            case rel => exact HN6.out
            case measure => simp [intOf]; omega
          · subst e
            rcases fidx_look cur nm with ⟨hl, hi⟩ | ⟨i, hi', hi, hl⟩
            · rw [hi]
              have e1 : DD.act cur ⟨1, nm, tt, fl⟩ = cur := by
                show (match DD.look cur nm with | some f => DD.put (DD.drop cur nm) tt f | none => cur) = cur
                rw [hl]
              have HN6 := Hid.mk (HO.out wq (.slice sa M sc) (by rw [e1]; exact N5.out))
              clear hes hcd
              go_wp2_with fail
              go_roundw
              case rel => exact HN6.out
              case measure => simp [intOf]; omega
            · rw [hi]
              have hiM : i < M := by have := HM.out; omega
              obtain ⟨b1, o1, hsa, e0, e1⟩ := hes.cell HM.out i hiM
              subst hsa
              obtain ⟨F, hF2⟩ : ∃ F, cur[i].2 = F := ⟨_, rfl⟩
              rw [hF2] at e1 hl
              have eact : DD.act cur ⟨1, nm, tt, fl⟩ = DD.put (DD.drop cur nm) tt F := by
                show (match DD.look cur nm with | some f => DD.put (DD.drop cur nm) tt f | none => cur) = _
                rw [hl]
              rw [eact] at HO
              have hdrop := Hid.mk (rdrop_any (w := wq.drew) (hes.stay (Only.refl _ wq).drew) (by have := hMl.out; have := HM.out; omega) nm)
              have hdl : (DD.drop cur nm).length ≤ 10000 := by have := drop_le cur nm; have := hMl.out; have := HM.out; omega
              have hput : Hid (∀ W v, EntSrc W v (DD.drop cur nm) → Calls Try.prog 37 #[v, .string ⟨tt.toArray⟩, .int .i64 (F : Int)] W fun e w' => ∃ v', e = .returned v' ∧ EntAt w' W.heap.size v' (DD.put (DD.drop cur nm) tt F) ∧ Kept W w') := fun W v h => rput_any h hdl tt F
              clear hes hcd hF2 e0 hi hl eact hdl
              go_wp2_with fail
              refine wp_region_noPanic ?_
              refine wp_region_last (L := 14) (S := fun w' => w'.cell? ⟨c.d, 2, none⟩ = some (.slice (some ⟨b1, o1, none⟩) M sc) ∧ w'.cell? ⟨ab, 1, none⟩ = some (.string ⟨nm.toArray⟩) ∧ w'.cell? ⟨ab, 2, none⟩ = some (.string ⟨tt.toArray⟩)) (by kernel_rfl) ?_
              have hS : (fun w' : World => w'.cell? ⟨c.d, 2, none⟩ = some (.slice (some ⟨b1, o1, none⟩) M sc) ∧ w'.cell? ⟨ab, 1, none⟩ = some (.string ⟨nm.toArray⟩) ∧ w'.cell? ⟨ab, 2, none⟩ = some (.string ⟨tt.toArray⟩)) wq.drew := ⟨x2, y1, y2⟩
              refine wpAnyL_take (i := 0) (v := .pointer (some ⟨c.d, 0, none⟩)) rfl (by kernel_rfl) (by kernel_rfl) (by kernel_rfl) (by kernel_rfl) (by kernel_rfl) (fun _ _ _ h => h) (Or.inl ⟨by rfl, ?_⟩) hS ?_
              · (intro w' hSw; go_simp)
              go_frame
              refine wpAnyL_take (i := 1) (v := .pointer (some ⟨c.d, 0, none⟩)) rfl (by kernel_rfl) (by kernel_rfl) (by kernel_rfl) (by kernel_rfl) (by kernel_rfl) (fun _ _ _ h => h) (Or.inl ⟨by rfl, ?_⟩) hS ?_
              · (intro w' hSw; go_simp)
              go_frame
              refine wpAnyL_take (i := 2) (v := .pointer (some ⟨c.d, 0, none⟩)) rfl (by kernel_rfl) (by kernel_rfl) (by kernel_rfl) (by kernel_rfl) (by kernel_rfl) (fun _ _ _ h => h) (Or.inl ⟨by rfl, ?_⟩) hS ?_
              · (intro w' hSw; go_simp)
              go_frame
              refine wpAnyL_take (i := 3) (v := .pointer (some ⟨c.d, 2, none⟩)) rfl (by kernel_rfl) (by kernel_rfl) (by kernel_rfl) (by kernel_rfl) (by kernel_rfl) (fun _ _ _ h => h) (Or.inl ⟨by rfl, ?_⟩) hS ?_
              · (intro w' hSw; go_simp)
              go_frame
              refine wpAnyL_take (i := 4) (v := .slice (some ⟨b1, o1, none⟩) M sc) rfl (by kernel_rfl) (by kernel_rfl) (by kernel_rfl) (by kernel_rfl) (by kernel_rfl) (fun _ _ _ h => h) (Or.inl ⟨by rfl, ?_⟩) hS ?_
              · (intro w' hSw; go_simp)
              go_frame
              refine wpAnyL_take (i := 5) (v := .pointer (some ⟨ab, 1, none⟩)) rfl (by kernel_rfl) (by kernel_rfl) (by kernel_rfl) (by kernel_rfl) (by kernel_rfl) (fun _ _ _ h => h) (Or.inl ⟨by rfl, ?_⟩) hS ?_
              · (intro w' hSw; go_simp)
              go_frame
              refine wpAnyL_take (i := 6) (v := .string ⟨nm.toArray⟩) rfl (by kernel_rfl) (by kernel_rfl) (by kernel_rfl) (by kernel_rfl) (by kernel_rfl) (fun _ _ _ h => h) (Or.inl ⟨by rfl, ?_⟩) hS ?_
              · (intro w' hSw; go_simp)
              go_frame
              refine wpAnyL_take (i := 8) (v := .pointer (some ⟨ab, 2, none⟩)) rfl (by kernel_rfl) (by kernel_rfl) (by kernel_rfl) (by kernel_rfl) (by kernel_rfl) (fun _ _ _ h => h) (Or.inl ⟨by rfl, ?_⟩) hS ?_
              · (intro w' hSw; go_simp)
              go_frame
              refine wpAnyL_take (i := 9) (v := .string ⟨tt.toArray⟩) rfl (by kernel_rfl) (by kernel_rfl) (by kernel_rfl) (by kernel_rfl) (by kernel_rfl) (fun _ _ _ h => h) (Or.inl ⟨by rfl, ?_⟩) hS ?_
              · (intro w' hSw; go_simp)
              go_frame
              refine wpAnyL_take (i := 10) (v := .int .i64 (F : Int)) rfl (by kernel_rfl) (by kernel_rfl) (by kernel_rfl) (by kernel_rfl) (by kernel_rfl) (fun _ _ _ h => h) (Or.inl ⟨by rfl, ?_⟩) hS ?_
              · (intro w' hSw; go_simp)
              go_frame
              refine wpAnyL_one (i := 7) (by kernel_rfl) rfl rfl ?_
              go_simp
              refine hdrop.out.mono ?_
              rintro e w6 ⟨v6, rfl, ho6, hk6⟩
              have hk6' : Kept wq w6 := (Only.refl (fun _ => False) wq).drew.trans hk6 (fun _ _ f => f)
              have N6 := N5.out.stay hk6'
              have c2 : w6.cell? ⟨c.d, 2, none⟩ = some (.slice (some ⟨b1, o1, none⟩) M sc) := N6.at5.cells.cell 2 rfl
              have ha6 := hk6'.blk Haq.out (fun f => f)
              have z1 := ha6.cell 1 rfl
              have z2 := ha6.cell 2 rfl
              have hs6 := ho6.src
              obtain ⟨a6, cp6, rfl⟩ := ownN_slice ho6
              have HK6 := Hid.mk hk6'
              have hput6 := Hid.mk (hput.out w6 _ hs6)
              clear N6 ha6 ho6 hk6 hk6' hs6
              refine ⟨⟨c2, z1, z2⟩, ?_⟩
              refine wpAnyL_one (i := 11) (by kernel_rfl) rfl rfl ?_
              go_simp
              refine hput6.out.mono ?_
              rintro e w7 ⟨v7, rfl, ho7, hk7⟩
              have hk7' : Kept wq w7 := HK6.out.trans hk7 (fun _ _ f => f)
              obtain ⟨hc7, N7⟩ := Cr.sure N5.out hk7' (ownN_base ho7 HK6.out.size)
              have d2 : w7.cell? ⟨c.d, 2, none⟩ = some (.slice (some ⟨b1, o1, none⟩) M sc) := hc7.cell 2 rfl
              have f2 : w7.frozen? ⟨c.d, 2, none⟩ = false := hc7.frozen 2
              have ha7 := hk7'.blk Haq.out (fun f => f)
              have u1 := ha7.cell 1 rfl
              have u2 := ha7.cell 2 rfl
              obtain ⟨a7, cp7, rfl⟩ := ownN_slice ho7
              have HN6 := Hid.mk (HO.out _ _ N7)
              clear hc7 N7 ha7 ho7 hk7 hk7'
              refine ⟨⟨d2, u1, u2⟩, ?_⟩
              refine wpAnyL_one (i := 12) (by kernel_rfl) rfl rfl ?_
              go_simp
              refine wpAnyL_one (i := 13) (by kernel_rfl) rfl rfl ?_
              go_simp
              refine wpAnyL_last (by kernel_rfl) (by kernel_rfl) rfl rfl ?_
              go_simp
              refine NoPanic.normal ?_
              clear hS
              go_wp2_with fail
              go_roundw
              case rel => exact HN6.out
              case measure => simp [intOf]; omega
          · subst e
            have hdrop := Hid.mk (rdrop_any (w := wq.drew) (hes.stay (Only.refl _ wq).drew) (by have := hMl.out; have := HM.out; omega) nm)
            generalize fidx cur nm = fi
            clear hes hcd
            go_wp2_with fail
            refine wp_region_noPanic ?_
            refine wp_region_last (L := 10) (S := fun w' => w'.cell? ⟨c.d, 2, none⟩ = some (.slice sa M sc) ∧ w'.cell? ⟨ab, 1, none⟩ = some (.string ⟨nm.toArray⟩)) (by kernel_rfl) ?_
            have hS : (fun w' : World => w'.cell? ⟨c.d, 2, none⟩ = some (.slice sa M sc) ∧ w'.cell? ⟨ab, 1, none⟩ = some (.string ⟨nm.toArray⟩)) wq.drew := ⟨x2, y1⟩
            refine wpAnyL_take (i := 0) (v := .pointer (some ⟨c.d, 0, none⟩)) rfl (by kernel_rfl) (by kernel_rfl) (by kernel_rfl) (by kernel_rfl) (by kernel_rfl) (fun _ _ _ h => h) (Or.inl ⟨by rfl, ?_⟩) hS ?_
            · (intro w' hSw; go_simp)
            go_frame
            refine wpAnyL_take (i := 1) (v := .pointer (some ⟨c.d, 0, none⟩)) rfl (by kernel_rfl) (by kernel_rfl) (by kernel_rfl) (by kernel_rfl) (by kernel_rfl) (fun _ _ _ h => h) (Or.inl ⟨by rfl, ?_⟩) hS ?_
            · (intro w' hSw; go_simp)
            go_frame
            refine wpAnyL_take (i := 2) (v := .pointer (some ⟨c.d, 0, none⟩)) rfl (by kernel_rfl) (by kernel_rfl) (by kernel_rfl) (by kernel_rfl) (by kernel_rfl) (fun _ _ _ h => h) (Or.inl ⟨by rfl, ?_⟩) hS ?_
            · (intro w' hSw; go_simp)
            go_frame
            refine wpAnyL_take (i := 3) (v := .pointer (some ⟨c.d, 2, none⟩)) rfl (by kernel_rfl) (by kernel_rfl) (by kernel_rfl) (by kernel_rfl) (by kernel_rfl) (fun _ _ _ h => h) (Or.inl ⟨by rfl, ?_⟩) hS ?_
            · (intro w' hSw; go_simp)
            go_frame
            refine wpAnyL_take (i := 4) (v := .slice sa M sc) rfl (by kernel_rfl) (by kernel_rfl) (by kernel_rfl) (by kernel_rfl) (by kernel_rfl) (fun _ _ _ h => h) (Or.inl ⟨by rfl, ?_⟩) hS ?_
            · (intro w' hSw; go_simp)
            go_frame
            refine wpAnyL_take (i := 5) (v := .pointer (some ⟨ab, 1, none⟩)) rfl (by kernel_rfl) (by kernel_rfl) (by kernel_rfl) (by kernel_rfl) (by kernel_rfl) (fun _ _ _ h => h) (Or.inl ⟨by rfl, ?_⟩) hS ?_
            · (intro w' hSw; go_simp)
            go_frame
            refine wpAnyL_take (i := 6) (v := .string ⟨nm.toArray⟩) rfl (by kernel_rfl) (by kernel_rfl) (by kernel_rfl) (by kernel_rfl) (by kernel_rfl) (fun _ _ _ h => h) (Or.inl ⟨by rfl, ?_⟩) hS ?_
            · (intro w' hSw; go_simp)
            go_frame
            refine wpAnyL_one (i := 7) (by kernel_rfl) rfl rfl ?_
            go_simp
            refine hdrop.out.mono ?_
            rintro e w6 ⟨v6, rfl, ho6, hk6⟩
            have hk6' : Kept wq w6 := (Only.refl (fun _ => False) wq).drew.trans hk6 (fun _ _ f => f)
            obtain ⟨hc6, N6⟩ := Cr.sure N5.out hk6' ho6
            have c2 : w6.cell? ⟨c.d, 2, none⟩ = some (.slice sa M sc) := hc6.cell 2 rfl
            have f2 : w6.frozen? ⟨c.d, 2, none⟩ = false := hc6.frozen 2
            have ha6 := hk6'.blk Haq.out (fun f => f)
            have z1 := ha6.cell 1 rfl
            have z2 := ha6.cell 2 rfl
            have z3 := ha6.cell 3 rfl
            obtain ⟨a6, cp6, rfl⟩ := ownN_slice ho6
            have HN6 := Hid.mk (HO.out _ _ N6)
            clear hc6 N6 ha6 ho6 hk6 hk6'
            refine ⟨⟨c2, z1⟩, ?_⟩
            refine wpAnyL_one (i := 8) (by kernel_rfl) rfl rfl ?_
            go_simp
            refine wpAnyL_one (i := 9) (by kernel_rfl) rfl rfl ?_
            go_simp
            refine wpAnyL_last (by kernel_rfl) (by kernel_rfl) rfl rfl ?_
            go_simp
            refine NoPanic.normal ?_
            clear hS
            go_wp2_with fail
            go_roundw
            case rel => exact HN6.out
            case measure => simp [intOf]; omega
      · have hX0 : X = 0 := by rw [← hX]; exact past_src (by rw [HKL.out]; exact hjk)
        subst hX0
        have HE := Hid.mk (Hev.out (by decide))
        clear hX
        go_wp2_with fail
        go_roundw
        case rel => exact HE.out
        case measure => simp [intOf]; omega
    · have hjA : j = A := by omega
      subst hjA
      clear hcd
      go_wp2_with fail
      exact HK.out _ _ _ _ _ _ _ _ _ _ _ _ _ _ _ _ _ _ _ _ _ _ _ _ _ _ _ _ _ _ _ _ _ _ _ _ _ _ _ _ _ _ _ _ _ _ _ _ _ _ _ _ _ _ _ _ _ _ _ _ _ _ _ _ _ _ _ _ _ _ _ _ _ _ _ _ _ _ _ _ _ _ _ _ _ _ _ _ _ _ _ _ _ _ _ _ _ N.out HCL.out HKP.out
end
end Go.Proofs.Ytfmdnaagdhpcpaa
