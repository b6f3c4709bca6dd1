/-
  Copies of samples and of labels; Samples and Newest.
-/
import Derived.Test.YtnbfbnhiikliaaaGreatHrange
import Derived.Lib.Walk
import Derived.Lib.SliceRun
namespace Go.Proofs.YtnbfbnhiikliaaaGreat.Hd
open Go.RowKit Go.Proofs.Lys Go.Maps Go.Proofs.YtnbfbnhiikliaaaGreat.N
set_option linter.unusedVariables false
set_option linter.unusedSimpArgs false

theorem sclone_any (w : World) (v : Value) (l : Smps) (hs : SmpSrc w v l) (hl : l.length ≤ 100000) :
    Calls Tryz.prog 65 #[v] w fun e w' => ∃ v', e = .returned v' ∧ SmpAt w' w.heap.size v' l ∧ Kept w w' := by
  have he : ∀ (x : Option Addr) (n k : Nat) (w : World), (Go.binOp .eql 54 (.slice x n k) (.slice none 0 0)).run Tryz.prog w = .ok (.bool x.isNone) w := fun x n k w => Lib.run_eql_slice_nil w _ _ x n k 0 0 Tryz.underlying54
  obtain ⟨a, c, rfl⟩ := hs.len
  cases a with
  | none =>
    have hl0 : l = [] := by
      rcases hs with ⟨a, c, e, h⟩ | ⟨h0, b, o, c, e, _⟩
      · exact h
      · cases e
    subst hl0
    clear hs
    go_enter Tryz.func65, Tryz.ntmps65
    go_wp2
    go_ret
    exact ⟨_, rfl, World.ownsRow_nil _ _ _ _, Only.refl _ _⟩
  | some a =>
    have hb : ∀ w : World, (Instr.buildSlice 54 0 #[]).run Tryz.prog w = .ok (.slice (some ⟨w.heap.size, 0, none⟩) 0 0) (w.alloc (.cells #[] 38)) := fun w => by kernel_rfl
    have h0 : SmpAt (w.alloc (.cells #[] 38)) w.heap.size (.slice (some ⟨w.heap.size, 0, none⟩) 0 0) [] := World.ownsRow_lit w #[] 0 (Nat.le_refl _) (by decide) rfl
    have k0 : Kept w (w.alloc (.cells #[] 38)) := (Only.refl _ w).alloc _
    obtain ⟨v', w', hr, h1, h2, h3⟩ := smp_append h0 (hs.stay k0) (by simp; omega) (by simp)
    rw [List.nil_append] at h1
    have HR := hid hr
    have HF := hid (show SmpAt w' w.heap.size v' l ∧ Kept w w' from ⟨h1, k0.grown h2 (fun j hj => by simp [Value.ownBlock] at hj; intro hlt; omega)⟩)
    clear hs h1 h2 h3 hr h0 k0
    generalize l.length = n at HR ⊢
    go_enter Tryz.func65, Tryz.ntmps65
    go_wp2_with (at_builtin; refine Lys.wpList_append_run rfl _ _ _ rfl rfl rfl HR ?_)
    go_ret
    exact ⟨_, rfl, HF.out⟩
theorem lclone_any (w : World) (v : Value) (l : Labs) (hs : LabSrc w v l) (hl : l.length ≤ 100000) :
    Calls Tryz.prog 61 #[v] w fun e w' => ∃ v', e = .returned v' ∧ LabAt w' w.heap.size v' l ∧ Kept w w' := by
  have he : ∀ (x : Option Addr) (n k : Nat) (w : World), (Go.binOp .eql 36 (.slice x n k) (.slice none 0 0)).run Tryz.prog w = .ok (.bool x.isNone) w := fun x n k w => Lib.run_eql_slice_nil w _ _ x n k 0 0 Tryz.underlying36
  obtain ⟨a, c, rfl⟩ := hs.len
  cases a with
  | none =>
    have hl0 : l = [] := by
      rcases hs with ⟨a, c, e, h⟩ | ⟨h0, b, o, c, e, _⟩
      · exact h
      · cases e
    subst hl0
    clear hs
    go_enter Tryz.func61, Tryz.ntmps61
    go_wp2
    go_ret
    exact ⟨_, rfl, World.ownsRow_nil _ _ _ _, Only.refl _ _⟩
  | some a =>
    have hb : ∀ w : World, (Instr.buildSlice 36 0 #[]).run Tryz.prog w = .ok (.slice (some ⟨w.heap.size, 0, none⟩) 0 0) (w.alloc (.cells #[] 46)) := fun w => by kernel_rfl
    have h0 : LabAt (w.alloc (.cells #[] 46)) w.heap.size (.slice (some ⟨w.heap.size, 0, none⟩) 0 0) [] := World.ownsRow_lit w #[] 0 (Nat.le_refl _) (by decide) rfl
    have k0 : Kept w (w.alloc (.cells #[] 46)) := (Only.refl _ w).alloc _
    obtain ⟨v', w', hr, h1, h2, h3⟩ := lab_append h0 (hs.stay k0) (by simp; omega) (by simp)
    rw [List.nil_append] at h1
    have HR := hid hr
    have HF := hid (show LabAt w' w.heap.size v' l ∧ Kept w w' from ⟨h1, k0.grown h2 (fun j hj => by simp [Value.ownBlock] at hj; intro hlt; omega)⟩)
    clear hs h1 h2 h3 hr h0 k0
    generalize l.length = n at HR ⊢
    go_enter Tryz.func61, Tryz.ntmps61
    go_wp2_with (at_builtin; refine Lys.wpList_append_run rfl _ _ _ rfl rfl rfl HR ?_)
    go_ret
    exact ⟨_, rfl, HF.out⟩
theorem all_any (w : World) (c : SerC) (S : SerOk w c) (hl : c.smps.length ≤ 100000) :
    Calls Tryz.prog 47 #[.pointer (some ⟨c.b, 0, none⟩)] w fun e w' => ∃ v', e = .returned v' ∧ SmpAt w' w.heap.size v' c.smps ∧ Kept w w' := by
  have H := hid (sclone_any w c.sv c.smps (SmpAt.src S.smp) hl)
  have d1 := S.blk.cell 1 rfl
  obtain ⟨a3, c3, hsv⟩ := ownN_slice S.smp
  rw [hsv] at d1 H
  clear S hsv
  generalize c.b = cb at *
  generalize c.smps.length = n at d1 H
  go_enter Tryz.func47, Tryz.ntmps47
  go_wp2_with fail
  refine H.out.mono ?_
  rintro e w1 ⟨v', rfl, h1⟩
  have H1 := hid h1
  clear h1 H
  go_wp2
  go_ret
  exact ⟨_, rfl, H1.out⟩

/-- What the state tells of labels that are handed in. -/
def lookA (M : Mod) (l : Labs) : Option Smps := (makeL l).bind (lookM M)
theorem look_text {w : World} {h : HeadC} {O : Nat → Prop} {M : Mod} (hA : HeadAt w h O) (hI : Is h M) (l : Labs) :
    (∃ c ∈ h.cs, lookA M l = some c.smps ∧ kvGet h.kv (txtB l).data.toList = some (c.b : Int)) ∨ (lookA M l = none ∧ kvGet h.kv (txtB l).data.toList = none) := by
  unfold txtB lookA
  cases hm : makeL l with
  | none =>
    refine .inr ⟨rfl, ?_⟩
    rcases hA.find [] with ⟨c, hc, ht, _⟩ | ⟨_, hg⟩
    · exact absurd ht (text_pos _)
    · exact hg
  | some m =>
    simp only [mkB_data, Option.bind_some]
    rcases hA.find (textL m) with ⟨c, hc, ht, hg⟩ | ⟨hn, hg⟩
    · refine .inl ⟨c, hc, ?_, hg⟩
      rw [← text_inj (hA.made c hc) (makeL_made hm) ht]
      exact Is.look (w := w) (O := O) hI hc
    · exact .inr ⟨hI.lookNone hn, hg⟩
theorem txt_size (l : Labs) : (txtB l).size ≤ 100000 := by
  unfold txtB
  cases hm : makeL l with
  | none => decide
  | some m =>
    have := text_len (makeL_made hm)
    rw [mkB_size]
    omega
theorem cs_len {h : HeadC} {M : Mod} (hI : Is h M) {c : SerC} (hc : c ∈ h.cs) : c.smps.length ≤ countM M := countM_mem (x := serC c) (hI.perm.mem_iff.1 (List.mem_map.2 ⟨c, hc, rfl⟩))
theorem cs_pos {h : HeadC} {M : Mod} (hI : Is h M) {c : SerC} (hc : c ∈ h.cs) : 0 < c.smps.length := hI.ok.some (serC c) (hI.perm.mem_iff.1 (List.mem_map.2 ⟨c, hc, rfl⟩))

/-- What Newest answers. -/
def newA : Option Smps → Value
  | some s => .tuple #[.int .i64 (lastT s), .bool true]
  | none => .tuple #[.int .i64 0, .bool false]
theorem newest_any {w : World} {h : HeadC} {O : Nat → Prop} {M : Mod} (hA : HeadAt w h O) (hI : Is h M) (hc : countM M ≤ 100000) (v : Value) (l : Labs) (hs : LabSrc w v l) (hl : l.length ≤ 100000) (hB : Small l) :
    Calls Tryz.prog 25 #[.pointer (some ⟨h.hb, 0, none⟩), v] w fun e w' => e = .returned (newA (lookA M l)) ∧ Kept w w' := by
  have HT := hid (text_any w v l hs hl hB)
  obtain ⟨a1, c1, rfl⟩ := hs.len
  have HN : Hid (∀ W, Kept w W → Calls Tryz.prog 48 #[.pointer (some ⟨h.hb, 0, none⟩), .string (txtB l)] W fun e w' => e = .returned (newA (lookA M l)) ∧ Kept W w') := fun W kW => by
    rcases look_text hA hI l with ⟨c, hc', he, hg⟩ | ⟨he, hg⟩
    · rw [he]
      exact newest_yes (hA.stay kW) (txtB l) (txt_size l) hc' (cs_pos hI hc') (by have := cs_len hI hc'; omega) hg
    · rw [he]
      refine (newest_no (hA.stay kW) (txtB l) (txt_size l) hg).mono ?_
      rintro e w' ⟨rfl, rfl⟩
      exact ⟨rfl, Only.refl _ _⟩
  obtain ⟨t, b, hnew⟩ : ∃ t b, newA (lookA M l) = .tuple #[.int .i64 t, .bool b] := by
    cases lookA M l with
    | none => exact ⟨_, _, rfl⟩
    | some s => exact ⟨_, _, rfl⟩
  rw [hnew] at HN ⊢
  clear hs hA hI hnew
  generalize h.hb = hb at *
  generalize l.length = n at *
  generalize txtB l = tx at *
  go_enter Tryz.func25, Tryz.ntmps25
  go_wp2_with fail
  refine HT.out.mono ?_
  rintro e w1 ⟨rfl, k1⟩
  have HK := hid k1
  have HN1 := hid (HN.out w1 k1)
  clear k1 HT HN
  go_wp2_with fail
  refine HN1.out.mono ?_
  rintro e w2 ⟨rfl, k2⟩
  have HK2 := hid (HK.out.trans k2 (fun _ _ f => f))
  clear k2 HN1
  go_wp2
  go_ret2
  exact ⟨rfl, HK2.out⟩
set_option maxHeartbeats 1000000 in
theorem samples_any {w : World} {h : HeadC} {O : Nat → Prop} {M : Mod} (hA : HeadAt w h O) (hI : Is h M) (hc : countM M ≤ 100000) (v : Value) (l : Labs) (hs : LabSrc w v l) (hl : l.length ≤ 100000) (hB : Small l) :
    Calls Tryz.prog 28 #[.pointer (some ⟨h.hb, 0, none⟩), v] w fun e w' => ∃ u, e = .returned u ∧ SmpAt w' w.heap.size u ((lookA M l).getD []) ∧ Kept w w' := by
  have HT := hid (fun W (k : Kept w W) => text_any W v l (hs.stay k) hl hB)
  obtain ⟨a1, c1, rfl⟩ := hs.len
  have HA := hid hA
  have HI := hid hI
  have HC := hid hc
  have HLK := hid (look_text hA hI l)
  have m1 := hA.blk.cell 1 rfl
  have HM1 := hid m1
  have htz := txt_size l
  clear hs hA hI hc
  generalize hhb : h.hb = hb at *
  generalize hmv : h.mv = mv at *
  have HMV := hid hmv
  have HHB := hid hhb
  clear hhb hmv
  generalize l.length = n at *
  generalize txtB l = tx at *
  go_enter Tryz.func28, Tryz.ntmps28
  go_wp2_with fail
  refine wp_region_noPanic ?_
  refine wp_region_last (L := 1000) (S := fun w' => w'.cell? ⟨hb, 1, none⟩ = some (.map mv)) (by kernel_rfl) ?_
  have hS : (fun w' : World => w'.cell? ⟨hb, 1, none⟩ = some (.map mv)) w.drew := HM1.out
  refine wpAnyN_take (i := 0) (v := .pointer (some ⟨hb, 0, none⟩)) rfl (by kernel_rfl) (by kernel_rfl) (by kernel_rfl) (by decide) (by kernel_rfl) (fun _ _ _ h => h) (Or.inl ⟨by rfl, ?_⟩) hS ?_
  · (intro w' hSw; go_simp)
  go_frame
  refine wpAnyN_take (i := 1) (v := .pointer (some ⟨hb, 0, none⟩)) rfl (by kernel_rfl) (by kernel_rfl) (by kernel_rfl) (by decide) (by kernel_rfl) (fun _ _ _ h => h) (Or.inl ⟨by rfl, ?_⟩) hS ?_
  · (intro w' hSw; go_simp)
  go_frame
  refine wpAnyN_take (i := 2) (v := .pointer (some ⟨hb, 1, none⟩)) rfl (by kernel_rfl) (by kernel_rfl) (by kernel_rfl) (by decide) (by kernel_rfl) (fun _ _ _ h => h) (Or.inl ⟨by rfl, ?_⟩) hS ?_
  · (intro w' hSw; go_simp)
  go_frame
  refine wpAnyN_take (i := 3) (v := .map mv) rfl (by kernel_rfl) (by kernel_rfl) (by kernel_rfl) (by decide) (by kernel_rfl) (fun _ _ _ h => h) (Or.inl ⟨by rfl, ?_⟩) hS ?_
  · (intro w' hSw; go_simp)
  go_frame
  refine wpAnyN_take (i := 4) (v := .slice a1 n c1) rfl (by kernel_rfl) (by kernel_rfl) (by kernel_rfl) (by decide) (by kernel_rfl) (fun _ _ _ h => h) (Or.inl ⟨by rfl, ?_⟩) hS ?_
  · (intro w' hSw; go_simp)
  go_frame
  refine wpAnyL_one (i := 5) (by kernel_rfl) rfl rfl ?_
  go_simp
  refine (HT.out _ (Only.refl _ w).drew).mono ?_
  rintro e w1 ⟨rfl, k1⟩
  have k1' : Kept w w1 := ((Only.refl _ w).drew).trans k1 (fun _ _ f => f)
  have hc1 : w1.cell? ⟨hb, 1, none⟩ = some (.map mv) := only_cell k1' (fun f => f) HM1.out
  refine ⟨hc1, ?_⟩
  have HC1 := hid hc1
  clear hc1 m1
  (try go_frame)
  have hA1 := HA.out.stay k1'
  rcases HLK.out with ⟨c, hcm, he, hg⟩ | ⟨he, hg⟩
  · have hlk : (Instr.lookup 63 (.map mv) (.string tx) false).run Tryz.prog w1 = .ok (.pointer (some ⟨c.b, 0, none⟩)) w1 := by
      rw [← HMV.out]
      cases e : h.mv with
      | none => rw [hA1.nil e] at hg; cases hg
      | some mb => exact look_yes (hA1.map mb e) (by unfold maxLen; omega) hg
    have HAL := hid (all_any w1 c (hA1.each c hcm) (by have := cs_len HI.out hcm; have := HC.out; omega))
    have K1 := hid k1'
    have hz1 := k1'.size
    have HE := hid he
    clear k1 k1' hA1 HLK HT hg he
    generalize c.b = cb at *
    refine wpAnyL_one (i := 6) (by kernel_rfl) rfl rfl ?_
    go_simp
    refine ⟨HC1.out, ?_⟩
    (try go_frame)
    refine wpAnyL_one (i := 7) (by kernel_rfl) rfl rfl ?_
    go_simp
    refine ⟨HC1.out, ?_⟩
    (try go_frame)
    refine wpAnyN_done (by kernel_rfl) ?_
    refine NoPanic.normal ?_
    clear hS
    go_wp2_with fail
    refine HAL.out.mono ?_
    rintro e w2 ⟨v', rfl, h1, k2⟩
    have HF := hid (show SmpAt w2 w.heap.size v' c.smps ∧ Kept w w2 from ⟨ownN_base h1 hz1, K1.out.trans k2 (fun _ _ f => f)⟩)
    clear h1 k2 HAL
    go_wp2
    go_ret
    exact ⟨_, rfl, by rw [HE.out]; exact HF.out⟩
  · have hlk : (Instr.lookup 63 (.map mv) (.string tx) false).run Tryz.prog w1 = .ok (.pointer none) w1 := by
      rw [← HMV.out]
      cases e : h.mv with
      | none => exact look_nil w1 tx
      | some mb => exact look_no (hA1.map mb e) (by unfold maxLen; omega) hg
    have K1 := hid k1'
    have HE := hid he
    clear k1 k1' hA1 HLK HT hg he
    refine wpAnyL_one (i := 6) (by kernel_rfl) rfl rfl ?_
    go_simp
    refine ⟨HC1.out, ?_⟩
    (try go_frame)
    refine wpAnyL_one (i := 7) (by kernel_rfl) rfl rfl ?_
    go_simp
    refine ⟨HC1.out, ?_⟩
    (try go_frame)
    refine wpAnyN_done (by kernel_rfl) ?_
    refine NoPanic.normal ?_
    clear hS
    go_wp2
    go_ret
    exact ⟨_, rfl, by rw [HE.out]; exact World.ownsRow_nil _ _ _ _, K1.out⟩
end Go.Proofs.YtnbfbnhiikliaaaGreat.Hd
