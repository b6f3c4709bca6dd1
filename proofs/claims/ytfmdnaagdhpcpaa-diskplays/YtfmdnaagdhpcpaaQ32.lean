/-
  Ecrash.
-/
import Derived.Test.YtfmdnaagdhpcpaaQ31
import Derived.Deep.CutRange

/-
  The document's own disk: Crash.
-/
namespace Go.Proofs.Ytfmdnaagdhpcpaa
open Go.RowKit Go.Proofs.Lys Go.Maps Go.Shelf
set_option linter.unusedVariables false

section
variable {w : World} {c : RConc} {O : Nat → Prop} {m : DModel}

set_option maxRecDepth 100000 in
set_option maxHeartbeats 12800000 in
theorem rcrash_any (h : RAt w c O m) (ka : Option Addr) (kc : Nat) (keep : List Int) (hsrc : SrcOf w (.slice ka keep.length kc) (keep.map (Value.int .i64))) (hap : ∀ a, ka = some a → 0 < keep.length → ¬ O a.block) (hkl : keep.length ≤ 1000000) (hkind : ∀ a ∈ m.acts, a.kind ≤ 2) (hsz : m.sure.length + m.acts.length ≤ 10000) (hfl : m.files.length ≤ 100000)
    (hF : ∀ p ∈ (m.crash keep).dir, p.2 < m.files.length) (hnd : ((m.crash keep).dir.map (·.2)).Nodup) :
    Calls Try.prog 18 #[.pointer (some ⟨c.d, 0, none⟩), .slice ka keep.length kc] w fun e w' => e = .returned (.tuple #[]) ∧ Only O w w' ∧ ∃ c' : RConc, c'.d = c.d ∧ RAt w' c' (Grow O w w') (m.crash keep) := by
  obtain ⟨KL, hKL⟩ : ∃ KL, keep.length = KL := ⟨_, rfl⟩
  obtain ⟨j, hA⟩ : ∃ j, c.ac.length = j := ⟨_, rfl⟩
  obtain ⟨tot, kl, htot⟩ : ∃ tot kl, DModel.keepActs m.acts keep m.sure = (tot, kl) := ⟨_, _, rfl⟩
  obtain ⟨aa, acap, hav⟩ := ownN_slice h.acts
  have hAm : m.acts.length = j := by rw [← h.acm, List.length_map, hA]
  rw [hA] at hav
  have HKL := Hid.mk hKL
  have HC := Hid.mk (Cr.start h)
  have HS := Hid.mk hsrc
  have HAP := Hid.mk hap
  have HKI := Hid.mk hkind
  have HSZ := Hid.mk hsz
  have HFL := Hid.mk hfl
  have HF := Hid.mk hF
  have HND := Hid.mk hnd
  have HT := Hid.mk htot
  have HA := Hid.mk hA
  have HAM := Hid.mk hAm
  have HAV := Hid.mk hav
  have hAl : j ≤ 10000 := by omega
  rw [hKL]
  rw [hKL] at HS hkl
  clear h hsrc hap hkind hsz hfl hF hnd htot hA hKL hAm hav
  go_enter Try.func18, Try.ntmps18
  go_wp2_with fail
  refine wp_as (c' := subC [1, 0, 1, 0] (Try.f18.body.getD .skip)) (by kernel_rfl) (loop1_any HKL HC HS HAP hkl HKI HSZ HT HA HAM HAV hAl (fun u6 u7 u8 u9 u20 u21 u22 u23 u24 u25 u26 u27 u28 u29 u30 u31 u32 u33 u34 u35 u36 u37 u38 u39 u40 u41 u42 u43 u44 u45 u46 u47 u48 u49 u50 u51 u52 u53 u54 u55 u56 u57 u58 u59 u60 u61 u62 u63 u64 u65 u66 u67 u68 u69 u70 u71 u72 u73 u74 u75 u76 u77 u78 u79 u80 u81 u82 u83 u84 u85 u86 u87 u88 u89 u90 u91 u92 u93 u94 u95 u96 u97 u98 u99 u100 u101 u102 u103 u104 u105 u106 u107 u108 u109 wr sv cur hcr hcl hkp => ?_))
  rename_i hgo
  refine hgo _ _ ?_
  clear hgo
  have hcd : Blk wr c.d (RCells { c with sv := sv } { m with sure := cur }) 63 := hcr.at5.cells
  have hl1 := hcd.lt
  have x3 : wr.cell? ⟨c.d, 3, none⟩ = some (.slice aa j acap) := by
    have h1 : wr.cell? ⟨c.d, 3, none⟩ = some c.av := hcd.cell 3 rfl
    rw [HAV.out] at h1
    exact h1
  have N := Hid.mk hcr
  have HCL := Hid.mk hcl
  have HKP := Hid.mk hkp
  clear hcr hcl hkp
  have hfin := HKP.out
  rw [List.drop_of_length_le (by have := HAM.out; omega)] at hfin
  have hcur : cur = tot := congrArg Prod.fst hfin
  have hkl2 : Hid (kl = keep.drop j) := (congrArg Prod.snd hfin).symm
  subst hcur
  have hcm : Hid (m.crash keep = { m with off := false, fuse := none, fault := none, dir := cur, sure := cur, acts := [], files := DModel.settleAll (cur.map (·.2)) m.files (keep.drop j) }) := by
    show m.crash keep = _
    unfold DModel.crash
    rw [HT.out, hkl2.out]
  have HF2 : Hid (∀ p ∈ cur, p.2 < m.files.length) := fun p hp => HF.out p (by rw [hcm.out]; exact hp)
  have HND2 : Hid ((cur.map (·.2)).Nodup) := by have := HND.out; rw [hcm.out] at this; exact this
  obtain ⟨M, hM⟩ : ∃ M, cur.length = M := ⟨_, rfl⟩
  have hMl : Hid (M ≤ 10000) := by have := HCL.out; have := HSZ.out; have := HAM.out; show _ ≤ _; omega
  have HM := Hid.mk hM
  obtain ⟨sa, sc, hsv⟩ := ownN_slice N.out.at5.sure
  have hsv2 : sv = .slice sa M sc := by rw [← hM]; exact hsv
  subst hsv2
  have k3 : Only (· = c.d) wr (wr.setCell ⟨c.d, 3, none⟩ (.slice none 0 0)) := (Only.refl (fun x => x = c.d) wr).setCell (fun _ => rfl) _
  have hes : EntSrc (wr.setCell ⟨c.d, 3, none⟩ (.slice none 0 0)) (.slice sa M sc) cur := by
    have h1 := ownN_only N.out.at5.sure k3 (fun b hb e => (ownN_typed N.out.at5.sure hb).ne hcd.typed (by decide) e)
    exact EntAt.src h1
  obtain ⟨ca, ccap, w4, Hr, ho4, hk4⟩ := ent_copy hes (by have := hMl.out; omega)
  rw [hM] at Hr ho4
  obtain ⟨hc4, N4⟩ := Cr.turn N.out hk4 ho4 HF2.out
  have q2 : wr.cell? ⟨c.d, 2, none⟩ = some (.slice sa M sc) := hcd.cell 2 rfl
  have f3 : wr.frozen? ⟨c.d, 3, none⟩ = false := hcd.frozen 3
  have r1 : ∃ u, w4.cell? ⟨c.d, 1, none⟩ = some u := ⟨_, hc4.cell 1 rfl⟩
  obtain ⟨u1, r1⟩ := r1
  have g1 : w4.frozen? ⟨c.d, 1, none⟩ = false := hc4.frozen 1
  obtain ⟨NF, hNF⟩ : ∃ NF, c.fs.length = NF := ⟨_, rfl⟩
  have hNFm : Hid (m.files.length = NF) := by show _ = _; rw [← hNF]; exact N.out.at5.nf.symm
  have hNFl : NF ≤ 100000 := by have := HFL.out; have := hNFm.out; omega
  obtain ⟨fa0, fcap, hfv⟩ := ownN_slice N.out.at5.files
  have hfv2 : c.fv = .slice fa0 NF fcap := by rw [← hNF]; exact hfv
  have r0 : w4.cell? ⟨c.d, 0, none⟩ = some (.slice fa0 NF fcap) := by
    have h1 : w4.cell? ⟨c.d, 0, none⟩ = some c.fv := hc4.cell 0 rfl
    rw [hfv2] at h1
    exact h1
  obtain ⟨i0, hi0, hz0, hz1, hz2⟩ := info_parts Try.infoT0
  have hmk : ∀ w, (Instr.makeSlice 83 (.int .i64 (NF : Int)) (.int .i64 (NF : Int))).run Try.prog w = .ok (.slice (some ⟨w.heap.size, 0, none⟩) NF NF) (w.alloc (.cells (madeCells #[Value.bool false] NF) 4)) := fun w => by
    have := run_make (P := Try.prog) w 83 4 i0 (.bool false) Try.underlying83 hi0 hz0 .i64 .i64 (NF : Int) (NF : Int) (by omega) (by omega) (by rw [hz2]; omega) (by omega)
    rw [hz1] at this
    simp only [Int.toNat_natCast, Nat.mul_one] at this
    exact this
  have N5 := Hid.mk N4
  have HFV := Hid.mk hfv2
  have HNF := Hid.mk hNF
  clear hes ho4 hk4 hc4 N4 hfv hfv2 hNF hcd hsv k3 hi0 hz0 hz1 hz2 hM
  go_wp2_with (at_builtin; refine wpList_append_run rfl _ _ _ rfl rfl rfl Hr ?_)
  have hdbw : w.heap.size ≤ w4.heap.size := by
    have h1 := N5.out.only.size
    have h2 : (w4.setCell ⟨c.d, 1, none⟩ (.slice ca M ccap)).heap.size = w4.heap.size := by simp
    omega
  have N6 := Hid.mk (N5.out.stay ((Only.refl (fun _ => False) (w4.setCell ⟨c.d, 1, none⟩ (.slice ca M ccap))).alloc (.cells (madeCells #[Value.bool false] NF) 4)))
  have R6 : Hid (((w4.setCell ⟨c.d, 1, none⟩ (.slice ca M ccap)).alloc (.cells (madeCells #[Value.bool false] NF) 4)).ownsRow w4.heap.size 4 1 (.slice (some ⟨w4.heap.size, 0, none⟩) NF NF) NF ((List.replicate NF false).map tV)) := by
    have h2 : (w4.setCell ⟨c.d, 1, none⟩ (.slice ca M ccap)).heap.size = w4.heap.size := by simp
    have h1 : ((w4.setCell ⟨c.d, 1, none⟩ (.slice ca M ccap)).alloc (.cells (madeCells #[Value.bool false] NF) 4)).ownsRow (w4.setCell ⟨c.d, 1, none⟩ (.slice ca M ccap)).heap.size 4 1 (.slice (some ⟨(w4.setCell ⟨c.d, 1, none⟩ (.slice ca M ccap)).heap.size, 0, none⟩) NF NF) NF (madeCells #[Value.bool false] NF).toList := World.ownsRow_lit _ _ NF (Nat.le_refl _) (by unfold maxLen; omega) (by rw [size_madeCells]; omega)
    rw [made_marks, h2] at h1
    exact h1
  clear Hr q2 f3 r1 g1 r0 hmk N5 N
  generalize (w4.setCell ⟨c.d, 1, none⟩ (.slice ca M ccap)).alloc (.cells (madeCells #[Value.bool false] NF) 4) = w7 at N6 R6 ⊢
  generalize w4.heap.size = db at R6 hdbw ⊢
  obtain ⟨fin, hfin⟩ : ∃ fin, DModel.settleAll (cur.map (·.2)) m.files (keep.drop j) = fin := ⟨_, rfl⟩
  rw [hfin] at hcm
  have HFIN := Hid.mk hfin
  clear hfin
  go_loopw [4, 11] (fun t s wq => ∃ (i a : Nat) (fs : List (Value × DFile)) (fl : List DFile) (dn : List Bool), i ≤ M ∧ t = .int .i64 (a : Int) ∧ s = .int .i64 (i : Int) ∧ a ≤ j + 2 * i ∧ Cr w O wq { c with sv := .slice sa M sc, av := .slice none 0 0, ac := [], dv := .slice ca M ccap, fs := fs } { m with sure := cur, acts := [], dir := cur, files := fl } ∧ fs.length = NF ∧ dn.length = NF ∧ wq.ownsRow db 4 1 (.slice (some ⟨db, 0, none⟩) NF NF) NF (dn.map tV) ∧ (∀ p, dn[p]? = some true → p ∈ (cur.take i).map (·.2)) ∧ DModel.settleAll ((cur.drop i).map (·.2)) fl (keep.drop a) = fin) (fun t s _ => M - (intOf s).toNat)
  case atStart => exact ⟨0, j, c.fs, m.files, List.replicate NF false, by omega, rfl, rfl, by omega, N6.out, HNF.out, by simp, R6.out, fun p hp => by simp [List.getElem?_replicate] at hp, HFIN.out⟩
  case round =>
    rename_i wr0 _ _ _ _
    obtain ⟨i, a, fs, fl, dn, hi, rfl, rfl, hak, hcr, hfs, hdn, hrow, hmark, hset⟩ := hrel
    have hcd : Blk wr c.d (RCells { c with sv := .slice sa M sc, av := .slice none 0 0, ac := [], dv := .slice ca M ccap, fs := fs } { m with sure := cur, acts := [], dir := cur, files := fl }) 63 := hcr.at5.cells
    have x1 : wr.cell? ⟨c.d, 1, none⟩ = some (.slice ca M ccap) := hcd.cell 1 rfl
    have x0 : wr.cell? ⟨c.d, 0, none⟩ = some (.slice fa0 NF fcap) := by
      have h1 : wr.cell? ⟨c.d, 0, none⟩ = some c.fv := hcd.cell 0 rfl
      rw [HFV.out] at h1
      exact h1
    have hl1 := hcd.lt
    have NN := Hid.mk hcr
    have ROW := Hid.mk hrow
    have HFS := Hid.mk hfs
    have HDN := Hid.mk hdn
    have HMK := Hid.mk hmark
    have HSET := Hid.mk hset
    clear hcr hfs hdn hrow hmark hset N6 R6
    have hMl2 : M ≤ 10000 := hMl.out
    by_cases hlt : i < M
    · have hiM : i < cur.length := by have := HM.out; omega
      have hes : EntSrc wr (.slice ca M ccap) cur := NN.out.at5.dir.src
      obtain ⟨b1, o1, hca, e0, e1⟩ := hes.cell HM.out i hlt
      subst hca
      obtain ⟨F, hF2⟩ : ∃ F, cur[i].2 = F := ⟨_, rfl⟩
      rw [hF2] at e1
      have hFm : F < m.files.length := by rw [← hF2]; exact HF2.out _ (List.getElem_mem hiM)
      have hFN : F < NF := by have := hNFm.out; omega
      have hFfs : F < fs.length := by have := HFS.out; omega
      obtain ⟨fg, fcap2, fa, fk, hfv3, z0, zo, z2⟩ := NN.out.at5.bytesAt F (by have h1 : fs.length = fl.length := NN.out.at5.nf; show F < fl.length; omega)
      have hfv4 : c.fv = .slice (some ⟨fg, 0, none⟩) fs.length fcap2 := hfv3
      have hfv5 := HFV.out.symm.trans hfv4
      rw [HFS.out] at hfv5
      cases hfv5
      have hdrop : (cur.drop i).map (·.2) = F :: (cur.drop (i + 1)).map (·.2) := by rw [List.drop_eq_getElem_cons hiM, List.map_cons, hF2]
      have hset := HSET.out
      rw [hdrop] at hset
      have HSS := Hid.mk (settle_step hset)
      clear hset
      obtain ⟨FL, hFL⟩ : ∃ FL : DFile, fl.getD F ⟨[], 0⟩ = FL := ⟨_, rfl⟩
      have hFLat : ({ m with sure := cur, acts := [], dir := cur, files := fl } : DModel).fileAt F = FL := hFL
      rw [hFLat] at z0 zo z2
      rw [hFL] at HSS
      have hfile : fs[F].2 = FL := by
        have h1 := NN.out.at5.fileAt F hFfs
        rw [hFLat] at h1
        exact h1.symm
      have hlens := NN.out.at5.lens _ (List.getElem_mem hFfs)
      rw [hfile] at hlens
      have hno : dn[F]? = some false := by
        have hFd : F < dn.length := by have := HDN.out; omega
        rw [List.getElem?_eq_getElem hFd]
        cases hv : dn[F] with
        | false => rfl
        | true =>
          exfalso
          have h1 := HMK.out F (by rw [List.getElem?_eq_getElem hFd, hv])
          have h2 := HND2.out
          rw [← List.take_append_drop i cur, List.map_append, List.nodup_append] at h2
          exact h2.2.2 F h1 F (by rw [hdrop]; exact List.mem_cons_self) rfl
      have hdbl : db < wr.heap.size := (ownN_lt ROW.out rfl).2
      have dcell : wr.cell? ⟨db, F, none⟩ = some (.bool false) := by
        rw [ROW.out.cellAt F (by omega), List.getElem?_map, hno]
        rfl
      have hmark2 : Hid (∀ p, p ∈ (cur.take i).map (·.2) ∨ p = F → p ∈ (cur.take (i + 1)).map (·.2)) := fun p hp => by
        rw [List.take_succ_eq_append_getElem hiM, List.map_append, List.map_cons, hF2]
        rcases hp with hp | hp
        · exact List.mem_append.2 (.inl hp)
        · exact List.mem_append.2 (.inr (by rw [hp]; exact List.mem_cons_self))
      obtain ⟨FB, su⟩ := FL
      simp only at z0 zo z2 hlens
      obtain ⟨L, hL⟩ : ∃ L, FB.length = L := ⟨_, rfl⟩
      rw [hL] at z0 zo hlens
      have HL := Hid.mk hL
      have HFLd := Hid.mk hFL
      obtain ⟨hL16, hsuL⟩ := hlens
      have hfgl : fg < wr.heap.size := (ownN_lt NN.out.at5.files (by rw [show ({ c with sv := .slice sa M sc, av := .slice none 0 0, ac := [], dv := .slice (some ⟨b1, o1, none⟩) M ccap, fs := fs } : RConc).fv = c.fv from rfl, HFV.out]; rfl)).2
      clear hes hF2 e0 hfv3 hfv4 hdrop hFLat hfile hno hL hFL
      by_cases heq : su = L
      · subst heq
        have HE : Hid (∀ W, Kept wr W → ∃ (i1 a1 : Nat) (fs1 : List (Value × DFile)) (fl1 : List DFile) (dn1 : List Bool), i1 ≤ M ∧ Value.int .i64 (a : Int) = .int .i64 (a1 : Int) ∧ Value.int .i64 ((i : Int) + 1) = .int .i64 (i1 : Int) ∧ a1 ≤ j + 2 * i1 ∧ Cr w O W { c with sv := .slice sa M sc, av := .slice none 0 0, ac := [], dv := .slice (some ⟨b1, o1, none⟩) M ccap, fs := fs1 } { m with sure := cur, acts := [], dir := cur, files := fl1 } ∧ fs1.length = NF ∧ dn1.length = NF ∧ W.ownsRow db 4 1 (.slice (some ⟨db, 0, none⟩) NF NF) NF (dn1.map tV) ∧ (∀ p, dn1[p]? = some true → p ∈ (cur.take i1).map (·.2)) ∧ DModel.settleAll ((cur.drop i1).map (·.2)) fl1 (keep.drop a1) = fin) := fun W hW => by
          have h1 := HSS.out
          rw [settle_same (f := ⟨FB, su⟩) HL.out] at h1
          have h2 : fl.set F ⟨FB, su⟩ = fl := by rw [← HFLd.out]; exact set_getD fl F
          rw [h2] at h1
          exact ⟨i + 1, a, fs, fl, dn, by omega, rfl, by go_num, by omega, NN.out.stay hW, HFS.out, HDN.out, ownN_stay ROW.out hW, fun p hp => hmark2.out p (.inl (HMK.out p hp)), h1⟩
        clear hcd
        go_wp2_with fail
        go_roundw
        case rel => exact HE.out _ ((Only.refl (fun _ => False) wr).alloc _)
        case measure => simp [intOf]; omega
      · have hsl : su < L := by omega
        have fdb := ROW.out.frozenAt F
        obtain ⟨X, hX⟩ : ∃ X, (keep.drop a).headD 0 = X := ⟨_, rfl⟩
        obtain ⟨Y, hY⟩ : ∃ Y, (keep.drop (a + 1)).headD 0 = Y := ⟨_, rfl⟩
        have hsf := settle_turn (f := ⟨FB, su⟩) (l := keep.drop a) (by show FB.length ≠ su; rw [HL.out]; omega)
        simp only at hsf
        rw [hX, HL.out, List.tail_drop, hY, List.tail_drop] at hsf
        obtain ⟨Q, hQ⟩ : ∃ Q, su + DModel.stays X (L - su) = Q := ⟨_, rfl⟩
        rw [hQ] at hsf
        have hQL : Q ≤ L := by
          have : DModel.stays X (L - su) ≤ L - su := by unfold DModel.stays; split <;> omega
          omega
        have hQs : su ≤ Q := by omega
        have HREL : Hid (∀ W v' b', b' = (if DModel.oddB Y then DModel.spoil (FB.take Q) su else FB.take Q) → Cr w O W { c with sv := .slice sa M sc, av := .slice none 0 0, ac := [], dv := .slice (some ⟨b1, o1, none⟩) M ccap, fs := fs.set F (v', ⟨b', b'.length⟩) } { m with sure := cur, acts := [], dir := cur, files := fl.set F ⟨b', b'.length⟩ } → W.ownsRow db 4 1 (.slice (some ⟨db, 0, none⟩) NF NF) NF ((dn.set F true).map tV) → ∃ (i1 a1 : Nat) (fs1 : List (Value × DFile)) (fl1 : List DFile) (dn1 : List Bool), i1 ≤ M ∧ Value.int .i64 ((a : Int) + 2) = .int .i64 (a1 : Int) ∧ Value.int .i64 ((i : Int) + 1) = .int .i64 (i1 : Int) ∧ a1 ≤ j + 2 * i1 ∧ Cr w O W { c with sv := .slice sa M sc, av := .slice none 0 0, ac := [], dv := .slice (some ⟨b1, o1, none⟩) M ccap, fs := fs1 } { m with sure := cur, acts := [], dir := cur, files := fl1 } ∧ fs1.length = NF ∧ dn1.length = NF ∧ W.ownsRow db 4 1 (.slice (some ⟨db, 0, none⟩) NF NF) NF (dn1.map tV) ∧ (∀ p, dn1[p]? = some true → p ∈ (cur.take i1).map (·.2)) ∧ DModel.settleAll ((cur.drop i1).map (·.2)) fl1 (keep.drop a1) = fin) := fun W v' b' hb hW hr => by
          have h1 := HSS.out
          rw [hsf, ← hb] at h1
          refine ⟨i + 1, a + 2, fs.set F (v', ⟨b', b'.length⟩), fl.set F ⟨b', b'.length⟩, dn.set F true, by omega, by go_num, by go_num, by omega, hW, by rw [List.length_set]; exact HFS.out, by rw [List.length_set]; exact HDN.out, hr, fun p hp => ?_, h1⟩
          rw [List.getElem?_set] at hp
          split at hp
          · rename_i e
            exact hmark2.out p (.inr e.symm)
          · exact hmark2.out p (.inl (HMK.out p hp))
        obtain ⟨fx, ra, rcap, w4, hfx, hcut, R, o4, k4, N2, row2, hfb⟩ := cr_cut (F := F) (su := su) NN.out zo ROW.out hdbw hL16 (by omega) Q hQL
        subst hfx
        obtain ⟨hc5, ⟨u0, s0⟩, ⟨u1, s1⟩, g0, g1, N5, row5⟩ := cr_put N2 hFfs (show c.fv = _ by rw [HFV.out, HFS.out]) row2 k4 o4 (by omega)
        have y0 : w4.cell? ⟨c.d, 0, none⟩ = some (.slice (some ⟨fg, 0, none⟩) NF fcap) := by
          have h1 : w4.cell? ⟨c.d, 0, none⟩ = some c.fv := hc5.cell 0 rfl
          rw [HFV.out] at h1
          exact h1
        have hb4 := k4.blk hfb (fun f => f)
        have p0 := hb4.cell 0 rfl
        have p1 := hb4.cell 1 rfl
        have HN2 := Hid.mk N2
        have HR2 := Hid.mk row2
        have HO4 := Hid.mk o4
        have HK4 := Hid.mk k4
        have HN5 := Hid.mk N5
        have HR5 := Hid.mk row5
        have eT : Hid ((L : Int) - (su : Int) = ((L - su : Nat) : Int)) := by show _ = _; omega
        have hremY := rem_two' Y
        have HQ := Hid.mk hQ
        have HX := Hid.mk hX
        have HY := Hid.mk hY
        clear hX hY hsf hQ o4 k4 N2 row2 hfb hc5 N5 row5 hb4 hcd
        have hLi : L ≤ 16777216 := hL16
        go_upto_if 169 with fail
        go_cut [14] from 127 to 246 (fun s wx => s = .int .i64 X ∧ wx = crW wr db F (some ⟨fx, 0, none⟩) L fk su)
        case first =>
          by_cases hk1 : a < KL
          · obtain ⟨kb, ko, hka, kcell⟩ := int_src (l := keep) (by rw [HKL.out]; exact HS.out) a (by rw [HKL.out]; exact hk1)
            subst hka
            have hkbw : kb < w.heap.size := World.block_lt_of_cell? w _ kcell
            have hkbd : kb ≠ db := by omega
            have hkbl : kb < wr.heap.size := by have := NN.out.only.size; omega
            have kc1 : wr.cell? ⟨kb, ko + a, none⟩ = some (.int .i64 X) := by
              rw [World.cell?_of_block (w := w) (w' := wr) (a := ⟨kb, ko + a, none⟩) (NN.out.only.block kb hkbw (HAP.out _ rfl (by rw [HKL.out]; omega))), ← HX.out]
              exact kcell
            clear kcell
            go_wp2_with fail
            go_meet
            case rel => exact ⟨rfl, rfl⟩
          · have hX0 : X = 0 := by rw [← HX.out]; exact past_src (by rw [HKL.out]; omega)
            subst hX0
            have dk1 : decide ((a : Int) < (KL : Int)) = false := by simp; omega
            go_wp2_with fail
            go_meet
            case rel => exact ⟨rfl, rfl⟩
        case rest =>
          obtain ⟨rfl, rfl⟩ := hcut
          go_upto_if 178 with fail
          go_cut [15] from 127 to 246 (fun s wx => s = .int .i64 Y ∧ wx = crW wr db F (some ⟨fx, 0, none⟩) L fk su)
          case first =>
            by_cases hk1 : a + 1 < KL
            · obtain ⟨kb, ko, hka, kcell⟩ := int_src (l := keep) (by rw [HKL.out]; exact HS.out) (a + 1) (by rw [HKL.out]; exact hk1)
              subst hka
              have hkbw : kb < w.heap.size := World.block_lt_of_cell? w _ kcell
              have hkbd : kb ≠ db := by omega
              have hkbl : kb < wr.heap.size := by have := NN.out.only.size; omega
              have kc1 : wr.cell? ⟨kb, ko + (a + 1), none⟩ = some (.int .i64 Y) := by
                rw [World.cell?_of_block (w := w) (w' := wr) (a := ⟨kb, ko + (a + 1), none⟩) (NN.out.only.block kb hkbw (HAP.out _ rfl (by rw [HKL.out]; omega))), ← HY.out]
                exact kcell
              clear kcell
              go_wp2_with fail
              go_meet
              case rel => exact ⟨rfl, rfl⟩
            · have hY0 : Y = 0 := by rw [← HY.out]; exact past_src (by rw [HKL.out]; omega)
              subst hY0
              have dk1 : decide ((a : Int) + 1 < (KL : Int)) = false := by simp; omega
              go_wp2_with fail
              go_meet
              case rel => exact ⟨rfl, rfl⟩
          case rest =>
            obtain ⟨rfl, rfl⟩ := hcut
            obtain ⟨X1, hX1⟩ : ∃ X1 : Int, X1 = if X < 0 then 0 else X := ⟨_, rfl⟩
            have HX1 := Hid.mk hX1
            clear hX1
            go_upto_if 193 with fail
            go_cut [14] from 127 to 246 (fun s wx => s = .int .i64 X1 ∧ wx = crW wr db F (some ⟨fx, 0, none⟩) L fk su)
            case first =>
              by_cases hXn : X < 0
              · have e1 : X1 = 0 := by rw [HX1.out, if_pos hXn]
                subst e1
                go_wp2_with fail
                go_meet
                case rel => exact ⟨rfl, rfl⟩
              · have e1 : X1 = X := by rw [HX1.out, if_neg hXn]
                subst e1
                go_wp2_with fail
                go_meet
                case rel => exact ⟨rfl, rfl⟩
            case rest =>
              obtain ⟨rfl, rfl⟩ := hcut
              obtain ⟨Rr, hRr⟩ : ∃ Rr : Nat, Q = su + Rr := ⟨Q - su, by omega⟩
              have hRL : Rr ≤ L - su := by omega
              have hst : Hid ((Rr : Int) = if (L : Int) - (su : Int) < X1 then (L : Int) - (su : Int) else X1) := by
                have h1 := HQ.out
                rw [hRr] at h1
                have h2 : DModel.stays X (L - su) = Rr := by omega
                have h3 := HX1.out
                show _ = _
                unfold DModel.stays at h2
                by_cases hXn : X < 0
                · rw [if_pos hXn] at h2 h3
                  rw [h3, if_neg (by omega)]
                  omega
                · rw [if_neg hXn] at h2 h3
                  rw [h3]
                  split <;> omega
              have hX10 : (0 : Int) ≤ X1 := by rw [HX1.out]; split <;> omega
              go_upto_if 196 with fail
              go_cut [14] from 127 to 246 (fun s wx => s = .int .i64 (Rr : Int) ∧ wx = crW wr db F (some ⟨fx, 0, none⟩) L fk su)
              case first =>
                have h1 := hst.out
                by_cases hXm : (L : Int) - (su : Int) < X1
                · rw [if_pos hXm] at h1
                  go_wp2_with fail
                  go_meet
                  case rel => exact ⟨by rw [h1], rfl⟩
                · rw [if_neg hXm] at h1
                  have hXm' : ¬ (L : Int) - (su : Int) < X1 := hXm
                  go_wp2_with fail
                  go_meet
                  case rel => exact ⟨by rw [h1], rfl⟩
              case rest =>
                obtain ⟨rfl, rfl⟩ := hcut
                have eQ : (su : Int) + (Rr : Int) = (Q : Int) := by omega
                clear hst HX1 hX10 hRr
                cases hod : DModel.oddB Y with
                | false =>
                  have HF5 := Hid.mk (HREL.out _ _ _ (by rw [hod]; exact (if_neg (by decide)).symm) HN5.out HR5.out)
                  rw [hod] at hremY
                  go_wp2_with (at_builtin; refine wpList_append_run rfl _ _ _ rfl rfl rfl R ?_)
                  go_roundw
                  case rel => exact HF5.out
                  case measure => simp [intOf]; omega
                | true =>
                  rw [hod] at hremY
                  by_cases hr0 : Rr = 0
                  · have HF5 := Hid.mk (HREL.out _ _ _ (by rw [hod, if_pos rfl]; exact (spoil_none _ _ (by rw [List.length_take]; omega)).symm) HN5.out HR5.out)
                    have dr3 : ¬ (0 : Int) < (Rr : Int) := by omega
                    have dr3b : decide ((0 : Int) < (Rr : Int)) = false := by simp; omega
                    have dr3c : ¬ 0 < Rr := by omega
                    replace hr0 := Hid.mk hr0
                    go_wp2_with (at_builtin; refine wpList_append_run rfl _ _ _ rfl rfl rfl R ?_)
                    go_roundw
                    case rel => exact HF5.out
                    case measure => simp [intOf]; omega
                  · have dr4 : (0 : Int) < (Rr : Int) := by omega
                    obtain ⟨LA, eLA⟩ : ∃ LA : Nat, ((Q : Int) - 1) / 512 * 512 = (LA : Int) := ⟨(Q - 1) / 512 * 512, by omega⟩
                    have hLA : Hid (LA = (Q - 1) / 512 * 512) := by show _ = _; omega
                    obtain ⟨rg, rcap2, hrg⟩ := own_some HO4.out (by omega)
                    cases hrg
                    have hTl : Hid ((FB.take Q).length = Q) := by show _ = _; rw [List.length_take, HL.out]; omega
                    go_wp2_with (at_builtin; refine wpList_append_run rfl _ _ _ rfl rfl rfl R ?_)
                    clear R
                    generalize crW wr db F (some ⟨fx, 0, none⟩) _ fk su = W2 at HN2 HR2 HO4 HK4
                    go_loopw [19] (fun s w5 => ∃ k : Nat, su ≤ k ∧ k ≤ Q ∧ s = .int .i64 (k : Int) ∧ w5.ownsRow W2.heap.size 5 1 (.slice (some ⟨rg, 0, none⟩) Q rcap) Q ((turnTo (FB.take Q) (max LA su) k).map bV) ∧ Kept W2 w5) (fun s _ => Q - (intOf s).toNat)
                    case atStart => exact ⟨su, by omega, by omega, rfl, by rw [turn_low _ _ _ (Nat.le_max_right _ _)]; exact HO4.out, HK4.out⟩
                    case round =>
                      obtain ⟨k, hk1b, hk2b, rfl, hrow, hkp⟩ := hrel
                      by_cases hlt3 : k < Q
                      · by_cases hge : k < LA
                        · have HR := Hid.mk hrow
                          have HKp := Hid.mk hkp
                          clear hrow hkp
                          go_wp2_with fail
                          go_roundw
                          case rel => exact ⟨k + 1, by omega, by omega, by go_num, by rw [turn_skip _ _ _ (by omega)]; exact HR.out, HKp.out⟩
                          case measure => simp [intOf]; omega
                        · obtain ⟨x, hx⟩ : ∃ x, (FB.take Q)[k]? = some x := ⟨_, List.getElem?_eq_getElem (by rw [hTl.out]; exact hlt3)⟩
                          have hcx : wr.cell? ⟨rg, k, none⟩ = some (.int .u8 ((x.toNat : Nat) : Int)) := by
                            rw [hrow.cellAt k (by omega), List.getElem?_map, turn_at _ _ _ _ hx]
                            rfl
                          have hfz := hrow.frozenAt k
                          have hxor := xor_byte x
                          have HST : Hid ((wr.setCell ⟨rg, k, none⟩ (.int .u8 (((x ^^^ 165).toNat : Nat) : Int))).ownsRow W2.heap.size 5 1 (.slice (some ⟨rg, 0, none⟩) Q rcap) Q ((turnTo (FB.take Q) (max LA su) (k + 1)).map bV)) := by
                            have h1 := (hrow.stored k (.int .u8 (((x ^^^ 165).toNat : Nat) : Int))).1
                            rw [turn_step _ _ _ (by omega) x hx, List.map_set]
                            exact h1
                          have hlow : W2.heap.size ≤ rg := (ownN_lt hrow rfl).1
                          have HKp : Hid (Kept W2 (wr.setCell ⟨rg, k, none⟩ (.int .u8 (((x ^^^ 165).toNat : Nat) : Int)))) := hkp.setCell (fun h => absurd h (by show ¬ rg < W2.heap.size; omega)) _
                          clear hrow hkp hx
                          generalize (x ^^^ 165).toNat = y at hxor HST HKp
                          generalize x.toNat = x' at hcx hxor
                          go_wp2_with fail
                          go_roundw
                          case rel => exact ⟨k + 1, by omega, by omega, by go_num, HST.out, HKp.out⟩
                          case measure => simp [intOf]; omega
                      · have hkQ : k = Q := by omega
                        subst hkQ
                        have e5 : turnTo (FB.take k) (max LA su) k = DModel.spoil (FB.take k) su := by
                          have h1 := turn_all (FB.take k) su
                          rw [hTl.out, ← hLA.out] at h1
                          exact h1
                        rw [e5] at hrow
                        obtain ⟨hc5, ⟨u0, s0⟩, ⟨u1, s1⟩, g0, g1, N5, row5⟩ := cr_put HN2.out hFfs (show c.fv = _ by rw [HFV.out, HFS.out]) HR2.out hkp hrow (by omega)
                        have y0 : wr.cell? ⟨c.d, 0, none⟩ = some (.slice (some ⟨fg, 0, none⟩) NF fcap) := by
                          have h1 : wr.cell? ⟨c.d, 0, none⟩ = some c.fv := hc5.cell 0 rfl
                          rw [HFV.out] at h1
                          exact h1
                        have HF5 := Hid.mk (HREL.out _ _ _ (by rw [hod]; exact (if_pos rfl).symm) N5 row5)
                        clear hc5 N5 row5 hrow hkp e5
                        go_wp2_with fail
                        go_roundw
                        case rel => exact HF5.out
                        case measure => simp [intOf]; omega
    · have hiM : i = M := by omega
      subst hiM
      have hs := HSET.out
      rw [List.drop_of_length_le (by have := HM.out; omega), List.map_nil] at hs
      have hfl : fl = fin := hs
      subst hfl
      have f5 := hcd.frozen 5
      have f6 := hcd.frozen 6
      have f7 := hcd.frozen 7
      have x5 : wr.cell? ⟨c.d, 5, none⟩ = some (.bool m.off) := hcd.cell 5 rfl
      have x6 : wr.cell? ⟨c.d, 6, none⟩ = some (.int .i64 (laidI m.fuse)) := hcd.cell 6 rfl
      have x7 : wr.cell? ⟨c.d, 7, none⟩ = some (.int .i64 (laidI m.fault)) := hcd.cell 7 rfl
      have hOd : O c.d := by
        rcases HC.out.at5.oD with h | h
        · exact h
        · omega
      have k5 : Only (· = c.d) wr (((wr.setCell ⟨c.d, 5, none⟩ (.bool false)).setCell ⟨c.d, 6, none⟩ (.int .i64 (-1))).setCell ⟨c.d, 7, none⟩ (.int .i64 (-1))) := (((Only.refl (fun x => x = c.d) wr).setCell (fun _ => rfl) _).setCell (fun _ => rfl) _).setCell (fun _ => rfl) _
      have hcell := ((hcd.set 5 (.bool false)).set 6 (.int .i64 (-1))).set 7 (.int .i64 (-1))
      have hA : RAt (((wr.setCell ⟨c.d, 5, none⟩ (.bool false)).setCell ⟨c.d, 6, none⟩ (.int .i64 (-1))).setCell ⟨c.d, 7, none⟩ (.int .i64 (-1))) { c with sv := .slice sa i sc, av := .slice none 0 0, ac := [], dv := .slice ca i ccap, fs := fs } (Grow O w wr) (m.crash keep) := by
        rw [hcm.out]
        exact NN.out.at5.scal k5 hcell rfl rfl rfl rfl NN.out.at5.quota
      have hA2 : RAt (((wr.setCell ⟨c.d, 5, none⟩ (.bool false)).setCell ⟨c.d, 6, none⟩ (.int .i64 (-1))).setCell ⟨c.d, 7, none⟩ (.int .i64 (-1))) { c with sv := .slice sa i sc, av := .slice none 0 0, ac := [], dv := .slice ca i ccap, fs := fs } (Grow O w (((wr.setCell ⟨c.d, 5, none⟩ (.bool false)).setCell ⟨c.d, 6, none⟩ (.int .i64 (-1))).setCell ⟨c.d, 7, none⟩ (.int .i64 (-1)))) (m.crash keep) :=
        RAt.mono hA (fun q hq => Or.elim hq (fun h => Or.inl h) (fun h => Or.inr ⟨h.1, Nat.lt_of_lt_of_le h.2 k5.size⟩)) (fun q hq => Or.elim hq (fun h => by have := NN.out.top q h; have := NN.out.only.size; have := k5.size; omega) (fun h => h.2))
      have hPost : Hid (Only O w (((wr.setCell ⟨c.d, 5, none⟩ (.bool false)).setCell ⟨c.d, 6, none⟩ (.int .i64 (-1))).setCell ⟨c.d, 7, none⟩ (.int .i64 (-1))) ∧ ∃ c' : RConc, c'.d = c.d ∧ RAt (((wr.setCell ⟨c.d, 5, none⟩ (.bool false)).setCell ⟨c.d, 6, none⟩ (.int .i64 (-1))).setCell ⟨c.d, 7, none⟩ (.int .i64 (-1))) c' (Grow O w (((wr.setCell ⟨c.d, 5, none⟩ (.bool false)).setCell ⟨c.d, 6, none⟩ (.int .i64 (-1))).setCell ⟨c.d, 7, none⟩ (.int .i64 (-1)))) (m.crash keep)) :=
        ⟨NN.out.only.trans k5 (fun q hq e => e ▸ hOd), { c with sv := .slice sa i sc, av := .slice none 0 0, ac := [], dv := .slice ca i ccap, fs := fs }, rfl, hA2⟩
      clear hA hA2 hcell k5 hcd
      go_wp2_with fail
      go_end0
      exact ⟨rfl, hPost.out⟩
end
end Go.Proofs.Ytfmdnaagdhpcpaa
