/-
  Eused.
-/
import Derived.Test.YtfmdnaagdhpcpaaQ15

/-
  The document's own disk: how many bytes its files have, how much room there is.
-/
namespace Go.Proofs.Ytfmdnaagdhpcpaa
open Go.RowKit Go.Proofs.Lys Go.Maps Go.Shelf
set_option linter.unusedVariables false

theorem Try.infoI : (Try.prog.info? 3).map (fun i => (i.zero, i.size, i.bytes)) = some (some (.int .i64 0), 1, 8) := by kernel_rfl
theorem wrap_id {x : Int} (h0 : -9223372036854775808 ≤ x) (h1 : x ≤ 9223372036854775807) : IntKind.i64.wrap x = x := by
  rw [IntKind.wrap_i64]
  omega
def iV (n : Nat) : Value := .int .i64 (n : Int)

/-- A row of numbers grows by one. -/
theorem int_step {w0 w : World} {v : Value} {l : List Nat} (hown : w.ownsRow w0.heap.size 3 1 v l.length (l.map iV)) (hk : Kept w0 w) (f : Nat) (hl : l.length < 1000000) :
    ∃ g cap w', Hid ((Builtin.append_ #[32, 32] 0 #[v, .slice (some ⟨w.heap.size, 0, none⟩) 1 1]).run Try.prog (w.alloc (.cells #[.int .i64 (f : Int)] 3)) = .ok (.slice (some ⟨g, 0, none⟩) (l.length + 1) cap) w') ∧ w'.ownsRow w0.heap.size 3 1 (.slice (some ⟨g, 0, none⟩) (l.length + 1) cap) (l ++ [f]).length ((l ++ [f]).map iV) ∧ Kept w0 w' := by
  have k1 : Kept w (w.alloc (.cells #[.int .i64 (f : Int)] 3)) := (Only.refl _ w).alloc _
  obtain ⟨v', w', hr, h1, h2, h3⟩ := append_src (P := Try.prog) (xv := .slice (some ⟨w.heap.size, 0, none⟩) 1 1) (ys := [.int .i64 (f : Int)]) Try.underlying32 Try.infoI rfl (by decide) (ownN_stay hown k1) (own_src (World.ownsRow_lit w #[.int .i64 (f : Int)] 1 (Nat.zero_le _) (by decide) rfl)) (by intro u hu; simp at hu; subst hu; rfl) (by simp; omega) (Nat.le_trans hk.size k1.size)
  obtain ⟨g, cap, rfl⟩ := own_some h1 (by simp)
  refine ⟨g, cap, w', hr, ?_, ?_⟩
  · have e1 : (l ++ [f]).length = l.length + [Value.int .i64 (f : Int)].length := by simp
    have e2 : (l ++ [f]).map iV = l.map iV ++ [Value.int .i64 (f : Int)] := by simp [iV]
    rw [e1, e2]
    exact h1
  · exact (hk.trans k1 (fun _ _ f => f)).grown h2 (fun j hj hlt => by have := (ownN_lt hown hj).1; omega)

theorem RAt.lenAt {w : World} {c : RConc} {O : Nat → Prop} {m : DModel} (h : RAt w c O m) (f : Nat) (hf : f < m.files.length) : ∃ g cap a k, c.fv = .slice (some ⟨g, 0, none⟩) c.fs.length cap ∧ w.cell? ⟨g, f * 2, none⟩ = some (.slice a (m.fileAt f).b.length k) := by
  have hn := h.nf
  obtain ⟨g, cap, e⟩ := ownN_some h.files (by omega)
  have hf' : f < c.fs.length := by omega
  obtain ⟨a, k, e2⟩ := own_slice (h.bytes c.fs[f] (List.getElem_mem hf'))
  refine ⟨g, cap, a, k, e, ?_⟩
  have hfl := h.files
  rw [e] at hfl
  rw [hfl.cellAt (f * 2) (by omega), (filL_at c.fs f hf').1, h.fileAt f hf', e2]

def usedK (m : DModel) (k : Nat) : Nat := ((m.dir.take k).map fun p => (m.fileAt p.2).b.length).sum
theorem usedK_succ (m : DModel) (k : Nat) (h : k < m.dir.length) : usedK m (k + 1) = usedK m k + (m.fileAt m.dir[k].2).b.length := by
  unfold usedK
  rw [List.take_succ_eq_append_getElem h, List.map_append, List.sum_append]
  simp
theorem RAt.lens' {w : World} {c : RConc} {O : Nat → Prop} {m : DModel} (h : RAt w c O m) (f : Nat) : (m.fileAt f).b.length ≤ 16777216 := by
  by_cases hf : f < c.fs.length
  · rw [h.fileAt f hf]
    exact (h.lens _ (List.getElem_mem hf)).1
  · unfold DModel.fileAt
    rw [← h.fsm, List.getD_eq_getElem?_getD, List.getElem?_map, List.getElem?_eq_none (by omega)]
    simp
theorem RAt.usedK_le {w : World} {c : RConc} {O : Nat → Prop} {m : DModel} (h : RAt w c O m) (k : Nat) (hk : k ≤ m.dir.length) : usedK m k ≤ k * 16777216 := by
  induction k with
  | zero => unfold usedK; simp
  | succ k ih =>
    rw [usedK_succ m k (by omega)]
    have := h.lens' m.dir[k].2
    have := ih (by omega)
    omega

set_option maxRecDepth 100000 in
set_option maxHeartbeats 1600000 in
theorem rused_any {w : World} {c : RConc} {O : Nat → Prop} {m : DModel} (h : RAt w c O m) (hd : m.dir.length ≤ 10000) (hnd : (m.dir.map (·.2)).Nodup) : Calls Try.prog 65 #[.pointer (some ⟨c.d, 0, none⟩)] w fun e w' => e = .returned (.int .i64 (m.used : Int)) ∧ Kept w w' := by
  have H := Hid.mk h
  obtain ⟨da, dc, hdv⟩ := ownN_slice h.dir
  obtain ⟨M, hM⟩ : ∃ M, m.dir.length = M := ⟨_, rfl⟩
  rw [hM] at hd hdv
  have HM := Hid.mk hM
  have HV := Hid.mk hdv
  have HN := Hid.mk hnd
  have x1 : Hid (∀ W, Kept w W → W.cell? ⟨c.d, 1, none⟩ = some (.slice da M dc)) := fun W hW => by
    have := (h.stay hW).cells.cell 1 rfl
    rw [hdv] at this
    exact this
  have x0 : Hid (∀ W, Kept w W → W.cell? ⟨c.d, 0, none⟩ = some c.fv) := fun W hW => (h.stay hW).cells.cell 0 rfl
  clear h hM hdv hnd
  go_enter Try.func65, Try.ntmps65
  go_wp2_with fail
  go_loopw [3, 4, 5] (fun n v i wr => ∃ (k : Nat), k ≤ M ∧ i = .int .i64 (k : Int) ∧ n = .int .i64 (usedK m k : Int) ∧ wr.ownsRow w.heap.size 3 1 v ((m.dir.take k).map (·.2)).length (((m.dir.take k).map (·.2)).map iV) ∧ Kept w wr) (fun _ _ i _ => M - (intOf i).toNat)
  case atStart => exact ⟨0, by omega, rfl, rfl, ⟨rfl, .inl ⟨rfl, rfl⟩⟩, Only.refl _ _⟩
  case round =>
    obtain ⟨k, hk, rfl, rfl, hE, hkp⟩ := hrel
    have y1 := x1.out wr hkp
    have HK := Hid.mk hkp
    have hul := Hid.mk (H.out.usedK_le k (by have := HM.out; omega))
    by_cases hlt : k < M
    · have hkl : k < m.dir.length := by have := HM.out; omega
      have hsrc : EntSrc wr (.slice da M dc) m.dir := by
        have := (H.out.stay hkp).dir.src
        rw [HV.out] at this
        exact this
      obtain ⟨b, o, hda, e0, e1⟩ := hsrc.cell HM.out k hlt
      subst hda
      obtain ⟨F, hF⟩ : ∃ F, m.dir[k].2 = F := ⟨_, rfl⟩
      rw [hF] at e1
      have hFl : F < m.files.length := by rw [← hF]; exact H.out.dirF _ (List.getElem_mem hkl)
      obtain ⟨S, hS⟩ : ∃ S, (m.dir.take k).map (·.2) = S := ⟨_, rfl⟩
      have hSl : S.length = k := by rw [← hS, List.length_map, List.length_take]; omega
      have hS1 : Hid ((m.dir.take (k + 1)).map (·.2) = S ++ [F]) := by
        show _ = _
        rw [List.take_succ_eq_append_getElem hkl, List.map_append, hS, ← hF]
        rfl
      have hFS : Hid (∀ j (hj : j < S.length), S[j] ≠ F) := by
        intro j hj e
        have h1 : ((m.dir.take (k + 1)).map (·.2)).Nodup := HN.out.sublist ((List.take_sublist _ _).map _)
        rw [hS1.out] at h1
        have := (List.nodup_append.1 h1).2.2 S[j] (List.getElem_mem hj) F (by simp)
        exact this e
      have hu := Hid.mk (usedK_succ m k hkl)
      rw [hF] at hu
      rw [hS] at hE
      obtain ⟨a5, c5, e5⟩ := own_slice hE
      rw [hSl] at e5
      subst e5
      have HE := Hid.mk hE
      obtain ⟨g, cap, w2, Hr, hown, hkk⟩ := int_step HE.out HK.out F (by omega)
      rw [hSl] at Hr hown
      have HO := Hid.mk hown
      have HKK := Hid.mk hkk
      obtain ⟨fg, fcap, fa, fk, hfv, z0⟩ := (H.out.stay hkk).lenAt F hFl
      have z1 := x0.out w2 hkk
      rw [hfv] at z1
      obtain ⟨L, hL⟩ : ∃ L, (m.fileAt F).b.length = L := ⟨_, rfl⟩
      have hLL : L ≤ 16777216 := by rw [← hL]; exact H.out.lens' F
      rw [hL] at z0 hu
      obtain ⟨NF, hNF⟩ : ∃ NF, c.fs.length = NF := ⟨_, rfl⟩
      have hFN : F < NF := by rw [← hNF, H.out.nf]; exact hFl
      rw [hNF] at z1
      obtain ⟨U, hU⟩ : ∃ U, usedK m k = U := ⟨_, rfl⟩
      have hUl : U ≤ 167772160000 := by have := hul.out; rw [hU] at this; exact Nat.le_trans this (Nat.mul_le_mul_right 16777216 (show k ≤ 10000 by omega))
      rw [hU] at hu ⊢
      have HSl := Hid.mk hSl
      clear hE hown hkk hkp hS hSl hF hsrc hfv hL hNF hU e0 hFl
      go_wp2_with fail
      go_loopw [7, 8] (fun q i ws => ∃ (j : Nat), j ≤ k ∧ i = .int .i64 (j : Int) ∧ q = .bool false ∧ ws = wr) (fun _ i _ => k - (intOf i).toNat)
      case atStart => exact ⟨0, by omega, rfl, rfl, rfl⟩
      case round =>
        obtain ⟨j, hj, rfl, rfl, rfl⟩ := hrel
        by_cases hjk : j < k
        · have hjs : j < S.length := by have := HSl.out; omega
          obtain ⟨sg, scap, es⟩ := own_some HE.out (by have := HSl.out; omega)
          have es' := es
          rw [HSl.out] at es'
          cases es'
          have y5 : wr.cell? ⟨sg, j, none⟩ = some (.int .i64 (S[j] : Int)) := by
            have hh := HE.out
            rw [HSl.out] at hh
            rw [hh.cellAt j (by omega), List.getElem?_map, List.getElem?_eq_getElem hjs]
            rfl
          obtain ⟨G, hG⟩ : ∃ G, S[j] = G := ⟨_, rfl⟩
          have hGF : ¬ ((G : Int) = (F : Int)) := by have := hFS.out j hjs; rw [hG] at this; omega
          rw [hG] at y5
          have dG : decide ((G : Int) = (F : Int)) = false := decide_eq_false hGF
          clear hG es
          go_wp2_with fail
          refine ⟨⟨j + 1, by omega, by go_num, by simp [hGF], trivial⟩, ?_⟩
          simp [intOf]
          omega
        · go_wp2_with (at_builtin; refine wpList_append_run rfl _ _ _ rfl rfl rfl Hr ?_)
          refine ⟨⟨k + 1, by omega, by go_num, by rw [hu.out]; go_num, ?_, HKK.out⟩, ?_⟩
          · rw [hS1.out]
            exact HO.out
          · simp [intOf]
            omega
    · have HT : Hid (usedK m k = m.used) := by
        show usedK m k = _
        unfold usedK DModel.used
        rw [List.take_of_length_le (by have := HM.out; omega)]
      rw [HT.out]
      clear hkp
      go_wp2_with fail
      go_ret
      exact ⟨rfl, HK.out⟩

set_option maxRecDepth 100000 in
theorem rroom_any {w : World} {c : RConc} {O : Nat → Prop} {m : DModel} (h : RAt w c O m) (hd : m.dir.length ≤ 10000) (hnd : (m.dir.map (·.2)).Nodup) : Calls Try.prog 47 #[.pointer (some ⟨c.d, 0, none⟩)] w fun e w' => e = .returned (.int .i64 ((m.quota : Int) - (m.used : Int))) ∧ Kept w w' := by
  have hu : m.used ≤ 167772160000 := by
    have h1 := h.usedK_le m.dir.length (Nat.le_refl _)
    have h2 : usedK m m.dir.length = m.used := by unfold usedK DModel.used; rw [List.take_length]
    rw [h2] at h1
    exact Nat.le_trans h1 (Nat.mul_le_mul_right 16777216 hd)
  have hq := h.quota
  have x4 : w.cell? ⟨c.d, 4, none⟩ = some (.int .i64 (m.quota : Int)) := h.cells.cell 4 rfl
  have HU := Hid.mk (fun W (hW : Kept w W) => rused_any (h.stay hW) hd hnd)
  have x4' : Hid (∀ W, Kept w W → W.cell? ⟨c.d, 4, none⟩ = some (.int .i64 (m.quota : Int))) := fun W hW => (h.stay hW).cells.cell 4 rfl
  obtain ⟨Q, hQ⟩ : ∃ Q, m.quota = Q := ⟨_, rfl⟩
  obtain ⟨U, hU⟩ : ∃ U, m.used = U := ⟨_, rfl⟩
  rw [hQ] at hq x4 x4' ⊢
  rw [hU] at hu HU ⊢
  clear h hd hnd hQ hU
  go_enter Try.func47, Try.ntmps47
  go_wp2_with fail
  go_region_held3 (fun w' => w'.cell? ⟨c.d, 4, none⟩ = some (.int .i64 (Q : Int)))
    (first | exact x4 | exact x4'.out w1 hk1)
    ((go_at_call 65; refine (HU.out _ (Only.refl _ _).drew).mono ?_; rintro e w1 ⟨rfl, hk1'⟩; have hk1 : Kept w w1 := (Only.refl (fun _ => False) w).drew.trans hk1' (fun _ _ f => f)))
  go_wp2_with fail
  go_ret
  exact ⟨by rw [wrap_id (by omega) (by omega)]; rfl, hk1⟩
end Go.Proofs.Ytfmdnaagdhpcpaa
