/-
  The document's own disk: a step's own errors at every kind; List.
-/
import Derived.Test.YtpjedcfdchebgaaEown
namespace Go.Proofs.Ytpjedcfdchebgaa
open Go.RowKit Go.Proofs.Lys Go.Maps Go.Shelf
set_option linter.unusedVariables false

theorem rown_any {w : World} {c : RConc} {O : Nat → Prop} {m : DModel} (h : RAt w c O m) (hd : m.dir.length ≤ 10000) (hnd : (m.dir.map (·.2)).Nodup) (k : Int) (n t bs : List UInt8) (ba : Option Addr) (bc : Nat) (hk0 : 0 ≤ k) (hk5 : k ≤ 5) (hB : bs.length ≤ 1000000) :
    Calls Try.prog 41 #[.pointer (some ⟨c.d, 0, none⟩), .agg #[.int .i64 k, .string ⟨n.toArray⟩, .string ⟨t.toArray⟩, .slice ba bs.length bc]] w fun e w' => e = .returned (.int .i64 (m.own ⟨k, n, t, bs⟩ : Int)) ∧ Kept w w' := by
  have : k = 0 ∨ k = 1 ∨ k = 2 ∨ k = 3 ∨ k = 4 ∨ k = 5 := by omega
  rcases this with rfl | rfl | rfl | rfl | rfl | rfl
  · exact rown0 h hd hnd n t bs ba bc hB
  · exact rown1 h hd hnd n t bs ba bc hB
  · exact rown2 h hd hnd n t bs ba bc hB
  · exact rown3 h hd hnd n t bs ba bc hB
  · exact rown4 h hd hnd n t bs ba bc hB
  · exact rown5 h hd hnd n t bs ba bc hB

theorem Try.infoS : (Try.prog.info? 9).map (fun i => (i.zero, i.size, i.bytes)) = some (some (.string ⟨#[]⟩), 1, 16) := by kernel_rfl
/-- A row of texts grows by one. -/
theorem str_step {w0 w : World} {v : Value} {l : List (List UInt8)} (hown : w.ownsRow w0.heap.size 9 1 v l.length (l.map nmV)) (hk : Kept w0 w) (f : List UInt8) (hl : l.length < 1000000) :
    ∃ g cap w', Hid ((Builtin.append_ #[87, 87] 0 #[v, .slice (some ⟨w.heap.size, 0, none⟩) 1 1]).run Try.prog (w.alloc (.cells #[.string ⟨f.toArray⟩] 9)) = .ok (.slice (some ⟨g, 0, none⟩) (l.length + 1) cap) w') ∧ w'.ownsRow w0.heap.size 9 1 (.slice (some ⟨g, 0, none⟩) (l.length + 1) cap) (l ++ [f]).length ((l ++ [f]).map nmV) ∧ Kept w0 w' := by
  have k1 : Kept w (w.alloc (.cells #[.string ⟨f.toArray⟩] 9)) := (Only.refl _ w).alloc _
  obtain ⟨v', w', hr, h1, h2, h3⟩ := append_src (P := Try.prog) (xv := .slice (some ⟨w.heap.size, 0, none⟩) 1 1) (ys := [.string ⟨f.toArray⟩]) Try.underlying87 Try.infoS rfl (by decide) (ownN_stay hown k1) (own_src (World.ownsRow_lit w #[.string ⟨f.toArray⟩] 1 (Nat.zero_le _) (by decide) rfl)) (by intro u hu; simp at hu; subst hu; rfl) (by simp; omega) (Nat.le_trans hk.size k1.size)
  obtain ⟨g, cap, rfl⟩ := own_some h1 (by simp)
  refine ⟨g, cap, w', hr, ?_, ?_⟩
  · have e1 : (l ++ [f]).length = l.length + [Value.string ⟨f.toArray⟩].length := by simp
    have e2 : (l ++ [f]).map nmV = l.map nmV ++ [Value.string ⟨f.toArray⟩] := by simp [nmV]
    rw [e1, e2]
    exact h1
  · exact (hk.trans k1 (fun _ _ f => f)).grown h2 (fun j hj hlt => by have := (ownN_lt hown hj).1; omega)

set_option maxRecDepth 100000 in
set_option maxHeartbeats 1600000 in
theorem rlist_any {w : World} {c : RConc} {O : Nat → Prop} {m : DModel} (h : RAt w c O m) (hd : m.dir.length ≤ 10000) : Calls Try.prog 50 #[.pointer (some ⟨c.d, 0, none⟩)] w fun e w' => ∃ v, e = .returned v ∧ w'.ownsRow w.heap.size 9 1 v m.list.length (m.list.map nmV) ∧ Kept w w' := by
  have H := Hid.mk h
  obtain ⟨da, dc, hdv⟩ := ownN_slice h.dir
  obtain ⟨M, hM⟩ : ∃ M, m.dir.length = M := ⟨_, rfl⟩
  rw [hM] at hd hdv
  have HM := Hid.mk hM
  have HV := Hid.mk hdv
  have x1 : Hid (∀ W, Kept w W → W.cell? ⟨c.d, 1, none⟩ = some (.slice da M dc)) := fun W hW => by
    have := (h.stay hW).cells.cell 1 rfl
    rw [hdv] at this
    exact this
  have x5 : Hid (∀ W, Kept w W → W.cell? ⟨c.d, 5, none⟩ = some (.bool m.off)) := fun W hW => (h.stay hW).cells.cell 5 rfl
  obtain ⟨off, hoff⟩ : ∃ off, m.off = off := ⟨_, rfl⟩
  rw [hoff] at x5
  have HOff := Hid.mk hoff
  clear h hM hdv hoff
  go_enter Try.func50, Try.ntmps50
  go_wp2_with fail
  go_loopw [3, 4] (fun v i wr => ∃ (k : Nat), k ≤ M ∧ i = .int .i64 (k : Int) ∧ (off = true → k = 0) ∧ wr.ownsRow w.heap.size 9 1 v ((m.dir.take k).map (·.1)).length (((m.dir.take k).map (·.1)).map nmV) ∧ Kept w wr) (fun _ i _ => M - (intOf i).toNat)
  case atStart => exact ⟨0, by omega, rfl, fun _ => rfl, ⟨rfl, .inl ⟨rfl, rfl⟩⟩, Only.refl _ _⟩
  case round =>
    obtain ⟨k, hk, rfl, hk0, hE, hkp⟩ := hrel
    have y1 := x1.out wr hkp
    have y5 := x5.out wr hkp
    have HK := Hid.mk hkp
    obtain ⟨S, hS⟩ : ∃ S, (m.dir.take k).map (·.1) = S := ⟨_, rfl⟩
    have hSl : S.length = k := by rw [← hS, List.length_map, List.length_take]; have := HM.out; omega
    rw [hS] at hE
    obtain ⟨a5, c5, e5⟩ := own_slice hE
    rw [hSl] at e5
    subst e5
    have HE := Hid.mk hE
    have HS := Hid.mk hS
    cases off
    · by_cases hlt : k < M
      · have hkl : k < m.dir.length := by have := HM.out; omega
        have hsrc : EntSrc wr (.slice da M dc) m.dir := by
          have := (H.out.stay hkp).dir.src
          rw [HV.out] at this
          exact this
        obtain ⟨b, o, hda, e0, e1⟩ := hsrc.cell HM.out k hlt
        subst hda
        obtain ⟨F, hF⟩ : ∃ F, m.dir[k].1 = F := ⟨_, rfl⟩
        rw [hF] at e0
        unfold nmV at e0
        have hS1 : Hid ((m.dir.take (k + 1)).map (·.1) = S ++ [F]) := by
          show _ = _
          rw [List.take_succ_eq_append_getElem hkl, List.map_append, hS, ← hF]
          rfl
        obtain ⟨g, cap, w2, Hr, hown, hkk⟩ := str_step HE.out HK.out F (by omega)
        rw [hSl] at Hr hown
        have HO := Hid.mk hown
        have HKK := Hid.mk hkk
        clear hE hown hkk hkp hS hSl hF hsrc e1 hk0
        go_wp2_with (at_builtin; refine wpList_append_run rfl _ _ _ rfl rfl rfl Hr ?_)
        refine ⟨⟨k + 1, by omega, by go_num, (fun e => by cases e), ?_, HKK.out⟩, ?_⟩
        · rw [hS1.out]
          exact HO.out
        · simp [intOf]
          omega
      · have HT : Hid (m.list = S) := by
          show m.list = S
          unfold DModel.list
          rw [HOff.out, ← hS, List.take_of_length_le (by have := HM.out; omega)]
          rfl
        have HSl := Hid.mk hSl
        clear hkp hE hS hSl hk0
        go_wp2_with fail
        go_ret
        exact ⟨_, rfl, by rw [HT.out]; exact HE.out, HK.out⟩
    · have hk00 := hk0 rfl
      subst hk00
      have HT : Hid (m.list = S) := by
        show m.list = S
        unfold DModel.list
        rw [HOff.out, ← hS]
        rfl
      clear hkp hE hS hSl hk0
      go_wp2_with fail
      all_goals
        go_ret
        exact ⟨_, rfl, by rw [HT.out]; exact HE.out, HK.out⟩
end Go.Proofs.Ytpjedcfdchebgaa
