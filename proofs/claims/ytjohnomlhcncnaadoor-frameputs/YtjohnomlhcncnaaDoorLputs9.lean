/-
  The law FramePuts.
-/
import Derived.Test.YtjohnomlhcncnaaDoorGget
namespace Go.Proofs.YtjohnomlhcncnaaDoor.G
open Go.RowKit Go.Proofs.Lys
set_option linter.unusedVariables false

theorem Puts.small {k : Int} {b fs : List UInt8} {x : Int} (h : Puts k b fs x) : fs.length ≤ 9 + b.length := by
  rcases h with ⟨_, h, _⟩ | ⟨_, _, _, h, _⟩ | ⟨_, _, _, h, _⟩
  · simp [h]
  · simp [h]
  · rw [h, frameL_len]; omega
set_option maxRecDepth 100000 in
set_option maxHeartbeats 3200000 in
theorem puts9_walk (w : World) (k : Int) (v m : Value) (bs ms : List UInt8) (hs : BSrc w v bs) (hm : BSrc w m ms) (hT : Tab w) :
    Calls Tryd.prog 4 #[.int .i64 k, v, m] w fun e w' => e = .returned (.bool true) ∧ Kept w w' := by
  obtain ⟨a, c, rfl⟩ := hs.len
  obtain ⟨am, cm, rfl⟩ := hm.len
  have ha := alive9_any w hT
  have hnot : ∀ (x : Bool) (w : World), (Op.unary .not (.bool x)).run Tryd.prog w = .ok (.bool (!x)) w := fun _ _ => rfl
  obtain ⟨L, hL⟩ : ∃ L, bs.length = L := ⟨_, rfl⟩
  obtain ⟨M, hM⟩ : ∃ M, ms.length = M := ⟨_, rfl⟩
  have HL := hid hL
  have HM := hid hM
  have HS := hid hs
  have HMs := hid hm
  have HT := hid hT
  rw [hL] at HS ⊢
  rw [hM] at HMs ⊢
  clear hL hM hs hm hT
  by_cases hlt : 10000 < L
  · go_enter Tryd.func4, Tryd.ntmps4
    go_wp2_with fail
    refine ha.mono ?_
    rintro e w1 ⟨rfl, hk⟩
    have HK := hid hk
    clear ha hk
    go_wp2_with fail
    go_ret
    exact ⟨rfl, HK.out⟩
  · by_cases hlm : 1000 < M
    · go_enter Tryd.func4, Tryd.ntmps4
      go_wp2_with fail
      refine ha.mono ?_
      rintro e w1 ⟨rfl, hk⟩
      have HK := hid hk
      clear ha hk
      go_wp2_with fail
      go_ret
      exact ⟨rfl, HK.out⟩
    · have hd1 : decide ((10000 : Int) < (L : Int)) = false := by simp; omega
      have hd2 : decide ((1000 : Int) < (M : Int)) = false := by simp; omega
      go_enter Tryd.func4, Tryd.ntmps4
      go_wp2_with fail
      refine ha.mono ?_
      rintro e w1 ⟨rfl, hk⟩
      clear ha
      obtain ⟨a2, c2, w2, Hr2, ho2, hon2⟩ := row_app (w := w1) (base := w1.heap.size) (v := .slice none 0 0) (xs := []) (World.ownsRow_nil _ _ _ _) (Nat.le_refl _) (HS.out.stay hk).1 (by rw [HL.out]; simp; omega)
      rw [List.nil_append, List.length_nil, Nat.zero_add] at ho2
      rw [List.length_nil, Nat.zero_add] at Hr2
      have k12 : Kept w1 w2 := hon2.mono (fun j _ e => by cases e)
      obtain ⟨a3, c3, w3, Hr3, ho3, hon3⟩ := row_lit (xs := bs) ho2 k12.size [167] (vs := #[.int .u8 167]) rfl (by rw [HL.out]; simp; omega)
      have k13 := only_kept k12 ho2 (Nat.le_refl _) hon3
      have HK3 : Hid (Kept w w3) := hk.trans k13 (fun _ _ f => f)
      simp only [HL.out, List.length_cons, List.length_nil, Nat.zero_add] at Hr2 Hr3 ho3
      clear ho2 hon2 k12 hon3
      have ho3' : w3.ownsRow w1.heap.size 5 1 (.slice a3 (L + 1) c3) (L + 1) ((bs ++ [167]).map bV) := by
        have h := ho3
        rw [List.length_append, HL.out] at h
        exact h
      obtain ⟨g3, c3', e3⟩ := own_some ho3' (by omega)
      cases e3
      have hsrc3 : BSrc w3 (.slice (some ⟨g3, 0, none⟩) (L + 1) c3) (bs ++ [167]) := own_bsrc ho3
      obtain ⟨pa, pc, hpre, hbp⟩ := hsrc3.pre (hi := L) (by rw [List.length_append, HL.out]; omega)
      rw [List.take_left' HL.out] at hbp
      have hput := put_any w3 k _ bs hbp (by rw [HL.out]; omega) (HT.out.stay HK3.out)
      have HO3 := hid ho3'
      have HBP := hid hbp
      clear ho3 ho3' hsrc3 hbp hk k13
      go_wp2_with (at_builtin; first | refine wpList_append_run rfl _ _ _ rfl rfl rfl Hr2 ?_ | refine wpList_append_run rfl _ _ _ rfl rfl rfl Hr3 ?_)
      refine hput.mono ?_
      rintro e w4 ⟨k4, u4, fs, x, rfl, hP, ho4⟩
      clear hput Hr2 Hr3
      have HK4 : Hid (Kept w w4) := HK3.out.trans k4 (fun _ _ f => f)
      have hfr := rframe_any w4 k _ bs (HS.out.stay HK4.out) (by rw [HL.out]; omega)
      have HP := hid hP
      have HO4 := hid ho4
      have HK34 := hid k4
      clear hP ho4 k4
      go_wp2_with fail
      refine hfr.mono ?_
      rintro e w5 ⟨k5, u5, fs', x', rfl, hP', ho5⟩
      obtain ⟨rfl, rfl⟩ := hP'.inj HP.out
      clear hfr
      have hk35 : Kept w3 w5 := HK34.out.trans k5 (fun _ _ f => f)
      have HK5 : Hid (Kept w w5) := HK4.out.trans k5 (fun _ _ f => f)
      have ho45 := own_only HO4.out k5 (fun _ _ f => f)
      have HO45 := hid ho45
      have kd : ∀ n, Kept w5 (w5.drewN n) := fun n => kept_drewN (Only.refl _ _) n
      have cv1 : ∀ n, (convert 22 9 u4).run Tryd.prog (w5.drewN n) = .ok (.string ⟨fs'.toArray⟩) (w5.drewN n) := fun n => bytes_str (own_src (own_only ho45 (kd n) (fun _ _ f => f)))
      have cv2 : ∀ n, (convert 22 9 u5).run Tryd.prog (w5.drewN n) = .ok (.string ⟨fs'.toArray⟩) (w5.drewN n) := fun n => bytes_str (own_src (own_only ho5 (kd n) (fun _ _ f => f)))
      have cv3 : ∀ n, (convert 22 9 (.slice pa L pc)).run Tryd.prog (w5.drewN n) = .ok (.string ⟨bs.toArray⟩) (w5.drewN n) := fun n => bytes_str (HBP.out.stay (hk35.trans (kd n) (fun _ _ f => f))).1
      have cv4 : ∀ n, (convert 22 9 (.slice a L c)).run Tryd.prog (w5.drewN n) = .ok (.string ⟨bs.toArray⟩) (w5.drewN n) := fun n => bytes_str (HS.out.stay (HK5.out.trans (kd n) (fun _ _ f => f))).1
      have c167 : ∀ n, (w5.drewN n).cell? ⟨g3, L, none⟩ = some (.int .u8 167) := fun n => by
        have h := src_cells (own_src (own_only HO3.out (hk35.trans (kd n) (fun _ _ f => f)) (fun _ _ f => f))) L (.int .u8 167) (by
          rw [List.map_append, List.getElem?_append_right (by rw [List.length_map, HL.out]; exact Nat.le_refl _), List.length_map, HL.out, Nat.sub_self]
          rfl)
        rw [Nat.zero_add] at h
        exact h
      obtain ⟨F, hF⟩ : ∃ F, fs'.length = F := ⟨_, rfl⟩
      obtain ⟨b4, d4, hu4⟩ := own_slice ho45
      obtain ⟨b5, d5, hu5⟩ := own_slice ho5
      rw [hF] at hu4 hu5
      have HF := hid hF
      have hFs := HP.out.small
      rw [hF, HL.out] at hFs
      subst hu4
      subst hu5
      generalize (⟨fs'.toArray⟩ : ByteArray) = s1 at cv1 cv2
      generalize (⟨bs.toArray⟩ : ByteArray) = s2 at cv3 cv4
      have KD := hid kd
      clear hP' ho5 k5 hk35 ho45 hF kd
      go_wp2_with fail
      go_quiet ((go_at_call 13; refine Calls.quiet_of_same (num9_any _ _)))
      have k6 := KD.out nq
      have HK6 : Hid (Kept w (w5.drewN nq)) := HK5.out.trans k6 (fun _ _ f => f)
      have HO6 := hid (own_only HO45.out k6 (fun _ _ f => f))
      clear cv1 cv2 cv3 cv4 c167 k6
      generalize w5.drewN nq = w6 at HK6 HO6 ⊢
      by_cases hx0 : x' = 0
      · subst hx0
        have hKs : ∃ K : Nat, K < 256 ∧ k = (K : Int) ∧ fs' = frameL K bs := by
          rcases HP.out with ⟨_, _, h⟩ | ⟨_, _, _, _, h⟩ | ⟨h1, h2, _, h, _⟩
          · cases h
          · cases h
          · exact ⟨k.toNat, by omega, by omega, h⟩
        obtain ⟨K, hK, rfl, hfs⟩ := hKs
        obtain ⟨a7, c7, w7, Hr7, ho7, hon7⟩ := row_app (w := w6) (base := w6.heap.size) (v := .slice none 0 0) (xs := []) (World.ownsRow_nil _ _ _ _) (Nat.le_refl _) (own_src HO6.out) (by rw [HF.out]; simp; omega)
        rw [List.nil_append, List.length_nil, Nat.zero_add] at ho7
        rw [List.length_nil, Nat.zero_add] at Hr7
        have k67 : Kept w6 w7 := hon7.mono (fun j _ e => by cases e)
        obtain ⟨a8, c8, w8, Hr8, ho8, hon8⟩ := row_app ho7 k67.size (HMs.out.stay (HK6.out.trans k67 (fun _ _ f => f))).1 (by rw [HF.out, HM.out]; omega)
        have k68 := only_kept k67 ho7 (Nat.le_refl _) hon8
        have HK8 : Hid (Kept w w8) := HK6.out.trans k68 (fun _ _ f => f)
        have hget := get_any w8 _ (fs' ++ ms) (own_bsrc (by rw [List.length_append] at ho8 ⊢; exact ho8)) (by rw [List.length_append, HF.out, HM.out]; omega) (HT.out.stay HK8.out)
        have HRd : Hid (readF (fs' ++ ms) = some (K, bs, F)) := by
          show _ = _
          have hFF : F = 9 + L := by rw [← HF.out, hfs, frameL_len, HL.out]
          rw [hfs, read_put hK (by rw [HL.out]; omega) ms, HL.out, hFF]
        rw [HF.out] at Hr7 
        rw [HF.out, HM.out] at Hr8
        rw [HF.out, HM.out] at hget
        clear ho7 hon7 k67 ho8 hon8 k68 hfs
        go_wp2_with (at_builtin; first | refine wpList_append_run rfl _ _ _ rfl rfl rfl Hr7 ?_ | refine wpList_append_run rfl _ _ _ rfl rfl rfl Hr8 ?_)
        refine hget.mono ?_
        rintro e w9 ⟨k9, k', u9, p, n, y, rfl, hG, ho9⟩
        have hG2 : Gets (fs' ++ ms) (K : Int) bs F 0 := .inr ⟨K, bs, F, HRd.out, rfl, rfl, rfl, rfl⟩
        obtain ⟨rfl, rfl, rfl, rfl⟩ := hG.inj hG2
        have HK9 : Hid (Kept w w9) := HK8.out.trans k9 (fun _ _ f => f)
        have q1 := bytes_str (own_src ho9)
        have q2 := bytes_str (HS.out.stay HK9.out).1
        obtain ⟨b9, d9, hu9⟩ := own_slice ho9
        rw [HL.out] at hu9
        subst hu9
        generalize (⟨p.toArray⟩ : ByteArray) = s3 at q1 q2
        clear hget hG hG2 ho9 k9 Hr7 Hr8
        go_wp2_with (go_at_call 13; refine (num9_any _ _).mono ?_; rintro e w' ⟨rfl, hw⟩; replace hw := hw.symm; subst hw)
        go_ret
        exact ⟨rfl, HK9.out⟩
      · have hx1 : (x' == 0) = false := by simp [hx0]
        go_wp2_with fail
        go_ret
        exact ⟨rfl, HK6.out⟩
end Go.Proofs.YtjohnomlhcncnaaDoor.G
