/-
  The law ManifestPicks.
-/
import Derived.Test.YtmpkafmkkkpdeaaJal
import Derived.Test.YtmpkafmkkkpdeaaJopen
import Derived.Test.YtmpkafmkkkpdeaaWlast
namespace Go.Proofs.Ytmpkafmkkkpdeaa.J
open Go.RowKit Go.Proofs.Lys
set_option linter.unusedVariables false
set_option linter.unusedSimpArgs false

theorem blk_all {w w' : World} {b T : Nat} {c0 c1 c2 c3 : Value} (h : Blk w b [c0, c1, c2, c3] T) (k : Kept w w') : w'.cell? ⟨b, 0, none⟩ = some c0 ∧ w'.cell? ⟨b, 1, none⟩ = some c1 ∧ w'.cell? ⟨b, 2, none⟩ = some c2 ∧ w'.cell? ⟨b, 3, none⟩ = some c3 :=
  have h' := Only.blk k h (fun f => f)
  ⟨h'.cell 0 rfl, h'.cell 1 rfl, h'.cell 2 rfl, h'.cell 3 rfl⟩

theorem h3s (w2 w4 : World) (a3 : Option Addr) (c3 M : Nat) (ls : List Int) (hM : ls.length = M) {B : Nat} (h : RfAt w2 B (.slice a3 M c3) (ofL ls M)) (k : Kept w2 w4) : RfSrc w4 (.slice a3 M c3) (ofL ls M) := h.src.stay k
theorem ofL_len2 {ls : List Int} {M : Nat} (h : ls.length = M) : (ofL ls M).length = M := ofL_len ls M
theorem pickL_le (l : List Rf) (n k : Nat) : (pickL l n k).length ≤ 1000000 := by
  induction k generalizing n with
  | zero => simp [pickL]
  | succ k ih =>
    rw [pickL]
    split
    · rw [List.length_take]; omega
    · exact ih _
theorem pick_le (m : Man) : (pickO m).length ≤ 1000000 := by
  unfold pickO
  split
  · exact pickL_le _ _ _
  · simp
theorem m_pick_any {w w' : World} {a : Option Addr} {L c : Nat} {N G Lo : Int} {l : List Rf} (hs : RfSrc w (.slice a L c) l) (hL : l.length = L) (k : Kept w w') : Calls Try.prog 15 #[.agg #[.slice a L c, .int .i64 N, .int .i64 G, .int .i64 Lo]] w' (PickP w' (pickO ⟨l, N, G, Lo⟩)) := by
  subst hL
  exact pick_any w' a c ⟨l, N, G, Lo⟩ (hs.stay k)
theorem m_rpick_any {w w' : World} {a : Option Addr} {L c : Nat} {N G Lo : Int} {l : List Rf} (hs : RfSrc w (.slice a L c) l) (hL : l.length = L) (k : Kept w w') : Calls Try.prog 16 #[.agg #[.slice a L c, .int .i64 N, .int .i64 G, .int .i64 Lo]] w' (PickP w' (pickO ⟨l, N, G, Lo⟩)) := by
  subst hL
  exact rpick_any w' a c ⟨l, N, G, Lo⟩ (hs.stay k)

set_option maxRecDepth 100000 in
set_option maxHeartbeats 4000000 in
theorem picks_walk (W : World) (x : ManC) (v : Value) (ls : List Int) (hm : ManIn W x) (hl : IIn W v ls) :
    Calls Try.prog 4 #[x.v, v] W fun e w' => e = .returned (.bool true) ∧ Kept W w' := by
  obtain ⟨a, c, l, N, G, Lo⟩ := x
  obtain ⟨⟨hs0, a2, c2, rfl, hc2⟩, hl2⟩ := hl
  obtain ⟨hr, hr1, hr2⟩ := hm
  unfold ManC.v manV
  simp only at hr hr1 hr2 ⊢
  obtain ⟨L, hL⟩ : ∃ L, l.length = L := ⟨_, rfl⟩
  obtain ⟨M, hM⟩ : ∃ M, ls.length = M := ⟨_, rfl⟩
  have HL := hid hL
  have HM := hid hM
  have HR := hid hr
  have HS := hid hs0
  have HC2 := hid hc2
  rw [hL] at hr1 HR ⊢
  rw [hM] at HS hl2 HC2 ⊢
  have hL9 : L ≤ 9223372036854775807 := by omega
  clear hr hs0 hc2 hr1 hr2 hL hM
  have K0 := hid (show Kept W (W.alloc (manO a L c N G Lo)) from (Only.refl _ W).alloc _)
  have HB := hid (Blk.new W [.slice a L c, .int .i64 N, .int .i64 G, .int .i64 Lo] 24)
  have HA := hid (alive17_any (W.alloc (manO a L c N G Lo)))
  by_cases h1 : 400 < L
  · go_enter Try.func4, Try.ntmps4
    go_wp2_with fail
    refine HA.out.mono ?_
    rintro e w1 ⟨rfl, k1⟩
    have hB1 := Only.blk k1 HB.out (fun f => f)
    have m0 := hB1.cell 0 rfl
    have hsz := hB1.lt
    have K1 := hid (K0.out.trans k1 (fun _ _ f => f))
    clear HA k1 hB1
    go_wp2
    go_ret
    exact ⟨rfl, K1.out⟩
  · by_cases h2 : 150 < M
    · go_enter Try.func4, Try.ntmps4
      go_wp2_with fail
      refine HA.out.mono ?_
      rintro e w1 ⟨rfl, k1⟩
      have hB1 := Only.blk k1 HB.out (fun f => f)
      have m0 := hB1.cell 0 rfl
      have hsz := hB1.lt
      have K1 := hid (K0.out.trans k1 (fun _ _ f => f))
      clear HA k1 hB1
      go_wp2
      go_ret
      exact ⟨rfl, K1.out⟩
    · go_enter Try.func4, Try.ntmps4
      go_wp2_with fail
      refine HA.out.mono ?_
      rintro e w1 ⟨rfl, k1⟩
      have hB1 := Only.blk k1 HB.out (fun f => f)
      have HB1 := hid hB1
      have m0 := hB1.cell 0 rfl
      have hsz := hB1.lt
      have K1 := hid (K0.out.trans k1 (fun _ _ f => f))
      have HOF := hid (of_any w1 (.slice a2 M c2) ls ⟨HS.out.stay K1.out, a2, c2, by rw [HM.out], by rw [HM.out]; exact HC2.out⟩ (by rw [HM.out]; omega))
      unfold OfP at HOF
      rw [HM.out] at HOF
      clear HA k1 hB1
      go_wp2_with fail
      refine HOF.out.mono ?_
      rintro e w2 ⟨a3, c3, rfl, h3, k2⟩
      have K2 := hid (K1.out.trans k2 (fun _ _ f => f))
      have HB2 := hid (Only.blk k2 HB1.out (fun f => f))
      have H3 := hid h3
      have hB2 := HB2.out
      have hsz2 := hB2.lt
      clear HOF h3 k2 m0 hB2 hsz
      go_wp2_with fail
      have KN := hid (show Kept w2 (w2.alloc (manO a3 M c3 ((M : Int) + 1) 1 0)) from (Only.refl _ w2).alloc _)
      have HBN := hid (Blk.new w2 [.slice a3 M c3, .int .i64 ((M : Int) + 1), .int .i64 1, .int .i64 0] 24)
      have HNB := hid (show w2.heap.size < (w2.alloc (manO a3 M c3 ((M : Int) + 1) 1 0)).heap.size by simp)
      obtain ⟨nb, hnb⟩ : ∃ nb, w2.heap.size = nb := ⟨_, rfl⟩
      have HB4 := hid (Only.blk KN.out HB2.out (fun f => f))
      have K4 := hid (K2.out.trans KN.out (fun _ _ f => f))
      have HR4 := hid (HR.out.stay K4.out)
      have HN4 := hid (h3s w2 _ a3 c3 M ls HM.out H3.out KN.out)
      rw [hnb] at HNB HBN ⊢
      generalize w2.alloc (manO a3 M c3 ((M : Int) + 1) 1 0) = w4 at KN HBN HNB HB4 K4 HR4 HN4 ⊢
      clear hnb hsz2 HB HB1 K0 K1 KN HS HB2 H3
      have KA := hid (show Kept w4 w4.drew from (Only.refl _ _).drew)
      refine wp_region_noPanic ?_
      refine wp_region_last (L := 1000) (S := fun w' => Kept w4 w') (by kernel_rfl) ?_
      refine wpAnyN_take (i := 0) (v := .agg #[.slice a L c, .int .i64 N, .int .i64 G, .int .i64 Lo]) rfl (by kernel_rfl) (by kernel_rfl) (by kernel_rfl) (by decide) (by kernel_rfl) (fun _ _ _ h => h) (Or.inl ⟨by kernel_rfl, ?_⟩) KA.out ?_
      · (intro w' hSw; obtain ⟨s0, s1, s2, s3⟩ := blk_all HB4.out hSw; have hz4 := Nat.lt_of_lt_of_le HB4.out.lt hSw.size; clear hSw; go_simp)
      (try simp only [List.getElem_toArray, List.getElem_cons_succ, List.getElem_cons_zero])
      go_frame
      refine wpAnyN_take (i := 2) (v := .agg #[.slice a L c, .int .i64 N, .int .i64 G, .int .i64 Lo]) rfl (by kernel_rfl) (by kernel_rfl) (by kernel_rfl) (by decide) (by kernel_rfl) (fun _ _ _ h => h) (Or.inl ⟨by kernel_rfl, ?_⟩) KA.out ?_
      · (intro w' hSw; obtain ⟨s0, s1, s2, s3⟩ := blk_all HB4.out hSw; have hz4 := Nat.lt_of_lt_of_le HB4.out.lt hSw.size; clear hSw; go_simp)
      (try simp only [List.getElem_toArray, List.getElem_cons_succ, List.getElem_cons_zero])
      go_frame
      refine wpAnyL_one (i := 1) (by kernel_rfl) rfl (by kernel_rfl) ?_
      go_simp
      refine (m_pick_any HR4.out HL.out KA.out).mono ?_
      rintro e wa ⟨va, rfl, ha, kk⟩
      have KB := hid (show Kept w4 wa from KA.out.trans kk (fun _ _ f => f))
      have HAA := hid (own_src ha)
      obtain ⟨aa, ca, rfl⟩ := own_slice ha
      clear kk ha
      refine ⟨KB.out, ?_⟩
      (try go_frame)
      refine wpAnyL_one (i := 3) (by kernel_rfl) rfl (by kernel_rfl) ?_
      go_simp
      refine (m_rpick_any HR4.out HL.out KB.out).mono ?_
      rintro e wb ⟨vb, rfl, hb, kk⟩
      have KC := hid (show Kept w4 wb from KB.out.trans kk (fun _ _ f => f))
      have HSA := hid (same_any wb _ _ _ (HAA.out.stay kk) (own_src hb) (pick_le _))
      obtain ⟨ab, cb, rfl⟩ := own_slice hb
      clear kk hb HAA
      refine ⟨KC.out, ?_⟩
      (try go_frame)
      refine wpAnyL_one (i := 4) (by kernel_rfl) rfl (by kernel_rfl) ?_
      go_simp
      refine HSA.out.mono ?_
      rintro e wc ⟨rfl, kk⟩
      have KD := hid (show Kept w4 wc from KC.out.trans kk (fun _ _ f => f))
      clear kk HSA
      refine ⟨KD.out, ?_⟩
      (try go_frame)
      refine wpAnyN_take (i := 5) (v := .bool true) rfl (by kernel_rfl) (by kernel_rfl) (by kernel_rfl) (by decide) (by kernel_rfl) (fun _ _ _ h => h) (Or.inl ⟨by kernel_rfl, ?_⟩) KD.out ?_
      · (intro w' hSw; go_simp)
      (try simp only [List.getElem_toArray, List.getElem_cons_succ, List.getElem_cons_zero])
      go_frame
      refine wpAnyN_take (i := 6) (v := .agg #[.slice a3 M c3, .int .i64 ((M : Int) + 1), .int .i64 1, .int .i64 0]) rfl (by kernel_rfl) (by kernel_rfl) (by kernel_rfl) (by decide) (by kernel_rfl) (fun _ _ _ h => h) (Or.inl ⟨by kernel_rfl, ?_⟩) KD.out ?_
      · (intro w' hSw; obtain ⟨s0, s1, s2, s3⟩ := blk_all HBN.out hSw; have hz4 := Nat.lt_of_lt_of_le HBN.out.lt hSw.size; clear hSw; go_simp)
      (try simp only [List.getElem_toArray, List.getElem_cons_succ, List.getElem_cons_zero])
      go_frame
      refine wpAnyN_take (i := 8) (v := .agg #[.slice a3 M c3, .int .i64 ((M : Int) + 1), .int .i64 1, .int .i64 0]) rfl (by kernel_rfl) (by kernel_rfl) (by kernel_rfl) (by decide) (by kernel_rfl) (fun _ _ _ h => h) (Or.inl ⟨by kernel_rfl, ?_⟩) KD.out ?_
      · (intro w' hSw; obtain ⟨s0, s1, s2, s3⟩ := blk_all HBN.out hSw; have hz4 := Nat.lt_of_lt_of_le HBN.out.lt hSw.size; clear hSw; go_simp)
      (try simp only [List.getElem_toArray, List.getElem_cons_succ, List.getElem_cons_zero])
      go_frame
      refine wpAnyL_one (i := 7) (by kernel_rfl) rfl (by kernel_rfl) ?_
      go_simp
      refine (m_pick_any HN4.out (ofL_len2 HM.out) KD.out).mono ?_
      rintro e wa ⟨va, rfl, ha, kk⟩
      have KE := hid (show Kept w4 wa from KD.out.trans kk (fun _ _ f => f))
      have HAA := hid (own_src ha)
      obtain ⟨aa, ca, rfl⟩ := own_slice ha
      clear kk ha
      refine ⟨KE.out, ?_⟩
      (try go_frame)
      refine wpAnyL_one (i := 9) (by kernel_rfl) rfl (by kernel_rfl) ?_
      go_simp
      refine (m_rpick_any HN4.out (ofL_len2 HM.out) KE.out).mono ?_
      rintro e wb ⟨vb, rfl, hb, kk⟩
      have KF := hid (show Kept w4 wb from KE.out.trans kk (fun _ _ f => f))
      have HSA := hid (same_any wb _ _ _ (HAA.out.stay kk) (own_src hb) (pick_le _))
      obtain ⟨ab, cb, rfl⟩ := own_slice hb
      clear kk hb HAA
      refine ⟨KF.out, ?_⟩
      (try go_frame)
      refine wpAnyL_one (i := 10) (by kernel_rfl) rfl (by kernel_rfl) ?_
      go_simp
      refine HSA.out.mono ?_
      rintro e wc ⟨rfl, kk⟩
      have K9 := hid (show Kept w4 wc from KF.out.trans kk (fun _ _ f => f))
      clear kk HSA
      refine ⟨K9.out, ?_⟩
      (try go_frame)
      refine wpAnyN_take (i := 11) (v := .bool true) rfl (by kernel_rfl) (by kernel_rfl) (by kernel_rfl) (by decide) (by kernel_rfl) (fun _ _ _ h => h) (Or.inl ⟨by kernel_rfl, ?_⟩) K9.out ?_
      · (intro w' hSw; go_simp)
      (try simp only [List.getElem_toArray, List.getElem_cons_succ, List.getElem_cons_zero])
      go_frame
      refine wpAnyL_one (i := 12) (by kernel_rfl) rfl (by kernel_rfl) ?_
      go_simp
      refine ⟨K9.out, ?_⟩
      (try go_frame)
      refine wpAnyN_done (by kernel_rfl) ?_
      refine NoPanic.normal ?_
      have K10 := hid (K4.out.trans K9.out (fun _ _ f => f))
      go_wp2
      go_ret
      exact ⟨rfl, K10.out⟩
end Go.Proofs.Ytmpkafmkkkpdeaa.J
