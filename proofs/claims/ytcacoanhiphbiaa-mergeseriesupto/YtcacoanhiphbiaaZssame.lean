/-
  The document's own SameSeries, of two that are the same.
-/
import Derived.Test.YtcacoanhiphbiaaZsown
import Derived.Test.YtcacoanhiphbiaaNref
import Derived.Test.YtcacoanhiphbiaaZlaw
import Derived.Test.YtcacoanhiphbiaaWlast
namespace Go.Proofs.Ytcacoanhiphbiaa.Ms
open Go Go.RowKit Go.Proofs.Lys Go.Maps
set_option linter.unusedVariables false
set_option linter.unusedSimpArgs false

set_option maxRecDepth 100000 in
set_option maxHeartbeats 2000000 in
theorem msame_any (w : World) (va vb : Value) (xs : List Ser) (ha : SerIn w va xs) (hb : SerIn w vb xs) (hl : xs.length ≤ 1000000) (hll : ∀ x ∈ xs, x.1.length ≤ 1000000 ∧ x.2.length ≤ 1000000) :
    Calls Try.prog 7 #[va, vb] w fun e w' => e = .returned (.bool true) ∧ Kept w w' := by
  obtain ⟨a1, c1, rfl⟩ := ha.len
  obtain ⟨a2, c2, rfl⟩ := hb.len
  obtain ⟨L, hL⟩ : ∃ L, xs.length = L := ⟨_, rfl⟩
  rw [hL] at ha hb hl ⊢
  have HA := hid ha
  have HB := hid hb
  have HL := hid hL
  have HLL := hid hll
  clear ha hb hL hll
  go_enter Try.func7, Try.ntmps7
  go_wp2
  go_loopw [5] (fun s wr => ∃ (k : Nat), k ≤ L ∧ s = .int .i64 (k : Int) ∧ Kept w wr) (fun s _ => L - (intOf s).toNat)
  case atStart => exact ⟨0, by omega, rfl, Only.refl _ _⟩
  case round =>
    obtain ⟨k, hk, rfl, kr⟩ := hrel
    have HK := hid kr
    by_cases hlt : k < L
    · have hkl : k < xs.length := by have := HL.out; omega
      obtain ⟨b1, o1, a3, c3, a5, c5, rfl, x1, y1, p1, q1⟩ := (HA.out.stay kr).cell HL.out k hlt
      obtain ⟨b2, o2, a4, c4, a6, c6, rfl, x2, y2, p2, q2⟩ := (HB.out.stay kr).cell HL.out k hlt
      obtain ⟨hl1, hl2⟩ := HLL.out _ (List.getElem_mem hkl)
      have HS1 := hid (fun W (kW : Kept wr W) => Go.Proofs.Ytcacoanhiphbiaa.N.same_any W _ _ _ (p1.stay kW) (p2.stay kW) hl1)
      have HS2 := hid (fun W (kW : Kept wr W) => Mg.ssame_any W _ _ _ (q1.1.stay kW) (q2.1.stay kW) hl2)
      have S0 : Hid (∀ W, Kept wr W → W.cell? ⟨b1, o1 + k * 2, none⟩ = some _ ∧ W.cell? ⟨b1, o1 + k * 2 + 1, none⟩ = some _ ∧ W.cell? ⟨b2, o2 + k * 2, none⟩ = some _ ∧ W.cell? ⟨b2, o2 + k * 2 + 1, none⟩ = some _) := fun W kW => ⟨cell_kept kW x1, cell_kept kW y1, cell_kept kW x2, cell_kept kW y2⟩
      clear p1 p2 q1 q2 kr
      generalize (xs[k]'hkl).1.length = n1 at *
      generalize (xs[k]'hkl).2.length = n2 at *
      go_wp2_with fail
      refine wp_region_noPanic ?_
      refine wp_region_last (L := 1000) (S := fun w' => Kept wr w') (by kernel_rfl) ?_
      have hS : (fun w' : World => Kept wr w') wr.drew := (Only.refl (fun _ => False) wr).drew
      refine wpAnyN_take (i := 0) (v := .slice (some ⟨b1, o1, none⟩) L c1) rfl (by kernel_rfl) (by kernel_rfl) (by kernel_rfl) (by decide) (by kernel_rfl) (fun _ _ _ h => h) (Or.inl ⟨by rfl, ?_⟩) hS ?_
      · (intro w' hSw; obtain ⟨s0, s1, s2, s3⟩ := S0.out w' hSw; clear hSw; go_simp)
      go_frame
      refine wpAnyN_take (i := 1) (v := .int .i64 (k : Int)) rfl (by kernel_rfl) (by kernel_rfl) (by kernel_rfl) (by decide) (by kernel_rfl) (fun _ _ _ h => h) (Or.inl ⟨by rfl, ?_⟩) hS ?_
      · (intro w' hSw; obtain ⟨s0, s1, s2, s3⟩ := S0.out w' hSw; clear hSw; go_simp)
      go_frame
      refine wpAnyN_take (i := 2) (v := .pointer (some ⟨b1, o1 + k * 2, none⟩)) rfl (by kernel_rfl) (by kernel_rfl) (by kernel_rfl) (by decide) (by kernel_rfl) (fun _ _ _ h => h) (Or.inl ⟨by rfl, ?_⟩) hS ?_
      · (intro w' hSw; obtain ⟨s0, s1, s2, s3⟩ := S0.out w' hSw; clear hSw; go_simp)
      go_frame
      refine wpAnyN_take (i := 3) (v := .pointer (some ⟨b1, o1 + k * 2, none⟩)) rfl (by kernel_rfl) (by kernel_rfl) (by kernel_rfl) (by decide) (by kernel_rfl) (fun _ _ _ h => h) (Or.inl ⟨by rfl, ?_⟩) hS ?_
      · (intro w' hSw; obtain ⟨s0, s1, s2, s3⟩ := S0.out w' hSw; clear hSw; go_simp)
      go_frame
      refine wpAnyN_take (i := 4) (v := .slice a3 n1 c3) rfl (by kernel_rfl) (by kernel_rfl) (by kernel_rfl) (by decide) (by kernel_rfl) (fun _ _ _ h => h) (Or.inl ⟨by rfl, ?_⟩) hS ?_
      · (intro w' hSw; obtain ⟨s0, s1, s2, s3⟩ := S0.out w' hSw; clear hSw; go_simp)
      go_frame
      refine wpAnyN_take (i := 5) (v := .slice (some ⟨b2, o2, none⟩) L c2) rfl (by kernel_rfl) (by kernel_rfl) (by kernel_rfl) (by decide) (by kernel_rfl) (fun _ _ _ h => h) (Or.inl ⟨by rfl, ?_⟩) hS ?_
      · (intro w' hSw; obtain ⟨s0, s1, s2, s3⟩ := S0.out w' hSw; clear hSw; go_simp)
      go_frame
      refine wpAnyN_take (i := 6) (v := .int .i64 (k : Int)) rfl (by kernel_rfl) (by kernel_rfl) (by kernel_rfl) (by decide) (by kernel_rfl) (fun _ _ _ h => h) (Or.inl ⟨by rfl, ?_⟩) hS ?_
      · (intro w' hSw; obtain ⟨s0, s1, s2, s3⟩ := S0.out w' hSw; clear hSw; go_simp)
      go_frame
      refine wpAnyN_take (i := 7) (v := .pointer (some ⟨b2, o2 + k * 2, none⟩)) rfl (by kernel_rfl) (by kernel_rfl) (by kernel_rfl) (by decide) (by kernel_rfl) (fun _ _ _ h => h) (Or.inl ⟨by rfl, ?_⟩) hS ?_
      · (intro w' hSw; obtain ⟨s0, s1, s2, s3⟩ := S0.out w' hSw; clear hSw; go_simp)
      go_frame
      refine wpAnyN_take (i := 8) (v := .pointer (some ⟨b2, o2 + k * 2, none⟩)) rfl (by kernel_rfl) (by kernel_rfl) (by kernel_rfl) (by decide) (by kernel_rfl) (fun _ _ _ h => h) (Or.inl ⟨by rfl, ?_⟩) hS ?_
      · (intro w' hSw; obtain ⟨s0, s1, s2, s3⟩ := S0.out w' hSw; clear hSw; go_simp)
      go_frame
      refine wpAnyN_take (i := 9) (v := .slice a4 n1 c4) rfl (by kernel_rfl) (by kernel_rfl) (by kernel_rfl) (by decide) (by kernel_rfl) (fun _ _ _ h => h) (Or.inl ⟨by rfl, ?_⟩) hS ?_
      · (intro w' hSw; obtain ⟨s0, s1, s2, s3⟩ := S0.out w' hSw; clear hSw; go_simp)
      go_frame
      refine wpAnyL_one (i := 10) (by kernel_rfl) rfl rfl ?_
      go_simp
      refine (HS1.out _ ((Only.refl (fun _ => False) wr).drew)).mono ?_
      rintro e w2 ⟨rfl, kw2⟩
      have Kw2 := hid (show Kept wr w2 from ((Only.refl (fun _ => False) wr).drew).trans kw2 (fun _ _ f => f))
      clear kw2
      refine ⟨Kw2.out, ?_⟩
      (try go_frame)
      refine wpAnyL_one (i := 11) (by kernel_rfl) rfl rfl ?_
      go_simp
      refine ⟨Kw2.out, ?_⟩
      (try go_frame)
      refine wpAnyN_done (by kernel_rfl) ?_
      refine NoPanic.normal ?_
      clear hS
      go_wp2_with fail
      refine wp_region_noPanic ?_
      refine wp_region_last (L := 1000) (S := fun w' => Kept wr w') (by kernel_rfl) ?_
      have hS : (fun w' : World => Kept wr w') w2.drew := Kw2.out.drew
      refine wpAnyN_take (i := 0) (v := .slice (some ⟨b1, o1, none⟩) L c1) rfl (by kernel_rfl) (by kernel_rfl) (by kernel_rfl) (by decide) (by kernel_rfl) (fun _ _ _ h => h) (Or.inl ⟨by rfl, ?_⟩) hS ?_
      · (intro w' hSw; obtain ⟨s0, s1, s2, s3⟩ := S0.out w' hSw; clear hSw; go_simp)
      go_frame
      refine wpAnyN_take (i := 1) (v := .int .i64 (k : Int)) rfl (by kernel_rfl) (by kernel_rfl) (by kernel_rfl) (by decide) (by kernel_rfl) (fun _ _ _ h => h) (Or.inl ⟨by rfl, ?_⟩) hS ?_
      · (intro w' hSw; obtain ⟨s0, s1, s2, s3⟩ := S0.out w' hSw; clear hSw; go_simp)
      go_frame
      refine wpAnyN_take (i := 2) (v := .pointer (some ⟨b1, o1 + k * 2, none⟩)) rfl (by kernel_rfl) (by kernel_rfl) (by kernel_rfl) (by decide) (by kernel_rfl) (fun _ _ _ h => h) (Or.inl ⟨by rfl, ?_⟩) hS ?_
      · (intro w' hSw; obtain ⟨s0, s1, s2, s3⟩ := S0.out w' hSw; clear hSw; go_simp)
      go_frame
      refine wpAnyN_take (i := 3) (v := .pointer (some ⟨b1, o1 + k * 2 + 1, none⟩)) rfl (by kernel_rfl) (by kernel_rfl) (by kernel_rfl) (by decide) (by kernel_rfl) (fun _ _ _ h => h) (Or.inl ⟨by rfl, ?_⟩) hS ?_
      · (intro w' hSw; obtain ⟨s0, s1, s2, s3⟩ := S0.out w' hSw; clear hSw; go_simp)
      go_frame
      refine wpAnyN_take (i := 4) (v := .slice a5 n2 c5) rfl (by kernel_rfl) (by kernel_rfl) (by kernel_rfl) (by decide) (by kernel_rfl) (fun _ _ _ h => h) (Or.inl ⟨by rfl, ?_⟩) hS ?_
      · (intro w' hSw; obtain ⟨s0, s1, s2, s3⟩ := S0.out w' hSw; clear hSw; go_simp)
      go_frame
      refine wpAnyN_take (i := 5) (v := .slice (some ⟨b2, o2, none⟩) L c2) rfl (by kernel_rfl) (by kernel_rfl) (by kernel_rfl) (by decide) (by kernel_rfl) (fun _ _ _ h => h) (Or.inl ⟨by rfl, ?_⟩) hS ?_
      · (intro w' hSw; obtain ⟨s0, s1, s2, s3⟩ := S0.out w' hSw; clear hSw; go_simp)
      go_frame
      refine wpAnyN_take (i := 6) (v := .int .i64 (k : Int)) rfl (by kernel_rfl) (by kernel_rfl) (by kernel_rfl) (by decide) (by kernel_rfl) (fun _ _ _ h => h) (Or.inl ⟨by rfl, ?_⟩) hS ?_
      · (intro w' hSw; obtain ⟨s0, s1, s2, s3⟩ := S0.out w' hSw; clear hSw; go_simp)
      go_frame
      refine wpAnyN_take (i := 7) (v := .pointer (some ⟨b2, o2 + k * 2, none⟩)) rfl (by kernel_rfl) (by kernel_rfl) (by kernel_rfl) (by decide) (by kernel_rfl) (fun _ _ _ h => h) (Or.inl ⟨by rfl, ?_⟩) hS ?_
      · (intro w' hSw; obtain ⟨s0, s1, s2, s3⟩ := S0.out w' hSw; clear hSw; go_simp)
      go_frame
      refine wpAnyN_take (i := 8) (v := .pointer (some ⟨b2, o2 + k * 2 + 1, none⟩)) rfl (by kernel_rfl) (by kernel_rfl) (by kernel_rfl) (by decide) (by kernel_rfl) (fun _ _ _ h => h) (Or.inl ⟨by rfl, ?_⟩) hS ?_
      · (intro w' hSw; obtain ⟨s0, s1, s2, s3⟩ := S0.out w' hSw; clear hSw; go_simp)
      go_frame
      refine wpAnyN_take (i := 9) (v := .slice a6 n2 c6) rfl (by kernel_rfl) (by kernel_rfl) (by kernel_rfl) (by decide) (by kernel_rfl) (fun _ _ _ h => h) (Or.inl ⟨by rfl, ?_⟩) hS ?_
      · (intro w' hSw; obtain ⟨s0, s1, s2, s3⟩ := S0.out w' hSw; clear hSw; go_simp)
      go_frame
      refine wpAnyL_one (i := 10) (by kernel_rfl) rfl rfl ?_
      go_simp
      refine (HS2.out _ (Kw2.out.drew)).mono ?_
      rintro e w3 ⟨rfl, kw3⟩
      have Kw3 := hid (show Kept wr w3 from (Kw2.out.drew).trans kw3 (fun _ _ f => f))
      clear kw3
      refine ⟨Kw3.out, ?_⟩
      (try go_frame)
      refine wpAnyL_one (i := 11) (by kernel_rfl) rfl rfl ?_
      go_simp
      refine ⟨Kw3.out, ?_⟩
      (try go_frame)
      refine wpAnyN_done (by kernel_rfl) ?_
      refine NoPanic.normal ?_
      clear hS
      have HKB := hid (HK.out.trans Kw3.out (fun _ _ f => f))
      go_wp2
      refine ⟨⟨k + 1, by omega, by go_num, HKB.out⟩, ?_⟩
      simp [intOf]
      omega
    · have e : k = L := by omega
      subst e
      go_wp2
      go_ret
      exact ⟨rfl, HK.out⟩
end Go.Proofs.Ytcacoanhiphbiaa.Ms
