/-
  Package frame: Put.
-/
import Derived.Test.YtjohnomlhcncnaaDoorGput
namespace Go.Proofs.YtjohnomlhcncnaaDoor.G
open Go.RowKit Go.Proofs.Lys
set_option linter.unusedVariables false

/-- What Put leaves. -/
def PutPost (w : World) (k : Int) (bs : List UInt8) (e : Ending) (w' : World) : Prop :=
  Kept w w' ∧ ∃ u fs x, e = .returned (.tuple #[u, .int .i64 x]) ∧ Puts k bs fs x ∧ w'.ownsRow w.heap.size 5 1 u fs.length (fs.map bV)

/-- The sum of two parts that were laid just now. -/
theorem sumOf_two (w : World) (v u : Value) (xs ys : List UInt8) (hv : BSrc w v xs) (hu : BSrc w u ys) (hx : xs.length ≤ 1000000) (hy : ys.length ≤ 1000000) (hT : Tab w) :
    Calls Tryd.prog 18 #[.slice (some ⟨w.heap.size, 0, none⟩) 2 2] (w.alloc (.cells #[v, u] 22)) fun e w' => e = .returned (.int .i64 (sumL (xs ++ ys))) ∧ w' = w.alloc (.cells #[v, u] 22) := by
  obtain ⟨va, vc, rfl⟩ := hv.len
  obtain ⟨ua, uc, rfl⟩ := hu.len
  have hk : Kept w (w.alloc (.cells #[.slice va xs.length vc, .slice ua ys.length uc] 22)) := (Only.refl _ w).alloc _
  have hc := sumOf_any (w.alloc (.cells #[.slice va xs.length vc, .slice ua ys.length uc] 22)) (.slice (some ⟨w.heap.size, 0, none⟩) 2 2) [.slice va xs.length vc, .slice ua ys.length uc] [xs, ys] (own_src (World.ownsRow_lit w #[.slice va xs.length vc, .slice ua ys.length uc] 2 (Nat.zero_le _) (by decide) rfl)) rfl (by simp) (fun i h => by
    have h2 : i = 0 ∨ i = 1 := by simp at h; omega
    rcases h2 with rfl | rfl
    · exact hv.stay hk
    · exact hu.stay hk) (by
      intro b hb
      simp at hb
      rcases hb with rfl | rfl <;> omega) (hT.stay hk)
  rw [show [xs, ys].flatten = xs ++ ys by simp] at hc
  exact hc

set_option maxRecDepth 100000 in
set_option maxHeartbeats 1600000 in
theorem put_any (w : World) (k : Int) (v : Value) (bs : List UInt8) (hs : BSrc w v bs) (hl : bs.length ≤ 800000) (hT : Tab w) :
    Calls Tryd.prog 11 #[.int .i64 k, v] w (PutPost w k bs) := by
  obtain ⟨a, c, rfl⟩ := hs.len
  obtain ⟨L, hL⟩ : ∃ L, bs.length = L := ⟨_, rfl⟩
  have HL := hid hL
  have HS := hid hs
  have HT := hid hT
  rw [hL] at hl HS ⊢
  clear hL hs hT
  by_cases hk0 : k < 0
  · go_enter Tryd.func11, Tryd.ntmps11
    go_wp2
    go_ret2
    exact ⟨Only.refl _ w, _, [], 1, rfl, .inl ⟨.inl hk0, rfl, rfl⟩, World.ownsRow_nil _ _ _ _⟩
  · by_cases hk1 : 255 < k
    · go_enter Tryd.func11, Tryd.ntmps11
      go_wp2
      go_ret2
      exact ⟨Only.refl _ w, _, [], 1, rfl, .inl ⟨.inr hk1, rfl, rfl⟩, World.ownsRow_nil _ _ _ _⟩
    · obtain ⟨K, rfl⟩ : ∃ K : Nat, k = (K : Int) := ⟨k.toNat, by omega⟩
      have hK : K < 256 := by omega
      obtain ⟨C, hC⟩ : ∃ C : Nat, 9 + L = C := ⟨_, rfl⟩
      have hCi : 9 + (L : Int) = (C : Int) := by omega
      obtain ⟨i0, hi0, hz0, hz1, hz2⟩ := info_parts Tryd.infoB
      obtain ⟨w1, Hmk, hown1, hgrow1⟩ := run_make_own (P := Tryd.prog) w w.heap.size 22 5 i0 (.int .u8 0) 1 Tryd.underlying22 hi0 hz0 hz1 .i64 .i64 C (by rw [hz2]; omega) (by unfold maxLen; omega) (Nat.le_refl _)
      have hk1' : Kept w w1 := (Only.refl _ w).grown hgrow1 (fun j hj => by cases hj)
      obtain ⟨a2, cap2, w2, Hr2, ho2, hon2⟩ := row_lit (xs := []) hown1 hk1'.size [UInt8.ofNat K] (vs := #[.int .u8 (K : Int)]) (by rw [List.map_cons, bV_ofNat hK]; rfl) (by simp)
      have hk2 := only_kept hk1' hown1 (Nat.le_refl _) hon2
      simp only [List.length_nil, List.length_cons, Nat.zero_add, List.nil_append] at Hr2 ho2
      have hw3 := appendWord_any w2 _ _ [UInt8.ofNat K] L (by omega) ho2 hk2.size (by simp)
      have HO2 := hid ho2
      have HK2 := hid hk2
      clear hC hi0 hz0 hz1 hz2 hown1 hgrow1 hk1' ho2 hon2 hk2 hk0 hk1
      go_enter Tryd.func11, Tryd.ntmps11
      go_wp2_with (at_builtin; refine wpList_append_run rfl _ _ _ rfl rfl rfl Hr2 ?_)
      refine hw3.mono ?_
      rintro e w3 ⟨a3, cap3, rfl, ho3, hon3⟩
      clear hw3 Hr2 Hmk
      have eh : [UInt8.ofNat K] ++ four L = headL K L := rfl
      rw [eh] at ho3
      rw [show [UInt8.ofNat K].length + 4 = 5 from rfl] at ho3 ⊢
      have hk3 := only_kept HK2.out HO2.out (Nat.le_refl _) hon3
      have hsum := sumOf_two w3 _ _ (headL K L) bs (own_bsrc ho3) (HS.out.stay hk3) (by rw [headL_len]; decide) (by rw [HL.out]; omega) (HT.out.stay hk3)
      have HO3 := hid ho3
      have HK3 := hid hk3
      clear ho3 hk3 hon3 HO2 HK2 eh
      have hsl := sumL_lt (headL K L ++ bs)
      obtain ⟨R, hR⟩ : ∃ R, sumL (headL K L ++ bs) = R := ⟨_, rfl⟩
      rw [hR] at hsum hsl
      have HR := hid hR
      clear hR
      go_wp2_with fail
      refine hsum.mono ?_
      rintro e w4 ⟨rfl, hw4⟩
      have k34 : Kept w3 w4 := by rw [hw4]; exact (Only.refl _ w3).alloc _
      have hk4 : Kept w w4 := HK3.out.trans k34 (fun _ _ f => f)
      have ho4 := own_only HO3.out k34 (fun _ _ f => f)
      have hw5 := appendWord_any w4 _ _ (headL K L) R hsl ho4 hk4.size (by rw [headL_len]; decide)
      have HO4 := hid ho4
      have HK4 := hid hk4
      clear hsum hw4 k34 hk4 ho4 HO3 HK3
      go_wp2_with fail
      refine hw5.mono ?_
      rintro e w5 ⟨a5, cap5, rfl, ho5, hon5⟩
      rw [headL_len] at ho5 ⊢
      have hk5 := only_kept HK4.out HO4.out (Nat.le_refl _) hon5
      obtain ⟨a6, cap6, w6, Hr6, ho6, hon6⟩ := row_app ho5 hk5.size (HS.out.stay hk5).1 (by rw [HL.out]; simp only [List.length_append, headL_len, four_len]; omega)
      have hk6 := only_kept hk5 ho5 (Nat.le_refl _) hon6
      have HF : Hid (Kept w w6 ∧ w6.ownsRow w.heap.size 5 1 (.slice a6 (9 + L) cap6) (frameL K bs).length ((frameL K bs).map bV)) := by
        refine ⟨hk6, ?_⟩
        have e1 : headL K L ++ four R ++ bs = frameL K bs := by
          unfold frameL
          rw [HL.out, HR.out, List.append_assoc]
        have e2 : (headL K L ++ four R).length + bs.length = 9 + L := by rw [List.length_append, headL_len, four_len, HL.out]
        rw [e1, e2] at ho6
        exact ho6
      have Hr6' : Hid ((Builtin.append_ #[22, 22] 0 #[.slice a5 (5 + 4) cap5, .slice a L c]).run Tryd.prog w5 = .ok (.slice a6 (9 + L) cap6) w6) := by
        have := Hr6.out
        rw [List.length_append, headL_len, four_len, HL.out] at this
        exact this
      clear Hr6 hw5 ho5 hon5 ho6 hon6 hk5 hk6 HO4 HK4
      go_wp2_with (at_builtin; refine wpList_append_run rfl _ _ _ rfl rfl rfl Hr6' ?_)
      go_ret2
      exact ⟨HF.out.1, _, frameL K bs, 0, rfl, .inr (.inr ⟨by omega, by omega, by rw [HL.out]; omega, by rw [Int.toNat_natCast], rfl⟩), HF.out.2⟩
end Go.Proofs.YtjohnomlhcncnaaDoor.G
