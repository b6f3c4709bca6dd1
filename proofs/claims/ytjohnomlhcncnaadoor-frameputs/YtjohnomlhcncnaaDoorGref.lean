/-
  The document's own: four bytes, a frame.
-/
import Derived.Test.YtjohnomlhcncnaaDoorGput2
namespace Go.Proofs.YtjohnomlhcncnaaDoor.G
open Go.RowKit Go.Proofs.Lys
set_option linter.unusedVariables false

theorem i64_and255 (n : Int) : bits .and .i64 n 255 = n % 256 := by
  have h255 : (BitVec.ofInt 64 255).toNat = 2 ^ 8 - 1 := by decide
  have key : (BitVec.ofInt 64 n &&& BitVec.ofInt 64 255).toNat = (n % ((2 ^ 64 : Nat) : Int)).toNat % 2 ^ 8 := by
    rw [BitVec.toNat_and, BitVec.toNat_ofInt, h255, Nat.and_two_pow_sub_one_eq_mod]
  show IntKind.i64.wrap ((BitVec.ofInt 64 n &&& BitVec.ofInt 64 255).toNat : Nat) = n % 256
  rw [key, IntKind.wrap_i64]
  omega
set_option maxRecDepth 100000 in
set_option maxHeartbeats 800000 in
theorem rfour_any (w : World) (n : Nat) (hn : n < 4294967296) :
    Calls Tryd.prog 20 #[.int .i64 (n : Int)] w fun e w' => e = .returned (.slice (some ⟨w.heap.size, 0, none⟩) 4 4) ∧ w'.ownsRow w.heap.size 5 1 (.slice (some ⟨w.heap.size, 0, none⟩) 4 4) 4 ((four n).map bV) ∧ Kept w w' := by
  have f0 := i64_and255 (n : Int)
  have f1 := i64_and255 ((n : Int) / 256)
  have f2 := i64_and255 ((n : Int) / 65536)
  have f3 := i64_and255 ((n : Int) / 16777216)
  have hc := four_cells hn
  have hlast : (n : Int) / 16777216 % 256 = (n : Int) / 16777216 := by omega
  have HO : Hid ((w.alloc (.cells ((four n).map bV).toArray 5)).ownsRow w.heap.size 5 1 (.slice (some ⟨w.heap.size, 0, none⟩) 4 4) 4 ((four n).map bV)) := World.ownsRow_lit w ((four n).map bV).toArray 4 (Nat.le_refl _) (by decide) rfl
  rw [← hc] at HO
  have HK : Hid (Kept w (w.alloc (.cells #[Value.int .u8 ((n : Int) % 256), .int .u8 ((n : Int) / 256 % 256), .int .u8 ((n : Int) / 65536 % 256), .int .u8 ((n : Int) / 16777216)] 5))) := (Only.refl _ w).alloc _
  clear hc
  go_enter Tryd.func20, Tryd.ntmps20
  go_wp2
  go_ret
  exact ⟨rfl, HO.out, HK.out⟩
set_option maxRecDepth 100000 in
set_option maxHeartbeats 1600000 in
theorem rframe_any (w : World) (k : Int) (v : Value) (bs : List UInt8) (hs : BSrc w v bs) (hl : bs.length ≤ 400000) :
    Calls Tryd.prog 12 #[.int .i64 k, v] w (PutPost w k bs) := by
  obtain ⟨a, c, rfl⟩ := hs.len
  obtain ⟨L, hL⟩ : ∃ L, bs.length = L := ⟨_, rfl⟩
  have HL := hid hL
  have HS := hid hs
  rw [hL] at hl HS ⊢
  clear hL hs
  by_cases hk0 : k < 0
  · go_enter Tryd.func12, Tryd.ntmps12
    go_wp2
    go_ret2
    exact ⟨Only.refl _ w, _, [], 1, rfl, .inl ⟨.inl hk0, rfl, rfl⟩, World.ownsRow_nil _ _ _ _⟩
  · by_cases hk1 : 255 < k
    · go_enter Tryd.func12, Tryd.ntmps12
      go_wp2
      go_ret2
      exact ⟨Only.refl _ w, _, [], 1, rfl, .inl ⟨.inr hk1, rfl, rfl⟩, World.ownsRow_nil _ _ _ _⟩
    · obtain ⟨K, rfl⟩ : ∃ K : Nat, k = (K : Int) := ⟨k.toNat, by omega⟩
      have hK : K < 256 := by omega
      clear hk0 hk1
      have k1 : Kept w (w.alloc (.cells #[.int .u8 (K : Int)] 5)) := (Only.refl _ w).alloc _
      have ho1 : (w.alloc (.cells #[.int .u8 (K : Int)] 5)).ownsRow w.heap.size 5 1 (.slice (some ⟨w.heap.size, 0, none⟩) 1 1) [UInt8.ofNat K].length ([UInt8.ofNat K].map bV) := by
        rw [List.map_cons, bV_ofNat hK]
        exact World.ownsRow_lit w #[.int .u8 (K : Int)] 1 (Nat.le_refl _) (by decide) rfl
      have hf1 := rfour_any (w.alloc (.cells #[.int .u8 (K : Int)] 5)) L (by omega)
      simp only [World.size_alloc] at hf1
      have HO1 := hid ho1
      have HK1 := hid k1
      clear k1 ho1
      go_enter Tryd.func12, Tryd.ntmps12
      go_wp2_with fail
      refine hf1.mono ?_
      rintro e w2 ⟨rfl, hf2, k12⟩
      have hk2 : Kept w w2 := HK1.out.trans k12 (fun _ _ f => f)
      obtain ⟨a3, cap3, w3, Hr3, ho3, hon3⟩ := row_app (ys := four L) (own_only HO1.out k12 (fun _ _ f => f)) hk2.size (own_src hf2) (by simp [four_len])
      have hk3 := only_kept hk2 (own_only HO1.out k12 (fun _ _ f => f)) (Nat.le_refl _) hon3
      have eh : [UInt8.ofNat K] ++ four L = headL K L := rfl
      rw [eh] at ho3
      simp only [List.length_cons, List.length_nil, four_len, Nat.zero_add, headL_len, Nat.reduceAdd] at Hr3 ho3
      have ho3' : w3.ownsRow w.heap.size 5 1 (.slice a3 5 cap3) (headL K L).length ((headL K L).map bV) := by rw [headL_len]; exact ho3
      -- a copy of the head, and the bytes behind it
      obtain ⟨a4, cap4, w4, Hr4, ho4, hon4⟩ := row_app (w := w3) (base := w3.heap.size) (v := .slice none 0 0) (xs := []) (ys := headL K L) (World.ownsRow_nil _ _ _ _) (Nat.le_refl _) (own_src ho3) (by simp [headL_len])
      have k34 : Kept w3 w4 := hon4.mono (fun _ _ h => by cases h)
      simp only [List.length_nil, Nat.zero_add, List.nil_append, headL_len] at Hr4 ho4
      have ho4' : w4.ownsRow w3.heap.size 5 1 (.slice a4 5 cap4) (headL K L).length ((headL K L).map bV) := by rw [headL_len]; exact ho4
      have hk4 : Kept w w4 := hk3.trans k34 (fun _ _ f => f)
      obtain ⟨a5, cap5, w5, Hr5, ho5, hon5⟩ := row_app ho4' k34.size (HS.out.stay hk4).1 (by rw [headL_len, HL.out]; omega)
      have k35 := only_kept k34 ho4' (Nat.le_refl _) hon5
      have hk5 : Kept w w5 := hk3.trans k35 (fun _ _ f => f)
      rw [headL_len, HL.out] at Hr5
      have hsum := rsum_any w5 _ (headL K L ++ bs) (own_src ho5) (by rw [List.length_append, headL_len, HL.out]; omega)
      rw [headL_len, HL.out] at hsum
      have HO5 := hid (own_only ho3' k35 (fun _ _ f => f))
      have HK5 := hid hk5
      have hsl := sumL_lt (headL K L ++ bs)
      obtain ⟨R, hR⟩ : ∃ R, sumL (headL K L ++ bs) = R := ⟨_, rfl⟩
      rw [hR] at hsum hsl
      have HR := hid hR
      have hf6 := rfour_any w5 R hsl
      clear hR hf1 hf2 k12 hk2 ho3 hon3 hk3 eh ho3' ho4 hon4 k34 ho4' hk4 ho5 hon5 k35 hk5 HO1 HK1
      go_wp2_with (at_builtin; first | refine wpList_append_run rfl _ _ _ rfl rfl rfl Hr3 ?_ | refine wpList_append_run rfl _ _ _ rfl rfl rfl Hr4 ?_ | refine wpList_append_run rfl _ _ _ rfl rfl rfl Hr5 ?_)
      refine hsum.mono ?_
      rintro e w5' ⟨rfl, hw⟩
      replace hw := hw.symm
      subst hw
      clear hsum Hr3 Hr4 Hr5
      go_wp2_with fail
      refine hf6.mono ?_
      rintro e w6 ⟨rfl, ho6, k56⟩
      have hk6 : Kept w w6 := HK5.out.trans k56 (fun _ _ f => f)
      have h6 := own_only HO5.out k56 (fun _ _ f => f)
      obtain ⟨a7, cap7, w7, Hr7, ho7, hon7⟩ := row_app (ys := four R) h6 hk6.size (own_src ho6) (by rw [headL_len, four_len]; decide)
      have hk7 := only_kept hk6 h6 (Nat.le_refl _) hon7
      obtain ⟨a8, cap8, w8, Hr8, ho8, hon8⟩ := row_app ho7 hk7.size (HS.out.stay hk7).1 (by rw [HL.out]; simp only [List.length_append, headL_len, four_len]; omega)
      have hk8 := only_kept hk7 ho7 (Nat.le_refl _) hon8
      have HF : Hid (Kept w w8 ∧ w8.ownsRow w.heap.size 5 1 (.slice a8 (9 + L) cap8) (frameL K bs).length ((frameL K bs).map bV)) := by
        refine ⟨hk8, ?_⟩
        have e1 : headL K L ++ four R ++ bs = frameL K bs := by
          unfold frameL
          rw [HL.out, HR.out, List.append_assoc]
        have e2 : (headL K L ++ four R).length + bs.length = 9 + L := by rw [List.length_append, headL_len, four_len, HL.out]
        rw [e1, e2] at ho8
        exact ho8
      rw [headL_len, four_len] at Hr7
      have Hr8' : Hid ((Builtin.append_ #[22, 22] 0 #[.slice a7 (5 + 4) cap7, .slice a L c]).run Tryd.prog w7 = .ok (.slice a8 (9 + L) cap8) w8) := by
        have := Hr8.out
        rw [List.length_append, headL_len, four_len, HL.out] at this
        exact this
      clear Hr8 hf6 ho6 k56 hk6 h6 ho7 hon7 hk7 ho8 hon8 hk8 HO5 HK5
      go_wp2_with (at_builtin; first | refine wpList_append_run rfl _ _ _ rfl rfl rfl Hr7 ?_ | refine wpList_append_run rfl _ _ _ rfl rfl rfl Hr8' ?_)
      go_ret2
      exact ⟨HF.out.1, _, frameL K bs, 0, rfl, .inr (.inr ⟨by omega, by omega, by rw [HL.out]; omega, by rw [Int.toNat_natCast], rfl⟩), HF.out.2⟩
end Go.Proofs.YtjohnomlhcncnaaDoor.G
