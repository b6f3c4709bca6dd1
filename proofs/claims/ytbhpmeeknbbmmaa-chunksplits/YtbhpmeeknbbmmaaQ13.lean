/-
  Wchange2.
-/
import Derived.Test.YtbhpmeeknbbmmaaQ12

/-
  A change that is laid down with its own window.
-/
namespace Go.Proofs.Ytbhpmeeknbbmmaa.V
open Go.RowKit Go.Proofs.Lys
set_option linter.unusedVariables false

theorem foot_not {w : World} {b B : Nat} {W : Win} {v : Value} {l : List Bool} {cs : List Value} (h : PkAt w b W v l) (hB : Blk w B cs 76) : ¬ Foot b v B := by
  rintro (e | e)
  · exact hB.ne h.blk (by decide) e
  · exact (own_typed h.own e).ne hB.typed (by decide) rfl
theorem pk_turn {w wr : World} {b : Nat} {W : Win} {v0 v : Value} {l : List Bool} (h : PkS w b v0 wr W v l) (Z T : Nat) :
    PkS w b v0 (((wr.setCell ⟨b, 0, none⟩ (.int .i64 (Z : Int))).setCell ⟨b, 1, none⟩ (.int .i64 (T : Int))).setCell ⟨b, 4, none⟩ (.bool true)) ⟨true, Z, T⟩ v l := by
  have k : Only (· = b) wr (((wr.setCell ⟨b, 0, none⟩ (.int .i64 (Z : Int))).setCell ⟨b, 1, none⟩ (.int .i64 (T : Int))).setCell ⟨b, 4, none⟩ (.bool true)) := (((Only.refl (· = b) wr).setCell (fun _ => rfl) _).setCell (fun _ => rfl) _).setCell (fun _ => rfl) _
  exact h.put ⟨((h.at_.blk.set 0 (.int .i64 (Z : Int))).set 1 (.int .i64 (T : Int))).set 4 (.bool true), own_only h.at_.own k (fun j hj e => h.at_.apart hj e)⟩ (k.mono (fun j _ e => .inl e)) (fun j hj => .inl hj)
def encN (Z T x : Nat) : List Bool := ((bitsL 3 2 ++ bitsL Z 5) ++ bitsL (63 - Z - T) 6) ++ bodyB Z T x

set_option maxRecDepth 100000 in
set_option maxHeartbeats 6400000 in
theorem change_new {w : World} {b z t : Nat} {o : Bool} {v : Value} {l : List Bool} (h : PkAt w b ⟨o, z, t⟩ v l) (hl : l.length ≤ 900000) (hzt : z + t < 64) {x : Nat} (hx : x < 18446744073709551616) (h0 : x ≠ 0) (hno : o = true → ¬ (z ≤ lead x ∧ t ≤ trail x)) :
    Calls Try.prog 40 #[.pointer (some ⟨b, 0, none⟩), .int .u64 (x : Int)] w fun e w' => e = .returned (.tuple #[]) ∧ ∃ v', PkS w b v w' ⟨true, lead x, trail x⟩ v' (l ++ encN (lead x) (trail x) x) := by
  have hx0 : ((x : Int) == 0) = false := by simp; omega
  have ha := around_any w x hx h0
  have hb := both_lt hx h0
  have hz31 := lead_le x
  have HX := hid hx
  obtain ⟨Z, hZ⟩ : ∃ Z, lead x = Z := ⟨_, rfl⟩
  obtain ⟨T, hT⟩ : ∃ T, trail x = T := ⟨_, rfl⟩
  rw [hZ, hT] at ha hb
  rw [hZ] at hz31
  rw [hZ, hT] at hno
  have HZ := hid hZ
  have HT := hid hT
  have H := hid h
  clear hZ hT h h0 hx
  go_enter Try.func40, Try.ntmps40
  go_wp2_with fail
  refine ha.mono ?_
  rintro e w1 ⟨rfl, k1⟩
  clear ha
  have HS : Hid (PkS w b v (w1.alloc (.cells #[.int .i64 (Z : Int), .int .i64 (T : Int)] 76)) ⟨o, z, t⟩ v l) := H.out.start.stay (k1.alloc _)
  have HO : Hid (Blk (w1.alloc (.cells #[.int .i64 (Z : Int), .int .i64 (T : Int)] 76)) w1.heap.size [.int .i64 (Z : Int), .int .i64 (T : Int)] 76) := Blk.new w1 _ _
  go_wp2_with fail
  generalize w1.alloc (.cells #[.int .i64 (Z : Int), .int .i64 (T : Int)] 76) = w2 at HS HO ⊢
  generalize w1.heap.size = B at HO ⊢
  have hY := shr_int x T
  obtain ⟨Y, hYe⟩ : ∃ Y, x >>> T = Y := ⟨_, rfl⟩
  rw [hYe] at hY
  have HY : Hid (uN (wrap64 (Y : Int)) = x >>> T) := by show _ = _; rw [← hYe]; exact uN_wrap64 (shr_lt T HX.out)
  clear hYe
  obtain ⟨C, hC⟩ : ∃ C, 64 - Z - T = C := ⟨_, rfl⟩
  have hC1 : 1 ≤ C := by omega
  have hC2 : C ≤ 64 := by omega
  have hCN : Hid (uN ((C : Int) - 1) = 63 - Z - T) := by show _ = _; unfold uN; omega
  have hCW : Hid (IntKind.i64.wrap ((C : Int) - 1) = (C : Int) - 1) := by
    show _ = _
    rw [wrap_is]
    unfold wrap64
    omega
  have hcount : Hid (∀ w, Calls Try.prog 57 #[.agg #[.int .i64 (Z : Int), .int .i64 (T : Int)]] w fun e w' => e = .returned (.int .i64 (C : Int)) ∧ Kept w w') := fun w => by
    have := count_any w Z T (by omega)
    rw [hC] at this
    exact this
  clear hC
  have hlenA : Hid ((l ++ bitsL (uN 3) 2).length ≤ 1000000) := by show _ ≤ _; simp only [List.length_append, bitsL_length]; omega
  have hlenB : Hid (((l ++ bitsL (uN 3) 2) ++ bitsL (uN (Z : Int)) 5).length ≤ 1000000) := by show _ ≤ _; simp only [List.length_append, bitsL_length]; omega
  have hlen9 : Hid ((((l ++ bitsL (uN 3) 2) ++ bitsL (uN (Z : Int)) 5) ++ bitsL (uN ((C : Int) - 1)) 6).length ≤ 1000000) := by show _ ≤ _; simp only [List.length_append, bitsL_length]; omega
  have c0 := HS.out.at_.blk.cell 0 rfl
  have c1 := HS.out.at_.blk.cell 1 rfl
  have c4 := HS.out.at_.blk.cell 4 rfl
  have d0 := HO.out.cell 0 rfl
  have d1 := HO.out.cell 1 rfl
  cases o with
  | false =>
    clear hno
    go_region
    clear c0 c1 c4 d0 d1
    have hk3 : Kept w2 w2.drew := (Only.refl (fun _ => False) w2).drew
    generalize w2.drew = w3 at hk3 ⊢
    have HO3 : Hid (Blk w3 B [.int .i64 (Z : Int), .int .i64 (T : Int)] 76) := hk3.blk HO.out (fun f => f)
    have HS3 := hid (HS.out.stay hk3)
    have c0 := HS3.out.at_.blk.cell 0 rfl
    have c1 := HS3.out.at_.blk.cell 1 rfl
    have c4 := HS3.out.at_.blk.cell 4 rfl
    have f0 := HS3.out.at_.blk.frozen 0
    have f1 := HS3.out.at_.blk.frozen 1
    have f4 := HS3.out.at_.blk.frozen 4
    have d0 := HO3.out.cell 0 rfl
    have d1 := HO3.out.cell 1 rfl
    have hbB : b ≠ B := fun e => (HS3.out.at_.blk.ne HO3.out (by decide)) e
    have HS5 : Hid (PkS w b v (((w3.setCell ⟨b, 0, none⟩ (.int .i64 (Z : Int))).setCell ⟨b, 1, none⟩ (.int .i64 (T : Int))).setCell ⟨b, 4, none⟩ (.bool true)) ⟨true, Z, T⟩ v l) := pk_turn HS3.out Z T
    have HO5 : Hid (Blk (((w3.setCell ⟨b, 0, none⟩ (.int .i64 (Z : Int))).setCell ⟨b, 1, none⟩ (.int .i64 (T : Int))).setCell ⟨b, 4, none⟩ (.bool true)) B [.int .i64 (Z : Int), .int .i64 (T : Int)] 76) := ((HO3.out.other (Ne.symm hbB) _).other (Ne.symm hbB) _).other (Ne.symm hbB) _
    go_wp2_with fail
    clear c0 c1 c4 f0 f1 f4 d0 d1
    generalize ((w3.setCell ⟨b, 0, none⟩ (.int .i64 (Z : Int))).setCell ⟨b, 1, none⟩ (.int .i64 (T : Int))).setCell ⟨b, 4, none⟩ (.bool true) = w5 at HS5 HO5 ⊢
    refine (pk_put HS5.out.at_ 3 2 2 (.inr (.inr ⟨rfl, by decide⟩)) (by omega)).mono ?_
    rintro e w6 ⟨rfl, v6, h6, k6, n6⟩
    have HS6 := hid (HS5.out.put h6 k6 n6)
    have HO6 : Hid (Blk w6 B [.int .i64 (Z : Int), .int .i64 (T : Int)] 76) := k6.blk HO5.out (foot_not HS5.out.at_ HO5.out)
    clear h6 k6 n6
    have d0 := HO6.out.cell 0 rfl
    go_wp2_with fail
    refine wp_region_noPanic ?_
    refine wp_region_last (L := 1000) (S := fun w' => w'.cell? ⟨B, 0, none⟩ = some (.int .i64 (Z : Int))) (by kernel_rfl) ?_
    have hS : (fun w' : World => w'.cell? ⟨B, 0, none⟩ = some (.int .i64 (Z : Int))) w6.drew := d0
    refine wpAnyN_take (i := 0) (v := .pointer (some ⟨b, 0, none⟩)) rfl (by kernel_rfl) (by kernel_rfl) (by kernel_rfl) (by decide) (by kernel_rfl) (fun _ _ _ h => h) (Or.inl ⟨by rfl, ?_⟩) hS ?_
    · (intro w' hSw; go_simp)
    go_frame
    refine wpAnyN_take (i := 1) (v := .pointer (some ⟨b, 0, none⟩)) rfl (by kernel_rfl) (by kernel_rfl) (by kernel_rfl) (by decide) (by kernel_rfl) (fun _ _ _ h => h) (Or.inl ⟨by rfl, ?_⟩) hS ?_
    · (intro w' hSw; go_simp)
    go_frame
    refine wpAnyN_take (i := 2) (v := .pointer (some ⟨b, 2, none⟩)) rfl (by kernel_rfl) (by kernel_rfl) (by kernel_rfl) (by decide) (by kernel_rfl) (fun _ _ _ h => h) (Or.inl ⟨by rfl, ?_⟩) hS ?_
    · (intro w' hSw; go_simp)
    go_frame
    refine wpAnyN_take (i := 3) (v := .pointer (some ⟨B, 0, none⟩)) rfl (by kernel_rfl) (by kernel_rfl) (by kernel_rfl) (by decide) (by kernel_rfl) (fun _ _ _ h => h) (Or.inl ⟨by rfl, ?_⟩) hS ?_
    · (intro w' hSw; go_simp)
    go_frame
    refine wpAnyN_take (i := 4) (v := .int .i64 (Z : Int)) rfl (by kernel_rfl) (by kernel_rfl) (by kernel_rfl) (by decide) (by kernel_rfl) (fun _ _ _ h => h) (Or.inl ⟨by rfl, ?_⟩) hS ?_
    · (intro w' hSw; go_simp)
    go_frame
    refine wpAnyL_one (i := 5) (by kernel_rfl) rfl rfl ?_
    go_simp
    refine (pk_put (HS6.out.stay (Only.refl (fun _ => False) w6).drew).at_ (Z : Int) 5 5 (.inr (.inr ⟨rfl, by decide⟩)) hlenA.out).mono ?_
    rintro e w7 ⟨rfl, v7, h7, k7, n7⟩
    have HS7 := hid ((HS6.out.stay (Only.refl (fun _ => False) w6).drew).put h7 k7 n7)
    have HO7 : Hid (Blk w7 B [.int .i64 (Z : Int), .int .i64 (T : Int)] 76) := k7.blk HO6.out (foot_not HS6.out.at_ HO6.out)
    refine ⟨HO7.out.cell 0 rfl, ?_⟩
    refine wpAnyN_done (by kernel_rfl) ?_
    refine NoPanic.normal ?_
    clear hS
    clear h7 k7 n7 d0
    have d0 := HO7.out.cell 0 rfl
    have d1 := HO7.out.cell 1 rfl
    go_wp2_with fail
    refine wp_region_noPanic ?_
    refine wp_region_last (L := 1000) (S := fun w' => w'.cell? ⟨B, 0, none⟩ = some (.int .i64 (Z : Int)) ∧ w'.cell? ⟨B, 1, none⟩ = some (.int .i64 (T : Int))) (by kernel_rfl) ?_
    have hS : (fun w' : World => w'.cell? ⟨B, 0, none⟩ = some (.int .i64 (Z : Int)) ∧ w'.cell? ⟨B, 1, none⟩ = some (.int .i64 (T : Int))) w7.drew := ⟨d0, d1⟩
    refine wpAnyN_take (i := 0) (v := .pointer (some ⟨b, 0, none⟩)) rfl (by kernel_rfl) (by kernel_rfl) (by kernel_rfl) (by decide) (by kernel_rfl) (fun _ _ _ h => h) (Or.inl ⟨by rfl, ?_⟩) hS ?_
    · (intro w' hSw; go_simp)
    go_frame
    refine wpAnyN_take (i := 1) (v := .pointer (some ⟨b, 0, none⟩)) rfl (by kernel_rfl) (by kernel_rfl) (by kernel_rfl) (by decide) (by kernel_rfl) (fun _ _ _ h => h) (Or.inl ⟨by rfl, ?_⟩) hS ?_
    · (intro w' hSw; go_simp)
    go_frame
    refine wpAnyN_take (i := 2) (v := .pointer (some ⟨b, 2, none⟩)) rfl (by kernel_rfl) (by kernel_rfl) (by kernel_rfl) (by decide) (by kernel_rfl) (fun _ _ _ h => h) (Or.inl ⟨by rfl, ?_⟩) hS ?_
    · (intro w' hSw; go_simp)
    go_frame
    refine wpAnyN_take (i := 3) (v := .agg #[.int .i64 (Z : Int), .int .i64 (T : Int)]) rfl (by kernel_rfl) (by kernel_rfl) (by kernel_rfl) (by decide) (by kernel_rfl) (fun _ _ _ h => h) (Or.inl ⟨by rfl, ?_⟩) hS ?_
    · (intro w' hSw; go_simp)
    go_frame
    refine wpAnyL_one (i := 4) (by kernel_rfl) rfl rfl ?_
    go_simp
    refine (hcount.out _).mono ?_
    rintro e w8 ⟨rfl, k8⟩
    have hk8 : Kept w7 w8 := (Only.refl (fun _ => False) w7).drew.trans k8 (fun _ _ f => f)
    have HS8 := hid (HS7.out.stay hk8)
    have HO8 : Hid (Blk w8 B [.int .i64 (Z : Int), .int .i64 (T : Int)] 76) := hk8.blk HO7.out (fun f => f)
    refine ⟨⟨HO8.out.cell 0 rfl, HO8.out.cell 1 rfl⟩, ?_⟩
    refine wpAnyL_one (i := 5) (by kernel_rfl) rfl rfl ?_
    go_simp
    refine ⟨⟨HO8.out.cell 0 rfl, HO8.out.cell 1 rfl⟩, ?_⟩
    refine wpAnyL_one (i := 6) (by kernel_rfl) rfl rfl ?_
    go_simp
    rw [hCW.out]
    refine (pk_put HS8.out.at_ ((C : Int) - 1) 6 6 (.inr (.inr ⟨rfl, by decide⟩)) hlenB.out).mono ?_
    rintro e w81 ⟨rfl, v81, h81, k81, n81⟩
    have HS81 := hid (HS8.out.put h81 k81 n81)
    have HO81 : Hid (Blk w81 B [.int .i64 (Z : Int), .int .i64 (T : Int)] 76) := k81.blk HO8.out (foot_not HS8.out.at_ HO8.out)
    refine ⟨⟨HO81.out.cell 0 rfl, HO81.out.cell 1 rfl⟩, ?_⟩
    refine wpAnyN_done (by kernel_rfl) ?_
    refine NoPanic.normal ?_
    clear hS
    clear h81 k81 n81 d0 d1 k8 hk8
    have c0 := HS81.out.at_.blk.cell 0 rfl
    have c1 := HS81.out.at_.blk.cell 1 rfl
    go_wp2_with fail
    refine wp_region_noPanic ?_
    refine wp_region_last (L := 1000) (S := fun w' => w'.cell? ⟨b, 0, none⟩ = some (.int .i64 (Z : Int)) ∧ w'.cell? ⟨b, 1, none⟩ = some (.int .i64 (T : Int))) (by kernel_rfl) ?_
    have hS : (fun w' : World => w'.cell? ⟨b, 0, none⟩ = some (.int .i64 (Z : Int)) ∧ w'.cell? ⟨b, 1, none⟩ = some (.int .i64 (T : Int))) w81.drew := ⟨c0, c1⟩
    refine wpAnyN_take (i := 0) (v := .pointer (some ⟨b, 0, none⟩)) rfl (by kernel_rfl) (by kernel_rfl) (by kernel_rfl) (by decide) (by kernel_rfl) (fun _ _ _ h => h) (Or.inl ⟨by rfl, ?_⟩) hS ?_
    · (intro w' hSw; go_simp)
    go_frame
    refine wpAnyN_take (i := 1) (v := .pointer (some ⟨b, 0, none⟩)) rfl (by kernel_rfl) (by kernel_rfl) (by kernel_rfl) (by decide) (by kernel_rfl) (fun _ _ _ h => h) (Or.inl ⟨by rfl, ?_⟩) hS ?_
    · (intro w' hSw; go_simp)
    go_frame
    refine wpAnyN_take (i := 2) (v := .pointer (some ⟨b, 2, none⟩)) rfl (by kernel_rfl) (by kernel_rfl) (by kernel_rfl) (by decide) (by kernel_rfl) (fun _ _ _ h => h) (Or.inl ⟨by rfl, ?_⟩) hS ?_
    · (intro w' hSw; go_simp)
    go_frame
    refine wpAnyN_take (i := 3) (v := .int .u64 (x : Int)) rfl (by kernel_rfl) (by kernel_rfl) (by kernel_rfl) (by decide) (by kernel_rfl) (fun _ _ _ h => h) (Or.inl ⟨by rfl, ?_⟩) hS ?_
    · (intro w' hSw; go_simp)
    go_frame
    refine wpAnyN_take (i := 4) (v := .pointer (some ⟨b, 0, none⟩)) rfl (by kernel_rfl) (by kernel_rfl) (by kernel_rfl) (by decide) (by kernel_rfl) (fun _ _ _ h => h) (Or.inl ⟨by rfl, ?_⟩) hS ?_
    · (intro w' hSw; go_simp)
    go_frame
    refine wpAnyN_take (i := 5) (v := .pointer (some ⟨b, 0, none⟩)) rfl (by kernel_rfl) (by kernel_rfl) (by kernel_rfl) (by decide) (by kernel_rfl) (fun _ _ _ h => h) (Or.inl ⟨by rfl, ?_⟩) hS ?_
    · (intro w' hSw; go_simp)
    go_frame
    refine wpAnyN_take (i := 6) (v := .pointer (some ⟨b, 0, none⟩)) rfl (by kernel_rfl) (by kernel_rfl) (by kernel_rfl) (by decide) (by kernel_rfl) (fun _ _ _ h => h) (Or.inl ⟨by rfl, ?_⟩) hS ?_
    · (intro w' hSw; go_simp)
    go_frame
    refine wpAnyN_take (i := 7) (v := .pointer (some ⟨b, 1, none⟩)) rfl (by kernel_rfl) (by kernel_rfl) (by kernel_rfl) (by decide) (by kernel_rfl) (fun _ _ _ h => h) (Or.inl ⟨by rfl, ?_⟩) hS ?_
    · (intro w' hSw; go_simp)
    go_frame
    refine wpAnyN_take (i := 8) (v := .int .i64 (T : Int)) rfl (by kernel_rfl) (by kernel_rfl) (by kernel_rfl) (by decide) (by kernel_rfl) (fun _ _ _ h => h) (Or.inl ⟨by rfl, ?_⟩) hS ?_
    · (intro w' hSw; go_simp)
    go_frame
    refine wpAnyN_take (i := 9) (v := .int .u64 (Y : Int)) rfl (by kernel_rfl) (by kernel_rfl) (by kernel_rfl) (by decide) (by kernel_rfl) (fun _ _ _ h => h) (Or.inl ⟨by rfl, ?_⟩) hS ?_
    · (intro w' hSw; go_simp)
    go_frame
    refine wpAnyN_take (i := 10) (v := .int .i64 (wrap64 (Y : Int))) rfl (by kernel_rfl) (by kernel_rfl) (by kernel_rfl) (by decide) (by kernel_rfl) (fun _ _ _ h => h) (Or.inl ⟨by rfl, ?_⟩) hS ?_
    · (intro w' hSw; go_simp; exact wrap_is _)
    go_frame
    refine wpAnyN_take (i := 11) (v := .pointer (some ⟨b, 0, none⟩)) rfl (by kernel_rfl) (by kernel_rfl) (by kernel_rfl) (by decide) (by kernel_rfl) (fun _ _ _ h => h) (Or.inl ⟨by rfl, ?_⟩) hS ?_
    · (intro w' hSw; go_simp)
    go_frame
    refine wpAnyN_take (i := 12) (v := .pointer (some ⟨b, 0, none⟩)) rfl (by kernel_rfl) (by kernel_rfl) (by kernel_rfl) (by decide) (by kernel_rfl) (fun _ _ _ h => h) (Or.inl ⟨by rfl, ?_⟩) hS ?_
    · (intro w' hSw; go_simp)
    go_frame
    refine wpAnyN_take (i := 13) (v := .pointer (some ⟨b, 0, none⟩)) rfl (by kernel_rfl) (by kernel_rfl) (by kernel_rfl) (by decide) (by kernel_rfl) (fun _ _ _ h => h) (Or.inl ⟨by rfl, ?_⟩) hS ?_
    · (intro w' hSw; go_simp)
    go_frame
    refine wpAnyN_take (i := 14) (v := .agg #[.int .i64 (Z : Int), .int .i64 (T : Int)]) rfl (by kernel_rfl) (by kernel_rfl) (by kernel_rfl) (by decide) (by kernel_rfl) (fun _ _ _ h => h) (Or.inl ⟨by rfl, ?_⟩) hS ?_
    · (intro w' hSw; go_simp)
    go_frame
    refine wpAnyL_one (i := 15) (by kernel_rfl) rfl rfl ?_
    go_simp
    refine (count_any _ Z T (by omega)).mono ?_
    rintro e w9 ⟨rfl, k9⟩
    have HS9 := hid (HS81.out.stay ((Only.refl (fun _ => False) w81).drew.trans k9 (fun _ _ f => f)))
    refine ⟨⟨HS9.out.at_.blk.cell 0 rfl, HS9.out.at_.blk.cell 1 rfl⟩, ?_⟩
    refine wpAnyL_one (i := 16) (by kernel_rfl) rfl rfl ?_
    go_simp
    refine (pk_put HS9.out.at_ (wrap64 (Y : Int)) _ (64 - Z - T) (.inr (.inr ⟨rfl, by omega⟩)) hlen9.out).mono ?_
    rintro e w91 ⟨rfl, v91, h91, k91, n91⟩
    have HE := hid (HS9.out.put h91 k91 n91)
    refine ⟨⟨HE.out.at_.blk.cell 0 rfl, HE.out.at_.blk.cell 1 rfl⟩, ?_⟩
    refine wpAnyN_done (by kernel_rfl) ?_
    refine NoPanic.normal ?_
    clear hS
    go_wp2_with fail
    (try simp only [Exit.inBlock, Exit.then])
    go_end0
    have h10 := HE.out
    rw [HY.out, uN3, uN_nat (n := Z) (by omega), hCN.out] at h10
    have e10 : (((l ++ bitsL 3 2) ++ bitsL Z 5) ++ bitsL (63 - Z - T) 6) ++ bitsL (x >>> T) (64 - Z - T) = l ++ encN Z T x := by
      unfold encN bodyB
      simp only [List.append_assoc]
    rw [e10] at h10
    rw [HZ.out, HT.out]
    exact ⟨rfl, v91, h10⟩
  | true =>
    have hhold : Hid (∀ w, Calls Try.prog 56 #[.agg #[.int .i64 (z : Int), .int .i64 (t : Int)], .agg #[.int .i64 (Z : Int), .int .i64 (T : Int)]] w fun e w' => e = .returned (.bool false) ∧ Kept w w') := fun w => by
      have := holds_any w z t Z T (by omega) (by omega) (by omega) (by omega)
      rw [show decide (z ≤ Z ∧ t ≤ T) = false by simp only [hno rfl, decide_false]] at this
      exact this
    clear hno
    go_region_with (go_at_call 56; refine (hhold.out _).mono ?_; rintro e w3 ⟨rfl, k3⟩)
    all_goals
      clear c0 c1 c4 d0 d1
      have hk3 : Kept w2 w3 := (Only.refl (fun _ => False) w2).drew.trans k3 (fun _ _ f => f)
      have HO3 : Hid (Blk w3 B [.int .i64 (Z : Int), .int .i64 (T : Int)] 76) := hk3.blk HO.out (fun f => f)
      have HS3 := hid (HS.out.stay hk3)
      have c0 := HS3.out.at_.blk.cell 0 rfl
      have c1 := HS3.out.at_.blk.cell 1 rfl
      have c4 := HS3.out.at_.blk.cell 4 rfl
      have f0 := HS3.out.at_.blk.frozen 0
      have f1 := HS3.out.at_.blk.frozen 1
      have f4 := HS3.out.at_.blk.frozen 4
      have d0 := HO3.out.cell 0 rfl
      have d1 := HO3.out.cell 1 rfl
      have hbB : b ≠ B := fun e => (HS3.out.at_.blk.ne HO3.out (by decide)) e
      have HS5 : Hid (PkS w b v (((w3.setCell ⟨b, 0, none⟩ (.int .i64 (Z : Int))).setCell ⟨b, 1, none⟩ (.int .i64 (T : Int))).setCell ⟨b, 4, none⟩ (.bool true)) ⟨true, Z, T⟩ v l) := pk_turn HS3.out Z T
      have HO5 : Hid (Blk (((w3.setCell ⟨b, 0, none⟩ (.int .i64 (Z : Int))).setCell ⟨b, 1, none⟩ (.int .i64 (T : Int))).setCell ⟨b, 4, none⟩ (.bool true)) B [.int .i64 (Z : Int), .int .i64 (T : Int)] 76) := ((HO3.out.other (Ne.symm hbB) _).other (Ne.symm hbB) _).other (Ne.symm hbB) _
      go_wp2_with fail
      clear c0 c1 c4 f0 f1 f4 d0 d1
      generalize ((w3.setCell ⟨b, 0, none⟩ (.int .i64 (Z : Int))).setCell ⟨b, 1, none⟩ (.int .i64 (T : Int))).setCell ⟨b, 4, none⟩ (.bool true) = w5 at HS5 HO5 ⊢
      refine (pk_put HS5.out.at_ 3 2 2 (.inr (.inr ⟨rfl, by decide⟩)) (by omega)).mono ?_
      rintro e w6 ⟨rfl, v6, h6, k6, n6⟩
      have HS6 := hid (HS5.out.put h6 k6 n6)
      have HO6 : Hid (Blk w6 B [.int .i64 (Z : Int), .int .i64 (T : Int)] 76) := k6.blk HO5.out (foot_not HS5.out.at_ HO5.out)
      clear h6 k6 n6
      have d0 := HO6.out.cell 0 rfl
      go_wp2_with fail
      refine wp_region_noPanic ?_
      refine wp_region_last (L := 1000) (S := fun w' => w'.cell? ⟨B, 0, none⟩ = some (.int .i64 (Z : Int))) (by kernel_rfl) ?_
      have hS : (fun w' : World => w'.cell? ⟨B, 0, none⟩ = some (.int .i64 (Z : Int))) w6.drew := d0
      refine wpAnyN_take (i := 0) (v := .pointer (some ⟨b, 0, none⟩)) rfl (by kernel_rfl) (by kernel_rfl) (by kernel_rfl) (by decide) (by kernel_rfl) (fun _ _ _ h => h) (Or.inl ⟨by rfl, ?_⟩) hS ?_
      · (intro w' hSw; go_simp)
      go_frame
      refine wpAnyN_take (i := 1) (v := .pointer (some ⟨b, 0, none⟩)) rfl (by kernel_rfl) (by kernel_rfl) (by kernel_rfl) (by decide) (by kernel_rfl) (fun _ _ _ h => h) (Or.inl ⟨by rfl, ?_⟩) hS ?_
      · (intro w' hSw; go_simp)
      go_frame
      refine wpAnyN_take (i := 2) (v := .pointer (some ⟨b, 2, none⟩)) rfl (by kernel_rfl) (by kernel_rfl) (by kernel_rfl) (by decide) (by kernel_rfl) (fun _ _ _ h => h) (Or.inl ⟨by rfl, ?_⟩) hS ?_
      · (intro w' hSw; go_simp)
      go_frame
      refine wpAnyN_take (i := 3) (v := .pointer (some ⟨B, 0, none⟩)) rfl (by kernel_rfl) (by kernel_rfl) (by kernel_rfl) (by decide) (by kernel_rfl) (fun _ _ _ h => h) (Or.inl ⟨by rfl, ?_⟩) hS ?_
      · (intro w' hSw; go_simp)
      go_frame
      refine wpAnyN_take (i := 4) (v := .int .i64 (Z : Int)) rfl (by kernel_rfl) (by kernel_rfl) (by kernel_rfl) (by decide) (by kernel_rfl) (fun _ _ _ h => h) (Or.inl ⟨by rfl, ?_⟩) hS ?_
      · (intro w' hSw; go_simp)
      go_frame
      refine wpAnyL_one (i := 5) (by kernel_rfl) rfl rfl ?_
      go_simp
      refine (pk_put (HS6.out.stay (Only.refl (fun _ => False) w6).drew).at_ (Z : Int) 5 5 (.inr (.inr ⟨rfl, by decide⟩)) hlenA.out).mono ?_
      rintro e w7 ⟨rfl, v7, h7, k7, n7⟩
      have HS7 := hid ((HS6.out.stay (Only.refl (fun _ => False) w6).drew).put h7 k7 n7)
      have HO7 : Hid (Blk w7 B [.int .i64 (Z : Int), .int .i64 (T : Int)] 76) := k7.blk HO6.out (foot_not HS6.out.at_ HO6.out)
      refine ⟨HO7.out.cell 0 rfl, ?_⟩
      refine wpAnyN_done (by kernel_rfl) ?_
      refine NoPanic.normal ?_
      clear hS
      clear h7 k7 n7 d0
      have d0 := HO7.out.cell 0 rfl
      have d1 := HO7.out.cell 1 rfl
      go_wp2_with fail
      refine wp_region_noPanic ?_
      refine wp_region_last (L := 1000) (S := fun w' => w'.cell? ⟨B, 0, none⟩ = some (.int .i64 (Z : Int)) ∧ w'.cell? ⟨B, 1, none⟩ = some (.int .i64 (T : Int))) (by kernel_rfl) ?_
      have hS : (fun w' : World => w'.cell? ⟨B, 0, none⟩ = some (.int .i64 (Z : Int)) ∧ w'.cell? ⟨B, 1, none⟩ = some (.int .i64 (T : Int))) w7.drew := ⟨d0, d1⟩
      refine wpAnyN_take (i := 0) (v := .pointer (some ⟨b, 0, none⟩)) rfl (by kernel_rfl) (by kernel_rfl) (by kernel_rfl) (by decide) (by kernel_rfl) (fun _ _ _ h => h) (Or.inl ⟨by rfl, ?_⟩) hS ?_
      · (intro w' hSw; go_simp)
      go_frame
      refine wpAnyN_take (i := 1) (v := .pointer (some ⟨b, 0, none⟩)) rfl (by kernel_rfl) (by kernel_rfl) (by kernel_rfl) (by decide) (by kernel_rfl) (fun _ _ _ h => h) (Or.inl ⟨by rfl, ?_⟩) hS ?_
      · (intro w' hSw; go_simp)
      go_frame
      refine wpAnyN_take (i := 2) (v := .pointer (some ⟨b, 2, none⟩)) rfl (by kernel_rfl) (by kernel_rfl) (by kernel_rfl) (by decide) (by kernel_rfl) (fun _ _ _ h => h) (Or.inl ⟨by rfl, ?_⟩) hS ?_
      · (intro w' hSw; go_simp)
      go_frame
      refine wpAnyN_take (i := 3) (v := .agg #[.int .i64 (Z : Int), .int .i64 (T : Int)]) rfl (by kernel_rfl) (by kernel_rfl) (by kernel_rfl) (by decide) (by kernel_rfl) (fun _ _ _ h => h) (Or.inl ⟨by rfl, ?_⟩) hS ?_
      · (intro w' hSw; go_simp)
      go_frame
      refine wpAnyL_one (i := 4) (by kernel_rfl) rfl rfl ?_
      go_simp
      refine (hcount.out _).mono ?_
      rintro e w8 ⟨rfl, k8⟩
      have hk8 : Kept w7 w8 := (Only.refl (fun _ => False) w7).drew.trans k8 (fun _ _ f => f)
      have HS8 := hid (HS7.out.stay hk8)
      have HO8 : Hid (Blk w8 B [.int .i64 (Z : Int), .int .i64 (T : Int)] 76) := hk8.blk HO7.out (fun f => f)
      refine ⟨⟨HO8.out.cell 0 rfl, HO8.out.cell 1 rfl⟩, ?_⟩
      refine wpAnyL_one (i := 5) (by kernel_rfl) rfl rfl ?_
      go_simp
      refine ⟨⟨HO8.out.cell 0 rfl, HO8.out.cell 1 rfl⟩, ?_⟩
      refine wpAnyL_one (i := 6) (by kernel_rfl) rfl rfl ?_
      go_simp
      rw [hCW.out]
      refine (pk_put HS8.out.at_ ((C : Int) - 1) 6 6 (.inr (.inr ⟨rfl, by decide⟩)) hlenB.out).mono ?_
      rintro e w81 ⟨rfl, v81, h81, k81, n81⟩
      have HS81 := hid (HS8.out.put h81 k81 n81)
      have HO81 : Hid (Blk w81 B [.int .i64 (Z : Int), .int .i64 (T : Int)] 76) := k81.blk HO8.out (foot_not HS8.out.at_ HO8.out)
      refine ⟨⟨HO81.out.cell 0 rfl, HO81.out.cell 1 rfl⟩, ?_⟩
      refine wpAnyN_done (by kernel_rfl) ?_
      refine NoPanic.normal ?_
      clear hS
      clear h81 k81 n81 d0 d1 k8 hk8
      have c0 := HS81.out.at_.blk.cell 0 rfl
      have c1 := HS81.out.at_.blk.cell 1 rfl
      go_wp2_with fail
      refine wp_region_noPanic ?_
      refine wp_region_last (L := 1000) (S := fun w' => w'.cell? ⟨b, 0, none⟩ = some (.int .i64 (Z : Int)) ∧ w'.cell? ⟨b, 1, none⟩ = some (.int .i64 (T : Int))) (by kernel_rfl) ?_
      have hS : (fun w' : World => w'.cell? ⟨b, 0, none⟩ = some (.int .i64 (Z : Int)) ∧ w'.cell? ⟨b, 1, none⟩ = some (.int .i64 (T : Int))) w81.drew := ⟨c0, c1⟩
      refine wpAnyN_take (i := 0) (v := .pointer (some ⟨b, 0, none⟩)) rfl (by kernel_rfl) (by kernel_rfl) (by kernel_rfl) (by decide) (by kernel_rfl) (fun _ _ _ h => h) (Or.inl ⟨by rfl, ?_⟩) hS ?_
      · (intro w' hSw; go_simp)
      go_frame
      refine wpAnyN_take (i := 1) (v := .pointer (some ⟨b, 0, none⟩)) rfl (by kernel_rfl) (by kernel_rfl) (by kernel_rfl) (by decide) (by kernel_rfl) (fun _ _ _ h => h) (Or.inl ⟨by rfl, ?_⟩) hS ?_
      · (intro w' hSw; go_simp)
      go_frame
      refine wpAnyN_take (i := 2) (v := .pointer (some ⟨b, 2, none⟩)) rfl (by kernel_rfl) (by kernel_rfl) (by kernel_rfl) (by decide) (by kernel_rfl) (fun _ _ _ h => h) (Or.inl ⟨by rfl, ?_⟩) hS ?_
      · (intro w' hSw; go_simp)
      go_frame
      refine wpAnyN_take (i := 3) (v := .int .u64 (x : Int)) rfl (by kernel_rfl) (by kernel_rfl) (by kernel_rfl) (by decide) (by kernel_rfl) (fun _ _ _ h => h) (Or.inl ⟨by rfl, ?_⟩) hS ?_
      · (intro w' hSw; go_simp)
      go_frame
      refine wpAnyN_take (i := 4) (v := .pointer (some ⟨b, 0, none⟩)) rfl (by kernel_rfl) (by kernel_rfl) (by kernel_rfl) (by decide) (by kernel_rfl) (fun _ _ _ h => h) (Or.inl ⟨by rfl, ?_⟩) hS ?_
      · (intro w' hSw; go_simp)
      go_frame
      refine wpAnyN_take (i := 5) (v := .pointer (some ⟨b, 0, none⟩)) rfl (by kernel_rfl) (by kernel_rfl) (by kernel_rfl) (by decide) (by kernel_rfl) (fun _ _ _ h => h) (Or.inl ⟨by rfl, ?_⟩) hS ?_
      · (intro w' hSw; go_simp)
      go_frame
      refine wpAnyN_take (i := 6) (v := .pointer (some ⟨b, 0, none⟩)) rfl (by kernel_rfl) (by kernel_rfl) (by kernel_rfl) (by decide) (by kernel_rfl) (fun _ _ _ h => h) (Or.inl ⟨by rfl, ?_⟩) hS ?_
      · (intro w' hSw; go_simp)
      go_frame
      refine wpAnyN_take (i := 7) (v := .pointer (some ⟨b, 1, none⟩)) rfl (by kernel_rfl) (by kernel_rfl) (by kernel_rfl) (by decide) (by kernel_rfl) (fun _ _ _ h => h) (Or.inl ⟨by rfl, ?_⟩) hS ?_
      · (intro w' hSw; go_simp)
      go_frame
      refine wpAnyN_take (i := 8) (v := .int .i64 (T : Int)) rfl (by kernel_rfl) (by kernel_rfl) (by kernel_rfl) (by decide) (by kernel_rfl) (fun _ _ _ h => h) (Or.inl ⟨by rfl, ?_⟩) hS ?_
      · (intro w' hSw; go_simp)
      go_frame
      refine wpAnyN_take (i := 9) (v := .int .u64 (Y : Int)) rfl (by kernel_rfl) (by kernel_rfl) (by kernel_rfl) (by decide) (by kernel_rfl) (fun _ _ _ h => h) (Or.inl ⟨by rfl, ?_⟩) hS ?_
      · (intro w' hSw; go_simp)
      go_frame
      refine wpAnyN_take (i := 10) (v := .int .i64 (wrap64 (Y : Int))) rfl (by kernel_rfl) (by kernel_rfl) (by kernel_rfl) (by decide) (by kernel_rfl) (fun _ _ _ h => h) (Or.inl ⟨by rfl, ?_⟩) hS ?_
      · (intro w' hSw; go_simp; exact wrap_is _)
      go_frame
      refine wpAnyN_take (i := 11) (v := .pointer (some ⟨b, 0, none⟩)) rfl (by kernel_rfl) (by kernel_rfl) (by kernel_rfl) (by decide) (by kernel_rfl) (fun _ _ _ h => h) (Or.inl ⟨by rfl, ?_⟩) hS ?_
      · (intro w' hSw; go_simp)
      go_frame
      refine wpAnyN_take (i := 12) (v := .pointer (some ⟨b, 0, none⟩)) rfl (by kernel_rfl) (by kernel_rfl) (by kernel_rfl) (by decide) (by kernel_rfl) (fun _ _ _ h => h) (Or.inl ⟨by rfl, ?_⟩) hS ?_
      · (intro w' hSw; go_simp)
      go_frame
      refine wpAnyN_take (i := 13) (v := .pointer (some ⟨b, 0, none⟩)) rfl (by kernel_rfl) (by kernel_rfl) (by kernel_rfl) (by decide) (by kernel_rfl) (fun _ _ _ h => h) (Or.inl ⟨by rfl, ?_⟩) hS ?_
      · (intro w' hSw; go_simp)
      go_frame
      refine wpAnyN_take (i := 14) (v := .agg #[.int .i64 (Z : Int), .int .i64 (T : Int)]) rfl (by kernel_rfl) (by kernel_rfl) (by kernel_rfl) (by decide) (by kernel_rfl) (fun _ _ _ h => h) (Or.inl ⟨by rfl, ?_⟩) hS ?_
      · (intro w' hSw; go_simp)
      go_frame
      refine wpAnyL_one (i := 15) (by kernel_rfl) rfl rfl ?_
      go_simp
      refine (count_any _ Z T (by omega)).mono ?_
      rintro e w9 ⟨rfl, k9⟩
      have HS9 := hid (HS81.out.stay ((Only.refl (fun _ => False) w81).drew.trans k9 (fun _ _ f => f)))
      refine ⟨⟨HS9.out.at_.blk.cell 0 rfl, HS9.out.at_.blk.cell 1 rfl⟩, ?_⟩
      refine wpAnyL_one (i := 16) (by kernel_rfl) rfl rfl ?_
      go_simp
      refine (pk_put HS9.out.at_ (wrap64 (Y : Int)) _ (64 - Z - T) (.inr (.inr ⟨rfl, by omega⟩)) hlen9.out).mono ?_
      rintro e w91 ⟨rfl, v91, h91, k91, n91⟩
      have HE := hid (HS9.out.put h91 k91 n91)
      refine ⟨⟨HE.out.at_.blk.cell 0 rfl, HE.out.at_.blk.cell 1 rfl⟩, ?_⟩
      refine wpAnyN_done (by kernel_rfl) ?_
      refine NoPanic.normal ?_
      clear hS
      go_wp2_with fail
      (try simp only [Exit.inBlock, Exit.then])
      go_end0
      have h10 := HE.out
      rw [HY.out, uN3, uN_nat (n := Z) (by omega), hCN.out] at h10
      have e10 : (((l ++ bitsL 3 2) ++ bitsL Z 5) ++ bitsL (63 - Z - T) 6) ++ bitsL (x >>> T) (64 - Z - T) = l ++ encN Z T x := by
        unfold encN bodyB
        simp only [List.append_assoc]
      rw [e10] at h10
      rw [HZ.out, HT.out]
      exact ⟨rfl, v91, h10⟩
end Go.Proofs.Ytbhpmeeknbbmmaa.V
