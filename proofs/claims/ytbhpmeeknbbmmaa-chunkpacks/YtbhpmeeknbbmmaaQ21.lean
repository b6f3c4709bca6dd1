/-
  Wuchg.
-/
import Derived.Test.YtbhpmeeknbbmmaaQ20

/-
  A reader of numbers: a change that is read.
-/
namespace Go.Proofs.Ytbhpmeeknbbmmaa.V
open Go.RowKit Go.Proofs.Lys
set_option linter.unusedVariables false

theorem shl_int (V t : Nat) : IntKind.u64.wrap ((V : Int) * 2 ^ t) = (((V <<< t) % 18446744073709551616 : Nat) : Int) := by
  rw [Nat.shiftLeft_eq]
  have e1 : (V : Int) * 2 ^ t = ((V * 2 ^ t : Nat) : Int) := by simp
  rw [e1]
  simp [IntKind.wrap, IntKind.bits, IntKind.signed]
theorem drop_bit (l : List Bool) (t : Nat) : (t + 1 ≤ l.length ∧ ∃ a : Bool, l.drop t = a :: l.drop (t + 1) ∧ valL ((l.drop t).take 1) = a.toNat) ∨ (l.length ≤ t ∧ l.drop t = []) := by
  by_cases h : t < l.length
  · refine .inl ⟨h, l[t], List.drop_eq_getElem_cons h, ?_⟩
    rw [List.drop_eq_getElem_cons h, List.take_succ_cons, List.take_zero]
    cases l[t] <;> decide +kernel
  · exact .inr ⟨by omega, List.drop_eq_nil_of_le (by omega)⟩

/-- What change leaves. -/
def ChgPost (w : World) (b r z t : Nat) (v : Value) (bs : List UInt8) (n : Nat) (e : Ending) (w' : World) : Prop :=
  Only (Foo b r) w w' ∧ ((chgR z t ((unpackL bs).drop n) = none ∧ e = tooFew) ∨
    ∃ X z' t' n', chgR z t ((unpackL bs).drop n) = some ((X, z', t'), (unpackL bs).drop n') ∧ e = .returned (.int .u64 (X : Int)) ∧ UpAt w' b r z' t' v bs n')

set_option maxRecDepth 100000 in
set_option maxHeartbeats 3200000 in
theorem uchange_any {w : World} {b r z t : Nat} {v : Value} {bs : List UInt8} {n : Nat} (h : UpAt w b r z t v bs n) : Calls Try.prog 64 #[.pointer (some ⟨b, 0, none⟩)] w (ChgPost w b r z t v bs n) := by
  have H := hid h
  clear h
  have hul := unpackL_length bs
  rcases drop_bit (unpackL bs) n with ⟨h1, a, ha, hva⟩ | ⟨h1, ha⟩
  · have hok := utake_any H.out.ur 1 (by omega) (by decide)
    rw [hva] at hok
    cases a with
    | false =>
      have HG : Hid (chgR z t ((unpackL bs).drop n) = some ((0, z, t), (unpackL bs).drop (n + 1))) := by show _ = _; rw [ha]; rfl
      clear ha hva
      go_enter Try.func64, Try.ntmps64
      go_wp2_with fail
      refine hok.mono ?_
      rintro e w1 ⟨rfl, k1, u1⟩
      have HF : Hid (UpAt w1 b r z t v bs (n + 1)) := ⟨u1.blk, u1.rd, H.out.z31, H.out.zt⟩
      clear hok u1
      go_wp2_with fail
      go_ret
      exact ⟨k1.mono (fun _ _ e => .inr e), .inr ⟨0, z, t, _, HG.out, rfl, HF.out⟩⟩
    | true =>
      have HA := hid ha
      clear ha hva
      go_enter Try.func64, Try.ntmps64
      go_wp2_with fail
      refine hok.mono ?_
      rintro e w1 ⟨rfl, k1, u1⟩
      have HU1 : Hid (UpAt w1 b r z t v bs (n + 1)) := ⟨u1.blk, u1.rd, H.out.z31, H.out.zt⟩
      have HK1 : Hid (Only (Foo b r) w w1) := k1.mono (fun _ _ e => .inr e)
      clear hok u1 k1
      rcases drop_bit (unpackL bs) (n + 1) with ⟨h2, c, hc, hvc⟩ | ⟨h2, hc⟩
      · have hok := utake_any HU1.out.ur 1 (by omega) (by decide)
        rw [hvc] at hok
        cases c with
        | false =>
          have HCH : Hid (chgR z t ((unpackL bs).drop n) = bodyR z t ((unpackL bs).drop (n + 1 + 1))) := by show _ = _; rw [HA.out, hc]; rfl
          clear hc hvc
          go_wp2_with fail
          refine hok.mono ?_
          rintro e w2 ⟨rfl, k2, u2⟩
          have HU2 : Hid (UpAt w2 b r z t v bs (n + 1 + 1)) := ⟨u2.blk, u2.rd, H.out.z31, H.out.zt⟩
          have HK2 : Hid (Only (Foo b r) w w2) := HK1.out.trans (k2.mono (fun _ _ e => Or.inr e)) (fun _ _ e => e)
          clear hok u2 k2
          go_wp2_with fail
          have x0 := HU2.out.blk.cell 0 rfl
          have x1 := HU2.out.blk.cell 1 rfl
          have hzt := HU2.out.zt
          have hz31 := HU2.out.z31
          obtain ⟨C, hC⟩ : ∃ C, 64 - z - t = C := ⟨_, rfl⟩
          have hC2 : C ≤ 64 := by omega
          have hcnt : Hid (∀ w, Calls Try.prog 57 #[.agg #[.int .i64 (z : Int), .int .i64 (t : Int)]] w fun e w' => e = .returned (.int .i64 (C : Int)) ∧ Kept w w') := fun w => by
            have := count_any w z t (by omega)
            rw [hC] at this
            exact this
          have hbody : bodyR z t ((unpackL bs).drop (n + 1 + 1)) = (getN ((unpackL bs).drop (n + 1 + 1)) C).map fun y => (((y.1 <<< t) % 18446744073709551616, z, t), y.2) := by unfold bodyR; rw [hC]
          rcases getN_drop bs (n + 1 + 1) C HU2.out.rd.top with ⟨hN, hg⟩ | ⟨hN, hg⟩
          · have HG : Hid (chgR z t ((unpackL bs).drop n) = none) := by show _ = _; rw [HCH.out, hbody, hg]; rfl
            clear hg hbody hC
            go_wp2_with fail
            refine wp_region_last (L := 1000) (S := fun w' => w'.cell? ⟨b, 0, none⟩ = some (.int .i64 (z : Int)) ∧ w'.cell? ⟨b, 1, none⟩ = some (.int .i64 (t : Int))) (by kernel_rfl) ?_
            have hS : (fun w' : World => w'.cell? ⟨b, 0, none⟩ = some (.int .i64 (z : Int)) ∧ w'.cell? ⟨b, 1, none⟩ = some (.int .i64 (t : Int))) w2.drew := ⟨x0, x1⟩
            refine wpAnyN_take (i := 0) (v := .pointer (some ⟨b, 0, none⟩)) rfl (by kernel_rfl) (by kernel_rfl) (by kernel_rfl) (by decide) (by kernel_rfl) (fun _ _ _ h => h) (Or.inl ⟨by rfl, ?_⟩) hS ?_
            · (intro w' hSw; go_simp)
            go_frame
            refine wpAnyN_take (i := 1) (v := .pointer (some ⟨b, 0, none⟩)) rfl (by kernel_rfl) (by kernel_rfl) (by kernel_rfl) (by decide) (by kernel_rfl) (fun _ _ _ h => h) (Or.inl ⟨by rfl, ?_⟩) hS ?_
            · (intro w' hSw; go_simp)
            go_frame
            refine wpAnyN_take (i := 2) (v := .pointer (some ⟨b, 0, none⟩)) rfl (by kernel_rfl) (by kernel_rfl) (by kernel_rfl) (by decide) (by kernel_rfl) (fun _ _ _ h => h) (Or.inl ⟨by rfl, ?_⟩) hS ?_
            · (intro w' hSw; go_simp)
            go_frame
            refine wpAnyN_take (i := 3) (v := .pointer (some ⟨b, 0, none⟩)) rfl (by kernel_rfl) (by kernel_rfl) (by kernel_rfl) (by decide) (by kernel_rfl) (fun _ _ _ h => h) (Or.inl ⟨by rfl, ?_⟩) hS ?_
            · (intro w' hSw; go_simp)
            go_frame
            refine wpAnyN_take (i := 4) (v := .agg #[.int .i64 (z : Int), .int .i64 (t : Int)]) rfl (by kernel_rfl) (by kernel_rfl) (by kernel_rfl) (by decide) (by kernel_rfl) (fun _ _ _ h => h) (Or.inl ⟨by rfl, ?_⟩) hS ?_
            · (intro w' hSw; go_simp)
            go_frame
            refine wpAnyN_take (i := 7) (v := .pointer (some ⟨b, 0, none⟩)) rfl (by kernel_rfl) (by kernel_rfl) (by kernel_rfl) (by decide) (by kernel_rfl) (fun _ _ _ h => h) (Or.inl ⟨by rfl, ?_⟩) hS ?_
            · (intro w' hSw; go_simp)
            go_frame
            refine wpAnyN_take (i := 8) (v := .pointer (some ⟨b, 0, none⟩)) rfl (by kernel_rfl) (by kernel_rfl) (by kernel_rfl) (by decide) (by kernel_rfl) (fun _ _ _ h => h) (Or.inl ⟨by rfl, ?_⟩) hS ?_
            · (intro w' hSw; go_simp)
            go_frame
            refine wpAnyN_take (i := 9) (v := .pointer (some ⟨b, 0, none⟩)) rfl (by kernel_rfl) (by kernel_rfl) (by kernel_rfl) (by decide) (by kernel_rfl) (fun _ _ _ h => h) (Or.inl ⟨by rfl, ?_⟩) hS ?_
            · (intro w' hSw; go_simp)
            go_frame
            refine wpAnyN_take (i := 10) (v := .pointer (some ⟨b, 1, none⟩)) rfl (by kernel_rfl) (by kernel_rfl) (by kernel_rfl) (by decide) (by kernel_rfl) (fun _ _ _ h => h) (Or.inl ⟨by rfl, ?_⟩) hS ?_
            · (intro w' hSw; go_simp)
            go_frame
            refine wpAnyN_take (i := 11) (v := .int .i64 (t : Int)) rfl (by kernel_rfl) (by kernel_rfl) (by kernel_rfl) (by decide) (by kernel_rfl) (fun _ _ _ h => h) (Or.inl ⟨by rfl, ?_⟩) hS ?_
            · (intro w' hSw; go_simp)
            go_frame
            refine wpAnyL_one (i := 5) (by kernel_rfl) rfl rfl ?_
            go_simp
            refine (hcnt.out _).mono ?_
            rintro e w41 ⟨rfl, k41⟩
            have hk41 : Kept w2 w41 := (Only.refl (fun _ => False) w2).drew.trans k41 (fun _ _ f => f)
            have HU41 := hid (HU2.out.stay hk41)
            have y0 := HU41.out.blk.cell 0 rfl
            have y1 := HU41.out.blk.cell 1 rfl
            refine ⟨⟨y0, y1⟩, ?_⟩
            refine wpAnyL_one (i := 6) (by kernel_rfl) rfl rfl ?_
            go_simp
            refine (utake_no HU41.out.ur C hN hC2).mono ?_
            rintro e w42 ⟨rfl, k42⟩
            exact ⟨rfl, HK2.out.trans ((hk41.trans k42 (fun _ _ f => f)).mono (fun _ _ f => f.elim)) (fun _ _ e => e), .inl ⟨HG.out, rfl⟩⟩
          · replace hN := hid hN
            obtain ⟨V, hVe⟩ : ∃ V, valL (((unpackL bs).drop (n + 1 + 1)).take C) = V := ⟨_, rfl⟩
            have hV := hid hVe
            rw [hVe] at hg
            obtain ⟨X, hXe⟩ : ∃ X, (V <<< t) % 18446744073709551616 = X := ⟨_, rfl⟩
            have hsh : IntKind.u64.wrap ((V : Int) * 2 ^ t) = (X : Int) := by rw [← hXe]; exact shl_int V t
            have HG : Hid (chgR z t ((unpackL bs).drop n) = some ((X, z, t), (unpackL bs).drop (n + 1 + 1 + C))) := by show _ = _; rw [HCH.out, hbody, hg, ← hXe]; rfl
            clear hg hbody hC hVe hXe
            go_wp2_with fail
            refine wp_region_noPanic ?_
            refine wp_region_last (L := 1000) (S := fun w' => w'.cell? ⟨b, 0, none⟩ = some (.int .i64 (z : Int)) ∧ w'.cell? ⟨b, 1, none⟩ = some (.int .i64 (t : Int))) (by kernel_rfl) ?_
            have hS : (fun w' : World => w'.cell? ⟨b, 0, none⟩ = some (.int .i64 (z : Int)) ∧ w'.cell? ⟨b, 1, none⟩ = some (.int .i64 (t : Int))) w2.drew := ⟨x0, x1⟩
            refine wpAnyN_take (i := 0) (v := .pointer (some ⟨b, 0, none⟩)) rfl (by kernel_rfl) (by kernel_rfl) (by kernel_rfl) (by decide) (by kernel_rfl) (fun _ _ _ h => h) (Or.inl ⟨by rfl, ?_⟩) hS ?_
            · (intro w' hSw; go_simp)
            go_frame
            refine wpAnyN_take (i := 1) (v := .pointer (some ⟨b, 0, none⟩)) rfl (by kernel_rfl) (by kernel_rfl) (by kernel_rfl) (by decide) (by kernel_rfl) (fun _ _ _ h => h) (Or.inl ⟨by rfl, ?_⟩) hS ?_
            · (intro w' hSw; go_simp)
            go_frame
            refine wpAnyN_take (i := 2) (v := .pointer (some ⟨b, 0, none⟩)) rfl (by kernel_rfl) (by kernel_rfl) (by kernel_rfl) (by decide) (by kernel_rfl) (fun _ _ _ h => h) (Or.inl ⟨by rfl, ?_⟩) hS ?_
            · (intro w' hSw; go_simp)
            go_frame
            refine wpAnyN_take (i := 3) (v := .pointer (some ⟨b, 0, none⟩)) rfl (by kernel_rfl) (by kernel_rfl) (by kernel_rfl) (by decide) (by kernel_rfl) (fun _ _ _ h => h) (Or.inl ⟨by rfl, ?_⟩) hS ?_
            · (intro w' hSw; go_simp)
            go_frame
            refine wpAnyN_take (i := 4) (v := .agg #[.int .i64 (z : Int), .int .i64 (t : Int)]) rfl (by kernel_rfl) (by kernel_rfl) (by kernel_rfl) (by decide) (by kernel_rfl) (fun _ _ _ h => h) (Or.inl ⟨by rfl, ?_⟩) hS ?_
            · (intro w' hSw; go_simp)
            go_frame
            refine wpAnyN_take (i := 7) (v := .pointer (some ⟨b, 0, none⟩)) rfl (by kernel_rfl) (by kernel_rfl) (by kernel_rfl) (by decide) (by kernel_rfl) (fun _ _ _ h => h) (Or.inl ⟨by rfl, ?_⟩) hS ?_
            · (intro w' hSw; go_simp)
            go_frame
            refine wpAnyN_take (i := 8) (v := .pointer (some ⟨b, 0, none⟩)) rfl (by kernel_rfl) (by kernel_rfl) (by kernel_rfl) (by decide) (by kernel_rfl) (fun _ _ _ h => h) (Or.inl ⟨by rfl, ?_⟩) hS ?_
            · (intro w' hSw; go_simp)
            go_frame
            refine wpAnyN_take (i := 9) (v := .pointer (some ⟨b, 0, none⟩)) rfl (by kernel_rfl) (by kernel_rfl) (by kernel_rfl) (by decide) (by kernel_rfl) (fun _ _ _ h => h) (Or.inl ⟨by rfl, ?_⟩) hS ?_
            · (intro w' hSw; go_simp)
            go_frame
            refine wpAnyN_take (i := 10) (v := .pointer (some ⟨b, 1, none⟩)) rfl (by kernel_rfl) (by kernel_rfl) (by kernel_rfl) (by decide) (by kernel_rfl) (fun _ _ _ h => h) (Or.inl ⟨by rfl, ?_⟩) hS ?_
            · (intro w' hSw; go_simp)
            go_frame
            refine wpAnyN_take (i := 11) (v := .int .i64 (t : Int)) rfl (by kernel_rfl) (by kernel_rfl) (by kernel_rfl) (by decide) (by kernel_rfl) (fun _ _ _ h => h) (Or.inl ⟨by rfl, ?_⟩) hS ?_
            · (intro w' hSw; go_simp)
            go_frame
            refine wpAnyL_one (i := 5) (by kernel_rfl) rfl rfl ?_
            go_simp
            refine (hcnt.out _).mono ?_
            rintro e w41 ⟨rfl, k41⟩
            have hk41 : Kept w2 w41 := (Only.refl (fun _ => False) w2).drew.trans k41 (fun _ _ f => f)
            have HU41 := hid (HU2.out.stay hk41)
            have y0 := HU41.out.blk.cell 0 rfl
            have y1 := HU41.out.blk.cell 1 rfl
            refine ⟨⟨y0, y1⟩, ?_⟩
            refine wpAnyL_one (i := 6) (by kernel_rfl) rfl rfl ?_
            go_simp
            refine (utake_any HU41.out.ur C hN.out hC2).mono ?_
            rw [hV.out]
            rintro e w42 ⟨rfl, k42, u42⟩
            clear y0 y1
            have y0 := u42.blk.cell 0 rfl
            have y1 := u42.blk.cell 1 rfl
            refine ⟨⟨y0, y1⟩, ?_⟩
            refine wpAnyL_one (i := 12) (by kernel_rfl) rfl rfl ?_
            go_simp
            refine wpAnyL_one (i := 13) (by kernel_rfl) rfl rfl ?_
            go_simp
            refine wpAnyN_done (by kernel_rfl) ?_
            refine NoPanic.normal ?_
            clear hS
            have HF : Hid (UpAt w42 b r z t v bs (n + 1 + 1 + C)) := ⟨u42.blk, u42.rd, hz31, hzt⟩
            have HKF : Hid (Only (Foo b r) w w42) := (HK2.out.trans (hk41.mono (fun _ _ f => f.elim)) (fun _ _ e => e)).trans (k42.mono (fun _ _ e => Or.inr e)) (fun _ _ e => e)
            clear u42 k42
            go_wp2_with fail
            go_ret
            exact ⟨HKF.out, .inr ⟨_, _, _, _, HG.out, rfl, HF.out⟩⟩
        | true =>
          have HCH : Hid (chgR z t ((unpackL bs).drop n) = newR ((unpackL bs).drop (n + 1 + 1))) := by show _ = _; rw [HA.out, hc]; rfl
          clear hc hvc
          go_wp2_with fail
          refine hok.mono ?_
          rintro e w2 ⟨rfl, k2, u2⟩
          have HU2 : Hid (UpAt w2 b r z t v bs (n + 1 + 1)) := ⟨u2.blk, u2.rd, H.out.z31, H.out.zt⟩
          have HK2 : Hid (Only (Foo b r) w w2) := HK1.out.trans (k2.mono (fun _ _ e => Or.inr e)) (fun _ _ e => e)
          clear hok u2 k2
          have hnew := anew_any HU2.out
          go_wp2_with fail
          refine hnew.mono ?_
          rintro e w3 ⟨k3, ⟨rfl, hn3⟩ | ⟨z', t', rfl, u3, hn3⟩⟩
          · clear hnew
            go_wp2_with fail
            exact ⟨rfl, HK2.out.trans k3 (fun _ _ e => e), .inl ⟨by rw [HCH.out, hn3], rfl⟩⟩
          · have HU3 := hid u3
            have HK3 : Hid (Only (Foo b r) w w3) := HK2.out.trans k3 (fun _ _ e => e)
            have HCH3 : Hid (chgR z t ((unpackL bs).drop n) = bodyR z' t' ((unpackL bs).drop (n + 1 + 1 + 11))) := by show _ = _; rw [HCH.out, hn3]
            clear hnew u3 k3 hn3
            go_wp2_with fail
            have x0 := HU3.out.blk.cell 0 rfl
            have x1 := HU3.out.blk.cell 1 rfl
            have hzt := HU3.out.zt
            have hz31 := HU3.out.z31
            obtain ⟨C, hC⟩ : ∃ C, 64 - z' - t' = C := ⟨_, rfl⟩
            have hC2 : C ≤ 64 := by omega
            have hcnt : Hid (∀ w, Calls Try.prog 57 #[.agg #[.int .i64 (z' : Int), .int .i64 (t' : Int)]] w fun e w' => e = .returned (.int .i64 (C : Int)) ∧ Kept w w') := fun w => by
              have := count_any w z' t' (by omega)
              rw [hC] at this
              exact this
            have hbody : bodyR z' t' ((unpackL bs).drop (n + 1 + 1 + 11)) = (getN ((unpackL bs).drop (n + 1 + 1 + 11)) C).map fun y => (((y.1 <<< t') % 18446744073709551616, z', t'), y.2) := by unfold bodyR; rw [hC]
            rcases getN_drop bs (n + 1 + 1 + 11) C HU3.out.rd.top with ⟨hN, hg⟩ | ⟨hN, hg⟩
            · have HG : Hid (chgR z t ((unpackL bs).drop n) = none) := by show _ = _; rw [HCH3.out, hbody, hg]; rfl
              clear hg hbody hC
              go_wp2_with fail
              refine wp_region_last (L := 1000) (S := fun w' => w'.cell? ⟨b, 0, none⟩ = some (.int .i64 (z' : Int)) ∧ w'.cell? ⟨b, 1, none⟩ = some (.int .i64 (t' : Int))) (by kernel_rfl) ?_
              have hS : (fun w' : World => w'.cell? ⟨b, 0, none⟩ = some (.int .i64 (z' : Int)) ∧ w'.cell? ⟨b, 1, none⟩ = some (.int .i64 (t' : Int))) w3.drew := ⟨x0, x1⟩
              refine wpAnyN_take (i := 0) (v := .pointer (some ⟨b, 0, none⟩)) rfl (by kernel_rfl) (by kernel_rfl) (by kernel_rfl) (by decide) (by kernel_rfl) (fun _ _ _ h => h) (Or.inl ⟨by rfl, ?_⟩) hS ?_
              · (intro w' hSw; go_simp)
              go_frame
              refine wpAnyN_take (i := 1) (v := .pointer (some ⟨b, 0, none⟩)) rfl (by kernel_rfl) (by kernel_rfl) (by kernel_rfl) (by decide) (by kernel_rfl) (fun _ _ _ h => h) (Or.inl ⟨by rfl, ?_⟩) hS ?_
              · (intro w' hSw; go_simp)
              go_frame
              refine wpAnyN_take (i := 2) (v := .pointer (some ⟨b, 0, none⟩)) rfl (by kernel_rfl) (by kernel_rfl) (by kernel_rfl) (by decide) (by kernel_rfl) (fun _ _ _ h => h) (Or.inl ⟨by rfl, ?_⟩) hS ?_
              · (intro w' hSw; go_simp)
              go_frame
              refine wpAnyN_take (i := 3) (v := .pointer (some ⟨b, 0, none⟩)) rfl (by kernel_rfl) (by kernel_rfl) (by kernel_rfl) (by decide) (by kernel_rfl) (fun _ _ _ h => h) (Or.inl ⟨by rfl, ?_⟩) hS ?_
              · (intro w' hSw; go_simp)
              go_frame
              refine wpAnyN_take (i := 4) (v := .agg #[.int .i64 (z' : Int), .int .i64 (t' : Int)]) rfl (by kernel_rfl) (by kernel_rfl) (by kernel_rfl) (by decide) (by kernel_rfl) (fun _ _ _ h => h) (Or.inl ⟨by rfl, ?_⟩) hS ?_
              · (intro w' hSw; go_simp)
              go_frame
              refine wpAnyN_take (i := 7) (v := .pointer (some ⟨b, 0, none⟩)) rfl (by kernel_rfl) (by kernel_rfl) (by kernel_rfl) (by decide) (by kernel_rfl) (fun _ _ _ h => h) (Or.inl ⟨by rfl, ?_⟩) hS ?_
              · (intro w' hSw; go_simp)
              go_frame
              refine wpAnyN_take (i := 8) (v := .pointer (some ⟨b, 0, none⟩)) rfl (by kernel_rfl) (by kernel_rfl) (by kernel_rfl) (by decide) (by kernel_rfl) (fun _ _ _ h => h) (Or.inl ⟨by rfl, ?_⟩) hS ?_
              · (intro w' hSw; go_simp)
              go_frame
              refine wpAnyN_take (i := 9) (v := .pointer (some ⟨b, 0, none⟩)) rfl (by kernel_rfl) (by kernel_rfl) (by kernel_rfl) (by decide) (by kernel_rfl) (fun _ _ _ h => h) (Or.inl ⟨by rfl, ?_⟩) hS ?_
              · (intro w' hSw; go_simp)
              go_frame
              refine wpAnyN_take (i := 10) (v := .pointer (some ⟨b, 1, none⟩)) rfl (by kernel_rfl) (by kernel_rfl) (by kernel_rfl) (by decide) (by kernel_rfl) (fun _ _ _ h => h) (Or.inl ⟨by rfl, ?_⟩) hS ?_
              · (intro w' hSw; go_simp)
              go_frame
              refine wpAnyN_take (i := 11) (v := .int .i64 (t' : Int)) rfl (by kernel_rfl) (by kernel_rfl) (by kernel_rfl) (by decide) (by kernel_rfl) (fun _ _ _ h => h) (Or.inl ⟨by rfl, ?_⟩) hS ?_
              · (intro w' hSw; go_simp)
              go_frame
              refine wpAnyL_one (i := 5) (by kernel_rfl) rfl rfl ?_
              go_simp
              refine (hcnt.out _).mono ?_
              rintro e w51 ⟨rfl, k51⟩
              have hk51 : Kept w3 w51 := (Only.refl (fun _ => False) w3).drew.trans k51 (fun _ _ f => f)
              have HU51 := hid (HU3.out.stay hk51)
              have y0 := HU51.out.blk.cell 0 rfl
              have y1 := HU51.out.blk.cell 1 rfl
              refine ⟨⟨y0, y1⟩, ?_⟩
              refine wpAnyL_one (i := 6) (by kernel_rfl) rfl rfl ?_
              go_simp
              refine (utake_no HU51.out.ur C hN hC2).mono ?_
              rintro e w52 ⟨rfl, k52⟩
              exact ⟨rfl, HK3.out.trans ((hk51.trans k52 (fun _ _ f => f)).mono (fun _ _ f => f.elim)) (fun _ _ e => e), .inl ⟨HG.out, rfl⟩⟩
            · replace hN := hid hN
              obtain ⟨V, hVe⟩ : ∃ V, valL (((unpackL bs).drop (n + 1 + 1 + 11)).take C) = V := ⟨_, rfl⟩
              have hV := hid hVe
              rw [hVe] at hg
              obtain ⟨X, hXe⟩ : ∃ X, (V <<< t') % 18446744073709551616 = X := ⟨_, rfl⟩
              have hsh : IntKind.u64.wrap ((V : Int) * 2 ^ t') = (X : Int) := by rw [← hXe]; exact shl_int V t'
              have HG : Hid (chgR z t ((unpackL bs).drop n) = some ((X, z', t'), (unpackL bs).drop (n + 1 + 1 + 11 + C))) := by show _ = _; rw [HCH3.out, hbody, hg, ← hXe]; rfl
              clear hg hbody hC hVe hXe
              go_wp2_with fail
              refine wp_region_noPanic ?_
              refine wp_region_last (L := 1000) (S := fun w' => w'.cell? ⟨b, 0, none⟩ = some (.int .i64 (z' : Int)) ∧ w'.cell? ⟨b, 1, none⟩ = some (.int .i64 (t' : Int))) (by kernel_rfl) ?_
              have hS : (fun w' : World => w'.cell? ⟨b, 0, none⟩ = some (.int .i64 (z' : Int)) ∧ w'.cell? ⟨b, 1, none⟩ = some (.int .i64 (t' : Int))) w3.drew := ⟨x0, x1⟩
              refine wpAnyN_take (i := 0) (v := .pointer (some ⟨b, 0, none⟩)) rfl (by kernel_rfl) (by kernel_rfl) (by kernel_rfl) (by decide) (by kernel_rfl) (fun _ _ _ h => h) (Or.inl ⟨by rfl, ?_⟩) hS ?_
              · (intro w' hSw; go_simp)
              go_frame
              refine wpAnyN_take (i := 1) (v := .pointer (some ⟨b, 0, none⟩)) rfl (by kernel_rfl) (by kernel_rfl) (by kernel_rfl) (by decide) (by kernel_rfl) (fun _ _ _ h => h) (Or.inl ⟨by rfl, ?_⟩) hS ?_
              · (intro w' hSw; go_simp)
              go_frame
              refine wpAnyN_take (i := 2) (v := .pointer (some ⟨b, 0, none⟩)) rfl (by kernel_rfl) (by kernel_rfl) (by kernel_rfl) (by decide) (by kernel_rfl) (fun _ _ _ h => h) (Or.inl ⟨by rfl, ?_⟩) hS ?_
              · (intro w' hSw; go_simp)
              go_frame
              refine wpAnyN_take (i := 3) (v := .pointer (some ⟨b, 0, none⟩)) rfl (by kernel_rfl) (by kernel_rfl) (by kernel_rfl) (by decide) (by kernel_rfl) (fun _ _ _ h => h) (Or.inl ⟨by rfl, ?_⟩) hS ?_
              · (intro w' hSw; go_simp)
              go_frame
              refine wpAnyN_take (i := 4) (v := .agg #[.int .i64 (z' : Int), .int .i64 (t' : Int)]) rfl (by kernel_rfl) (by kernel_rfl) (by kernel_rfl) (by decide) (by kernel_rfl) (fun _ _ _ h => h) (Or.inl ⟨by rfl, ?_⟩) hS ?_
              · (intro w' hSw; go_simp)
              go_frame
              refine wpAnyN_take (i := 7) (v := .pointer (some ⟨b, 0, none⟩)) rfl (by kernel_rfl) (by kernel_rfl) (by kernel_rfl) (by decide) (by kernel_rfl) (fun _ _ _ h => h) (Or.inl ⟨by rfl, ?_⟩) hS ?_
              · (intro w' hSw; go_simp)
              go_frame
              refine wpAnyN_take (i := 8) (v := .pointer (some ⟨b, 0, none⟩)) rfl (by kernel_rfl) (by kernel_rfl) (by kernel_rfl) (by decide) (by kernel_rfl) (fun _ _ _ h => h) (Or.inl ⟨by rfl, ?_⟩) hS ?_
              · (intro w' hSw; go_simp)
              go_frame
              refine wpAnyN_take (i := 9) (v := .pointer (some ⟨b, 0, none⟩)) rfl (by kernel_rfl) (by kernel_rfl) (by kernel_rfl) (by decide) (by kernel_rfl) (fun _ _ _ h => h) (Or.inl ⟨by rfl, ?_⟩) hS ?_
              · (intro w' hSw; go_simp)
              go_frame
              refine wpAnyN_take (i := 10) (v := .pointer (some ⟨b, 1, none⟩)) rfl (by kernel_rfl) (by kernel_rfl) (by kernel_rfl) (by decide) (by kernel_rfl) (fun _ _ _ h => h) (Or.inl ⟨by rfl, ?_⟩) hS ?_
              · (intro w' hSw; go_simp)
              go_frame
              refine wpAnyN_take (i := 11) (v := .int .i64 (t' : Int)) rfl (by kernel_rfl) (by kernel_rfl) (by kernel_rfl) (by decide) (by kernel_rfl) (fun _ _ _ h => h) (Or.inl ⟨by rfl, ?_⟩) hS ?_
              · (intro w' hSw; go_simp)
              go_frame
              refine wpAnyL_one (i := 5) (by kernel_rfl) rfl rfl ?_
              go_simp
              refine (hcnt.out _).mono ?_
              rintro e w51 ⟨rfl, k51⟩
              have hk51 : Kept w3 w51 := (Only.refl (fun _ => False) w3).drew.trans k51 (fun _ _ f => f)
              have HU51 := hid (HU3.out.stay hk51)
              have y0 := HU51.out.blk.cell 0 rfl
              have y1 := HU51.out.blk.cell 1 rfl
              refine ⟨⟨y0, y1⟩, ?_⟩
              refine wpAnyL_one (i := 6) (by kernel_rfl) rfl rfl ?_
              go_simp
              refine (utake_any HU51.out.ur C hN.out hC2).mono ?_
              rw [hV.out]
              rintro e w52 ⟨rfl, k52, u52⟩
              clear y0 y1
              have y0 := u52.blk.cell 0 rfl
              have y1 := u52.blk.cell 1 rfl
              refine ⟨⟨y0, y1⟩, ?_⟩
              refine wpAnyL_one (i := 12) (by kernel_rfl) rfl rfl ?_
              go_simp
              refine wpAnyL_one (i := 13) (by kernel_rfl) rfl rfl ?_
              go_simp
              refine wpAnyN_done (by kernel_rfl) ?_
              refine NoPanic.normal ?_
              clear hS
              have HF : Hid (UpAt w52 b r z' t' v bs (n + 1 + 1 + 11 + C)) := ⟨u52.blk, u52.rd, hz31, hzt⟩
              have HKF : Hid (Only (Foo b r) w w52) := (HK3.out.trans (hk51.mono (fun _ _ f => f.elim)) (fun _ _ e => e)).trans (k52.mono (fun _ _ e => Or.inr e)) (fun _ _ e => e)
              clear u52 k52
              go_wp2_with fail
              go_ret
              exact ⟨HKF.out, .inr ⟨_, _, _, _, HG.out, rfl, HF.out⟩⟩
      · have hno := utake_no HU1.out.ur 1 (by omega) (by decide)
        have HG : Hid (chgR z t ((unpackL bs).drop n) = none) := by show _ = _; rw [HA.out, hc]; rfl
        clear hc
        go_wp2_with fail
        refine hno.mono ?_
        rintro e w2 ⟨rfl, k2⟩
        go_wp2_with fail
        exact ⟨rfl, HK1.out.trans (k2.mono (fun _ _ f => f.elim)) (fun _ _ e => e), .inl ⟨HG.out, rfl⟩⟩
  · have hno := utake_no H.out.ur 1 (by omega) (by decide)
    have HG : Hid (chgR z t ((unpackL bs).drop n) = none) := by show _ = _; rw [ha]; rfl
    clear ha
    go_enter Try.func64, Try.ntmps64
    go_wp2_with fail
    refine hno.mono ?_
    rintro e w1 ⟨rfl, k1⟩
    go_wp2_with fail
    exact ⟨rfl, k1.mono (fun _ _ f => f.elim), .inl ⟨HG.out, rfl⟩⟩
end Go.Proofs.Ytbhpmeeknbbmmaa.V
