/-
  Wtake.
-/
import Derived.Test.YtbhpmeeknbbmmaaQ14
import Derived.RegionDies

/-
  A reader of numbers: bits that are taken, a window that is read.
-/
namespace Go.Proofs.Ytbhpmeeknbbmmaa.V
open Go.RowKit Go.Proofs.Lys
set_option linter.unusedVariables false

theorem getN_drop (bs : List UInt8) (t N : Nat) (ht : t ≤ 8 * bs.length) :
    (8 * bs.length - t < N ∧ getN ((unpackL bs).drop t) N = none) ∨ (t + N ≤ 8 * bs.length ∧ getN ((unpackL bs).drop t) N = some (valL (((unpackL bs).drop t).take N), (unpackL bs).drop (t + N))) := by
  have hl : ((unpackL bs).drop t).length = 8 * bs.length - t := by rw [List.length_drop, unpackL_length]
  by_cases h : t + N ≤ 8 * bs.length
  · right
    refine ⟨h, ?_⟩
    unfold getN
    rw [if_pos (by omega), List.drop_drop]
  · left
    refine ⟨by omega, ?_⟩
    unfold getN
    rw [if_neg (by omega)]
theorem val_take_lt (l : List Bool) (N : Nat) (hN : N ≤ 64) : valL (l.take N) < 18446744073709551616 := by
  have h1 := valL_lt (l.take N)
  have h2 : (l.take N).length ≤ N := by rw [List.length_take]; omega
  refine Nat.lt_of_lt_of_le h1 ?_
  rw [show (18446744073709551616 : Nat) = 2 ^ 64 by decide]
  exact Nat.pow_le_pow_right (by decide) (by omega)
theorem val_take_pow (l : List Bool) (N : Nat) : valL (l.take N) < 2 ^ N := by
  have h1 := valL_lt (l.take N)
  have h2 : (l.take N).length ≤ N := by rw [List.length_take]; omega
  exact Nat.lt_of_lt_of_le h1 (Nat.pow_le_pow_right (by decide) h2)

/-- A reader of numbers: its window, its reader of bits. -/
structure UpAt (w : World) (b r z t : Nat) (v : Value) (bs : List UInt8) (n : Nat) : Prop where
  blk : Blk w b [.int .i64 (z : Int), .int .i64 (t : Int), .pointer (some ⟨r, 0, none⟩)] 113
  rd : RdAt w r v bs n
  z31 : z ≤ 31
  zt : z + t < 64
/-- What a call may turn. -/
abbrev Foo (b r : Nat) (k : Nat) : Prop := k = b ∨ k = r
section
variable {w : World} {b r z t : Nat} {v : Value} {bs : List UInt8} {n : Nat}
theorem UpAt.ne (h : UpAt w b r z t v bs n) : b ≠ r := fun e => h.blk.ne h.rd.blk (by decide) e
theorem UpAt.stay {w' : World} (h : UpAt w b r z t v bs n) (k : Kept w w') : UpAt w' b r z t v bs n := ⟨k.blk h.blk (fun f => f), h.rd.only k (fun f => f) (fun _ _ f => f), h.z31, h.zt⟩
theorem UpAt.read {w' : World} {n' : Nat} (h : UpAt w b r z t v bs n) (k : Only (· = r) w w') (hr : RdAt w' r v bs n') : UpAt w' b r z t v bs n' := ⟨k.blk h.blk (fun e => h.ne e), hr, h.z31, h.zt⟩

/-- The reader, whatever its window. -/
structure UrAt (w : World) (b r : Nat) (x y : Value) (v : Value) (bs : List UInt8) (n : Nat) : Prop where
  blk : Blk w b [x, y, .pointer (some ⟨r, 0, none⟩)] 113
  rd : RdAt w r v bs n
theorem UrAt.ne {x y : Value} (h : UrAt w b r x y v bs n) : b ≠ r := fun e => h.blk.ne h.rd.blk (by decide) e
theorem UrAt.read {x y : Value} {w' : World} {n' : Nat} (h : UrAt w b r x y v bs n) (k : Only (· = r) w w') (hr : RdAt w' r v bs n') : UrAt w' b r x y v bs n' := ⟨k.blk h.blk (fun e => h.ne e), hr⟩
theorem UrAt.drew {x y : Value} (h : UrAt w b r x y v bs n) : UrAt w.drew b r x y v bs n := ⟨h.blk, h.rd.only (Only.drew (Only.refl (fun _ => False) w)) (fun f => f) (fun _ _ f => f)⟩
theorem UpAt.ur (h : UpAt w b r z t v bs n) : UrAt w b r (.int .i64 (z : Int)) (.int .i64 (t : Int)) v bs n := ⟨h.blk, h.rd⟩
theorem utake_no {x y : Value} (h : UrAt w b r x y v bs n) (N : Nat) (hN : 8 * bs.length - n < N) (hN2 : N ≤ 64) :
    Calls Try.prog 63 #[.pointer (some ⟨b, 0, none⟩), .int .i64 (N : Int)] w fun e w' => e = tooFew ∧ Kept w w' := by
  have hg := get_few h.rd N hN hN2
  have c2 := h.blk.cell 2 rfl
  clear h hN
  go_enter Try.func63, Try.ntmps63
  go_wp2_with fail
  refine hg.mono ?_
  rintro e w' ⟨rfl, hk⟩
  clear hg
  go_wp2_with fail
  exact ⟨rfl, rfl, hk⟩
theorem u_wrap64 {n : Nat} (h : n < 18446744073709551616) : IntKind.u64.wrap (wrap64 (n : Int)) = (n : Int) := by rw [uN_wrap, uN_wrap64 h]
theorem utake_any {x y : Value} (h : UrAt w b r x y v bs n) (N : Nat) (hN : n + N ≤ 8 * bs.length) (hN2 : N ≤ 64) :
    Calls Try.prog 63 #[.pointer (some ⟨b, 0, none⟩), .int .i64 (N : Int)] w fun e w' => e = .returned (.int .u64 ((valL (((unpackL bs).drop n).take N) : Nat) : Int)) ∧ Only (· = r) w w' ∧ UrAt w' b r x y v bs (n + N) := by
  have hg := get_any h.rd N hN hN2
  have hu := u_wrap64 (val_take_lt ((unpackL bs).drop n) N hN2)
  generalize valL (((unpackL bs).drop n).take N) = X at hg hu ⊢
  generalize wrap64 (X : Int) = Y at hg hu
  have c2 := h.blk.cell 2 rfl
  have H := hid h
  clear h hN
  go_enter Try.func63, Try.ntmps63
  go_wp2_with fail
  refine hg.mono ?_
  rintro e w' ⟨rfl, hk, hr⟩
  clear hg
  go_wp2_with fail
  go_ret
  exact ⟨by simp, hk, H.out.read hk hr⟩

/-- What anew leaves. -/
def AnewPost (w : World) (b r : Nat) (v : Value) (bs : List UInt8) (n : Nat) (e : Ending) (w' : World) : Prop :=
  Only (Foo b r) w w' ∧ ((e = tooFew ∧ newR ((unpackL bs).drop n) = none) ∨
    ∃ z' t', e = .returned (.tuple #[]) ∧ UpAt w' b r z' t' v bs (n + 11) ∧ newR ((unpackL bs).drop n) = bodyR z' t' ((unpackL bs).drop (n + 11)))

set_option maxRecDepth 100000 in
set_option maxHeartbeats 1600000 in
theorem anew_any (h : UpAt w b r z t v bs n) : Calls Try.prog 66 #[.pointer (some ⟨b, 0, none⟩)] w (AnewPost w b r v bs n) := by
  have H := hid h
  clear h
  rcases getN_drop bs n 5 H.out.rd.top with ⟨hN, hg⟩ | ⟨hN, hg⟩
  · have hno := utake_no H.out.ur 5 hN (by decide)
    have HG : Hid (newR ((unpackL bs).drop n) = none) := by show _ = _; unfold newR; rw [hg]; rfl
    clear hg hN
    go_enter Try.func66, Try.ntmps66
    go_wp2_with fail
    refine hno.mono ?_
    rintro e w1 ⟨rfl, k1⟩
    go_wp2_with fail
    exact ⟨rfl, k1.mono (fun _ _ f => f.elim), .inl ⟨rfl, HG.out⟩⟩
  · have hok := utake_any H.out.ur 5 hN (by decide)
    have hA5 := val_take_pow ((unpackL bs).drop n) 5
    obtain ⟨A, hA⟩ : ∃ A, valL (((unpackL bs).drop n).take 5) = A := ⟨_, rfl⟩
    rw [hA] at hok hg hA5
    have hA31 : A ≤ 31 := by omega
    have HG := hid hg
    have HN := hid hN
    have hAw : IntKind.i64.wrap (A : Int) = (A : Int) := by rw [wrap_is]; unfold wrap64; omega
    clear hg hN hA hA5
    go_enter Try.func66, Try.ntmps66
    go_wp2_with fail
    refine hok.mono ?_
    rintro e w1 ⟨rfl, k1, u1⟩
    clear hok
    have c0 := u1.blk.cell 0 rfl
    have f0 := u1.blk.frozen 0
    have K1 := hid k1
    have U1 := hid u1
    clear k1 u1
    go_wp2_with fail
    obtain ⟨w2, hw2⟩ : ∃ w2, w1.setCell ⟨b, 0, none⟩ (.int .i64 (A : Int)) = w2 := ⟨_, rfl⟩
    have hB2 : Blk w2 b [.int .i64 (A : Int), .int .i64 (t : Int), .pointer (some ⟨r, 0, none⟩)] 113 := by rw [← hw2]; exact U1.out.blk.set 0 _
    have hK2 : Hid (Only (Foo b r) w w2) := by
      rw [← hw2]
      exact Only.setCell (O := Foo b r) (K1.out.mono (fun _ _ e => .inr e)) (fun _ => .inl rfl) _
    have hR2 : RdAt w2 r v bs (n + 5) := by
      rw [← hw2]
      exact U1.out.rd.only (Only.setCell (O := (· = b)) (Only.refl _ w1) (fun _ => rfl) _) (fun e => U1.out.ne e.symm) (fun j hj e => (own_typed U1.out.rd.own hj).ne U1.out.blk.typed (by decide) e)
    rw [hw2]
    have x0 : w2.cell? ⟨b, 0, none⟩ = some (.int .i64 (A : Int)) := hB2.cell 0 rfl
    have HB2 := hid hB2
    have HR2 := hid hR2
    clear hw2 c0 f0 hB2 hR2
    have HU2 : Hid (UrAt w2 b r (.int .i64 (A : Int)) (.int .i64 (t : Int)) v bs (n + 5)) := ⟨HB2.out, HR2.out⟩
    rcases getN_drop bs (n + 5) 6 HU2.out.rd.top with ⟨hN6, hg6⟩ | ⟨hN6, hg6⟩
    · have hno := hid (utake_no (HU2.out.drew) 6 hN6 (by decide))
      have HE : Hid (∀ w3, Kept w2.drew w3 → AnewPost w b r v bs n tooFew w3) := fun w3 k3 => ⟨hK2.out.drew.trans (k3.mono (fun _ _ f => f.elim)) (fun _ _ e => e), .inl ⟨rfl, by unfold newR; rw [HG.out, Option.bind_some, hg6]; rfl⟩⟩
      clear hN6
      go_wp2_with fail
      refine wp_region_last (L := 1000) (S := fun w' => w'.cell? ⟨b, 0, none⟩ = some (.int .i64 (A : Int))) (by kernel_rfl) ?_
      have hS : (fun w' : World => w'.cell? ⟨b, 0, none⟩ = some (.int .i64 (A : Int))) w2.drew := x0
      refine wpAnyN_take (i := 0) (v := .pointer (some ⟨b, 0, none⟩)) rfl (by kernel_rfl) (by kernel_rfl) (by kernel_rfl) (by decide) (by kernel_rfl) (fun _ _ _ h => h) (Or.inl ⟨by rfl, ?_⟩) hS ?_
      · (intro w' hSw; go_simp)
      go_frame
      refine wpAnyN_take (i := 1) (v := .pointer (some ⟨b, 0, none⟩)) rfl (by kernel_rfl) (by kernel_rfl) (by kernel_rfl) (by decide) (by kernel_rfl) (fun _ _ _ h => h) (Or.inl ⟨by rfl, ?_⟩) hS ?_
      · (intro w' hSw; go_simp)
      go_frame
      refine wpAnyN_take (i := 2) (v := .pointer (some ⟨b, 0, none⟩)) rfl (by kernel_rfl) (by kernel_rfl) (by kernel_rfl) (by decide) (by kernel_rfl) (fun _ _ _ h => h) (Or.inl ⟨by rfl, ?_⟩) hS ?_
      · (intro w' hSw; go_simp)
      go_frame
      refine wpAnyN_take (i := 3) (v := .pointer (some ⟨b, 0, none⟩)) rfl (by kernel_rfl) (by kernel_rfl) (by kernel_rfl) (by decide) (by kernel_rfl) (fun _ _ _ h => h) (Or.inl ⟨by rfl, ?_⟩) hS ?_
      · (intro w' hSw; go_simp)
      go_frame
      refine wpAnyN_take (i := 4) (v := .pointer (some ⟨b, 0, none⟩)) rfl (by kernel_rfl) (by kernel_rfl) (by kernel_rfl) (by decide) (by kernel_rfl) (fun _ _ _ h => h) (Or.inl ⟨by rfl, ?_⟩) hS ?_
      · (intro w' hSw; go_simp)
      go_frame
      refine wpAnyN_take (i := 5) (v := .int .i64 (A : Int)) rfl (by kernel_rfl) (by kernel_rfl) (by kernel_rfl) (by decide) (by kernel_rfl) (fun _ _ _ h => h) (Or.inl ⟨by rfl, ?_⟩) hS ?_
      · (intro w' hSw; go_simp)
      go_frame
      refine wpAnyN_take (i := 6) (v := .int .i64 ((64 : Int) - (A : Int))) rfl (by kernel_rfl) (by kernel_rfl) (by kernel_rfl) (by decide) (by kernel_rfl) (fun _ _ _ h => h) (Or.inl ⟨by rfl, ?_⟩) hS ?_
      · (intro w' hSw; go_simp; (rw [wrap_is]; unfold wrap64; omega))
      go_frame
      refine wpAnyN_take (i := 7) (v := .pointer (some ⟨b, 0, none⟩)) rfl (by kernel_rfl) (by kernel_rfl) (by kernel_rfl) (by decide) (by kernel_rfl) (fun _ _ _ h => h) (Or.inl ⟨by rfl, ?_⟩) hS ?_
      · (intro w' hSw; go_simp)
      go_frame
      refine wpAnyL_one (i := 8) (by kernel_rfl) rfl rfl ?_
      go_simp
      refine hno.out.mono ?_
      rintro e w3 ⟨rfl, k3⟩
      exact ⟨rfl, HE.out w3 k3⟩
    · have hok := hid (utake_any (HU2.out.drew) 6 hN6 (by decide))
      have hM6 := val_take_pow ((unpackL bs).drop (n + 5)) 6
      obtain ⟨M, hM⟩ : ∃ M, valL (((unpackL bs).drop (n + 5)).take 6) = M := ⟨_, rfl⟩
      rw [hM] at hok hg6 hM6
      have hM63 : M ≤ 63 := by omega
      have hMw : IntKind.i64.wrap (M : Int) = (M : Int) := by rw [wrap_is]; unfold wrap64; omega
      have HG6 := hid hg6
      have hw1 : IntKind.i64.wrap ((64 : Int) - (A : Int) - (M : Int)) = (64 : Int) - (A : Int) - (M : Int) := by rw [wrap_is]; unfold wrap64; omega
      have hw2 : IntKind.i64.wrap ((64 : Int) - (A : Int) - (M : Int) - 1) = (64 : Int) - (A : Int) - (M : Int) - 1 := by rw [wrap_is]; unfold wrap64; omega
      clear hM hg6 hM6 hN6
      go_wp2_with fail
      refine wp_region_noPanic ?_
      refine wp_region_last (L := 1000) (S := fun w' => w'.cell? ⟨b, 0, none⟩ = some (.int .i64 (A : Int))) (by kernel_rfl) ?_
      have hS : (fun w' : World => w'.cell? ⟨b, 0, none⟩ = some (.int .i64 (A : Int))) w2.drew := x0
      refine wpAnyN_take (i := 0) (v := .pointer (some ⟨b, 0, none⟩)) rfl (by kernel_rfl) (by kernel_rfl) (by kernel_rfl) (by decide) (by kernel_rfl) (fun _ _ _ h => h) (Or.inl ⟨by rfl, ?_⟩) hS ?_
      · (intro w' hSw; go_simp)
      go_frame
      refine wpAnyN_take (i := 1) (v := .pointer (some ⟨b, 0, none⟩)) rfl (by kernel_rfl) (by kernel_rfl) (by kernel_rfl) (by decide) (by kernel_rfl) (fun _ _ _ h => h) (Or.inl ⟨by rfl, ?_⟩) hS ?_
      · (intro w' hSw; go_simp)
      go_frame
      refine wpAnyN_take (i := 2) (v := .pointer (some ⟨b, 0, none⟩)) rfl (by kernel_rfl) (by kernel_rfl) (by kernel_rfl) (by decide) (by kernel_rfl) (fun _ _ _ h => h) (Or.inl ⟨by rfl, ?_⟩) hS ?_
      · (intro w' hSw; go_simp)
      go_frame
      refine wpAnyN_take (i := 3) (v := .pointer (some ⟨b, 0, none⟩)) rfl (by kernel_rfl) (by kernel_rfl) (by kernel_rfl) (by decide) (by kernel_rfl) (fun _ _ _ h => h) (Or.inl ⟨by rfl, ?_⟩) hS ?_
      · (intro w' hSw; go_simp)
      go_frame
      refine wpAnyN_take (i := 4) (v := .pointer (some ⟨b, 0, none⟩)) rfl (by kernel_rfl) (by kernel_rfl) (by kernel_rfl) (by decide) (by kernel_rfl) (fun _ _ _ h => h) (Or.inl ⟨by rfl, ?_⟩) hS ?_
      · (intro w' hSw; go_simp)
      go_frame
      refine wpAnyN_take (i := 5) (v := .int .i64 (A : Int)) rfl (by kernel_rfl) (by kernel_rfl) (by kernel_rfl) (by decide) (by kernel_rfl) (fun _ _ _ h => h) (Or.inl ⟨by rfl, ?_⟩) hS ?_
      · (intro w' hSw; go_simp)
      go_frame
      refine wpAnyN_take (i := 6) (v := .int .i64 ((64 : Int) - (A : Int))) rfl (by kernel_rfl) (by kernel_rfl) (by kernel_rfl) (by decide) (by kernel_rfl) (fun _ _ _ h => h) (Or.inl ⟨by rfl, ?_⟩) hS ?_
      · (intro w' hSw; go_simp; (rw [wrap_is]; unfold wrap64; omega))
      go_frame
      refine wpAnyN_take (i := 7) (v := .pointer (some ⟨b, 0, none⟩)) rfl (by kernel_rfl) (by kernel_rfl) (by kernel_rfl) (by decide) (by kernel_rfl) (fun _ _ _ h => h) (Or.inl ⟨by rfl, ?_⟩) hS ?_
      · (intro w' hSw; go_simp)
      go_frame
      refine wpAnyL_one (i := 8) (by kernel_rfl) rfl rfl ?_
      go_simp
      refine hok.out.mono ?_
      rintro e w3 ⟨rfl, k3, u3⟩
      have y0 : w3.cell? ⟨b, 0, none⟩ = some (.int .i64 (A : Int)) := u3.blk.cell 0 rfl
      have y1 : w3.cell? ⟨b, 1, none⟩ = some (.int .i64 (t : Int)) := u3.blk.cell 1 rfl
      have g1 := u3.blk.frozen 1
      refine ⟨y0, ?_⟩
      refine wpAnyL_one (i := 9) (by kernel_rfl) rfl rfl ?_
      go_simp
      refine wpAnyL_one (i := 10) (by kernel_rfl) rfl rfl ?_
      go_simp
      refine wpAnyL_one (i := 11) (by kernel_rfl) rfl rfl ?_
      go_simp
      refine wpAnyL_one (i := 12) (by kernel_rfl) rfl rfl ?_
      go_simp
      refine wpAnyL_one (i := 13) (by kernel_rfl) rfl rfl ?_
      go_simp
      refine wpAnyL_one (i := 14) (by kernel_rfl) rfl rfl ?_
      go_simp
      refine wpAnyL_one (i := 15) (by kernel_rfl) rfl rfl ?_
      go_simp
      refine wpAnyN_done (by kernel_rfl) ?_
      refine NoPanic.normal ?_
      clear hS
      have HK4 : Hid (Only (Foo b r) w (w3.setCell ⟨b, 1, none⟩ (.int .i64 ((64 : Int) - (A : Int) - (M : Int) - 1)))) := Only.setCell (O := Foo b r) (hK2.out.drew.trans (k3.mono (fun _ _ e => Or.inr e)) (fun _ _ e => e)) (fun _ => .inl rfl) _
      have hB4 := u3.blk.set 1 (.int .i64 ((64 : Int) - (A : Int) - (M : Int) - 1))
      have HU4 : Hid (UrAt (w3.setCell ⟨b, 1, none⟩ (.int .i64 ((64 : Int) - (A : Int) - (M : Int) - 1))) b r (.int .i64 (A : Int)) (.int .i64 ((64 : Int) - (A : Int) - (M : Int) - 1)) v bs (n + 5 + 6)) := ⟨hB4, u3.rd.only (Only.setCell (O := (· = b)) (Only.refl _ w3) (fun _ => rfl) _) (fun e => u3.ne e.symm) (fun j hj e => (own_typed u3.rd.own hj).ne u3.blk.typed (by decide) e)⟩
      clear u3 hB4 k3 y0 y1 g1
      generalize w3.setCell ⟨b, 1, none⟩ (.int .i64 ((64 : Int) - (A : Int) - (M : Int) - 1)) = w4 at HK4 HU4 ⊢
      have z1 := HU4.out.blk.cell 1 rfl
      by_cases hAM : 63 < A + M
      · have hneg : (64 : Int) - (A : Int) - (M : Int) - 1 < 0 := by omega
        go_wp2_with fail
        exact ⟨rfl, HK4.out, .inl ⟨rfl, by unfold newR; rw [HG.out, Option.bind_some, HG6.out, Option.bind_some, if_pos hAM]⟩⟩
      · have hneg : ¬ (64 : Int) - (A : Int) - (M : Int) - 1 < 0 := by omega
        have HF : Hid (UpAt w4 b r A (63 - A - M) v bs (n + 11)) := ⟨by rw [show ((63 - A - M : Nat) : Int) = (64 : Int) - (A : Int) - (M : Int) - 1 by omega]; exact HU4.out.blk, HU4.out.rd, hA31, by omega⟩
        go_wp2_with fail
        go_end0
        exact ⟨HK4.out, .inr ⟨A, 63 - A - M, rfl, HF.out, by unfold newR; rw [HG.out, Option.bind_some, HG6.out, Option.bind_some, if_neg hAM]⟩⟩
end
end Go.Proofs.Ytbhpmeeknbbmmaa.V
