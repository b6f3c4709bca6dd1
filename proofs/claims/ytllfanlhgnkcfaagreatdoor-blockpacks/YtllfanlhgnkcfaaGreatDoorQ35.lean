/-
  Wtake, Wuchg, Wread, Wunpack.
-/
import Derived.Test.YtllfanlhgnkcfaaGreatDoorQ13
import Derived.RegionDies
import Derived.Defers
import Derived.Recover
namespace Go.Proofs.YtllfanlhgnkcfaaGreatDoor.V
open Go.RowKit Go.Proofs.Lys
set_option linter.unusedVariables false
theorem getN_drop (bs : List UInt8) (t N : Nat) (ht : t ≤ 8 * bs.length) :
  (8 * bs.length - t < N ∧ getN ((unpackL bs).drop t) N = none) ∨ (t + N ≤ 8 * bs.length ∧ getN ((unpackL bs).drop t) N = some (valL (((unpackL bs).drop t).take N), (unpackL bs).drop (t + N))) := by
 have hl : ((unpackL bs).drop t).length = 8 * bs.length - t := by rw [List.length_drop, unpackL_length]
 by_cases h : t + N ≤ 8 * bs.length
 ·right
  refine ⟨h, ?_⟩
  unfold getN
  rw [if_pos (by omega), List.drop_drop]
 ·left
  refine ⟨by omega, ?_⟩
  unfold getN
  rw [if_neg (by omega)]
theorem val_take_lt (l : List Bool) (N : Nat) (hN : N ≤ 64) : valL (l.take N) < 18446744073709551616 := by
 have h1 := valL_lt (l.take N)
 have h2 : (l.take N).length ≤ N := by rw [List.length_take]; omega
 refine Nat.lt_of_lt_of_le h1 ?_
 rw [show (18446744073709551616 : Nat) = 2 ^ 64 by decide]
 exact Nat.pow_le_pow_right (by decide) (by omega)
theorem val_take_pow (l : List Bool) (N : Nat) : valL (l.take N) < 2 ^ N := by
 have h1 := valL_lt (l.take N)
 have h2 : (l.take N).length ≤ N := by rw [List.length_take]; omega
 exact Nat.lt_of_lt_of_le h1 (Nat.pow_le_pow_right (by decide) h2)
structure UpAt (w : World) (b r z t : Nat) (v : Value) (bs : List UInt8) (n : Nat) : Prop where
 blk : Blk w b [.int .i64 (z : Int), .int .i64 (t : Int), .pointer (some ⟨r, 0, none⟩)] 216
 rd : RdAt w r v bs n
 z31 : z ≤ 31
 zt : z + t < 64
abbrev Foo (b r : Nat) (k : Nat) : Prop := k = b ∨ k = r
section
variable {w : World} {b r z t : Nat} {v : Value} {bs : List UInt8} {n : Nat}
theorem UpAt.stay {w' : World} (h : UpAt w b r z t v bs n) (k : Kept w w') : UpAt w' b r z t v bs n := ⟨k.blk h.blk (fun f => f), h.rd.only k (fun f => f) (fun _ _ f => f), h.z31, h.zt⟩
structure UrAt (w : World) (b r : Nat) (x y : Value) (v : Value) (bs : List UInt8) (n : Nat) : Prop where
 blk : Blk w b [x, y, .pointer (some ⟨r, 0, none⟩)] 216
 rd : RdAt w r v bs n
theorem UrAt.ne {x y : Value} (h : UrAt w b r x y v bs n) : b ≠ r := fun e => h.blk.ne h.rd.blk (by decide) e
theorem UrAt.read {x y : Value} {w' : World} {n' : Nat} (h : UrAt w b r x y v bs n) (k : Only (· = r) w w') (hr : RdAt w' r v bs n') : UrAt w' b r x y v bs n' := ⟨k.blk h.blk (fun e => h.ne e), hr⟩
theorem UrAt.drew {x y : Value} (h : UrAt w b r x y v bs n) : UrAt w.drew b r x y v bs n := ⟨h.blk, h.rd.only (Only.drew (Only.refl (fun _ => False) w)) (fun f => f) (fun _ _ f => f)⟩
theorem UpAt.ur (h : UpAt w b r z t v bs n) : UrAt w b r (.int .i64 (z : Int)) (.int .i64 (t : Int)) v bs n := ⟨h.blk, h.rd⟩
theorem utake_no {x y : Value} (h : UrAt w b r x y v bs n) (N : Nat) (hN : 8 * bs.length - n < N) (hN2 : N ≤ 64) :
  Calls Tryz.prog 149 #[.pointer (some ⟨b, 0, none⟩), .int .i64 (N : Int)] w fun e w' => e = tooFew ∧ Kept w w' := by
 have hg := get_few h.rd N hN hN2
 have c2 := h.blk.cell 2 rfl
 clear h hN
 go_enter Tryz.func149, Tryz.ntmps149
 go_wp2_with fail
 refine hg.mono ?_
 rintro e w' ⟨rfl, hk⟩
 clear hg
 go_wp2_with fail
 exact ⟨rfl, rfl, hk⟩
theorem u_wrap64 {n : Nat} (h : n < 18446744073709551616) : IntKind.u64.wrap (wrap64 (n : Int)) = (n : Int) := by rw [uN_wrap, uN_wrap64 h]
theorem utake_any {x y : Value} (h : UrAt w b r x y v bs n) (N : Nat) (hN : n + N ≤ 8 * bs.length) (hN2 : N ≤ 64) :
  Calls Tryz.prog 149 #[.pointer (some ⟨b, 0, none⟩), .int .i64 (N : Int)] w fun e w' => e = .returned (.int .u64 ((valL (((unpackL bs).drop n).take N) : Nat) : Int)) ∧ Only (· = r) w w' ∧ UrAt w' b r x y v bs (n + N) := by
 have hg := get_any h.rd N hN hN2
 have hu := u_wrap64 (val_take_lt ((unpackL bs).drop n) N hN2)
 generalize valL (((unpackL bs).drop n).take N) = X at hg hu ⊢
 generalize wrap64 (X : Int) = Y at hg hu
 have c2 := h.blk.cell 2 rfl
 have H := hid h
 clear h hN
 go_enter Tryz.func149, Tryz.ntmps149
 go_wp2_with fail
 refine hg.mono ?_
 rintro e w' ⟨rfl, hk, hr⟩
 clear hg
 go_wp2_with fail
 go_ret
 exact ⟨by simp, hk, H.out.read hk hr⟩
def AnewPost (w : World) (b r : Nat) (v : Value) (bs : List UInt8) (n : Nat) (e : Ending) (w' : World) : Prop :=
 Only (Foo b r) w w' ∧ ((e = tooFew ∧ newR ((unpackL bs).drop n) = none) ∨
  ∃ z' t', e = .returned (.tuple #[]) ∧ UpAt w' b r z' t' v bs (n + 11) ∧ newR ((unpackL bs).drop n) = bodyR z' t' ((unpackL bs).drop (n + 11)))
set_option maxRecDepth 100000 in
set_option maxHeartbeats 1600000 in
theorem anew_any (h : UpAt w b r z t v bs n) : Calls Tryz.prog 156 #[.pointer (some ⟨b, 0, none⟩)] w (AnewPost w b r v bs n) := by
 have H := hid h
 clear h
 rcases getN_drop bs n 5 H.out.rd.top with ⟨hN, hg⟩ | ⟨hN, hg⟩
 ·have hno := utake_no H.out.ur 5 hN (by decide)
  have HG : Hid (newR ((unpackL bs).drop n) = none) := by show _ = _; unfold newR; rw [hg]; rfl
  clear hg hN
  go_enter Tryz.func156, Tryz.ntmps156
  go_wp2_with fail
  refine hno.mono ?_
  rintro e w1 ⟨rfl, k1⟩
  go_wp2_with fail
  exact ⟨rfl, k1.mono (fun _ _ f => f.elim), .inl ⟨rfl, HG.out⟩⟩
 ·have hok := utake_any H.out.ur 5 hN (by decide)
  have hA5 := val_take_pow ((unpackL bs).drop n) 5
  obtain ⟨A, hA⟩ : ∃ A, valL (((unpackL bs).drop n).take 5) = A := ⟨_, rfl⟩
  rw [hA] at hok hg hA5
  have hA31 : A ≤ 31 := by omega
  have HG := hid hg
  have HN := hid hN
  have hAw : IntKind.i64.wrap (A : Int) = (A : Int) := by rw [wrap_is]; unfold wrap64; omega
  clear hg hN hA hA5
  go_enter Tryz.func156, Tryz.ntmps156
  go_wp2_with fail
  refine hok.mono ?_
  rintro e w1 ⟨rfl, k1, u1⟩
  clear hok
  have c0 := u1.blk.cell 0 rfl
  have f0 := u1.blk.frozen 0
  have K1 := hid k1
  have U1 := hid u1
  clear k1 u1
  go_wp2_with fail
  obtain ⟨w2, hw2⟩ : ∃ w2, w1.setCell ⟨b, 0, none⟩ (.int .i64 (A : Int)) = w2 := ⟨_, rfl⟩
  have hB2 : Blk w2 b [.int .i64 (A : Int), .int .i64 (t : Int), .pointer (some ⟨r, 0, none⟩)] 216 := by rw [← hw2]; exact U1.out.blk.set 0 _
  have hK2 : Hid (Only (Foo b r) w w2) := by
   rw [← hw2]
   exact Only.setCell (O := Foo b r) (K1.out.mono (fun _ _ e => .inr e)) (fun _ => .inl rfl) _
  have hR2 : RdAt w2 r v bs (n + 5) := by
   rw [← hw2]
   exact U1.out.rd.only (Only.setCell (O := (· = b)) (Only.refl _ w1) (fun _ => rfl) _) (fun e => U1.out.ne e.symm) (fun j hj e => (own_typed U1.out.rd.own hj).ne U1.out.blk.typed (by decide) e)
  rw [hw2]
  have x0 : w2.cell? ⟨b, 0, none⟩ = some (.int .i64 (A : Int)) := hB2.cell 0 rfl
  have HB2 := hid hB2
  have HR2 := hid hR2
  clear hw2 c0 f0 hB2 hR2
  have HU2 : Hid (UrAt w2 b r (.int .i64 (A : Int)) (.int .i64 (t : Int)) v bs (n + 5)) := ⟨HB2.out, HR2.out⟩
  rcases getN_drop bs (n + 5) 6 HU2.out.rd.top with ⟨hN6, hg6⟩ | ⟨hN6, hg6⟩
  ·have hno := hid (utake_no (HU2.out.drew) 6 hN6 (by decide))
   have HE : Hid (∀ w3, Kept w2.drew w3 → AnewPost w b r v bs n tooFew w3) := fun w3 k3 => ⟨hK2.out.drew.trans (k3.mono (fun _ _ f => f.elim)) (fun _ _ e => e), .inl ⟨rfl, by unfold newR; rw [HG.out, Option.bind_some, hg6]; rfl⟩⟩
   clear hN6
   go_wp2_with fail
   refine wp_region_last (L := 1000) (S := fun w' => w'.cell? ⟨b, 0, none⟩ = some (.int .i64 (A : Int))) (by kernel_rfl) ?_
   have hS : (fun w' : World => w'.cell? ⟨b, 0, none⟩ = some (.int .i64 (A : Int))) w2.drew := x0
   refine wpAnyN_take (i := 0) (v := .pointer (some ⟨b, 0, none⟩)) rfl (by kernel_rfl) (by kernel_rfl) (by kernel_rfl) (by decide) (by kernel_rfl) (fun _ _ _ h => h) (Or.inl ⟨by rfl, ?_⟩) hS ?_
   ·(intro w' hSw; go_simp)
   go_frame
   refine wpAnyN_take (i := 1) (v := .pointer (some ⟨b, 0, none⟩)) rfl (by kernel_rfl) (by kernel_rfl) (by kernel_rfl) (by decide) (by kernel_rfl) (fun _ _ _ h => h) (Or.inl ⟨by rfl, ?_⟩) hS ?_
   ·(intro w' hSw; go_simp)
   go_frame
   refine wpAnyN_take (i := 2) (v := .pointer (some ⟨b, 0, none⟩)) rfl (by kernel_rfl) (by kernel_rfl) (by kernel_rfl) (by decide) (by kernel_rfl) (fun _ _ _ h => h) (Or.inl ⟨by rfl, ?_⟩) hS ?_
   ·(intro w' hSw; go_simp)
   go_frame
   refine wpAnyN_take (i := 3) (v := .pointer (some ⟨b, 0, none⟩)) rfl (by kernel_rfl) (by kernel_rfl) (by kernel_rfl) (by decide) (by kernel_rfl) (fun _ _ _ h => h) (Or.inl ⟨by rfl, ?_⟩) hS ?_
   ·(intro w' hSw; go_simp)
   go_frame
   refine wpAnyN_take (i := 4) (v := .pointer (some ⟨b, 0, none⟩)) rfl (by kernel_rfl) (by kernel_rfl) (by kernel_rfl) (by decide) (by kernel_rfl) (fun _ _ _ h => h) (Or.inl ⟨by rfl, ?_⟩) hS ?_
   ·(intro w' hSw; go_simp)
   go_frame
   refine wpAnyN_take (i := 5) (v := .int .i64 (A : Int)) rfl (by kernel_rfl) (by kernel_rfl) (by kernel_rfl) (by decide) (by kernel_rfl) (fun _ _ _ h => h) (Or.inl ⟨by rfl, ?_⟩) hS ?_
   ·(intro w' hSw; go_simp)
   go_frame
   refine wpAnyN_take (i := 6) (v := .int .i64 ((64 : Int) - (A : Int))) rfl (by kernel_rfl) (by kernel_rfl) (by kernel_rfl) (by decide) (by kernel_rfl) (fun _ _ _ h => h) (Or.inl ⟨by rfl, ?_⟩) hS ?_
   ·(intro w' hSw; go_simp; (rw [wrap_is]; unfold wrap64; omega))
   go_frame
   refine wpAnyN_take (i := 7) (v := .pointer (some ⟨b, 0, none⟩)) rfl (by kernel_rfl) (by kernel_rfl) (by kernel_rfl) (by decide) (by kernel_rfl) (fun _ _ _ h => h) (Or.inl ⟨by rfl, ?_⟩) hS ?_
   ·(intro w' hSw; go_simp)
   go_frame
   refine wpAnyL_one (i := 8) (by kernel_rfl) rfl rfl ?_
   go_simp
   refine hno.out.mono ?_
   rintro e w3 ⟨rfl, k3⟩
   exact ⟨rfl, HE.out w3 k3⟩
  ·have hok := hid (utake_any (HU2.out.drew) 6 hN6 (by decide))
   have hM6 := val_take_pow ((unpackL bs).drop (n + 5)) 6
   obtain ⟨M, hM⟩ : ∃ M, valL (((unpackL bs).drop (n + 5)).take 6) = M := ⟨_, rfl⟩
   rw [hM] at hok hg6 hM6
   have hM63 : M ≤ 63 := by omega
   have hMw : IntKind.i64.wrap (M : Int) = (M : Int) := by rw [wrap_is]; unfold wrap64; omega
   have HG6 := hid hg6
   have hw1 : IntKind.i64.wrap ((64 : Int) - (A : Int) - (M : Int)) = (64 : Int) - (A : Int) - (M : Int) := by rw [wrap_is]; unfold wrap64; omega
   have hw2 : IntKind.i64.wrap ((64 : Int) - (A : Int) - (M : Int) - 1) = (64 : Int) - (A : Int) - (M : Int) - 1 := by rw [wrap_is]; unfold wrap64; omega
   clear hM hg6 hM6 hN6
   go_wp2_with fail
   refine wp_region_noPanic ?_
   refine wp_region_last (L := 1000) (S := fun w' => w'.cell? ⟨b, 0, none⟩ = some (.int .i64 (A : Int))) (by kernel_rfl) ?_
   have hS : (fun w' : World => w'.cell? ⟨b, 0, none⟩ = some (.int .i64 (A : Int))) w2.drew := x0
   refine wpAnyN_take (i := 0) (v := .pointer (some ⟨b, 0, none⟩)) rfl (by kernel_rfl) (by kernel_rfl) (by kernel_rfl) (by decide) (by kernel_rfl) (fun _ _ _ h => h) (Or.inl ⟨by rfl, ?_⟩) hS ?_
   ·(intro w' hSw; go_simp)
   go_frame
   refine wpAnyN_take (i := 1) (v := .pointer (some ⟨b, 0, none⟩)) rfl (by kernel_rfl) (by kernel_rfl) (by kernel_rfl) (by decide) (by kernel_rfl) (fun _ _ _ h => h) (Or.inl ⟨by rfl, ?_⟩) hS ?_
   ·(intro w' hSw; go_simp)
   go_frame
   refine wpAnyN_take (i := 2) (v := .pointer (some ⟨b, 0, none⟩)) rfl (by kernel_rfl) (by kernel_rfl) (by kernel_rfl) (by decide) (by kernel_rfl) (fun _ _ _ h => h) (Or.inl ⟨by rfl, ?_⟩) hS ?_
   ·(intro w' hSw; go_simp)
   go_frame
   refine wpAnyN_take (i := 3) (v := .pointer (some ⟨b, 0, none⟩)) rfl (by kernel_rfl) (by kernel_rfl) (by kernel_rfl) (by decide) (by kernel_rfl) (fun _ _ _ h => h) (Or.inl ⟨by rfl, ?_⟩) hS ?_
   ·(intro w' hSw; go_simp)
   go_frame
   refine wpAnyN_take (i := 4) (v := .pointer (some ⟨b, 0, none⟩)) rfl (by kernel_rfl) (by kernel_rfl) (by kernel_rfl) (by decide) (by kernel_rfl) (fun _ _ _ h => h) (Or.inl ⟨by rfl, ?_⟩) hS ?_
   ·(intro w' hSw; go_simp)
   go_frame
   refine wpAnyN_take (i := 5) (v := .int .i64 (A : Int)) rfl (by kernel_rfl) (by kernel_rfl) (by kernel_rfl) (by decide) (by kernel_rfl) (fun _ _ _ h => h) (Or.inl ⟨by rfl, ?_⟩) hS ?_
   ·(intro w' hSw; go_simp)
   go_frame
   refine wpAnyN_take (i := 6) (v := .int .i64 ((64 : Int) - (A : Int))) rfl (by kernel_rfl) (by kernel_rfl) (by kernel_rfl) (by decide) (by kernel_rfl) (fun _ _ _ h => h) (Or.inl ⟨by rfl, ?_⟩) hS ?_
   ·(intro w' hSw; go_simp; (rw [wrap_is]; unfold wrap64; omega))
   go_frame
   refine wpAnyN_take (i := 7) (v := .pointer (some ⟨b, 0, none⟩)) rfl (by kernel_rfl) (by kernel_rfl) (by kernel_rfl) (by decide) (by kernel_rfl) (fun _ _ _ h => h) (Or.inl ⟨by rfl, ?_⟩) hS ?_
   ·(intro w' hSw; go_simp)
   go_frame
   refine wpAnyL_one (i := 8) (by kernel_rfl) rfl rfl ?_
   go_simp
   refine hok.out.mono ?_
   rintro e w3 ⟨rfl, k3, u3⟩
   have y0 : w3.cell? ⟨b, 0, none⟩ = some (.int .i64 (A : Int)) := u3.blk.cell 0 rfl
   have y1 : w3.cell? ⟨b, 1, none⟩ = some (.int .i64 (t : Int)) := u3.blk.cell 1 rfl
   have g1 := u3.blk.frozen 1
   refine ⟨y0, ?_⟩
   refine wpAnyL_one (i := 9) (by kernel_rfl) rfl rfl ?_
   go_simp
   refine wpAnyL_one (i := 10) (by kernel_rfl) rfl rfl ?_
   go_simp
   refine wpAnyL_one (i := 11) (by kernel_rfl) rfl rfl ?_
   go_simp
   refine wpAnyL_one (i := 12) (by kernel_rfl) rfl rfl ?_
   go_simp
   refine wpAnyL_one (i := 13) (by kernel_rfl) rfl rfl ?_
   go_simp
   refine wpAnyL_one (i := 14) (by kernel_rfl) rfl rfl ?_
   go_simp
   refine wpAnyL_one (i := 15) (by kernel_rfl) rfl rfl ?_
   go_simp
   refine wpAnyN_done (by kernel_rfl) ?_
   refine NoPanic.normal ?_
   clear hS
   have HK4 : Hid (Only (Foo b r) w (w3.setCell ⟨b, 1, none⟩ (.int .i64 ((64 : Int) - (A : Int) - (M : Int) - 1)))) := Only.setCell (O := Foo b r) (hK2.out.drew.trans (k3.mono (fun _ _ e => Or.inr e)) (fun _ _ e => e)) (fun _ => .inl rfl) _
   have hB4 := u3.blk.set 1 (.int .i64 ((64 : Int) - (A : Int) - (M : Int) - 1))
   have HU4 : Hid (UrAt (w3.setCell ⟨b, 1, none⟩ (.int .i64 ((64 : Int) - (A : Int) - (M : Int) - 1))) b r (.int .i64 (A : Int)) (.int .i64 ((64 : Int) - (A : Int) - (M : Int) - 1)) v bs (n + 5 + 6)) := ⟨hB4, u3.rd.only (Only.setCell (O := (· = b)) (Only.refl _ w3) (fun _ => rfl) _) (fun e => u3.ne e.symm) (fun j hj e => (own_typed u3.rd.own hj).ne u3.blk.typed (by decide) e)⟩
   clear u3 hB4 k3 y0 y1 g1
   generalize w3.setCell ⟨b, 1, none⟩ (.int .i64 ((64 : Int) - (A : Int) - (M : Int) - 1)) = w4 at HK4 HU4 ⊢
   have z1 := HU4.out.blk.cell 1 rfl
   by_cases hAM : 63 < A + M
   ·have hneg : (64 : Int) - (A : Int) - (M : Int) - 1 < 0 := by omega
    go_wp2_with fail
    exact ⟨rfl, HK4.out, .inl ⟨rfl, by unfold newR; rw [HG.out, Option.bind_some, HG6.out, Option.bind_some, if_pos hAM]⟩⟩
   ·have hneg : ¬ (64 : Int) - (A : Int) - (M : Int) - 1 < 0 := by omega
    have HF : Hid (UpAt w4 b r A (63 - A - M) v bs (n + 11)) := ⟨by rw [show ((63 - A - M : Nat) : Int) = (64 : Int) - (A : Int) - (M : Int) - 1 by omega]; exact HU4.out.blk, HU4.out.rd, hA31, by omega⟩
    go_wp2_with fail
    go_end0
    exact ⟨HK4.out, .inr ⟨A, 63 - A - M, rfl, HF.out, by unfold newR; rw [HG.out, Option.bind_some, HG6.out, Option.bind_some, if_neg hAM]⟩⟩
end
end Go.Proofs.YtllfanlhgnkcfaaGreatDoor.V
namespace Go.Proofs.YtllfanlhgnkcfaaGreatDoor.V
open Go.RowKit Go.Proofs.Lys
set_option linter.unusedVariables false
theorem shl_int (V t : Nat) : IntKind.u64.wrap ((V : Int) * 2 ^ t) = (((V <<< t) % 18446744073709551616 : Nat) : Int) := by
 rw [Nat.shiftLeft_eq]
 have e1 : (V : Int) * 2 ^ t = ((V * 2 ^ t : Nat) : Int) := by simp
 rw [e1]
 simp [IntKind.wrap, IntKind.bits, IntKind.signed]
theorem drop_bit (l : List Bool) (t : Nat) : (t + 1 ≤ l.length ∧ ∃ a : Bool, l.drop t = a :: l.drop (t + 1) ∧ valL ((l.drop t).take 1) = a.toNat) ∨ (l.length ≤ t ∧ l.drop t = []) := by
 by_cases h : t < l.length
 ·refine .inl ⟨h, l[t], List.drop_eq_getElem_cons h, ?_⟩
  rw [List.drop_eq_getElem_cons h, List.take_succ_cons, List.take_zero]
  cases l[t] <;> decide +kernel
 ·exact .inr ⟨by omega, List.drop_eq_nil_of_le (by omega)⟩
def ChgPost (w : World) (b r z t : Nat) (v : Value) (bs : List UInt8) (n : Nat) (e : Ending) (w' : World) : Prop :=
 Only (Foo b r) w w' ∧ ((chgR z t ((unpackL bs).drop n) = none ∧ e = tooFew) ∨
  ∃ X z' t' n', chgR z t ((unpackL bs).drop n) = some ((X, z', t'), (unpackL bs).drop n') ∧ e = .returned (.int .u64 (X : Int)) ∧ UpAt w' b r z' t' v bs n')
set_option maxRecDepth 100000 in
set_option maxHeartbeats 3200000 in
theorem uchange_any {w : World} {b r z t : Nat} {v : Value} {bs : List UInt8} {n : Nat} (h : UpAt w b r z t v bs n) : Calls Tryz.prog 150 #[.pointer (some ⟨b, 0, none⟩)] w (ChgPost w b r z t v bs n) := by
 have H := hid h
 clear h
 have hul := unpackL_length bs
 rcases drop_bit (unpackL bs) n with ⟨h1, a, ha, hva⟩ | ⟨h1, ha⟩
 ·have hok := utake_any H.out.ur 1 (by omega) (by decide)
  rw [hva] at hok
  cases a with
  | false =>
   have HG : Hid (chgR z t ((unpackL bs).drop n) = some ((0, z, t), (unpackL bs).drop (n + 1))) := by show _ = _; rw [ha]; rfl
   clear ha hva
   go_enter Tryz.func150, Tryz.ntmps150
   go_wp2_with fail
   refine hok.mono ?_
   rintro e w1 ⟨rfl, k1, u1⟩
   have HF : Hid (UpAt w1 b r z t v bs (n + 1)) := ⟨u1.blk, u1.rd, H.out.z31, H.out.zt⟩
   clear hok u1
   go_wp2_with fail
   go_ret
   exact ⟨k1.mono (fun _ _ e => .inr e), .inr ⟨0, z, t, _, HG.out, rfl, HF.out⟩⟩
  | true =>
   have HA := hid ha
   clear ha hva
   go_enter Tryz.func150, Tryz.ntmps150
   go_wp2_with fail
   refine hok.mono ?_
   rintro e w1 ⟨rfl, k1, u1⟩
   have HU1 : Hid (UpAt w1 b r z t v bs (n + 1)) := ⟨u1.blk, u1.rd, H.out.z31, H.out.zt⟩
   have HK1 : Hid (Only (Foo b r) w w1) := k1.mono (fun _ _ e => .inr e)
   clear hok u1 k1
   rcases drop_bit (unpackL bs) (n + 1) with ⟨h2, c, hc, hvc⟩ | ⟨h2, hc⟩
   ·have hok := utake_any HU1.out.ur 1 (by omega) (by decide)
    rw [hvc] at hok
    cases c with
    | false =>
     have HCH : Hid (chgR z t ((unpackL bs).drop n) = bodyR z t ((unpackL bs).drop (n + 1 + 1))) := by show _ = _; rw [HA.out, hc]; rfl
     clear hc hvc
     go_wp2_with fail
     refine hok.mono ?_
     rintro e w2 ⟨rfl, k2, u2⟩
     have HU2 : Hid (UpAt w2 b r z t v bs (n + 1 + 1)) := ⟨u2.blk, u2.rd, H.out.z31, H.out.zt⟩
     have HK2 : Hid (Only (Foo b r) w w2) := HK1.out.trans (k2.mono (fun _ _ e => Or.inr e)) (fun _ _ e => e)
     clear hok u2 k2
     go_wp2_with fail
     have x0 := HU2.out.blk.cell 0 rfl
     have x1 := HU2.out.blk.cell 1 rfl
     have hzt := HU2.out.zt
     have hz31 := HU2.out.z31
     obtain ⟨C, hC⟩ : ∃ C, 64 - z - t = C := ⟨_, rfl⟩
     have hC2 : C ≤ 64 := by omega
     have hcnt : Hid (∀ w, Calls Tryz.prog 132 #[.agg #[.int .i64 (z : Int), .int .i64 (t : Int)]] w fun e w' => e = .returned (.int .i64 (C : Int)) ∧ Kept w w') := fun w => by
      have := count_any w z t (by omega)
      rw [hC] at this
      exact this
     have hbody : bodyR z t ((unpackL bs).drop (n + 1 + 1)) = (getN ((unpackL bs).drop (n + 1 + 1)) C).map fun y => (((y.1 <<< t) % 18446744073709551616, z, t), y.2) := by unfold bodyR; rw [hC]
     rcases getN_drop bs (n + 1 + 1) C HU2.out.rd.top with ⟨hN, hg⟩ | ⟨hN, hg⟩
     ·have HG : Hid (chgR z t ((unpackL bs).drop n) = none) := by show _ = _; rw [HCH.out, hbody, hg]; rfl
      clear hg hbody hC
      go_wp2_with fail
      refine wp_region_last (L := 1000) (S := fun w' => w'.cell? ⟨b, 0, none⟩ = some (.int .i64 (z : Int)) ∧ w'.cell? ⟨b, 1, none⟩ = some (.int .i64 (t : Int))) (by kernel_rfl) ?_
      have hS : (fun w' : World => w'.cell? ⟨b, 0, none⟩ = some (.int .i64 (z : Int)) ∧ w'.cell? ⟨b, 1, none⟩ = some (.int .i64 (t : Int))) w2.drew := ⟨x0, x1⟩
      refine wpAnyN_take (i := 0) (v := .pointer (some ⟨b, 0, none⟩)) rfl (by kernel_rfl) (by kernel_rfl) (by kernel_rfl) (by decide) (by kernel_rfl) (fun _ _ _ h => h) (Or.inl ⟨by rfl, ?_⟩) hS ?_
      ·(intro w' hSw; go_simp)
      go_frame
      refine wpAnyN_take (i := 1) (v := .pointer (some ⟨b, 0, none⟩)) rfl (by kernel_rfl) (by kernel_rfl) (by kernel_rfl) (by decide) (by kernel_rfl) (fun _ _ _ h => h) (Or.inl ⟨by rfl, ?_⟩) hS ?_
      ·(intro w' hSw; go_simp)
      go_frame
      refine wpAnyN_take (i := 2) (v := .pointer (some ⟨b, 0, none⟩)) rfl (by kernel_rfl) (by kernel_rfl) (by kernel_rfl) (by decide) (by kernel_rfl) (fun _ _ _ h => h) (Or.inl ⟨by rfl, ?_⟩) hS ?_
      ·(intro w' hSw; go_simp)
      go_frame
      refine wpAnyN_take (i := 3) (v := .pointer (some ⟨b, 0, none⟩)) rfl (by kernel_rfl) (by kernel_rfl) (by kernel_rfl) (by decide) (by kernel_rfl) (fun _ _ _ h => h) (Or.inl ⟨by rfl, ?_⟩) hS ?_
      ·(intro w' hSw; go_simp)
      go_frame
      refine wpAnyN_take (i := 4) (v := .agg #[.int .i64 (z : Int), .int .i64 (t : Int)]) rfl (by kernel_rfl) (by kernel_rfl) (by kernel_rfl) (by decide) (by kernel_rfl) (fun _ _ _ h => h) (Or.inl ⟨by rfl, ?_⟩) hS ?_
      ·(intro w' hSw; go_simp)
      go_frame
      refine wpAnyN_take (i := 7) (v := .pointer (some ⟨b, 0, none⟩)) rfl (by kernel_rfl) (by kernel_rfl) (by kernel_rfl) (by decide) (by kernel_rfl) (fun _ _ _ h => h) (Or.inl ⟨by rfl, ?_⟩) hS ?_
      ·(intro w' hSw; go_simp)
      go_frame
      refine wpAnyN_take (i := 8) (v := .pointer (some ⟨b, 0, none⟩)) rfl (by kernel_rfl) (by kernel_rfl) (by kernel_rfl) (by decide) (by kernel_rfl) (fun _ _ _ h => h) (Or.inl ⟨by rfl, ?_⟩) hS ?_
      ·(intro w' hSw; go_simp)
      go_frame
      refine wpAnyN_take (i := 9) (v := .pointer (some ⟨b, 0, none⟩)) rfl (by kernel_rfl) (by kernel_rfl) (by kernel_rfl) (by decide) (by kernel_rfl) (fun _ _ _ h => h) (Or.inl ⟨by rfl, ?_⟩) hS ?_
      ·(intro w' hSw; go_simp)
      go_frame
      refine wpAnyN_take (i := 10) (v := .pointer (some ⟨b, 1, none⟩)) rfl (by kernel_rfl) (by kernel_rfl) (by kernel_rfl) (by decide) (by kernel_rfl) (fun _ _ _ h => h) (Or.inl ⟨by rfl, ?_⟩) hS ?_
      ·(intro w' hSw; go_simp)
      go_frame
      refine wpAnyN_take (i := 11) (v := .int .i64 (t : Int)) rfl (by kernel_rfl) (by kernel_rfl) (by kernel_rfl) (by decide) (by kernel_rfl) (fun _ _ _ h => h) (Or.inl ⟨by rfl, ?_⟩) hS ?_
      ·(intro w' hSw; go_simp)
      go_frame
      refine wpAnyL_one (i := 5) (by kernel_rfl) rfl rfl ?_
      go_simp
      refine (hcnt.out _).mono ?_
      rintro e w41 ⟨rfl, k41⟩
      have hk41 : Kept w2 w41 := (Only.refl (fun _ => False) w2).drew.trans k41 (fun _ _ f => f)
      have HU41 := hid (HU2.out.stay hk41)
      have y0 := HU41.out.blk.cell 0 rfl
      have y1 := HU41.out.blk.cell 1 rfl
      refine ⟨⟨y0, y1⟩, ?_⟩
      refine wpAnyL_one (i := 6) (by kernel_rfl) rfl rfl ?_
      go_simp
      refine (utake_no HU41.out.ur C hN hC2).mono ?_
      rintro e w42 ⟨rfl, k42⟩
      exact ⟨rfl, HK2.out.trans ((hk41.trans k42 (fun _ _ f => f)).mono (fun _ _ f => f.elim)) (fun _ _ e => e), .inl ⟨HG.out, rfl⟩⟩
     ·replace hN := hid hN
      obtain ⟨V, hVe⟩ : ∃ V, valL (((unpackL bs).drop (n + 1 + 1)).take C) = V := ⟨_, rfl⟩
      have hV := hid hVe
      rw [hVe] at hg
      obtain ⟨X, hXe⟩ : ∃ X, (V <<< t) % 18446744073709551616 = X := ⟨_, rfl⟩
      have hsh : IntKind.u64.wrap ((V : Int) * 2 ^ t) = (X : Int) := by rw [← hXe]; exact shl_int V t
      have HG : Hid (chgR z t ((unpackL bs).drop n) = some ((X, z, t), (unpackL bs).drop (n + 1 + 1 + C))) := by show _ = _; rw [HCH.out, hbody, hg, ← hXe]; rfl
      clear hg hbody hC hVe hXe
      go_wp2_with fail
      refine wp_region_noPanic ?_
      refine wp_region_last (L := 1000) (S := fun w' => w'.cell? ⟨b, 0, none⟩ = some (.int .i64 (z : Int)) ∧ w'.cell? ⟨b, 1, none⟩ = some (.int .i64 (t : Int))) (by kernel_rfl) ?_
      have hS : (fun w' : World => w'.cell? ⟨b, 0, none⟩ = some (.int .i64 (z : Int)) ∧ w'.cell? ⟨b, 1, none⟩ = some (.int .i64 (t : Int))) w2.drew := ⟨x0, x1⟩
      refine wpAnyN_take (i := 0) (v := .pointer (some ⟨b, 0, none⟩)) rfl (by kernel_rfl) (by kernel_rfl) (by kernel_rfl) (by decide) (by kernel_rfl) (fun _ _ _ h => h) (Or.inl ⟨by rfl, ?_⟩) hS ?_
      ·(intro w' hSw; go_simp)
      go_frame
      refine wpAnyN_take (i := 1) (v := .pointer (some ⟨b, 0, none⟩)) rfl (by kernel_rfl) (by kernel_rfl) (by kernel_rfl) (by decide) (by kernel_rfl) (fun _ _ _ h => h) (Or.inl ⟨by rfl, ?_⟩) hS ?_
      ·(intro w' hSw; go_simp)
      go_frame
      refine wpAnyN_take (i := 2) (v := .pointer (some ⟨b, 0, none⟩)) rfl (by kernel_rfl) (by kernel_rfl) (by kernel_rfl) (by decide) (by kernel_rfl) (fun _ _ _ h => h) (Or.inl ⟨by rfl, ?_⟩) hS ?_
      ·(intro w' hSw; go_simp)
      go_frame
      refine wpAnyN_take (i := 3) (v := .pointer (some ⟨b, 0, none⟩)) rfl (by kernel_rfl) (by kernel_rfl) (by kernel_rfl) (by decide) (by kernel_rfl) (fun _ _ _ h => h) (Or.inl ⟨by rfl, ?_⟩) hS ?_
      ·(intro w' hSw; go_simp)
      go_frame
      refine wpAnyN_take (i := 4) (v := .agg #[.int .i64 (z : Int), .int .i64 (t : Int)]) rfl (by kernel_rfl) (by kernel_rfl) (by kernel_rfl) (by decide) (by kernel_rfl) (fun _ _ _ h => h) (Or.inl ⟨by rfl, ?_⟩) hS ?_
      ·(intro w' hSw; go_simp)
      go_frame
      refine wpAnyN_take (i := 7) (v := .pointer (some ⟨b, 0, none⟩)) rfl (by kernel_rfl) (by kernel_rfl) (by kernel_rfl) (by decide) (by kernel_rfl) (fun _ _ _ h => h) (Or.inl ⟨by rfl, ?_⟩) hS ?_
      ·(intro w' hSw; go_simp)
      go_frame
      refine wpAnyN_take (i := 8) (v := .pointer (some ⟨b, 0, none⟩)) rfl (by kernel_rfl) (by kernel_rfl) (by kernel_rfl) (by decide) (by kernel_rfl) (fun _ _ _ h => h) (Or.inl ⟨by rfl, ?_⟩) hS ?_
      ·(intro w' hSw; go_simp)
      go_frame
      refine wpAnyN_take (i := 9) (v := .pointer (some ⟨b, 0, none⟩)) rfl (by kernel_rfl) (by kernel_rfl) (by kernel_rfl) (by decide) (by kernel_rfl) (fun _ _ _ h => h) (Or.inl ⟨by rfl, ?_⟩) hS ?_
      ·(intro w' hSw; go_simp)
      go_frame
      refine wpAnyN_take (i := 10) (v := .pointer (some ⟨b, 1, none⟩)) rfl (by kernel_rfl) (by kernel_rfl) (by kernel_rfl) (by decide) (by kernel_rfl) (fun _ _ _ h => h) (Or.inl ⟨by rfl, ?_⟩) hS ?_
      ·(intro w' hSw; go_simp)
      go_frame
      refine wpAnyN_take (i := 11) (v := .int .i64 (t : Int)) rfl (by kernel_rfl) (by kernel_rfl) (by kernel_rfl) (by decide) (by kernel_rfl) (fun _ _ _ h => h) (Or.inl ⟨by rfl, ?_⟩) hS ?_
      ·(intro w' hSw; go_simp)
      go_frame
      refine wpAnyL_one (i := 5) (by kernel_rfl) rfl rfl ?_
      go_simp
      refine (hcnt.out _).mono ?_
      rintro e w41 ⟨rfl, k41⟩
      have hk41 : Kept w2 w41 := (Only.refl (fun _ => False) w2).drew.trans k41 (fun _ _ f => f)
      have HU41 := hid (HU2.out.stay hk41)
      have y0 := HU41.out.blk.cell 0 rfl
      have y1 := HU41.out.blk.cell 1 rfl
      refine ⟨⟨y0, y1⟩, ?_⟩
      refine wpAnyL_one (i := 6) (by kernel_rfl) rfl rfl ?_
      go_simp
      refine (utake_any HU41.out.ur C hN.out hC2).mono ?_
      rw [hV.out]
      rintro e w42 ⟨rfl, k42, u42⟩
      clear y0 y1
      have y0 := u42.blk.cell 0 rfl
      have y1 := u42.blk.cell 1 rfl
      refine ⟨⟨y0, y1⟩, ?_⟩
      refine wpAnyL_one (i := 12) (by kernel_rfl) rfl rfl ?_
      go_simp
      refine wpAnyL_one (i := 13) (by kernel_rfl) rfl rfl ?_
      go_simp
      refine wpAnyN_done (by kernel_rfl) ?_
      refine NoPanic.normal ?_
      clear hS
      have HF : Hid (UpAt w42 b r z t v bs (n + 1 + 1 + C)) := ⟨u42.blk, u42.rd, hz31, hzt⟩
      have HKF : Hid (Only (Foo b r) w w42) := (HK2.out.trans (hk41.mono (fun _ _ f => f.elim)) (fun _ _ e => e)).trans (k42.mono (fun _ _ e => Or.inr e)) (fun _ _ e => e)
      clear u42 k42
      go_wp2_with fail
      go_ret
      exact ⟨HKF.out, .inr ⟨_, _, _, _, HG.out, rfl, HF.out⟩⟩
    | true =>
     have HCH : Hid (chgR z t ((unpackL bs).drop n) = newR ((unpackL bs).drop (n + 1 + 1))) := by show _ = _; rw [HA.out, hc]; rfl
     clear hc hvc
     go_wp2_with fail
     refine hok.mono ?_
     rintro e w2 ⟨rfl, k2, u2⟩
     have HU2 : Hid (UpAt w2 b r z t v bs (n + 1 + 1)) := ⟨u2.blk, u2.rd, H.out.z31, H.out.zt⟩
     have HK2 : Hid (Only (Foo b r) w w2) := HK1.out.trans (k2.mono (fun _ _ e => Or.inr e)) (fun _ _ e => e)
     clear hok u2 k2
     have hnew := anew_any HU2.out
     go_wp2_with fail
     refine hnew.mono ?_
     rintro e w3 ⟨k3, ⟨rfl, hn3⟩ | ⟨z', t', rfl, u3, hn3⟩⟩
     ·clear hnew
      go_wp2_with fail
      exact ⟨rfl, HK2.out.trans k3 (fun _ _ e => e), .inl ⟨by rw [HCH.out, hn3], rfl⟩⟩
     ·have HU3 := hid u3
      have HK3 : Hid (Only (Foo b r) w w3) := HK2.out.trans k3 (fun _ _ e => e)
      have HCH3 : Hid (chgR z t ((unpackL bs).drop n) = bodyR z' t' ((unpackL bs).drop (n + 1 + 1 + 11))) := by show _ = _; rw [HCH.out, hn3]
      clear hnew u3 k3 hn3
      go_wp2_with fail
      have x0 := HU3.out.blk.cell 0 rfl
      have x1 := HU3.out.blk.cell 1 rfl
      have hzt := HU3.out.zt
      have hz31 := HU3.out.z31
      obtain ⟨C, hC⟩ : ∃ C, 64 - z' - t' = C := ⟨_, rfl⟩
      have hC2 : C ≤ 64 := by omega
      have hcnt : Hid (∀ w, Calls Tryz.prog 132 #[.agg #[.int .i64 (z' : Int), .int .i64 (t' : Int)]] w fun e w' => e = .returned (.int .i64 (C : Int)) ∧ Kept w w') := fun w => by
       have := count_any w z' t' (by omega)
       rw [hC] at this
       exact this
      have hbody : bodyR z' t' ((unpackL bs).drop (n + 1 + 1 + 11)) = (getN ((unpackL bs).drop (n + 1 + 1 + 11)) C).map fun y => (((y.1 <<< t') % 18446744073709551616, z', t'), y.2) := by unfold bodyR; rw [hC]
      rcases getN_drop bs (n + 1 + 1 + 11) C HU3.out.rd.top with ⟨hN, hg⟩ | ⟨hN, hg⟩
      ·have HG : Hid (chgR z t ((unpackL bs).drop n) = none) := by show _ = _; rw [HCH3.out, hbody, hg]; rfl
       clear hg hbody hC
       go_wp2_with fail
       refine wp_region_last (L := 1000) (S := fun w' => w'.cell? ⟨b, 0, none⟩ = some (.int .i64 (z' : Int)) ∧ w'.cell? ⟨b, 1, none⟩ = some (.int .i64 (t' : Int))) (by kernel_rfl) ?_
       have hS : (fun w' : World => w'.cell? ⟨b, 0, none⟩ = some (.int .i64 (z' : Int)) ∧ w'.cell? ⟨b, 1, none⟩ = some (.int .i64 (t' : Int))) w3.drew := ⟨x0, x1⟩
       refine wpAnyN_take (i := 0) (v := .pointer (some ⟨b, 0, none⟩)) rfl (by kernel_rfl) (by kernel_rfl) (by kernel_rfl) (by decide) (by kernel_rfl) (fun _ _ _ h => h) (Or.inl ⟨by rfl, ?_⟩) hS ?_
       ·(intro w' hSw; go_simp)
       go_frame
       refine wpAnyN_take (i := 1) (v := .pointer (some ⟨b, 0, none⟩)) rfl (by kernel_rfl) (by kernel_rfl) (by kernel_rfl) (by decide) (by kernel_rfl) (fun _ _ _ h => h) (Or.inl ⟨by rfl, ?_⟩) hS ?_
       ·(intro w' hSw; go_simp)
       go_frame
       refine wpAnyN_take (i := 2) (v := .pointer (some ⟨b, 0, none⟩)) rfl (by kernel_rfl) (by kernel_rfl) (by kernel_rfl) (by decide) (by kernel_rfl) (fun _ _ _ h => h) (Or.inl ⟨by rfl, ?_⟩) hS ?_
       ·(intro w' hSw; go_simp)
       go_frame
       refine wpAnyN_take (i := 3) (v := .pointer (some ⟨b, 0, none⟩)) rfl (by kernel_rfl) (by kernel_rfl) (by kernel_rfl) (by decide) (by kernel_rfl) (fun _ _ _ h => h) (Or.inl ⟨by rfl, ?_⟩) hS ?_
       ·(intro w' hSw; go_simp)
       go_frame
       refine wpAnyN_take (i := 4) (v := .agg #[.int .i64 (z' : Int), .int .i64 (t' : Int)]) rfl (by kernel_rfl) (by kernel_rfl) (by kernel_rfl) (by decide) (by kernel_rfl) (fun _ _ _ h => h) (Or.inl ⟨by rfl, ?_⟩) hS ?_
       ·(intro w' hSw; go_simp)
       go_frame
       refine wpAnyN_take (i := 7) (v := .pointer (some ⟨b, 0, none⟩)) rfl (by kernel_rfl) (by kernel_rfl) (by kernel_rfl) (by decide) (by kernel_rfl) (fun _ _ _ h => h) (Or.inl ⟨by rfl, ?_⟩) hS ?_
       ·(intro w' hSw; go_simp)
       go_frame
       refine wpAnyN_take (i := 8) (v := .pointer (some ⟨b, 0, none⟩)) rfl (by kernel_rfl) (by kernel_rfl) (by kernel_rfl) (by decide) (by kernel_rfl) (fun _ _ _ h => h) (Or.inl ⟨by rfl, ?_⟩) hS ?_
       ·(intro w' hSw; go_simp)
       go_frame
       refine wpAnyN_take (i := 9) (v := .pointer (some ⟨b, 0, none⟩)) rfl (by kernel_rfl) (by kernel_rfl) (by kernel_rfl) (by decide) (by kernel_rfl) (fun _ _ _ h => h) (Or.inl ⟨by rfl, ?_⟩) hS ?_
       ·(intro w' hSw; go_simp)
       go_frame
       refine wpAnyN_take (i := 10) (v := .pointer (some ⟨b, 1, none⟩)) rfl (by kernel_rfl) (by kernel_rfl) (by kernel_rfl) (by decide) (by kernel_rfl) (fun _ _ _ h => h) (Or.inl ⟨by rfl, ?_⟩) hS ?_
       ·(intro w' hSw; go_simp)
       go_frame
       refine wpAnyN_take (i := 11) (v := .int .i64 (t' : Int)) rfl (by kernel_rfl) (by kernel_rfl) (by kernel_rfl) (by decide) (by kernel_rfl) (fun _ _ _ h => h) (Or.inl ⟨by rfl, ?_⟩) hS ?_
       ·(intro w' hSw; go_simp)
       go_frame
       refine wpAnyL_one (i := 5) (by kernel_rfl) rfl rfl ?_
       go_simp
       refine (hcnt.out _).mono ?_
       rintro e w51 ⟨rfl, k51⟩
       have hk51 : Kept w3 w51 := (Only.refl (fun _ => False) w3).drew.trans k51 (fun _ _ f => f)
       have HU51 := hid (HU3.out.stay hk51)
       have y0 := HU51.out.blk.cell 0 rfl
       have y1 := HU51.out.blk.cell 1 rfl
       refine ⟨⟨y0, y1⟩, ?_⟩
       refine wpAnyL_one (i := 6) (by kernel_rfl) rfl rfl ?_
       go_simp
       refine (utake_no HU51.out.ur C hN hC2).mono ?_
       rintro e w52 ⟨rfl, k52⟩
       exact ⟨rfl, HK3.out.trans ((hk51.trans k52 (fun _ _ f => f)).mono (fun _ _ f => f.elim)) (fun _ _ e => e), .inl ⟨HG.out, rfl⟩⟩
      ·replace hN := hid hN
       obtain ⟨V, hVe⟩ : ∃ V, valL (((unpackL bs).drop (n + 1 + 1 + 11)).take C) = V := ⟨_, rfl⟩
       have hV := hid hVe
       rw [hVe] at hg
       obtain ⟨X, hXe⟩ : ∃ X, (V <<< t') % 18446744073709551616 = X := ⟨_, rfl⟩
       have hsh : IntKind.u64.wrap ((V : Int) * 2 ^ t') = (X : Int) := by rw [← hXe]; exact shl_int V t'
       have HG : Hid (chgR z t ((unpackL bs).drop n) = some ((X, z', t'), (unpackL bs).drop (n + 1 + 1 + 11 + C))) := by show _ = _; rw [HCH3.out, hbody, hg, ← hXe]; rfl
       clear hg hbody hC hVe hXe
       go_wp2_with fail
       refine wp_region_noPanic ?_
       refine wp_region_last (L := 1000) (S := fun w' => w'.cell? ⟨b, 0, none⟩ = some (.int .i64 (z' : Int)) ∧ w'.cell? ⟨b, 1, none⟩ = some (.int .i64 (t' : Int))) (by kernel_rfl) ?_
       have hS : (fun w' : World => w'.cell? ⟨b, 0, none⟩ = some (.int .i64 (z' : Int)) ∧ w'.cell? ⟨b, 1, none⟩ = some (.int .i64 (t' : Int))) w3.drew := ⟨x0, x1⟩
       refine wpAnyN_take (i := 0) (v := .pointer (some ⟨b, 0, none⟩)) rfl (by kernel_rfl) (by kernel_rfl) (by kernel_rfl) (by decide) (by kernel_rfl) (fun _ _ _ h => h) (Or.inl ⟨by rfl, ?_⟩) hS ?_
       ·(intro w' hSw; go_simp)
       go_frame
       refine wpAnyN_take (i := 1) (v := .pointer (some ⟨b, 0, none⟩)) rfl (by kernel_rfl) (by kernel_rfl) (by kernel_rfl) (by decide) (by kernel_rfl) (fun _ _ _ h => h) (Or.inl ⟨by rfl, ?_⟩) hS ?_
       ·(intro w' hSw; go_simp)
       go_frame
       refine wpAnyN_take (i := 2) (v := .pointer (some ⟨b, 0, none⟩)) rfl (by kernel_rfl) (by kernel_rfl) (by kernel_rfl) (by decide) (by kernel_rfl) (fun _ _ _ h => h) (Or.inl ⟨by rfl, ?_⟩) hS ?_
       ·(intro w' hSw; go_simp)
       go_frame
       refine wpAnyN_take (i := 3) (v := .pointer (some ⟨b, 0, none⟩)) rfl (by kernel_rfl) (by kernel_rfl) (by kernel_rfl) (by decide) (by kernel_rfl) (fun _ _ _ h => h) (Or.inl ⟨by rfl, ?_⟩) hS ?_
       ·(intro w' hSw; go_simp)
       go_frame
       refine wpAnyN_take (i := 4) (v := .agg #[.int .i64 (z' : Int), .int .i64 (t' : Int)]) rfl (by kernel_rfl) (by kernel_rfl) (by kernel_rfl) (by decide) (by kernel_rfl) (fun _ _ _ h => h) (Or.inl ⟨by rfl, ?_⟩) hS ?_
       ·(intro w' hSw; go_simp)
       go_frame
       refine wpAnyN_take (i := 7) (v := .pointer (some ⟨b, 0, none⟩)) rfl (by kernel_rfl) (by kernel_rfl) (by kernel_rfl) (by decide) (by kernel_rfl) (fun _ _ _ h => h) (Or.inl ⟨by rfl, ?_⟩) hS ?_
       ·(intro w' hSw; go_simp)
       go_frame
       refine wpAnyN_take (i := 8) (v := .pointer (some ⟨b, 0, none⟩)) rfl (by kernel_rfl) (by kernel_rfl) (by kernel_rfl) (by decide) (by kernel_rfl) (fun _ _ _ h => h) (Or.inl ⟨by rfl, ?_⟩) hS ?_
       ·(intro w' hSw; go_simp)
       go_frame
       refine wpAnyN_take (i := 9) (v := .pointer (some ⟨b, 0, none⟩)) rfl (by kernel_rfl) (by kernel_rfl) (by kernel_rfl) (by decide) (by kernel_rfl) (fun _ _ _ h => h) (Or.inl ⟨by rfl, ?_⟩) hS ?_
       ·(intro w' hSw; go_simp)
       go_frame
       refine wpAnyN_take (i := 10) (v := .pointer (some ⟨b, 1, none⟩)) rfl (by kernel_rfl) (by kernel_rfl) (by kernel_rfl) (by decide) (by kernel_rfl) (fun _ _ _ h => h) (Or.inl ⟨by rfl, ?_⟩) hS ?_
       ·(intro w' hSw; go_simp)
       go_frame
       refine wpAnyN_take (i := 11) (v := .int .i64 (t' : Int)) rfl (by kernel_rfl) (by kernel_rfl) (by kernel_rfl) (by decide) (by kernel_rfl) (fun _ _ _ h => h) (Or.inl ⟨by rfl, ?_⟩) hS ?_
       ·(intro w' hSw; go_simp)
       go_frame
       refine wpAnyL_one (i := 5) (by kernel_rfl) rfl rfl ?_
       go_simp
       refine (hcnt.out _).mono ?_
       rintro e w51 ⟨rfl, k51⟩
       have hk51 : Kept w3 w51 := (Only.refl (fun _ => False) w3).drew.trans k51 (fun _ _ f => f)
       have HU51 := hid (HU3.out.stay hk51)
       have y0 := HU51.out.blk.cell 0 rfl
       have y1 := HU51.out.blk.cell 1 rfl
       refine ⟨⟨y0, y1⟩, ?_⟩
       refine wpAnyL_one (i := 6) (by kernel_rfl) rfl rfl ?_
       go_simp
       refine (utake_any HU51.out.ur C hN.out hC2).mono ?_
       rw [hV.out]
       rintro e w52 ⟨rfl, k52, u52⟩
       clear y0 y1
       have y0 := u52.blk.cell 0 rfl
       have y1 := u52.blk.cell 1 rfl
       refine ⟨⟨y0, y1⟩, ?_⟩
       refine wpAnyL_one (i := 12) (by kernel_rfl) rfl rfl ?_
       go_simp
       refine wpAnyL_one (i := 13) (by kernel_rfl) rfl rfl ?_
       go_simp
       refine wpAnyN_done (by kernel_rfl) ?_
       refine NoPanic.normal ?_
       clear hS
       have HF : Hid (UpAt w52 b r z' t' v bs (n + 1 + 1 + 11 + C)) := ⟨u52.blk, u52.rd, hz31, hzt⟩
       have HKF : Hid (Only (Foo b r) w w52) := (HK3.out.trans (hk51.mono (fun _ _ f => f.elim)) (fun _ _ e => e)).trans (k52.mono (fun _ _ e => Or.inr e)) (fun _ _ e => e)
       clear u52 k52
       go_wp2_with fail
       go_ret
       exact ⟨HKF.out, .inr ⟨_, _, _, _, HG.out, rfl, HF.out⟩⟩
   ·have hno := utake_no HU1.out.ur 1 (by omega) (by decide)
    have HG : Hid (chgR z t ((unpackL bs).drop n) = none) := by show _ = _; rw [HA.out, hc]; rfl
    clear hc
    go_wp2_with fail
    refine hno.mono ?_
    rintro e w2 ⟨rfl, k2⟩
    go_wp2_with fail
    exact ⟨rfl, HK1.out.trans (k2.mono (fun _ _ f => f.elim)) (fun _ _ e => e), .inl ⟨HG.out, rfl⟩⟩
 ·have hno := utake_no H.out.ur 1 (by omega) (by decide)
  have HG : Hid (chgR z t ((unpackL bs).drop n) = none) := by show _ = _; rw [ha]; rfl
  clear ha
  go_enter Tryz.func150, Tryz.ntmps150
  go_wp2_with fail
  refine hno.mono ?_
  rintro e w1 ⟨rfl, k1⟩
  go_wp2_with fail
  exact ⟨rfl, k1.mono (fun _ _ f => f.elim), .inl ⟨HG.out, rfl⟩⟩
end Go.Proofs.YtllfanlhgnkcfaaGreatDoor.V
namespace Go.Proofs.YtllfanlhgnkcfaaGreatDoor.V
open Go.RowKit Go.Proofs.Lys
set_option linter.unusedVariables false
structure UdIn (w : World) (B r : Nat) (vb : Value) (bs : List UInt8) (wr : World) (z t n : Nat) (sv : Value) (acc : List Int) : Prop where
 up : UpAt wr B r z t vb bs n
 row : wr.ownsRow w.heap.size 3 1 sv acc.length (acc.map (Value.int .i64))
 kept : Kept w wr
 newB : w.heap.size ≤ B
 newr : w.heap.size ≤ r
theorem UdIn.read {w wr w' : World} {B r z t n z' t' n' : Nat} {vb sv : Value} {bs : List UInt8} {acc : List Int} (h : UdIn w B r vb bs wr z t n sv acc) (ho : Only (Foo B r) wr w') (hu : UpAt w' B r z' t' vb bs n') : UdIn w B r vb bs w' z' t' n' sv acc :=
 ⟨hu, own_only h.row ho (fun j hj e => by
  rcases e with e | e
  ·exact (own_typed h.row hj).ne h.up.blk.typed (by decide) e
  ·exact (own_typed h.row hj).ne h.up.rd.blk.typed (by decide) e), h.kept.trans ho (fun j hj e => by
  have := h.newB
  have := h.newr
  rcases e with e | e <;> omega), h.newB, h.newr⟩
theorem UdIn.add {w wr w' : World} {B r z t n : Nat} {vb sv sv' : Value} {bs : List UInt8} {acc acc' : List Int} (h : UdIn w B r vb bs wr z t n sv acc) (ho : Only (fun k => sv.ownBlock = some k) wr w') (hr : w'.ownsRow w.heap.size 3 1 sv' acc'.length (acc'.map (Value.int .i64))) : UdIn w B r vb bs w' z t n sv' acc' :=
 ⟨⟨ho.blk h.up.blk (fun e => (own_typed h.row e).ne h.up.blk.typed (by decide) rfl), h.up.rd.only ho (fun e => (own_typed h.row e).ne h.up.rd.blk.typed (by decide) rfl) (fun j hj e => (own_typed h.row e).ne (own_typed h.up.rd.own hj) (by decide) rfl), h.up.z31, h.up.zt⟩, hr, h.kept.trans ho (fun j hj e => by have := (h.row.lt j e).1; omega), h.newB, h.newr⟩
theorem readT_first {n : Nat} {L : List Bool} {p z t : Nat} : readT (n + 1) L p z t [] = (getN L 64).bind fun x => readT n x.2 x.1 z t ([] ++ [wrap64 (x.1 : Int)]) := by simp [readT]
theorem readT_next {n : Nat} {L : List Bool} {p z t : Nat} {acc : List Int} (h : acc ≠ []) : readT (n + 1) L p z t acc = (chgR z t L).bind fun x => readT n x.2 (p ^^^ x.1.1) x.1.2.1 x.1.2.2 (acc ++ [wrap64 ((p ^^^ x.1.1 : Nat) : Int)]) := by simp [readT, h]
theorem bodyR_lt {z t : Nat} {l R : List Bool} {X z' t' : Nat} (h : bodyR z t l = some ((X, z', t'), R)) : X < 18446744073709551616 := by
 unfold bodyR at h
 cases hg : getN l (64 - z - t) with
 | none => rw [hg] at h; cases h
 | some y =>
  rw [hg] at h
  simp only [Option.map_some, Option.some.injEq, Prod.mk.injEq] at h
  rw [← h.1.1]
  exact Nat.mod_lt _ (by decide)
theorem newR_lt {l R : List Bool} {X z' t' : Nat} (h : newR l = some ((X, z', t'), R)) : X < 18446744073709551616 := by
 unfold newR at h
 cases hg : getN l 5 with
 | none => rw [hg] at h; cases h
 | some a =>
  rw [hg, Option.bind_some] at h
  cases hm : getN a.2 6 with
  | none => rw [hm] at h; cases h
  | some m =>
   rw [hm, Option.bind_some] at h
   split at h
   ·cases h
   ·exact bodyR_lt h
theorem chgR_lt {z t : Nat} {l R : List Bool} {X z' t' : Nat} (h : chgR z t l = some ((X, z', t'), R)) : X < 18446744073709551616 := by
 match l, h with
 | [], h => cases h
 | false :: l, h =>
  have h' : some ((0, z, t), l) = some ((X, z', t'), R) := h
  simp only [Option.some.injEq, Prod.mk.injEq] at h'
  omega
 | [true], h => cases h
 | true :: false :: l, h => exact bodyR_lt h
 | true :: true :: l, h => exact newR_lt h
def ReadPost (w : World) (bs : List UInt8) (n : Nat) (e : Ending) (w' : World) : Prop :=
 Kept w w' ∧ ((∃ m u, readT n (unpackL bs) 0 0 0 [] = some m ∧ Packs m bs 0 ∧ e = .returned u ∧ w'.ownsRow w.heap.size 3 1 u m.length (m.map (Value.int .i64))) ∨
  (e = tooFew ∧ (readT n (unpackL bs) 0 0 0 [] = none ∨ ∃ m, readT n (unpackL bs) 0 0 0 [] = some m ∧ ¬ Packs m bs 0)))
set_option maxRecDepth 100000 in
set_option maxHeartbeats 3200000 in
theorem read_any (w : World) (v : Value) (bs : List UInt8) (n : Nat) (hs : SrcOf w v (bs.map bV)) (hl : bs.length ≤ 10000000) (hn : n ≤ 120) :
  Calls Tryz.prog 139 #[v, .int .i64 (n : Int)] w (ReadPost w bs n) := by
 have hnot : ∀ (x : Bool) (w : World), (Op.unary .not (.bool x)).run Tryz.prog w = .ok (.bool (!x)) w := fun _ _ => rfl
 obtain ⟨i0, hi0, hz0, hz1, hz2⟩ := info_parts infoI6
 have hmk : ∀ w, (Instr.makeSlice 64 (.int .i64 0) (.int .i64 (n : Int))).run Tryz.prog w = .ok (.slice (some ⟨w.heap.size, 0, none⟩) 0 n) (w.alloc (.cells (madeCells #[Value.int .i64 0] n) 3)) := fun w => by
  have := run_make (P := Tryz.prog) w 64 3 i0 (.int .i64 0) Tryz.underlying64 hi0 hz0 .i64 .i64 0 (n : Int) (by omega) (by omega) (by rw [hz2]; omega) (by omega)
  rw [hz1] at this
  simp only [Int.toNat_natCast, Nat.mul_one, Int.toNat_zero] at this
  exact this
 have hrow : Hid ((w.alloc (.cells (madeCells #[Value.int .i64 0] n) 3)).ownsRow w.heap.size 3 1 (.slice (some ⟨w.heap.size, 0, none⟩) 0 n) 0 []) := World.ownsRow_made w _ n (Nat.le_refl _) (by unfold maxLen; omega) (by rw [size_madeCells]; omega)
 obtain ⟨a0, c0, e0⟩ := hs.len
 rw [List.length_map] at e0
 obtain ⟨L, hL⟩ : ∃ L, bs.length = L := ⟨_, rfl⟩
 have HS := hid hs
 rw [hL] at e0 hl
 subst e0
 have HL := hid hL
 clear hL hs hi0 hz0 hz1 hz2
 go_enter Tryz.func139, Tryz.ntmps139
 go_wp2_with fail
 have k1 : Kept w (w.alloc (.cells (madeCells #[Value.int .i64 0] n) 3)) := (Only.refl _ w).alloc _
 refine (newReader_any _ _ bs (HS.out.stay k1) (by have := HL.out; omega)).mono ?_
 rintro e w2 ⟨r, vb, rfl, hB, hblk, hown, k2⟩
 have hsz := k2.size
 have hI : UdIn w w2.heap.size r vb bs (w2.alloc (.cells #[.int .i64 0, .int .i64 0, .pointer (some ⟨r, 0, none⟩)] 216)) 0 0 0 (.slice (some ⟨w.heap.size, 0, none⟩) 0 n) [] := ⟨⟨Blk.new w2 [.int .i64 0, .int .i64 0, .pointer (some ⟨r, 0, none⟩)] _, ⟨hblk.alloc _, own_base (hown.alloc _) (Nat.zero_le _), by have := HL.out; omega, by omega⟩, by omega, by omega⟩, (own_only hrow.out k2 (fun _ _ f => f)).alloc _, (k1.trans k2 (fun _ _ f => f)).alloc _, by simp at hsz; omega, by simp at hB; omega⟩
 have HI := hid hI
 clear k1 k2 hB hblk hown hI hrow hmk
 go_wp2_with fail
 generalize w2.alloc (.cells #[.int .i64 0, .int .i64 0, .pointer (some ⟨r, 0, none⟩)] 216) = w3 at HI ⊢
 generalize w2.heap.size = B at HI ⊢
 go_loopw [5, 7, 18] (fun sv p i wr => ∃ (k n' : Nat) (acc : List Int) (P z t : Nat), k ≤ n ∧ acc.length = k ∧ p = .int .u64 (P : Int) ∧ P < 18446744073709551616 ∧ i = .int .i64 (k : Int) ∧ UdIn w B r vb bs wr z t n' sv acc ∧ readT n (unpackL bs) 0 0 0 [] = readT (n - k) ((unpackL bs).drop n') P z t acc) (fun _ _ i _ => n - (intOf i).toNat)
 case atStart => exact ⟨0, 0, [], 0, 0, 0, by omega, rfl, rfl, by decide, rfl, HI.out, by simp⟩
 case round =>
  obtain ⟨k, n', acc, P, z, t, hk, hacc, rfl, hP, rfl, hR, hT⟩ := hrel
  have HR := hid hR
  have HPl := hid hP
  clear hR HI hP
  by_cases hlt : k < n
  ·obtain ⟨f, hf⟩ : ∃ f, n - k = f + 1 := ⟨n - k - 1, by omega⟩
   rw [hf] at hT
   by_cases hk0 : k = 0
   ·subst hk0
    have ea : acc = [] := List.length_eq_zero_iff.1 hacc
    subst ea
    rw [readT_first] at hT
    rcases getN_drop bs n' 64 HR.out.up.rd.top with ⟨hN, hg⟩ | ⟨hN, hg⟩
    ·have HT : Hid (readT n (unpackL bs) 0 0 0 [] = none) := by show _ = _; rw [hT, hg]; rfl
     have hc := utake_no HR.out.up.ur 64 hN (by omega)
     clear hT hg hN
     go_wp2_with fail
     refine hc.mono ?_
     rintro e w4 ⟨rfl, k4⟩
     clear hc
     go_wp2_with fail
     exact ⟨rfl, HR.out.kept.trans k4 (fun _ _ f => f), .inr ⟨rfl, .inl HT.out⟩⟩
    ·have hc := utake_any HR.out.up.ur 64 hN (by omega)
     have hXl := hid (val_take_lt ((unpackL bs).drop n') 64 (by omega))
     generalize valL (((unpackL bs).drop n').take 64) = X at hc hg hXl
     have HT : Hid (readT n (unpackL bs) 0 0 0 [] = readT f ((unpackL bs).drop (n' + 64)) X z t ([] ++ [wrap64 (X : Int)])) := by show _ = _; rw [hT, hg]; rfl
     clear hT hg hN
     go_wp2_with fail
     refine hc.mono ?_
     rintro e w4 ⟨rfl, k4, u4⟩
     clear hc
     have HR3 := hid (HR.out.read (k4.mono (fun _ _ e => Or.inr e)) ⟨u4.blk, u4.rd, HR.out.up.z31, HR.out.up.zt⟩)
     obtain ⟨g, cap, w5, Hr, hown4, hon4⟩ := own_num HR3.out.row HR3.out.kept.size (by simp) (wrap64 (X : Int))
     have HR4 := hid (HR3.out.add hon4 hown4)
     clear hown4 hon4 u4
     go_wp2_with (at_builtin; refine wpList_append_run rfl _ _ _ rfl rfl rfl Hr ?_)
     go_roundw
     case rel => exact ⟨1, n' + 64, [] ++ [wrap64 (X : Int)], X, z, t, by omega, rfl, rfl, hXl.out, rfl, HR4.out, by rw [HT.out, show n - 1 = f by omega]⟩
     case measure => simp [intOf]; omega
   ·have ha : acc ≠ [] := fun e => by rw [e] at hacc; simp at hacc; omega
    have hk0' : ((k : Int) == 0) = false := by simp; omega
    rw [readT_next ha] at hT
    have hc := uchange_any HR.out.up
    rcases hg : chgR z t ((unpackL bs).drop n') with _ | ⟨⟨X, z', t'⟩, R⟩
    ·have HT : Hid (readT n (unpackL bs) 0 0 0 [] = none) := by show _ = _; rw [hT, hg]; rfl
     have hc' := hc.mono (fun e w' (h : _ ∧ _) => show Only (Foo B r) wr w' ∧ e = tooFew from ⟨h.1, by
      rcases h.2 with ⟨_, h⟩ | ⟨X, _, _, _, h, _⟩
      ·exact h
      ·rw [hg] at h; cases h⟩)
     clear hT hg hc
     go_wp2_with fail
     refine hc'.mono ?_
     rintro e w4 ⟨k4, rfl⟩
     clear hc'
     go_wp2_with fail
     exact ⟨rfl, HR.out.kept.trans k4 (fun j hj e => by have := HR.out.newB; have := HR.out.newr; rcases e with e | e <;> omega), .inr ⟨rfl, .inl HT.out⟩⟩
    ·have hc' := hc.mono (fun e w' (h : _ ∧ _) => show Only (Foo B r) wr w' ∧ ∃ n2, R = (unpackL bs).drop n2 ∧ e = .returned (.int .u64 (X : Int)) ∧ UpAt w' B r z' t' vb bs n2 from ⟨h.1, by
      rcases h.2 with ⟨h, _⟩ | ⟨X', z2, t2, n2, h, h1, h2⟩
      ·rw [hg] at h; cases h
      ·rw [hg] at h
       simp only [Option.some.injEq, Prod.mk.injEq] at h
       obtain ⟨⟨rfl, rfl, rfl⟩, hb⟩ := h
       exact ⟨n2, hb, h1, h2⟩⟩)
     have hXl := chgR_lt hg
     rw [hg] at hT
     have HT := hid hT
     have hxo : bits .xor .u64 (P : Int) (X : Int) = ((P ^^^ X : Nat) : Int) := u64_xor_nat _ _ HPl.out hXl
     have hPX : Hid (P ^^^ X < 18446744073709551616) := Nat.xor_lt_two_pow (n := 64) HPl.out hXl
     obtain ⟨Y, hY⟩ : ∃ Y, P ^^^ X = Y := ⟨_, rfl⟩
     rw [hY] at hxo hPX
     have HY := hid hY
     clear hT hg hc hXl hY
     go_wp2_with fail
     refine hc'.mono ?_
     rintro e w4 ⟨k4, n2, hR2, rfl, u4⟩
     clear hc'
     have HR3 := hid (HR.out.read k4 u4)
     have hal : acc.length ≤ 1000000 := by omega
     obtain ⟨g, cap, w5, Hr, hown4, hon4⟩ := own_num HR3.out.row HR3.out.kept.size hal (wrap64 (Y : Int))
     have HR4 := hid (HR3.out.add hon4 hown4)
     have HR2 := hid hR2
     have HA := hid hacc
     clear hown4 hon4 hR2 hal u4 k4
     rw [hacc] at Hr HR4
     clear hacc
     go_wp2_with (at_builtin; refine wpList_append_run rfl _ _ _ rfl rfl rfl Hr ?_)
     go_roundw
     case rel => exact ⟨k + 1, n2, acc ++ [wrap64 (Y : Int)], Y, z', t', by omega, by simp [HA.out], rfl, hPX.out, by go_num, HR4.out, by rw [HT.out, show n - (k + 1) = f by omega, ← HR2.out, ← HY.out]; rfl⟩
     case measure => simp [intOf]; omega
  ·have ek : n - k = 0 := by omega
   rw [ek] at hT
   have HT : Hid (readT n (unpackL bs) 0 0 0 [] = some acc) := by show _ = _; rw [hT]; rfl
   have hp := pack_any wr _ acc (own_src HR.out.row) (by omega)
   obtain ⟨sa, sc, hsv⟩ := own_slice HR.out.row
   subst hsv
   clear hT ek hacc
   go_wp2_with fail
   refine hp.mono ?_
   rintro e w3 ⟨k3, u, cs, x, rfl, hP, ho3⟩
   clear hp
   have hk3 : Kept w w3 := HR.out.kept.trans k3 (fun _ _ f => f)
   have hsrc := HS.out.stay hk3
   have HP := hid hP
   have HK3 := hid hk3
   have HO3 := hid (own_only HR.out.row k3 (fun _ _ f => f))
   by_cases hx : x = 0
   ·subst hx
    have he := equal_any (own_src ho3) hsrc
    obtain ⟨ua, uc, hu⟩ := own_slice ho3
    subst hu
    by_cases heq : cs = bs
    ·have he' := he.mono (fun e w' (h : _ ∧ _) => show w' = w3 ∧ e = .returned (.bool true) from ⟨h.1, by
      rcases h.2 with ⟨_, h⟩ | ⟨h, _⟩
      ·exact h
      ·exact absurd heq h⟩)
     have HE := hid heq
     clear he heq hP ho3 hsrc hk3
     go_wp2_with fail
     refine he'.mono ?_
     rintro e w4 ⟨hw, rfl⟩
     replace hw := hw.symm
     subst hw
     clear he'
     go_wp2_with fail
     go_ret
     exact ⟨HK3.out, .inl ⟨acc, _, HT.out, by rw [← HE.out]; exact HP.out, rfl, HO3.out⟩⟩
    ·have he' := he.mono (fun e w' (h : _ ∧ _) => show w' = w3 ∧ e = .returned (.bool false) from ⟨h.1, by
      rcases h.2 with ⟨h, _⟩ | ⟨_, h⟩
      ·exact absurd h heq
      ·exact h⟩)
     have HE := hid heq
     clear he heq hP ho3 hsrc hk3
     go_wp2_with fail
     refine he'.mono ?_
     rintro e w4 ⟨hw, rfl⟩
     replace hw := hw.symm
     subst hw
     clear he'
     go_wp2_with fail
     exact ⟨rfl, HK3.out, .inr ⟨rfl, .inr ⟨acc, HT.out, fun h => HE.out (HP.out.inj h).1⟩⟩⟩
   ·have hx' : (x == 0) = false := by simp [hx]
    clear hP ho3 hsrc hk3
    go_wp2_with fail
    exact ⟨rfl, HK3.out, .inr ⟨rfl, .inr ⟨acc, HT.out, fun h => hx (HP.out.inj h).2⟩⟩⟩
end Go.Proofs.YtllfanlhgnkcfaaGreatDoor.V
namespace Go.Proofs.YtllfanlhgnkcfaaGreatDoor.V
open Go.RowKit Go.Proofs.Lys
set_option linter.unusedVariables false
theorem unpNo (p q : Addr) (w : World) :
  CallsD Tryz.prog 138 #[.pointer (some p), .pointer (some q)] .returning w fun e u' w' => e = .returned (.tuple #[]) ∧ u' = .returning ∧ w' = w := by
 refine callsD_of_wpS Tryz.func138 rfl fun c₀ cs hu => ?_
 apply wpS_seq
 apply wpS_region
 simp [wpOpsS, go_sem, recoverD, hu, Tryz.ntmps138, Exit.thenS]
 apply wpS_seq
 apply wpS_region
 simp [wpOpsS, go_sem, Exit.thenS]
 refine wpS_cond (t := false) (by simp [Act.eval, Array.replicate]) ?_
 simp only [Bool.false_eq_true, if_false]
 refine wpS_of_wp (wp_skip ?_)
 cases c₀
 simp_all [bodyPostS, results, Tryz.results138]
theorem unpUp (p q : Nat) (x : Value) (y n : Int) (w : World) (hp : Blk w p [x] 64) (hq : Blk w q [.int .i64 y] 26) :
  CallsD Tryz.prog 138 #[.pointer (some ⟨p, 0, none⟩), .pointer (some ⟨q, 0, none⟩)] (.panicking [{ v := .iface 26 (.int .i64 n), recovered := false }]) w fun e u' w' =>
   e = .returned (.tuple #[]) ∧ u' = .panicking [{ v := .iface 26 (.int .i64 n), recovered := true }] ∧ Only (fun k => k = p ∨ k = q) w w' ∧ Blk w' p [.slice none 0 0] 64 ∧ Blk w' q [.int .i64 n] 26 := by
 have hpq : p ≠ q := hp.ne hq (by decide)
 have c0 := hp.cell 0 rfl
 have c1 := hq.cell 0 rfl
 have f0 := hp.frozen 0
 have f1 := hq.frozen 0
 have hta : ∀ w, (Instr.typeAssert (.iface 26 (.int .i64 n)) 20 26 false).run Tryz.prog w = .ok (.int .i64 n) w := by
  intro w
  simp [Instr.typeAssert, run_underlying Tryz.underlying26, Result.andThen]
 refine callsD_of_wpS Tryz.func138 rfl fun c₀ cs hu => ?_
 apply wpS_seq
 apply wpS_region
 simp [wpOpsS, go_sem, recoverD, hu, Tryz.ntmps138, Exit.thenS]
 apply wpS_seq
 apply wpS_region
 simp [wpOpsS, go_sem, Exit.thenS]
 refine wpS_cond (t := true) (by simp [Act.eval, Array.replicate]) ?_
 simp only [if_true]
 refine wpS_of_wp ?_
 go_region
 all_goals
  refine ⟨rfl, _, rfl, .tuple #[], by simp [results, Tryz.results138], rfl, rfl, (((Only.refl _ w).setCell (fun _ => by simp) _).setCell (fun _ => by simp) _).drew, ?_, ?_⟩
  ·exact ((hp.set 0 _).other hpq _).drew
  ·exact ((hq.other (Ne.symm hpq) _).set 0 _).drew
def UnpackPost (w : World) (bs : List UInt8) (n : Int) (e : Ending) (w' : World) : Prop :=
 Kept w w' ∧ ∃ l u x, e = .returned (.tuple #[u, .int .i64 x]) ∧ Reads bs n l x ∧ w'.ownsRow w.heap.size 3 1 u l.length (l.map (Value.int .i64))
abbrev unpW (w : World) : World := (w.alloc (.cells #[.slice none 0 0] 64)).alloc (.cells #[.int .i64 0] 26)
theorem unpP (w : World) : Blk (unpW w) w.heap.size [.slice none 0 0] 64 := (Blk.new w [.slice none 0 0] 64).alloc _
theorem unpQ (w : World) : Blk (unpW w) (w.heap.size + 1) [.int .i64 0] 26 := by
 have := Blk.new (w.alloc (.cells #[.slice none 0 0] 64)) [.int .i64 0] 26
 simpa using this
theorem unpK (w : World) : Kept w (unpW w) := ((Only.refl _ w).alloc _).alloc _
set_option maxHeartbeats 1600000 in
theorem unpack_arg (w : World) (v : Value) (bs : List UInt8) (n : Int) (hn : n < 0 ∨ 120 < n) : Calls Tryz.prog 124 #[v, .int .i64 n] w (UnpackPost w bs n) := by
 have hmf : ∀ (fn : Fn) (first cap : Array Value) (w : World), (Instr.makeFunc fn first cap).run Tryz.prog w = .ok (.func fn first cap) w := fun _ _ _ _ => rfl
 have hp := unpP w
 have hq := unpQ w
 have c0 := hp.cell 0 rfl
 have c1 := hq.cell 0 rfl
 have f0 := hp.frozen 0
 have f1 := hq.frozen 0
 rcases hn with hn | hn
 ·have hn' : ¬ 120 < n := by omega
  go_enter_defers Tryz.func124, Tryz.ntmps124
  go_wp2
  simp [bodyPostD, Leaves, results, Tryz.results124, go_sem]
  exact ⟨((Only.refl _ w).alloc _).alloc _, [], _, 1, rfl, .inr (.inl ⟨hn, rfl, rfl⟩), World.ownsRow_nil _ _ _ _⟩
 ·go_enter_defers Tryz.func124, Tryz.ntmps124
  go_wp2
  simp [bodyPostD, Leaves, results, Tryz.results124, go_sem]
  exact ⟨((Only.refl _ w).alloc _).alloc _, [], _, 2, rfl, .inl ⟨hn, rfl, rfl⟩, World.ownsRow_nil _ _ _ _⟩
set_option maxHeartbeats 1600000 in
theorem unpack_any (w : World) (v : Value) (bs : List UInt8) (n : Int) (hs : SrcOf w v (bs.map bV)) (hl : bs.length ≤ 10000000) : Calls Tryz.prog 124 #[v, .int .i64 n] w (UnpackPost w bs n) := by
 by_cases hn : n < 0 ∨ 120 < n
 ·exact unpack_arg w v bs n hn
 ·have hmf : ∀ (fn : Fn) (first cap : Array Value) (w : World), (Instr.makeFunc fn first cap).run Tryz.prog w = .ok (.func fn first cap) w := fun _ _ _ _ => rfl
  obtain ⟨N, rfl⟩ : ∃ N : Nat, n = (N : Int) := ⟨n.toNat, by omega⟩
  have hN : N ≤ 120 := by omega
  have hrd := read_any (unpW w) v bs N (hs.stay (unpK w)) hl hN
  have hp := unpP w
  have hq := unpQ w
  have hk0 := unpK w
  have hn' : ¬ (120 : Int) < (N : Int) := by omega
  obtain ⟨a0, c0, e0⟩ := hs.len
  rw [List.length_map] at e0
  subst e0
  clear hs hn
  go_enter_defers Tryz.func124, Tryz.ntmps124
  go_wp2_with fail
  refine hrd.mono ?_
  rintro e w1 ⟨hk, ⟨m, u, hT, hP, rfl, hrow⟩ | ⟨rfl, hno⟩⟩
  ·clear hrd
   have hp1 := hk.blk hp (fun f => f)
   have hq1 := hk.blk hq (fun f => f)
   have c0 := hp1.cell 0 rfl
   have c1 := hq1.cell 0 rfl
   have f0 := hp1.frozen 0
   have f1 := hq1.frozen 0
   obtain ⟨ua, uc, hu⟩ := own_slice hrow
   subst hu
   have HT := hid hT
   have HP := hid hP
   have HR := hid hrow
   clear hT hP hrow
   go_wp2_with fail
   refine leaves_cons (f := 138) (args := #[.pointer (some ⟨w.heap.size, 0, none⟩), .pointer (some ⟨w.heap.size + 1, 0, none⟩)]) (by simp) (by simp [go_sem]) ?_
   refine (unpNo _ _ _).mono ?_
   rintro e u' w'' ⟨rfl, rfl, rfl⟩
   have hs1 := hk.size
   simp at hs1
   have hk2 : Kept w ((w1.setCell ⟨w.heap.size, 0, none⟩ (.slice ua m.length uc)).setCell ⟨w.heap.size + 1, 0, none⟩ (.int .i64 0)) := ((hk0.trans hk (fun _ _ f => f)).setCell (fun hlt => absurd hlt (by simp)) _).setCell (fun hlt => absurd hlt (by simp)) _
   have hp3 := ((hp1.set 0 (.slice ua m.length uc)).other (a := ⟨w.heap.size + 1, 0, none⟩) (by simp) (.int .i64 0)).cell 0 rfl
   have hq3 := ((hq1.other (a := ⟨w.heap.size, 0, none⟩) (by simp) (.slice ua m.length uc)).set 0 (.int .i64 0)).cell 0 rfl
   have hO : Only (fun k => k = w.heap.size ∨ k = w.heap.size + 1) w1 ((w1.setCell ⟨w.heap.size, 0, none⟩ (.slice ua m.length uc)).setCell ⟨w.heap.size + 1, 0, none⟩ (.int .i64 0)) := ((Only.refl _ w1).setCell (fun _ => .inl rfl) _).setCell (fun _ => .inr rfl) _
   have hR3 := own_only HR.out hO (fun j hj e => by have := (HR.out.lt j hj).1; simp at this; omega)
   simp [Leaves, settle, results, Tryz.results124, go_sem, hp3, hq3]
   exact ⟨hk2, m, _, 0, rfl, .inr (.inr ⟨by omega, by omega, .inr ⟨m, by rw [Int.toNat_natCast]; exact HT.out, .inr ⟨HP.out, rfl, rfl⟩⟩⟩), own_base hR3 (unpK w).size⟩
  ·clear hrd
   have hp1 := hk.blk hp (fun f => f)
   have hq1 := hk.blk hq (fun f => f)
   refine leaves_cons (f := 138) (args := #[.pointer (some ⟨w.heap.size, 0, none⟩), .pointer (some ⟨w.heap.size + 1, 0, none⟩)]) (by simp) (by simp [go_sem]) ?_
   refine (unpUp _ _ _ 0 5 _ hp1 hq1).mono ?_
   rintro e u' w'' ⟨rfl, rfl, hk2, hp2, hq2⟩
   have hp3 := hp2.cell 0 rfl
   have hq3 := hq2.cell 0 rfl
   simp [Leaves, settle, results, Tryz.results124, go_sem, hp3, hq3]
   refine ⟨(hk0.trans hk (fun _ _ f => f)).trans hk2 (fun j hj e => by rcases e with e | e <;> omega), [], _, 5, rfl, .inr (.inr ⟨by omega, by omega, ?_⟩), World.ownsRow_nil _ _ _ _⟩
   rw [Int.toNat_natCast]
   rcases hno with h | ⟨m, h1, h2⟩
   ·exact .inl ⟨h, rfl, rfl⟩
   ·exact .inr ⟨m, h1, .inl ⟨h2, rfl, rfl⟩⟩
end Go.Proofs.YtllfanlhgnkcfaaGreatDoor.V
