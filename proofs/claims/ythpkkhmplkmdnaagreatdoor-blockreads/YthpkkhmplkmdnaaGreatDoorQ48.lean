/-
  Kdn, Kspan.
-/
import Derived.Test.YthpkkhmplkmdnaaGreatDoorQ42
import Derived.Test.YthpkkhmplkmdnaaGreatDoorQ29
import Derived.Test.YthpkkhmplkmdnaaGreatDoorQ11
import Derived.Test.YthpkkhmplkmdnaaGreatDoorQ47
namespace Go.Proofs.YthpkkhmplkmdnaaGreatDoor.K
open Go Go.RowKit Go.Proofs.Lys
set_option linter.unusedVariables false
set_option linter.unusedSimpArgs false
def numQ (bs : List UInt8) : Option (Int × List UInt8) := (numK bs).map fun x => (x.1, bs.drop x.2)
theorem numQ_cases (bs : List UInt8) : (getA bs 0 0 = (0, 0, 5) ∧ numQ bs = none) ∨
  ∃ u k, getA bs 0 0 = (u, k, 0) ∧ u < 18446744073709551616 ∧ k ≤ bs.length ∧ numQ bs = some (wrap64 (u : Int), bs.drop k) := by
 rcases U.getA_cases bs 0 0 (by decide) (by decide) with h | ⟨u, k, h, hu, hk⟩
 ·refine .inl ⟨h, ?_⟩
  unfold numQ numK; rw [h]; rfl
 ·refine .inr ⟨u, k, h, hu, by omega, ?_⟩
  unfold numQ numK; rw [h]; rfl
def RdD (w0 w : World) (R : Nat) (v : Value) (bs : List UInt8) (s : Option (List UInt8)) : Prop :=
 ∃ (n : Nat) (bad : Bool), n ≤ bs.length ∧ Blk w R [v, .int .i64 (n : Int), .bool bad] 73 ∧ G.BSrc w0 v bs ∧ Kept w0 w ∧ w0.heap.size ≤ R ∧ s = (if bad = true then none else some (bs.drop n))
theorem RdD.only {w0 w w1 : World} {R : Nat} {v : Value} {bs : List UInt8} {s : Option (List UInt8)} {O : Nat → Prop} (h : RdD w0 w R v bs s) (k : Only O w w1) (hR : ¬ O R) (hO : ∀ j, O j → w0.heap.size ≤ j) : RdD w0 w1 R v bs s := by
 obtain ⟨n, bad, h0, h1, h2, h3, h4, h5⟩ := h
 exact ⟨n, bad, h0, Only.blk k h1 hR, h2, h3.trans k (fun j hj e => by have := hO j e; omega), h4, h5⟩
theorem RdD.kept {w0 w : World} {R : Nat} {v : Value} {bs : List UInt8} {s : Option (List UInt8)} (h : RdD w0 w R v bs s) : Kept w0 w := by
 obtain ⟨n, bad, h0, h1, h2, h3, h4, h5⟩ := h
 exact h3
def NumD (f : List UInt8 → Option (Int × List UInt8)) (s s' : Option (List UInt8)) (n : Int) : Prop :=
 match s.bind f with
 | none => s' = none
 | some (n0, r) => s' = some r ∧ n = n0
def TakD (f : List UInt8 → Option (Int × List UInt8)) (w0 w : World) (R : Nat) (v : Value) (bs : List UInt8) (s : Option (List UInt8)) (e : Ending) (w' : World) : Prop :=
 ∃ n s', e = .returned (.int .i64 n) ∧ NumD f s s' n ∧ RdD w0 w' R v bs s' ∧ Only (fun j => j = R) w w'
set_option maxRecDepth 100000 in
set_option maxHeartbeats 1600000 in
theorem rnum_any (w0 w : World) (R : Nat) (v : Value) (bs : List UInt8) (s : Option (List UInt8)) (h : RdD w0 w R v bs s) (hl : bs.length ≤ 100000) :
  Calls Tryz.prog 44 #[.pointer (some ⟨R, 0, none⟩)] w (TakD numQ w0 w R v bs s) := by
 obtain ⟨PQ, hPQ⟩ : ∃ PQ, TakD numQ w0 w R v bs s = PQ := ⟨_, rfl⟩
 rw [hPQ]
 have HPQ := hid hPQ
 obtain ⟨n, bad, hn, hb, hsrc, hk, hR, hs⟩ := h
 obtain ⟨a2, c2, s2, b2⟩ := hsrc.tail hn
 have HG := hid (U.rget_any w.drew (.slice a2 (bs.length - n) c2) (bs.drop n) ((b2.1.stay hk).stay ((Only.refl (fun _ => False) w).drew)) (by rw [List.length_drop]; omega))
 have x0 := hb.cell 0 rfl
 have x1 := hb.cell 1 rfl
 have x2 := hb.cell 2 rfl
 have f1 := hb.frozen 1
 have f2 := hb.frozen 2
 rcases numQ_cases (bs.drop n) with ⟨hg, hn1⟩ | ⟨u, k, hg, hu, hkl, hn1⟩
 ·rw [hg] at HG
  replace HG : Hid (Calls Tryz.prog 73 #[.slice a2 (bs.length - n) c2] w.drew fun e w' => e = .returned (.tuple #[.int .i64 0, .int .i64 0, .int .i64 5]) ∧ w' = w.drew) := by
   have := HG.out
   rw [U.got_err] at this
   exact this
  have HF : Hid (PQ (.returned (.int .i64 0)) (w.drew.setCell ⟨R, 2, none⟩ (.bool true))) := hid (by
   rw [← HPQ.out]
   have hnone : s.bind numQ = none := by
    rw [hs]
    cases bad with
    | true => rfl
    | false => exact hn1
   refine ⟨0, none, rfl, ?_, ⟨n, true, hn, hb.drew.set 2 _, hsrc, hk.drew.setCell (fun hl => by have : R < w0.heap.size := hl; omega) _, hR, rfl⟩, (Only.refl (fun j => j = R) w).drew.setCell (fun _ => rfl) _⟩
   unfold NumD; rw [hnone])
  obtain ⟨a, c, rfl⟩ := hsrc.len
  generalize bs.length - n = MN at *
  generalize bs.length = M at *
  have HS2 := hid s2
  clear hb hsrc hk hs hPQ hg hn1 b2 s2
  go_enter Tryz.func44, Tryz.ntmps44
  go_wp2_with fail
  have hS : (fun w' : World => w' = w.drew) w.drew := rfl
  have rs := HS2.out
  refine wp_region_noPanic ?_
  refine wp_region_last (L := 16) (S := fun w' => w' = w.drew) (by kernel_rfl) ?_
  refine wpAnyL_take (i := 0) (v := .pointer (some ⟨R, 0, none⟩)) rfl (by kernel_rfl) (by kernel_rfl) (by kernel_rfl) (by kernel_rfl) (by kernel_rfl) (fun _ _ _ h => h) (Or.inl ⟨by kernel_rfl, ?_⟩) hS ?_
  ·(intro w' hSw; subst hSw; go_simp)
  (try simp only [List.getElem_toArray, List.getElem_cons_succ, List.getElem_cons_zero])
  go_frame
  refine wpAnyL_take (i := 1) (v := .pointer (some ⟨R, 0, none⟩)) rfl (by kernel_rfl) (by kernel_rfl) (by kernel_rfl) (by kernel_rfl) (by kernel_rfl) (fun _ _ _ h => h) (Or.inl ⟨by kernel_rfl, ?_⟩) hS ?_
  ·(intro w' hSw; subst hSw; go_simp)
  (try simp only [List.getElem_toArray, List.getElem_cons_succ, List.getElem_cons_zero])
  go_frame
  refine wpAnyL_take (i := 2) (v := .pointer (some ⟨R, 0, none⟩)) rfl (by kernel_rfl) (by kernel_rfl) (by kernel_rfl) (by kernel_rfl) (by kernel_rfl) (fun _ _ _ h => h) (Or.inl ⟨by kernel_rfl, ?_⟩) hS ?_
  ·(intro w' hSw; subst hSw; go_simp)
  (try simp only [List.getElem_toArray, List.getElem_cons_succ, List.getElem_cons_zero])
  go_frame
  refine wpAnyL_take (i := 3) (v := .slice a M c) rfl (by kernel_rfl) (by kernel_rfl) (by kernel_rfl) (by kernel_rfl) (by kernel_rfl) (fun _ _ _ h => h) (Or.inl ⟨by kernel_rfl, ?_⟩) hS ?_
  ·(intro w' hSw; subst hSw; go_simp)
  (try simp only [List.getElem_toArray, List.getElem_cons_succ, List.getElem_cons_zero])
  go_frame
  refine wpAnyL_take (i := 4) (v := .pointer (some ⟨R, 0, none⟩)) rfl (by kernel_rfl) (by kernel_rfl) (by kernel_rfl) (by kernel_rfl) (by kernel_rfl) (fun _ _ _ h => h) (Or.inl ⟨by kernel_rfl, ?_⟩) hS ?_
  ·(intro w' hSw; subst hSw; go_simp)
  (try simp only [List.getElem_toArray, List.getElem_cons_succ, List.getElem_cons_zero])
  go_frame
  refine wpAnyL_take (i := 5) (v := .pointer (some ⟨R, 0, none⟩)) rfl (by kernel_rfl) (by kernel_rfl) (by kernel_rfl) (by kernel_rfl) (by kernel_rfl) (fun _ _ _ h => h) (Or.inl ⟨by kernel_rfl, ?_⟩) hS ?_
  ·(intro w' hSw; subst hSw; go_simp)
  (try simp only [List.getElem_toArray, List.getElem_cons_succ, List.getElem_cons_zero])
  go_frame
  refine wpAnyL_take (i := 6) (v := .pointer (some ⟨R, 1, none⟩)) rfl (by kernel_rfl) (by kernel_rfl) (by kernel_rfl) (by kernel_rfl) (by kernel_rfl) (fun _ _ _ h => h) (Or.inl ⟨by kernel_rfl, ?_⟩) hS ?_
  ·(intro w' hSw; subst hSw; go_simp)
  (try simp only [List.getElem_toArray, List.getElem_cons_succ, List.getElem_cons_zero])
  go_frame
  refine wpAnyL_take (i := 7) (v := .int .i64 (n : Int)) rfl (by kernel_rfl) (by kernel_rfl) (by kernel_rfl) (by kernel_rfl) (by kernel_rfl) (fun _ _ _ h => h) (Or.inl ⟨by kernel_rfl, ?_⟩) hS ?_
  ·(intro w' hSw; subst hSw; go_simp)
  (try simp only [List.getElem_toArray, List.getElem_cons_succ, List.getElem_cons_zero])
  go_frame
  refine wpAnyL_take (i := 8) (v := .slice a2 MN c2) rfl (by kernel_rfl) (by kernel_rfl) (by kernel_rfl) (by kernel_rfl) (by kernel_rfl) (fun _ _ _ h => h) (Or.inl ⟨by kernel_rfl, ?_⟩) hS ?_
  ·(intro w' hSw; subst hSw; go_simp)
  (try simp only [List.getElem_toArray, List.getElem_cons_succ, List.getElem_cons_zero])
  go_frame
  refine wpAnyL_one (i := 9) (by kernel_rfl) rfl (by kernel_rfl) ?_
  go_simp
  refine HG.out.mono ?_
  rintro e w2 ⟨rfl, rfl⟩
  refine ⟨rfl, ?_⟩
  (try simp only [List.getElem_toArray, List.getElem_cons_succ, List.getElem_cons_zero])
  (try go_frame)
  refine wpAnyL_take (i := 10) (v := .tuple #[.int .i64 0, .int .i64 0, .int .i64 5]) rfl (by kernel_rfl) (by kernel_rfl) (by kernel_rfl) (by kernel_rfl) (by kernel_rfl) (fun _ _ _ h => h) (Or.inl ⟨by kernel_rfl, ?_⟩) hS ?_
  ·(intro w' hSw; subst hSw; go_simp)
  (try simp only [List.getElem_toArray, List.getElem_cons_succ, List.getElem_cons_zero])
  go_frame
  refine wpAnyL_take (i := 11) (v := .int .i64 0) rfl (by kernel_rfl) (by kernel_rfl) (by kernel_rfl) (by kernel_rfl) (by kernel_rfl) (fun _ _ _ h => h) (Or.inl ⟨by kernel_rfl, ?_⟩) hS ?_
  ·(intro w' hSw; subst hSw; go_simp)
  (try simp only [List.getElem_toArray, List.getElem_cons_succ, List.getElem_cons_zero])
  go_frame
  refine wpAnyL_take (i := 12) (v := .int .i64 0) rfl (by kernel_rfl) (by kernel_rfl) (by kernel_rfl) (by kernel_rfl) (by kernel_rfl) (fun _ _ _ h => h) (Or.inl ⟨by kernel_rfl, ?_⟩) hS ?_
  ·(intro w' hSw; subst hSw; go_simp)
  (try simp only [List.getElem_toArray, List.getElem_cons_succ, List.getElem_cons_zero])
  go_frame
  refine wpAnyL_take (i := 13) (v := .int .i64 5) rfl (by kernel_rfl) (by kernel_rfl) (by kernel_rfl) (by kernel_rfl) (by kernel_rfl) (fun _ _ _ h => h) (Or.inl ⟨by kernel_rfl, ?_⟩) hS ?_
  ·(intro w' hSw; subst hSw; go_simp)
  (try simp only [List.getElem_toArray, List.getElem_cons_succ, List.getElem_cons_zero])
  go_frame
  refine wpAnyL_take (i := 14) (v := .int .i64 0) rfl (by kernel_rfl) (by kernel_rfl) (by kernel_rfl) (by kernel_rfl) (by kernel_rfl) (fun _ _ _ h => h) (Or.inl ⟨by kernel_rfl, ?_⟩) hS ?_
  ·(intro w' hSw; subst hSw; go_simp)
  (try simp only [List.getElem_toArray, List.getElem_cons_succ, List.getElem_cons_zero])
  go_frame
  refine wpAnyL_take (i := 15) (v := .int .i64 0) rfl (by kernel_rfl) (by kernel_rfl) (by kernel_rfl) (by kernel_rfl) (by kernel_rfl) (fun _ _ _ h => h) (Or.inl ⟨by kernel_rfl, ?_⟩) hS ?_
  ·(intro w' hSw; subst hSw; go_simp)
  (try simp only [List.getElem_toArray, List.getElem_cons_succ, List.getElem_cons_zero])
  go_frame
  refine wpAnyL_last (by kernel_rfl) (by kernel_rfl) rfl (by kernel_rfl) ?_
  go_simp
  refine NoPanic.normal ?_
  go_wp2_with fail
  (try go_ret)
  exact HF.out
 ·rw [hg] at HG
  obtain ⟨z, hz⟩ : ∃ z, wrap64 (u : Int) = z := ⟨_, rfl⟩
  replace HG : Hid (Calls Tryz.prog 73 #[.slice a2 (bs.length - n) c2] w.drew fun e w' => e = .returned (.tuple #[.int .i64 z, .int .i64 (k : Int), .int .i64 0]) ∧ w' = w.drew) := by
   have := HG.out
   rw [← hz]
   (try unfold U.got at this)
   exact this
  have hkn : n + k ≤ bs.length := by rw [List.length_drop] at hkl; omega
  have HF : Hid (PQ (.returned (.int .i64 z)) (w.drew.setCell ⟨R, 1, none⟩ (.int .i64 ((n : Int) + (k : Int))))) := hid (by
   rw [← HPQ.out]
   refine ⟨z, if bad = true then none else some (bs.drop (n + k)), rfl, ?_, ⟨n + k, bad, hkn, ?_, hsrc, hk.drew.setCell (fun hl => by have : R < w0.heap.size := hl; omega) _, hR, rfl⟩, (Only.refl (fun j => j = R) w).drew.setCell (fun _ => rfl) _⟩
   ·unfold NumD
    rw [hs]
    cases bad with
    | true => rfl
    | false =>
     show match numQ (bs.drop n) with | none => _ | some (n0, r) => _
     rw [hn1]
     exact ⟨by rw [List.drop_drop]; rfl, hz.symm⟩
   ·have := hb.drew.set 1 (.int .i64 ((n : Int) + (k : Int)))
    simpa using this)
  have hw64 : wrap64 ((n : Int) + (k : Int)) = (n : Int) + (k : Int) := by unfold wrap64; omega
  obtain ⟨a, c, rfl⟩ := hsrc.len
  generalize bs.length - n = MN at *
  generalize bs.length = M at *
  have HS2 := hid s2
  clear hb hsrc hk hs hPQ hg hn1 b2 s2 hkl
  go_enter Tryz.func44, Tryz.ntmps44
  go_wp2_with fail
  have hS : (fun w' : World => w' = w.drew) w.drew := rfl
  have rs := HS2.out
  refine wp_region_noPanic ?_
  refine wp_region_last (L := 16) (S := fun w' => w' = w.drew) (by kernel_rfl) ?_
  refine wpAnyL_take (i := 0) (v := .pointer (some ⟨R, 0, none⟩)) rfl (by kernel_rfl) (by kernel_rfl) (by kernel_rfl) (by kernel_rfl) (by kernel_rfl) (fun _ _ _ h => h) (Or.inl ⟨by kernel_rfl, ?_⟩) hS ?_
  ·(intro w' hSw; subst hSw; go_simp)
  (try simp only [List.getElem_toArray, List.getElem_cons_succ, List.getElem_cons_zero])
  go_frame
  refine wpAnyL_take (i := 1) (v := .pointer (some ⟨R, 0, none⟩)) rfl (by kernel_rfl) (by kernel_rfl) (by kernel_rfl) (by kernel_rfl) (by kernel_rfl) (fun _ _ _ h => h) (Or.inl ⟨by kernel_rfl, ?_⟩) hS ?_
  ·(intro w' hSw; subst hSw; go_simp)
  (try simp only [List.getElem_toArray, List.getElem_cons_succ, List.getElem_cons_zero])
  go_frame
  refine wpAnyL_take (i := 2) (v := .pointer (some ⟨R, 0, none⟩)) rfl (by kernel_rfl) (by kernel_rfl) (by kernel_rfl) (by kernel_rfl) (by kernel_rfl) (fun _ _ _ h => h) (Or.inl ⟨by kernel_rfl, ?_⟩) hS ?_
  ·(intro w' hSw; subst hSw; go_simp)
  (try simp only [List.getElem_toArray, List.getElem_cons_succ, List.getElem_cons_zero])
  go_frame
  refine wpAnyL_take (i := 3) (v := .slice a M c) rfl (by kernel_rfl) (by kernel_rfl) (by kernel_rfl) (by kernel_rfl) (by kernel_rfl) (fun _ _ _ h => h) (Or.inl ⟨by kernel_rfl, ?_⟩) hS ?_
  ·(intro w' hSw; subst hSw; go_simp)
  (try simp only [List.getElem_toArray, List.getElem_cons_succ, List.getElem_cons_zero])
  go_frame
  refine wpAnyL_take (i := 4) (v := .pointer (some ⟨R, 0, none⟩)) rfl (by kernel_rfl) (by kernel_rfl) (by kernel_rfl) (by kernel_rfl) (by kernel_rfl) (fun _ _ _ h => h) (Or.inl ⟨by kernel_rfl, ?_⟩) hS ?_
  ·(intro w' hSw; subst hSw; go_simp)
  (try simp only [List.getElem_toArray, List.getElem_cons_succ, List.getElem_cons_zero])
  go_frame
  refine wpAnyL_take (i := 5) (v := .pointer (some ⟨R, 0, none⟩)) rfl (by kernel_rfl) (by kernel_rfl) (by kernel_rfl) (by kernel_rfl) (by kernel_rfl) (fun _ _ _ h => h) (Or.inl ⟨by kernel_rfl, ?_⟩) hS ?_
  ·(intro w' hSw; subst hSw; go_simp)
  (try simp only [List.getElem_toArray, List.getElem_cons_succ, List.getElem_cons_zero])
  go_frame
  refine wpAnyL_take (i := 6) (v := .pointer (some ⟨R, 1, none⟩)) rfl (by kernel_rfl) (by kernel_rfl) (by kernel_rfl) (by kernel_rfl) (by kernel_rfl) (fun _ _ _ h => h) (Or.inl ⟨by kernel_rfl, ?_⟩) hS ?_
  ·(intro w' hSw; subst hSw; go_simp)
  (try simp only [List.getElem_toArray, List.getElem_cons_succ, List.getElem_cons_zero])
  go_frame
  refine wpAnyL_take (i := 7) (v := .int .i64 (n : Int)) rfl (by kernel_rfl) (by kernel_rfl) (by kernel_rfl) (by kernel_rfl) (by kernel_rfl) (fun _ _ _ h => h) (Or.inl ⟨by kernel_rfl, ?_⟩) hS ?_
  ·(intro w' hSw; subst hSw; go_simp)
  (try simp only [List.getElem_toArray, List.getElem_cons_succ, List.getElem_cons_zero])
  go_frame
  refine wpAnyL_take (i := 8) (v := .slice a2 MN c2) rfl (by kernel_rfl) (by kernel_rfl) (by kernel_rfl) (by kernel_rfl) (by kernel_rfl) (fun _ _ _ h => h) (Or.inl ⟨by kernel_rfl, ?_⟩) hS ?_
  ·(intro w' hSw; subst hSw; go_simp)
  (try simp only [List.getElem_toArray, List.getElem_cons_succ, List.getElem_cons_zero])
  go_frame
  refine wpAnyL_one (i := 9) (by kernel_rfl) rfl (by kernel_rfl) ?_
  go_simp
  refine HG.out.mono ?_
  rintro e w2 ⟨rfl, rfl⟩
  refine ⟨rfl, ?_⟩
  (try simp only [List.getElem_toArray, List.getElem_cons_succ, List.getElem_cons_zero])
  (try go_frame)
  refine wpAnyL_take (i := 10) (v := .tuple #[.int .i64 z, .int .i64 (k : Int), .int .i64 0]) rfl (by kernel_rfl) (by kernel_rfl) (by kernel_rfl) (by kernel_rfl) (by kernel_rfl) (fun _ _ _ h => h) (Or.inl ⟨by kernel_rfl, ?_⟩) hS ?_
  ·(intro w' hSw; subst hSw; go_simp)
  (try simp only [List.getElem_toArray, List.getElem_cons_succ, List.getElem_cons_zero])
  go_frame
  refine wpAnyL_take (i := 11) (v := .int .i64 z) rfl (by kernel_rfl) (by kernel_rfl) (by kernel_rfl) (by kernel_rfl) (by kernel_rfl) (fun _ _ _ h => h) (Or.inl ⟨by kernel_rfl, ?_⟩) hS ?_
  ·(intro w' hSw; subst hSw; go_simp)
  (try simp only [List.getElem_toArray, List.getElem_cons_succ, List.getElem_cons_zero])
  go_frame
  refine wpAnyL_take (i := 12) (v := .int .i64 (k : Int)) rfl (by kernel_rfl) (by kernel_rfl) (by kernel_rfl) (by kernel_rfl) (by kernel_rfl) (fun _ _ _ h => h) (Or.inl ⟨by kernel_rfl, ?_⟩) hS ?_
  ·(intro w' hSw; subst hSw; go_simp)
  (try simp only [List.getElem_toArray, List.getElem_cons_succ, List.getElem_cons_zero])
  go_frame
  refine wpAnyL_take (i := 13) (v := .int .i64 0) rfl (by kernel_rfl) (by kernel_rfl) (by kernel_rfl) (by kernel_rfl) (by kernel_rfl) (fun _ _ _ h => h) (Or.inl ⟨by kernel_rfl, ?_⟩) hS ?_
  ·(intro w' hSw; subst hSw; go_simp)
  (try simp only [List.getElem_toArray, List.getElem_cons_succ, List.getElem_cons_zero])
  go_frame
  refine wpAnyL_take (i := 14) (v := .int .i64 z) rfl (by kernel_rfl) (by kernel_rfl) (by kernel_rfl) (by kernel_rfl) (by kernel_rfl) (fun _ _ _ h => h) (Or.inl ⟨by kernel_rfl, ?_⟩) hS ?_
  ·(intro w' hSw; subst hSw; go_simp)
  (try simp only [List.getElem_toArray, List.getElem_cons_succ, List.getElem_cons_zero])
  go_frame
  refine wpAnyL_take (i := 15) (v := .int .i64 (k : Int)) rfl (by kernel_rfl) (by kernel_rfl) (by kernel_rfl) (by kernel_rfl) (by kernel_rfl) (fun _ _ _ h => h) (Or.inl ⟨by kernel_rfl, ?_⟩) hS ?_
  ·(intro w' hSw; subst hSw; go_simp)
  (try simp only [List.getElem_toArray, List.getElem_cons_succ, List.getElem_cons_zero])
  go_frame
  refine wpAnyL_last (by kernel_rfl) (by kernel_rfl) rfl (by kernel_rfl) ?_
  go_simp
  refine NoPanic.normal ?_
  go_wp2_with fail
  (try go_ret)
  exact HF.out
theorem rsgn_any (w0 w : World) (R : Nat) (v : Value) (bs : List UInt8) (s : Option (List UInt8)) (h : RdD w0 w R v bs s) (hl : bs.length ≤ 100000) :
  Calls Tryz.prog 43 #[.pointer (some ⟨R, 0, none⟩)] w fun e w' => ∃ n n' s', e = .returned (.int .i64 n) ∧ NumD numQ s s' n' ∧ RdD w0 w' R v bs s' ∧ Only (fun j => j = R) w w' := by
 have HN := hid (rnum_any w0 w R v bs s h hl)
 obtain ⟨PQ, hPQ⟩ : ∃ PQ, (fun (e : Ending) (w' : World) => ∃ n n' s', e = .returned (.int .i64 n) ∧ NumD numQ s s' n' ∧ RdD w0 w' R v bs s' ∧ Only (fun j => j = R) w w') = PQ := ⟨_, rfl⟩
 rw [hPQ]
 have HPQ := hid hPQ
 clear h hPQ
 go_enter Tryz.func43, Tryz.ntmps43
 go_wp2_with fail
 refine HN.out.mono ?_
 rintro e w1 ⟨n, s', rfl, hg, hr, ho⟩
 have HZ := hid (U.rzag_any w1 n)
 have HF : Hid (PQ (.returned (.int .i64 (U.zagI (U.uN n)))) w1) := hid (by rw [← HPQ.out]; exact ⟨_, n, s', rfl, hg, hr, ho⟩)
 generalize U.zagI (U.uN n) = Z at HZ HF
 clear hr ho hg HN
 go_wp2_with fail
 refine HZ.out.mono ?_
 rintro e w2 ⟨rfl, hw⟩
 replace hw := hw.symm
 subst hw
 go_wp2_with fail
 (try go_ret)
 exact HF.out
end Go.Proofs.YthpkkhmplkmdnaaGreatDoor.K
namespace Go.Proofs.YthpkkhmplkmdnaaGreatDoor.K
open Go Go.RowKit Go.Proofs.Lys Go.Maps Go.Shelf
set_option linter.unusedVariables false
set_option linter.unusedSimpArgs false
def spanD (l : List Ser) : Int × Int := l.foldl spanS (9007199254740993, -9007199254740992)
theorem spanD_snoc (l : List Ser) (s : Ser) : spanD (l ++ [s]) = spanS (spanD l) s := by unfold spanD; rw [List.foldl_append]; rfl
theorem spanD_eq {l : List Ser} (h0 : l ≠ []) (hT : ∀ s ∈ l, s.2 ≠ [] ∧ ∀ x ∈ s.2, -9007199254740992 ≤ x.1 ∧ x.1 ≤ 9007199254740992) : spanD l = spanB l := by
 cases l with
 | nil => exact absurd rfl h0
 | cons s r =>
  obtain ⟨h1, h2⟩ := hT s (List.mem_cons_self ..)
  have hpos := List.length_pos_iff.2 h1
  have a1 := h2 _ (List.getElem_mem hpos)
  have a2 := h2 _ (List.getElem_mem (show s.2.length - 1 < s.2.length by omega))
  have e1 : firstT s = s.2[0].1 := first_at hpos
  have e2 : lastT s = s.2[s.2.length - 1].1 := first_at (by omega)
  have e : spanS (9007199254740993, -9007199254740992) s = (firstT s, lastT s + 1) := by
   unfold spanS
   rw [e1, e2]
   simp only
   rw [Int.min_eq_right (by omega), Int.max_eq_right (by omega)]
  show r.foldl spanS (spanS (9007199254740993, -9007199254740992) s) = _
  rw [e]
  rfl
set_option maxRecDepth 100000 in
set_option maxHeartbeats 6400000 in
theorem rspan_any (w : World) (v : Value) (l : List Ser) (hs : SerIn w v l) (hl : l.length ≤ 100000) (hB : ∀ s ∈ l, s.1.length ≤ 100000 ∧ N.Small s.1 ∧ s.2.length ≤ 100000) :
  Calls Tryz.prog 11 #[v] w fun e w' => e = .returned (.tuple #[.int .i64 (if checkB l = 0 then spanB l else (0, 0)).1, .int .i64 (if checkB l = 0 then spanB l else (0, 0)).2]) ∧ Kept w w' := by
 have HCK := hid (rcheck_any w v l hs hl hB)
 obtain ⟨PQ, hPQ⟩ : ∃ PQ, (fun (e : Ending) (w' : World) => e = .returned (.tuple #[.int .i64 (if checkB l = 0 then spanB l else (0, 0)).1, .int .i64 (if checkB l = 0 then spanB l else (0, 0)).2]) ∧ Kept w w') = PQ := ⟨_, rfl⟩
 rw [hPQ]
 have HPQ := hid hPQ
 obtain ⟨a, c, rfl⟩ := hs.len
 obtain ⟨N, hN⟩ : ∃ N, l.length = N := ⟨_, rfl⟩
 rw [hN] at hs hl HCK ⊢
 obtain ⟨CK, hCK⟩ : ∃ CK, checkB l = CK := ⟨_, rfl⟩
 unfold ChkP at HCK
 rw [hCK] at HCK
 have HCKE := hid hCK
 have HN := hid hN
 have HS := hid hs
 have HBB := hid hB
 clear hs hB hN hPQ hCK
 go_enter Tryz.func11, Tryz.ntmps11
 go_wp2_with fail
 refine HCK.out.mono ?_
 rintro e w1 ⟨rfl, k1⟩
 have HK1 := hid k1
 clear k1 HCK
 by_cases h0 : CK = 0
 ·subst h0
  have hfit := (check_fit HCKE.out).2
  have hTm : ∀ s ∈ l, s.2 ≠ [] ∧ ∀ x ∈ s.2, -9007199254740992 ≤ x.1 ∧ x.1 ≤ 9007199254740992 := fun s hs => by
   obtain ⟨i, hi, rfl⟩ := List.getElem_of_mem hs
   refine ⟨(hfit i hi).some, fun x hx => ?_⟩
   obtain ⟨j, hj, rfl⟩ := List.getElem_of_mem hx
   have := ((times_iff _).1 (hfit i hi).times).at (i := j) (by rw [List.length_map]; exact hj)
   rw [List.getElem_map] at this
   exact this
  have HTM := hid hTm
  have HPF : Hid (∀ F T w', (F, T) = spanB l → Kept w w' → PQ (.returned (.tuple #[.int .i64 F, .int .i64 T])) w') := hid (fun F T w' h k => by
   rw [← HPQ.out]
   rw [if_pos HCKE.out, ← h]
   exact ⟨rfl, k⟩)
  clear hfit hTm
  by_cases hN0 : N = 0
  ·subst hN0
   have hnil : l = [] := List.length_eq_zero_iff.1 HN.out
   have HFF := hid (HPF.out 0 0 w1 (by rw [hnil]; rfl) HK1.out)
   go_wp2_with fail
   (try go_ret2)
   exact HFF.out
  ·have hd0 : ((N : Int) == 0) = false := by simp; omega
   go_wp2_with fail
   go_loopw [4, 5, 6] (fun s2 s3 s10 wr => ∃ (k : Nat) (F T : Int), k ≤ N ∧ s10 = .int .i64 (k : Int) ∧ s2 = .int .i64 F ∧ s3 = .int .i64 T ∧ Hid ((F, T) = spanD (l.take k)) ∧ Kept w wr) (fun _ _ s10 _ => N - (intOf s10).toNat)
   case atStart => exact ⟨0, 9007199254740993, -9007199254740992, by omega, rfl, rfl, rfl, hid rfl, HK1.out⟩
   case round =>
    obtain ⟨k, F, T, hk, rfl, rfl, rfl, hsp, kr⟩ := hrel
    by_cases hlt : k < N
    ·have hkl : k < l.length := by have := HN.out; omega
     obtain ⟨b, o, la, lc, sa, sc, rfl, c0, c1, h0, h1⟩ := (HS.out.stay kr).cell HN.out k hlt
     obtain ⟨hne, hbd⟩ := HTM.out l[k] (List.getElem_mem hkl)
     obtain ⟨_, _, hln⟩ := HBB.out l[k] (List.getElem_mem hkl)
     have hpos : 0 < l[k].2.length := List.length_pos_iff.2 hne
     obtain ⟨sb, so, rfl, y0, y1⟩ := h1.1.cell rfl 0 hpos
     obtain ⟨_, _, e2, z0, z1⟩ := h1.1.cell rfl (l[k].2.length - 1) (by omega)
     clear y1 z1
     simp only [Option.some.injEq, Addr.mk.injEq] at e2
     obtain ⟨rfl, rfl, _⟩ := e2
     have hF := hbd _ (List.getElem_mem hpos)
     have hL := hbd _ (List.getElem_mem (show l[k].2.length - 1 < l[k].2.length by omega))
     have HSP : Hid (spanD (l.take (k + 1)) = (min F l[k].2[0].1, max T (l[k].2[l[k].2.length - 1].1 + 1))) := by
      show _ = _
      rw [List.take_succ_eq_append_getElem hkl, spanD_snoc, ← hsp.out]
      unfold spanS firstT lastT
      rw [first_at hpos, first_at (by omega)]
     generalize l[k].2[0].1 = FT at y0 hF HSP
     generalize l[k].2[l[k].2.length - 1].1 = LT at z0 hL HSP
     generalize hSL : l[k].2.length = SL at c1 z0 hpos hln
     generalize l[k].1.length = LL at c0
     obtain ⟨SP, hSP⟩ : ∃ SP : Nat, SL = SP + 1 := ⟨SL - 1, by omega⟩
     subst hSP
     rw [show SP + 1 - 1 = SP by omega] at z0
     have y0' : wr.cell? ⟨sb, so, none⟩ = some (.int .i64 FT) := by simpa using y0
     have KR := hid kr
     have i1 : ((SP + 1 : Nat) : Int) - 1 = (SP : Int) := by omega
     have w1' : wrap64 (LT + 1) = LT + 1 := by unfold wrap64; omega
     clear h0 h1 hne hbd hSL hsp kr y0
     by_cases hf : FT < F
     ·have e1 : min F FT = FT := Int.min_eq_right (by omega)
      rw [e1] at HSP
      by_cases hg : T < LT + 1
      ·have e2 : max T (LT + 1) = LT + 1 := Int.max_eq_right (by omega)
       rw [e2] at HSP
       go_wp2_with fail
       go_roundw
       case rel => exact ⟨k + 1, FT, LT + 1, by omega, by go_num, by go_num, by go_num, hid HSP.out.symm, KR.out⟩
       case measure => simp [intOf]; omega
      ·have e2 : max T (LT + 1) = T := Int.max_eq_left (by omega)
       rw [e2] at HSP
       go_wp2_with fail
       go_roundw
       case rel => exact ⟨k + 1, FT, T, by omega, by go_num, by go_num, by go_num, hid HSP.out.symm, KR.out⟩
       case measure => simp [intOf]; omega
     ·have e1 : min F FT = F := Int.min_eq_left (by omega)
      rw [e1] at HSP
      by_cases hg : T < LT + 1
      ·have e2 : max T (LT + 1) = LT + 1 := Int.max_eq_right (by omega)
       rw [e2] at HSP
       go_wp2_with fail
       go_roundw
       case rel => exact ⟨k + 1, F, LT + 1, by omega, by go_num, by go_num, by go_num, hid HSP.out.symm, KR.out⟩
       case measure => simp [intOf]; omega
      ·have e2 : max T (LT + 1) = T := Int.max_eq_left (by omega)
       rw [e2] at HSP
       go_wp2_with fail
       go_roundw
       case rel => exact ⟨k + 1, F, T, by omega, by go_num, by go_num, by go_num, hid HSP.out.symm, KR.out⟩
       case measure => simp [intOf]; omega
    ·obtain rfl : N = k := by omega
     have hne : l ≠ [] := fun e => hN0 (by have := HN.out; rw [e] at this; exact this.symm)
     have HFF := hid (HPF.out F T wr (by
      have h1 := hsp.out
      rw [List.take_of_length_le (by have := HN.out; omega), spanD_eq hne HTM.out] at h1
      exact h1) kr)
     clear hsp
     go_wp2_with fail
     (try go_ret2)
     exact HFF.out
 ·have hcb : (CK != 0) = true := by simpa using h0
  have HFF : Hid (PQ (.returned (.tuple #[.int .i64 0, .int .i64 0])) w1) := hid (by
   rw [← HPQ.out, if_neg (by rw [HCKE.out]; exact h0)]
   exact ⟨rfl, HK1.out⟩)
  clear h0
  go_wp2_with fail
  (try go_ret2)
  exact HFF.out
end Go.Proofs.YthpkkhmplkmdnaaGreatDoor.K
