/-
  The document's own reader of numbers.
-/
import Derived.Test.YtjifcgphlidimaaDoorJrp
import Derived.Test.YtjifcgphlidimaaDoorJcut
import Derived.Test.YtjifcgphlidimaaDoorJwr
namespace Go.Proofs.YtjifcgphlidimaaDoor.J
open Go Go.RowKit Go.Proofs.Lys
open Go.Proofs.YtjifcgphlidimaaDoor.U (zagI uN)
set_option linter.unusedVariables false
set_option linter.unusedSimpArgs false

/-- The reader at R over bytes of an elder world: what is left, or that it is broken. -/
def RdD (w0 w : World) (R : Nat) (v : Value) (bs : List UInt8) (s : Option (List UInt8)) : Prop :=
  ∃ (n : Nat) (bad : Bool), n ≤ bs.length ∧ Blk w R [v, .int .i64 (n : Int), .bool bad] 66 ∧ G.BSrc w0 v bs ∧ Kept w0 w ∧ w0.heap.size ≤ R ∧ s = (if bad = true then none else some (bs.drop n))
theorem RdD.only {w0 w w1 : World} {R : Nat} {v : Value} {bs : List UInt8} {s : Option (List UInt8)} {O : Nat → Prop} (h : RdD w0 w R v bs s) (k : Only O w w1) (hR : ¬ O R) (hO : ∀ j, O j → w0.heap.size ≤ j) : RdD w0 w1 R v bs s := by
  obtain ⟨n, bad, h0, h1, h2, h3, h4, h5⟩ := h
  exact ⟨n, bad, h0, Only.blk k h1 hR, h2, h3.trans k (fun j hj e => by have := hO j e; omega), h4, h5⟩
theorem RdD.lt {w0 w : World} {R : Nat} {v : Value} {bs : List UInt8} {s : Option (List UInt8)} (h : RdD w0 w R v bs s) : R < w.heap.size := by
  obtain ⟨n, bad, h0, h1, h2, h3, h4, h5⟩ := h
  exact h1.lt
theorem RdD.kept {w0 w : World} {R : Nat} {v : Value} {bs : List UInt8} {s : Option (List UInt8)} (h : RdD w0 w R v bs s) : Kept w0 w := by
  obtain ⟨n, bad, h0, h1, h2, h3, h4, h5⟩ := h
  exact h3
/-- One number is taken. -/
def NumD (f : List UInt8 → Option (Int × List UInt8)) (s s' : Option (List UInt8)) (n : Int) : Prop :=
  match s.bind f with
  | none => s' = none
  | some (n0, r) => s' = some r ∧ n = n0
def TakD (f : List UInt8 → Option (Int × List UInt8)) (w0 w : World) (R : Nat) (v : Value) (bs : List UInt8) (s : Option (List UInt8)) (e : Ending) (w' : World) : Prop :=
  ∃ n s', e = .returned (.int .i64 n) ∧ NumD f s s' n ∧ RdD w0 w' R v bs s' ∧ Only (fun j => j = R) w w' ∧ (f = numA → sgnD s s' (zagI (uN n)))
  where sgnD (s s' : Option (List UInt8)) (n : Int) : Prop := NumD sgnA s s' n

set_option maxRecDepth 100000 in
set_option maxHeartbeats 1600000 in
theorem rnum_any (w0 w : World) (R : Nat) (v : Value) (bs : List UInt8) (s : Option (List UInt8)) (h : RdD w0 w R v bs s) (hl : bs.length ≤ 100000) :
    Calls Tryd.prog 31 #[.pointer (some ⟨R, 0, none⟩)] w (TakD numA w0 w R v bs s) := by
  obtain ⟨PQ, hPQ⟩ : ∃ PQ, TakD numA w0 w R v bs s = PQ := ⟨_, rfl⟩
  rw [hPQ]
  have HPQ := hid hPQ
  obtain ⟨n, bad, hn, hb, hsrc, hk, hR, hs⟩ := h
  obtain ⟨a2, c2, s2, b2⟩ := hsrc.tail hn
  have HG := hid (U.rget_any w.drew (.slice a2 (bs.length - n) c2) (bs.drop n) ((b2.1.stay hk).stay ((Only.refl (fun _ => False) w).drew)) (by rw [List.length_drop]; omega))
  have x0 := hb.cell 0 rfl
  have x1 := hb.cell 1 rfl
  have x2 := hb.cell 2 rfl
  have f1 := hb.frozen 1
  have f2 := hb.frozen 2
  rcases numA_cases (bs.drop n) with ⟨hg, hn1, hn2⟩ | ⟨u, k, hg, hu, hkl, hn1, hn2⟩
  · rw [hg] at HG
    replace HG : Hid (Calls Tryd.prog 45 #[.slice a2 (bs.length - n) c2] w.drew fun e w' => e = .returned (.tuple #[.int .i64 0, .int .i64 0, .int .i64 5]) ∧ w' = w.drew) := by
      have := HG.out
      rw [U.got_err] at this
      exact this
    have HF : Hid (PQ (.returned (.int .i64 0)) (w.drew.setCell ⟨R, 2, none⟩ (.bool true))) := hid (by
      rw [← HPQ.out]
      have hnone : s.bind numA = none ∧ s.bind sgnA = none := by
        rw [hs]
        cases bad with
        | true => exact ⟨rfl, rfl⟩
        | false => exact ⟨hn1, hn2⟩
      refine ⟨0, none, rfl, ?_, ⟨n, true, hn, hb.drew.set 2 _, hsrc, hk.drew.setCell (fun hl => by have : R < w0.heap.size := hl; omega) _, hR, rfl⟩, (Only.refl (fun j => j = R) w).drew.setCell (fun _ => rfl) _, fun _ => ?_⟩
      · unfold NumD; rw [hnone.1]
      · unfold TakD.sgnD NumD; rw [hnone.2])
    obtain ⟨a, c, rfl⟩ := hsrc.len
    generalize bs.length - n = MN at *
    generalize bs.length = M at *
    have HS2 := hid s2
    clear hb hsrc hk hs hPQ hg hn1 hn2 b2 s2
    go_enter Tryd.func31, Tryd.ntmps31
    go_wp2_with fail
    have hS : (fun w' : World => w' = w.drew) w.drew := rfl
    have rs := HS2.out
    refine wp_region_noPanic ?_
    refine wp_region_last (L := 16) (S := fun w' => w' = w.drew) (by kernel_rfl) ?_
    refine wpAnyL_take (i := 0) (v := .pointer (some ⟨R, 0, none⟩)) rfl (by kernel_rfl) (by kernel_rfl) (by kernel_rfl) (by kernel_rfl) (by kernel_rfl) (fun _ _ _ h => h) (Or.inl ⟨by kernel_rfl, ?_⟩) hS ?_
    · (intro w' hSw; subst hSw; go_simp)
    (try simp only [List.getElem_toArray, List.getElem_cons_succ, List.getElem_cons_zero])
    go_frame
    refine wpAnyL_take (i := 1) (v := .pointer (some ⟨R, 0, none⟩)) rfl (by kernel_rfl) (by kernel_rfl) (by kernel_rfl) (by kernel_rfl) (by kernel_rfl) (fun _ _ _ h => h) (Or.inl ⟨by kernel_rfl, ?_⟩) hS ?_
    · (intro w' hSw; subst hSw; go_simp)
    (try simp only [List.getElem_toArray, List.getElem_cons_succ, List.getElem_cons_zero])
    go_frame
    refine wpAnyL_take (i := 2) (v := .pointer (some ⟨R, 0, none⟩)) rfl (by kernel_rfl) (by kernel_rfl) (by kernel_rfl) (by kernel_rfl) (by kernel_rfl) (fun _ _ _ h => h) (Or.inl ⟨by kernel_rfl, ?_⟩) hS ?_
    · (intro w' hSw; subst hSw; go_simp)
    (try simp only [List.getElem_toArray, List.getElem_cons_succ, List.getElem_cons_zero])
    go_frame
    refine wpAnyL_take (i := 3) (v := .slice a M c) rfl (by kernel_rfl) (by kernel_rfl) (by kernel_rfl) (by kernel_rfl) (by kernel_rfl) (fun _ _ _ h => h) (Or.inl ⟨by kernel_rfl, ?_⟩) hS ?_
    · (intro w' hSw; subst hSw; go_simp)
    (try simp only [List.getElem_toArray, List.getElem_cons_succ, List.getElem_cons_zero])
    go_frame
    refine wpAnyL_take (i := 4) (v := .pointer (some ⟨R, 0, none⟩)) rfl (by kernel_rfl) (by kernel_rfl) (by kernel_rfl) (by kernel_rfl) (by kernel_rfl) (fun _ _ _ h => h) (Or.inl ⟨by kernel_rfl, ?_⟩) hS ?_
    · (intro w' hSw; subst hSw; go_simp)
    (try simp only [List.getElem_toArray, List.getElem_cons_succ, List.getElem_cons_zero])
    go_frame
    refine wpAnyL_take (i := 5) (v := .pointer (some ⟨R, 0, none⟩)) rfl (by kernel_rfl) (by kernel_rfl) (by kernel_rfl) (by kernel_rfl) (by kernel_rfl) (fun _ _ _ h => h) (Or.inl ⟨by kernel_rfl, ?_⟩) hS ?_
    · (intro w' hSw; subst hSw; go_simp)
    (try simp only [List.getElem_toArray, List.getElem_cons_succ, List.getElem_cons_zero])
    go_frame
    refine wpAnyL_take (i := 6) (v := .pointer (some ⟨R, 1, none⟩)) rfl (by kernel_rfl) (by kernel_rfl) (by kernel_rfl) (by kernel_rfl) (by kernel_rfl) (fun _ _ _ h => h) (Or.inl ⟨by kernel_rfl, ?_⟩) hS ?_
    · (intro w' hSw; subst hSw; go_simp)
    (try simp only [List.getElem_toArray, List.getElem_cons_succ, List.getElem_cons_zero])
    go_frame
    refine wpAnyL_take (i := 7) (v := .int .i64 (n : Int)) rfl (by kernel_rfl) (by kernel_rfl) (by kernel_rfl) (by kernel_rfl) (by kernel_rfl) (fun _ _ _ h => h) (Or.inl ⟨by kernel_rfl, ?_⟩) hS ?_
    · (intro w' hSw; subst hSw; go_simp)
    (try simp only [List.getElem_toArray, List.getElem_cons_succ, List.getElem_cons_zero])
    go_frame
    refine wpAnyL_take (i := 8) (v := .slice a2 MN c2) rfl (by kernel_rfl) (by kernel_rfl) (by kernel_rfl) (by kernel_rfl) (by kernel_rfl) (fun _ _ _ h => h) (Or.inl ⟨by kernel_rfl, ?_⟩) hS ?_
    · (intro w' hSw; subst hSw; go_simp)
    (try simp only [List.getElem_toArray, List.getElem_cons_succ, List.getElem_cons_zero])
    go_frame
    refine wpAnyL_one (i := 9) (by kernel_rfl) rfl (by kernel_rfl) ?_
    go_simp
    refine HG.out.mono ?_
    rintro e w2 ⟨rfl, rfl⟩
    refine ⟨rfl, ?_⟩
    (try simp only [List.getElem_toArray, List.getElem_cons_succ, List.getElem_cons_zero])
    (try go_frame)
    refine wpAnyL_take (i := 10) (v := .tuple #[.int .i64 0, .int .i64 0, .int .i64 5]) rfl (by kernel_rfl) (by kernel_rfl) (by kernel_rfl) (by kernel_rfl) (by kernel_rfl) (fun _ _ _ h => h) (Or.inl ⟨by kernel_rfl, ?_⟩) hS ?_
    · (intro w' hSw; subst hSw; go_simp)
    (try simp only [List.getElem_toArray, List.getElem_cons_succ, List.getElem_cons_zero])
    go_frame
    refine wpAnyL_take (i := 11) (v := .int .i64 0) rfl (by kernel_rfl) (by kernel_rfl) (by kernel_rfl) (by kernel_rfl) (by kernel_rfl) (fun _ _ _ h => h) (Or.inl ⟨by kernel_rfl, ?_⟩) hS ?_
    · (intro w' hSw; subst hSw; go_simp)
    (try simp only [List.getElem_toArray, List.getElem_cons_succ, List.getElem_cons_zero])
    go_frame
    refine wpAnyL_take (i := 12) (v := .int .i64 0) rfl (by kernel_rfl) (by kernel_rfl) (by kernel_rfl) (by kernel_rfl) (by kernel_rfl) (fun _ _ _ h => h) (Or.inl ⟨by kernel_rfl, ?_⟩) hS ?_
    · (intro w' hSw; subst hSw; go_simp)
    (try simp only [List.getElem_toArray, List.getElem_cons_succ, List.getElem_cons_zero])
    go_frame
    refine wpAnyL_take (i := 13) (v := .int .i64 5) rfl (by kernel_rfl) (by kernel_rfl) (by kernel_rfl) (by kernel_rfl) (by kernel_rfl) (fun _ _ _ h => h) (Or.inl ⟨by kernel_rfl, ?_⟩) hS ?_
    · (intro w' hSw; subst hSw; go_simp)
    (try simp only [List.getElem_toArray, List.getElem_cons_succ, List.getElem_cons_zero])
    go_frame
    refine wpAnyL_take (i := 14) (v := .int .i64 0) rfl (by kernel_rfl) (by kernel_rfl) (by kernel_rfl) (by kernel_rfl) (by kernel_rfl) (fun _ _ _ h => h) (Or.inl ⟨by kernel_rfl, ?_⟩) hS ?_
    · (intro w' hSw; subst hSw; go_simp)
    (try simp only [List.getElem_toArray, List.getElem_cons_succ, List.getElem_cons_zero])
    go_frame
    refine wpAnyL_take (i := 15) (v := .int .i64 0) rfl (by kernel_rfl) (by kernel_rfl) (by kernel_rfl) (by kernel_rfl) (by kernel_rfl) (fun _ _ _ h => h) (Or.inl ⟨by kernel_rfl, ?_⟩) hS ?_
    · (intro w' hSw; subst hSw; go_simp)
    (try simp only [List.getElem_toArray, List.getElem_cons_succ, List.getElem_cons_zero])
    go_frame
    refine wpAnyL_last (by kernel_rfl) (by kernel_rfl) rfl (by kernel_rfl) ?_
    go_simp
    refine NoPanic.normal ?_
    go_wp2_with fail
    (try go_ret)
    exact HF.out
  · rw [hg] at HG
    obtain ⟨z, hz⟩ : ∃ z, wrap64 (u : Int) = z := ⟨_, rfl⟩
    replace HG : Hid (Calls Tryd.prog 45 #[.slice a2 (bs.length - n) c2] w.drew fun e w' => e = .returned (.tuple #[.int .i64 z, .int .i64 (k : Int), .int .i64 0]) ∧ w' = w.drew) := by
      have := HG.out
      rw [← hz]
      (try unfold U.got at this)
      exact this
    have hkn : n + k ≤ bs.length := by rw [List.length_drop] at hkl; omega
    have HF : Hid (PQ (.returned (.int .i64 z)) (w.drew.setCell ⟨R, 1, none⟩ (.int .i64 ((n : Int) + (k : Int))))) := hid (by
      rw [← HPQ.out]
      refine ⟨z, if bad = true then none else some (bs.drop (n + k)), rfl, ?_, ⟨n + k, bad, hkn, ?_, hsrc, hk.drew.setCell (fun hl => by have : R < w0.heap.size := hl; omega) _, hR, rfl⟩, (Only.refl (fun j => j = R) w).drew.setCell (fun _ => rfl) _, fun _ => ?_⟩
      · unfold NumD
        rw [hs]
        cases bad with
        | true => rfl
        | false =>
          show match numA (bs.drop n) with | none => _ | some (n0, r) => _
          rw [hn1]
          exact ⟨by rw [List.drop_drop]; rfl, hz.symm⟩
      · have := hb.drew.set 1 (.int .i64 ((n : Int) + (k : Int)))
        simpa using this
      · unfold TakD.sgnD NumD
        rw [hs]
        cases bad with
        | true => rfl
        | false =>
          show match sgnA (bs.drop n) with | none => _ | some (n0, r) => _
          rw [hn2]
          exact ⟨by rw [List.drop_drop]; rfl, by rw [← hz, U.uN_wrap64 hu]⟩)
    have hw64 : wrap64 ((n : Int) + (k : Int)) = (n : Int) + (k : Int) := by unfold wrap64; omega
    obtain ⟨a, c, rfl⟩ := hsrc.len
    generalize bs.length - n = MN at *
    generalize bs.length = M at *
    have HS2 := hid s2
    clear hb hsrc hk hs hPQ hg hn1 hn2 b2 s2 hkl
    go_enter Tryd.func31, Tryd.ntmps31
    go_wp2_with fail
    have hS : (fun w' : World => w' = w.drew) w.drew := rfl
    have rs := HS2.out
    refine wp_region_noPanic ?_
    refine wp_region_last (L := 16) (S := fun w' => w' = w.drew) (by kernel_rfl) ?_
    refine wpAnyL_take (i := 0) (v := .pointer (some ⟨R, 0, none⟩)) rfl (by kernel_rfl) (by kernel_rfl) (by kernel_rfl) (by kernel_rfl) (by kernel_rfl) (fun _ _ _ h => h) (Or.inl ⟨by kernel_rfl, ?_⟩) hS ?_
    · (intro w' hSw; subst hSw; go_simp)
    (try simp only [List.getElem_toArray, List.getElem_cons_succ, List.getElem_cons_zero])
    go_frame
    refine wpAnyL_take (i := 1) (v := .pointer (some ⟨R, 0, none⟩)) rfl (by kernel_rfl) (by kernel_rfl) (by kernel_rfl) (by kernel_rfl) (by kernel_rfl) (fun _ _ _ h => h) (Or.inl ⟨by kernel_rfl, ?_⟩) hS ?_
    · (intro w' hSw; subst hSw; go_simp)
    (try simp only [List.getElem_toArray, List.getElem_cons_succ, List.getElem_cons_zero])
    go_frame
    refine wpAnyL_take (i := 2) (v := .pointer (some ⟨R, 0, none⟩)) rfl (by kernel_rfl) (by kernel_rfl) (by kernel_rfl) (by kernel_rfl) (by kernel_rfl) (fun _ _ _ h => h) (Or.inl ⟨by kernel_rfl, ?_⟩) hS ?_
    · (intro w' hSw; subst hSw; go_simp)
    (try simp only [List.getElem_toArray, List.getElem_cons_succ, List.getElem_cons_zero])
    go_frame
    refine wpAnyL_take (i := 3) (v := .slice a M c) rfl (by kernel_rfl) (by kernel_rfl) (by kernel_rfl) (by kernel_rfl) (by kernel_rfl) (fun _ _ _ h => h) (Or.inl ⟨by kernel_rfl, ?_⟩) hS ?_
    · (intro w' hSw; subst hSw; go_simp)
    (try simp only [List.getElem_toArray, List.getElem_cons_succ, List.getElem_cons_zero])
    go_frame
    refine wpAnyL_take (i := 4) (v := .pointer (some ⟨R, 0, none⟩)) rfl (by kernel_rfl) (by kernel_rfl) (by kernel_rfl) (by kernel_rfl) (by kernel_rfl) (fun _ _ _ h => h) (Or.inl ⟨by kernel_rfl, ?_⟩) hS ?_
    · (intro w' hSw; subst hSw; go_simp)
    (try simp only [List.getElem_toArray, List.getElem_cons_succ, List.getElem_cons_zero])
    go_frame
    refine wpAnyL_take (i := 5) (v := .pointer (some ⟨R, 0, none⟩)) rfl (by kernel_rfl) (by kernel_rfl) (by kernel_rfl) (by kernel_rfl) (by kernel_rfl) (fun _ _ _ h => h) (Or.inl ⟨by kernel_rfl, ?_⟩) hS ?_
    · (intro w' hSw; subst hSw; go_simp)
    (try simp only [List.getElem_toArray, List.getElem_cons_succ, List.getElem_cons_zero])
    go_frame
    refine wpAnyL_take (i := 6) (v := .pointer (some ⟨R, 1, none⟩)) rfl (by kernel_rfl) (by kernel_rfl) (by kernel_rfl) (by kernel_rfl) (by kernel_rfl) (fun _ _ _ h => h) (Or.inl ⟨by kernel_rfl, ?_⟩) hS ?_
    · (intro w' hSw; subst hSw; go_simp)
    (try simp only [List.getElem_toArray, List.getElem_cons_succ, List.getElem_cons_zero])
    go_frame
    refine wpAnyL_take (i := 7) (v := .int .i64 (n : Int)) rfl (by kernel_rfl) (by kernel_rfl) (by kernel_rfl) (by kernel_rfl) (by kernel_rfl) (fun _ _ _ h => h) (Or.inl ⟨by kernel_rfl, ?_⟩) hS ?_
    · (intro w' hSw; subst hSw; go_simp)
    (try simp only [List.getElem_toArray, List.getElem_cons_succ, List.getElem_cons_zero])
    go_frame
    refine wpAnyL_take (i := 8) (v := .slice a2 MN c2) rfl (by kernel_rfl) (by kernel_rfl) (by kernel_rfl) (by kernel_rfl) (by kernel_rfl) (fun _ _ _ h => h) (Or.inl ⟨by kernel_rfl, ?_⟩) hS ?_
    · (intro w' hSw; subst hSw; go_simp)
    (try simp only [List.getElem_toArray, List.getElem_cons_succ, List.getElem_cons_zero])
    go_frame
    refine wpAnyL_one (i := 9) (by kernel_rfl) rfl (by kernel_rfl) ?_
    go_simp
    refine HG.out.mono ?_
    rintro e w2 ⟨rfl, rfl⟩
    refine ⟨rfl, ?_⟩
    (try simp only [List.getElem_toArray, List.getElem_cons_succ, List.getElem_cons_zero])
    (try go_frame)
    refine wpAnyL_take (i := 10) (v := .tuple #[.int .i64 z, .int .i64 (k : Int), .int .i64 0]) rfl (by kernel_rfl) (by kernel_rfl) (by kernel_rfl) (by kernel_rfl) (by kernel_rfl) (fun _ _ _ h => h) (Or.inl ⟨by kernel_rfl, ?_⟩) hS ?_
    · (intro w' hSw; subst hSw; go_simp)
    (try simp only [List.getElem_toArray, List.getElem_cons_succ, List.getElem_cons_zero])
    go_frame
    refine wpAnyL_take (i := 11) (v := .int .i64 z) rfl (by kernel_rfl) (by kernel_rfl) (by kernel_rfl) (by kernel_rfl) (by kernel_rfl) (fun _ _ _ h => h) (Or.inl ⟨by kernel_rfl, ?_⟩) hS ?_
    · (intro w' hSw; subst hSw; go_simp)
    (try simp only [List.getElem_toArray, List.getElem_cons_succ, List.getElem_cons_zero])
    go_frame
    refine wpAnyL_take (i := 12) (v := .int .i64 (k : Int)) rfl (by kernel_rfl) (by kernel_rfl) (by kernel_rfl) (by kernel_rfl) (by kernel_rfl) (fun _ _ _ h => h) (Or.inl ⟨by kernel_rfl, ?_⟩) hS ?_
    · (intro w' hSw; subst hSw; go_simp)
    (try simp only [List.getElem_toArray, List.getElem_cons_succ, List.getElem_cons_zero])
    go_frame
    refine wpAnyL_take (i := 13) (v := .int .i64 0) rfl (by kernel_rfl) (by kernel_rfl) (by kernel_rfl) (by kernel_rfl) (by kernel_rfl) (fun _ _ _ h => h) (Or.inl ⟨by kernel_rfl, ?_⟩) hS ?_
    · (intro w' hSw; subst hSw; go_simp)
    (try simp only [List.getElem_toArray, List.getElem_cons_succ, List.getElem_cons_zero])
    go_frame
    refine wpAnyL_take (i := 14) (v := .int .i64 z) rfl (by kernel_rfl) (by kernel_rfl) (by kernel_rfl) (by kernel_rfl) (by kernel_rfl) (fun _ _ _ h => h) (Or.inl ⟨by kernel_rfl, ?_⟩) hS ?_
    · (intro w' hSw; subst hSw; go_simp)
    (try simp only [List.getElem_toArray, List.getElem_cons_succ, List.getElem_cons_zero])
    go_frame
    refine wpAnyL_take (i := 15) (v := .int .i64 (k : Int)) rfl (by kernel_rfl) (by kernel_rfl) (by kernel_rfl) (by kernel_rfl) (by kernel_rfl) (fun _ _ _ h => h) (Or.inl ⟨by kernel_rfl, ?_⟩) hS ?_
    · (intro w' hSw; subst hSw; go_simp)
    (try simp only [List.getElem_toArray, List.getElem_cons_succ, List.getElem_cons_zero])
    go_frame
    refine wpAnyL_last (by kernel_rfl) (by kernel_rfl) rfl (by kernel_rfl) ?_
    go_simp
    refine NoPanic.normal ?_
    go_wp2_with fail
    (try go_ret)
    exact HF.out
theorem rsgn_any (w0 w : World) (R : Nat) (v : Value) (bs : List UInt8) (s : Option (List UInt8)) (h : RdD w0 w R v bs s) (hl : bs.length ≤ 100000) :
    Calls Tryd.prog 32 #[.pointer (some ⟨R, 0, none⟩)] w fun e w' => ∃ n s', e = .returned (.int .i64 n) ∧ NumD sgnA s s' n ∧ RdD w0 w' R v bs s' ∧ Only (fun j => j = R) w w' := by
  have HN := hid (rnum_any w0 w R v bs s h hl)
  obtain ⟨PQ, hPQ⟩ : ∃ PQ, (fun (e : Ending) (w' : World) => ∃ n s', e = .returned (.int .i64 n) ∧ NumD sgnA s s' n ∧ RdD w0 w' R v bs s' ∧ Only (fun j => j = R) w w') = PQ := ⟨_, rfl⟩
  rw [hPQ]
  have HPQ := hid hPQ
  clear h hPQ
  go_enter Tryd.func32, Tryd.ntmps32
  go_wp2_with fail
  refine HN.out.mono ?_
  rintro e w1 ⟨n, s', rfl, _, hr, ho, hg⟩
  have HZ := hid (U.rzag_any w1 n)
  have HF : Hid (PQ (.returned (.int .i64 (zagI (uN n)))) w1) := hid (by rw [← HPQ.out]; exact ⟨_, s', rfl, hg rfl, hr, ho⟩)
  generalize zagI (uN n) = Z at HZ HF
  clear hr ho hg HN
  go_wp2_with fail
  refine HZ.out.mono ?_
  rintro e w2 ⟨rfl, hw⟩
  replace hw := hw.symm
  subst hw
  go_wp2_with fail
  (try go_ret)
  exact HF.out
end Go.Proofs.YtjifcgphlidimaaDoor.J
