/-
  Package manifest: the reader takes numbers off its bytes, or gives up.
-/
import Derived.Test.YtjifcgphlidimaaDoorJrp
import Derived.Test.YtjifcgphlidimaaDoorJwr
import Derived.Test.YtjifcgphlidimaaDoorGbyt
namespace Go.Proofs.YtjifcgphlidimaaDoor.J
open Go Go.RowKit Go.Proofs.Lys
open Go.Proofs.YtjifcgphlidimaaDoor.U (zagI)
set_option linter.unusedVariables false
set_option linter.unusedSimpArgs false

abbrev gaveJ : Ending := .panicked [{ v := .iface 26 (.int .i64 5), recovered := false }]
theorem jrefuse_no (w : World) : Calls Tryd.prog 29 #[.bool false] w fun e w' => e = .returned (.tuple #[]) ∧ w' = w := by
  go_enter Tryd.func29, Tryd.ntmps29
  go_wp2
  go_end0
  exact ⟨rfl, rfl⟩
theorem jrefuse_yes (w : World) : Calls Tryd.prog 29 #[.bool true] w fun e w' => e = gaveJ ∧ w' = w := by
  go_enter Tryd.func29, Tryd.ntmps29
  go_wp2
  exact ⟨rfl, rfl, rfl⟩
/-- A reader at R, over bytes of an elder world. -/
structure RdJ (w0 w : World) (R : Nat) (v : Value) (bs : List UInt8) : Prop where
  blk : Blk w R [v] 78
  src : G.BSrc w0 v bs
  kept : Kept w0 w
  le : w0.heap.size ≤ R
/-- What a number that is read leaves. -/
def NumJ (w0 w : World) (R nb no : Nat) (vs : List Value) (T : TypeId) (o : Option (Int × List UInt8)) (e : Ending) (w' : World) : Prop :=
  (o = none ∧ e = gaveJ ∧ Kept w0 w') ∨ ∃ n r v', o = some (n, r) ∧ e = .returned (.tuple #[]) ∧ RdJ w0 w' R v' r ∧ Blk w' nb (vs.set no (.int .i64 n)) T ∧ Only (fun j => j = R ∨ j = nb) w w'

set_option maxRecDepth 100000 in
set_option maxHeartbeats 3200000 in
theorem get_num (w0 w : World) (R : Nat) (v : Value) (bs : List UInt8) (nb no : Nat) (vs : List Value) (T : TypeId) (x : Value) (h : RdJ w0 w R v bs) (hM : Blk w nb vs T) (hx : vs[no]? = some x) (hne : nb ≠ R) (hnb : w0.heap.size ≤ nb) (hl : bs.length ≤ 100000) :
    Calls Tryd.prog 49 #[.pointer (some ⟨R, 0, none⟩), .pointer (some ⟨nb, no, none⟩), .func (.func 50) #[] #[]] w (NumJ w0 w R nb no vs T (numA bs)) := by
  obtain ⟨PQ, hPQ⟩ : ∃ PQ, NumJ w0 w R nb no vs T (numA bs) = PQ := ⟨_, rfl⟩
  rw [hPQ]
  have HPQ := hid hPQ
  have HG := hid (U.get_any w v bs (h.src.1.stay h.kept) (by omega))
  have HY := hid (jrefuse_yes w)
  have HN := hid (jrefuse_no w)
  have c0 := h.blk.cell 0 rfl
  rcases numA_cases bs with ⟨hg, hn1, hn2⟩ | ⟨u, k, hg, hu, hk, hn1, hn2⟩
  · rw [hg] at HG
    replace HG : Hid (Calls Tryd.prog 50 #[v] w fun e w' => e = .returned (.tuple #[.int .i64 0, .int .i64 0, .int .i64 5]) ∧ w' = w) := by
      have := HG.out
      rw [U.got_err] at this
      exact this
    have HF : Hid (PQ gaveJ w) := hid (by rw [← HPQ.out]; exact .inl ⟨hn1, rfl, h.kept⟩)
    obtain ⟨a, c, rfl⟩ := h.src.len
    generalize bs.length = M at *
    clear h hM hx hPQ hg hn1 hn2
    go_enter Tryd.func49, Tryd.ntmps49
    go_wp2_with fail
    refine HG.out.mono ?_
    rintro e w1 ⟨rfl, hw⟩
    replace hw := hw.symm
    subst hw
    go_wp2_with fail
    refine HY.out.mono ?_
    rintro e w1 ⟨rfl, hw⟩
    replace hw := hw.symm
    subst hw
    exact ⟨rfl, HF.out⟩
  · rw [hg] at HG
    obtain ⟨n, hnn⟩ : ∃ n, wrap64 (u : Int) = n := ⟨_, rfl⟩
    replace HG : Hid (Calls Tryd.prog 50 #[v] w fun e w' => e = .returned (.tuple #[.int .i64 n, .int .i64 (k : Int), .int .i64 0]) ∧ w' = w) := by
      have := HG.out
      rw [← hnn]
      try unfold U.got at this
      exact this
    obtain ⟨a2, c2, s2, b2⟩ := h.src.tail hk
    have HOB : Hid (∀ X, Only (fun j => j = nb) w X → X.cell? ⟨R, 0, none⟩ = some v) := hid (fun X kx => (Only.blk kx h.blk (fun e => hne e.symm)).cell 0 rfl)
    have HST : Hid (∀ X, Only (fun j => j = nb) w X → (∃ y, X.cell? ⟨nb, no, none⟩ = some y) → True) := hid (fun _ _ _ => trivial)
    have nc : w.drew.cell? ⟨nb, no, none⟩ = some x := hM.drew.cell no hx
    have nf : w.drew.frozen? ⟨nb, no, none⟩ = false := hM.drew.frozen no
    have HO1 : Hid (Only (fun j => j = nb) w (w.drew.setCell ⟨nb, no, none⟩ (.int .i64 n))) := hid ((Only.refl (fun j => j = nb) w).drew.setCell (fun _ => rfl) _)
    have r1 := (h.blk.drew.other (a := ⟨nb, no, none⟩) (fun e => hne e.symm) (.int .i64 n))
    have rc := r1.cell 0 rfl
    have rf := r1.frozen 0
    have rz := h.blk.frozen 0
    have HF : Hid (PQ (.returned (.tuple #[])) ((w.drew.setCell ⟨nb, no, none⟩ (.int .i64 n)).setCell ⟨R, 0, none⟩ (.slice a2 (bs.length - k) c2))) := hid (by
      rw [← HPQ.out]
      have hR := h.le
      refine .inr ⟨n, bs.drop k, _, by rw [hn1, hnn], rfl, ⟨r1.set 0 _, b2, ?_, h.le⟩, (hM.drew.set no _).other (a := ⟨R, 0, none⟩) hne _, ?_⟩
      · exact ((h.kept.trans HO1.out (fun j hj e => by omega))).setCell (p := ⟨R, 0, none⟩) (fun hl => by have : R < w0.heap.size := hl; omega) _
      · exact (HO1.out.mono (fun _ _ e => .inr e)).setCell (p := ⟨R, 0, none⟩) (fun _ => .inl rfl) _)
    have HRS : Hid (∀ W, (Instr.sliceAt 28 v (some (.int .i64 (k : Int))) none none).run Tryd.prog W = .ok (.slice a2 (bs.length - k) c2) W) := hid s2
    obtain ⟨a, c, rfl⟩ := h.src.len
    have hkk : k ≤ bs.length := hk
    generalize bs.length - k = MN at *
    generalize bs.length = M at *
    have HK := hid hkk
    clear h hM hx hPQ hg hn1 hn2 b2 s2 hk r1 hkk
    go_enter Tryd.func49, Tryd.ntmps49
    go_wp2_with fail
    refine HG.out.mono ?_
    rintro e w1 ⟨rfl, hw⟩
    replace hw := hw.symm
    subst hw
    go_wp2_with fail
    refine HN.out.mono ?_
    rintro e w1 ⟨rfl, hw⟩
    replace hw := hw.symm
    subst hw
    go_wp2_with fail
    have hS : (fun w' : World => Only (fun j => j = nb) w w') w.drew := (Only.refl _ w).drew
    have hS1 := HO1.out
    have rs := HRS.out
    refine wp_region_noPanic ?_
    refine wp_region_last (L := 13) (S := fun w' => Only (fun j => j = nb) w w') (by kernel_rfl) ?_
    refine wpAnyL_take (i := 0) (v := .pointer (some ⟨nb, no, none⟩)) rfl (by kernel_rfl) (by kernel_rfl) (by kernel_rfl) (by kernel_rfl) (by kernel_rfl) (fun _ _ _ h => h) (Or.inl ⟨by kernel_rfl, ?_⟩) hS ?_
    · (intro w' hSw; have x0 := HOB.out w' hSw; clear hSw; go_simp)
    (try simp only [List.getElem_toArray, List.getElem_cons_succ, List.getElem_cons_zero])
    go_frame
    refine wpAnyL_take (i := 1) (v := .pointer (some ⟨R, 0, none⟩)) rfl (by kernel_rfl) (by kernel_rfl) (by kernel_rfl) (by kernel_rfl) (by kernel_rfl) (fun _ _ _ h => h) (Or.inl ⟨by kernel_rfl, ?_⟩) hS ?_
    · (intro w' hSw; have x0 := HOB.out w' hSw; clear hSw; go_simp)
    (try simp only [List.getElem_toArray, List.getElem_cons_succ, List.getElem_cons_zero])
    go_frame
    refine wpAnyL_take (i := 2) (v := .int .i64 n) rfl (by kernel_rfl) (by kernel_rfl) (by kernel_rfl) (by kernel_rfl) (by kernel_rfl) (fun _ _ _ h => h) (Or.inl ⟨by kernel_rfl, ?_⟩) hS ?_
    · (intro w' hSw; have x0 := HOB.out w' hSw; clear hSw; go_simp)
    (try simp only [List.getElem_toArray, List.getElem_cons_succ, List.getElem_cons_zero])
    go_frame
    refine wpAnyL_take (i := 3) (v := .pointer (some ⟨R, 0, none⟩)) rfl (by kernel_rfl) (by kernel_rfl) (by kernel_rfl) (by kernel_rfl) (by kernel_rfl) (fun _ _ _ h => h) (Or.inl ⟨by kernel_rfl, ?_⟩) hS ?_
    · (intro w' hSw; have x0 := HOB.out w' hSw; clear hSw; go_simp)
    (try simp only [List.getElem_toArray, List.getElem_cons_succ, List.getElem_cons_zero])
    go_frame
    refine wpAnyL_take (i := 4) (v := .pointer (some ⟨R, 0, none⟩)) rfl (by kernel_rfl) (by kernel_rfl) (by kernel_rfl) (by kernel_rfl) (by kernel_rfl) (fun _ _ _ h => h) (Or.inl ⟨by kernel_rfl, ?_⟩) hS ?_
    · (intro w' hSw; have x0 := HOB.out w' hSw; clear hSw; go_simp)
    (try simp only [List.getElem_toArray, List.getElem_cons_succ, List.getElem_cons_zero])
    go_frame
    refine wpAnyL_take (i := 5) (v := .pointer (some ⟨R, 0, none⟩)) rfl (by kernel_rfl) (by kernel_rfl) (by kernel_rfl) (by kernel_rfl) (by kernel_rfl) (fun _ _ _ h => h) (Or.inl ⟨by kernel_rfl, ?_⟩) hS ?_
    · (intro w' hSw; have x0 := HOB.out w' hSw; clear hSw; go_simp)
    (try simp only [List.getElem_toArray, List.getElem_cons_succ, List.getElem_cons_zero])
    go_frame
    refine wpAnyL_take (i := 6) (v := .slice a M c) rfl (by kernel_rfl) (by kernel_rfl) (by kernel_rfl) (by kernel_rfl) (by kernel_rfl) (fun _ _ _ h => h) (Or.inl ⟨by kernel_rfl, ?_⟩) hS ?_
    · (intro w' hSw; have x0 := HOB.out w' hSw; clear hSw; go_simp)
    (try simp only [List.getElem_toArray, List.getElem_cons_succ, List.getElem_cons_zero])
    go_frame
    refine wpAnyL_take (i := 7) (v := .int .i64 (k : Int)) rfl (by kernel_rfl) (by kernel_rfl) (by kernel_rfl) (by kernel_rfl) (by kernel_rfl) (fun _ _ _ h => h) (Or.inl ⟨by kernel_rfl, ?_⟩) hS ?_
    · (intro w' hSw; have x0 := HOB.out w' hSw; clear hSw; go_simp)
    (try simp only [List.getElem_toArray, List.getElem_cons_succ, List.getElem_cons_zero])
    go_frame
    refine wpAnyL_take (i := 8) (v := .slice a2 MN c2 ) rfl (by kernel_rfl) (by kernel_rfl) (by kernel_rfl) (by kernel_rfl) (by kernel_rfl) (fun _ _ _ h => h) (Or.inl ⟨by kernel_rfl, ?_⟩) hS ?_
    · (intro w' hSw; have x0 := HOB.out w' hSw; clear hSw; go_simp)
    (try simp only [List.getElem_toArray, List.getElem_cons_succ, List.getElem_cons_zero])
    go_frame
    refine wpAnyL_take (i := 9) (v := .pointer (some ⟨nb, no, none⟩)) rfl (by kernel_rfl) (by kernel_rfl) (by kernel_rfl) (by kernel_rfl) (by kernel_rfl) (fun _ _ _ h => h) (Or.inl ⟨by kernel_rfl, ?_⟩) hS ?_
    · (intro w' hSw; have x0 := HOB.out w' hSw; clear hSw; go_simp)
    (try simp only [List.getElem_toArray, List.getElem_cons_succ, List.getElem_cons_zero])
    go_frame
    refine wpAnyL_one (i := 10) (by kernel_rfl) rfl (by kernel_rfl) ?_
    go_simp
    refine ⟨hS1, ?_⟩
    (try simp only [List.getElem_toArray, List.getElem_cons_succ, List.getElem_cons_zero])
    (try go_frame)
    refine wpAnyL_take (i := 11) (v := .pointer (some ⟨R, 0, none⟩)) rfl (by kernel_rfl) (by kernel_rfl) (by kernel_rfl) (by kernel_rfl) (by kernel_rfl) (fun _ _ _ h => h) (Or.inl ⟨by kernel_rfl, ?_⟩) hS1 ?_
    · (intro w' hSw; have x0 := HOB.out w' hSw; clear hSw; go_simp)
    (try simp only [List.getElem_toArray, List.getElem_cons_succ, List.getElem_cons_zero])
    go_frame
    refine wpAnyL_take (i := 12) (v := .pointer (some ⟨R, 0, none⟩)) rfl (by kernel_rfl) (by kernel_rfl) (by kernel_rfl) (by kernel_rfl) (by kernel_rfl) (fun _ _ _ h => h) (Or.inl ⟨by kernel_rfl, ?_⟩) hS1 ?_
    · (intro w' hSw; have x0 := HOB.out w' hSw; clear hSw; go_simp)
    (try simp only [List.getElem_toArray, List.getElem_cons_succ, List.getElem_cons_zero])
    go_frame
    refine wpAnyL_last (by kernel_rfl) (by kernel_rfl) rfl (by kernel_rfl) ?_
    go_simp
    refine NoPanic.normal ?_
    (try go_wp2)
    first | exact HF.out | (refine bodyPost_ret (results_none rfl _ _ _) rfl ?_; exact HF.out)
set_option maxHeartbeats 800000 in
theorem rplain_any (w0 w : World) (R : Nat) (v : Value) (bs : List UInt8) (nb no : Nat) (vs : List Value) (T : TypeId) (x : Value) (h : RdJ w0 w R v bs) (hM : Blk w nb vs T) (hx : vs[no]? = some x) (hne : nb ≠ R) (hnb : w0.heap.size ≤ nb) (hl : bs.length ≤ 100000) :
    Calls Tryd.prog 43 #[.pointer (some ⟨R, 0, none⟩), .pointer (some ⟨nb, no, none⟩)] w (NumJ w0 w R nb no vs T (numA bs)) := by
  have HN := hid (get_num w0 w R v bs nb no vs T x h hM hx hne hnb hl)
  obtain ⟨PQ, hPQ⟩ : ∃ PQ, NumJ w0 w R nb no vs T (numA bs) = PQ := ⟨_, rfl⟩
  rw [hPQ] at HN ⊢
  have HP : Hid (∀ e w', PQ e w' → (e = gaveJ ∨ e = .returned (.tuple #[]))) := hid (fun e w' hp => by
    rw [← hPQ] at hp
    rcases hp with ⟨_, he, _⟩ | ⟨_, _, _, _, he, _⟩
    · exact .inl he
    · exact .inr he)
  clear h hM hx hPQ
  go_enter Tryd.func43, Tryd.ntmps43
  go_wp2_with fail
  refine HN.out.mono ?_
  intro e w' hp
  rcases HP.out e w' hp with rfl | rfl
  · exact ⟨rfl, hp⟩
  · have HQ := hid hp
    clear hp
    (try go_wp2)
    first | exact HQ.out | (refine bodyPost_ret (results_none rfl _ _ _) rfl ?_; exact HQ.out) | (go_end0; exact HQ.out)

set_option maxRecDepth 100000 in
set_option maxHeartbeats 3200000 in
theorem gets_num (w0 w : World) (R : Nat) (v : Value) (bs : List UInt8) (nb no : Nat) (vs : List Value) (T : TypeId) (x : Value) (h : RdJ w0 w R v bs) (hM : Blk w nb vs T) (hx : vs[no]? = some x) (hne : nb ≠ R) (hnb : w0.heap.size ≤ nb) (hl : bs.length ≤ 100000) :
    Calls Tryd.prog 49 #[.pointer (some ⟨R, 0, none⟩), .pointer (some ⟨nb, no, none⟩), .func (.func 51) #[] #[]] w (NumJ w0 w R nb no vs T (sgnA bs)) := by
  obtain ⟨PQ, hPQ⟩ : ∃ PQ, NumJ w0 w R nb no vs T (sgnA bs) = PQ := ⟨_, rfl⟩
  rw [hPQ]
  have HPQ := hid hPQ
  have HG := hid (U.getS_any w v bs (h.src.1.stay h.kept) (by omega))
  have HY := hid (jrefuse_yes w)
  have HN := hid (jrefuse_no w)
  have c0 := h.blk.cell 0 rfl
  rcases numA_cases bs with ⟨hg, hn1, hn2⟩ | ⟨u, k, hg, hu, hk, hn1, hn2⟩
  · rw [hg] at HG
    replace HG : Hid (Calls Tryd.prog 51 #[v] w fun e w' => e = .returned (.tuple #[.int .i64 0, .int .i64 0, .int .i64 5]) ∧ w' = w) := by
      have := HG.out
      try unfold U.gotS at this
      exact this
    have HF : Hid (PQ gaveJ w) := hid (by rw [← HPQ.out]; exact .inl ⟨hn2, rfl, h.kept⟩)
    obtain ⟨a, c, rfl⟩ := h.src.len
    generalize bs.length = M at *
    clear h hM hx hPQ hg hn1 hn2
    go_enter Tryd.func49, Tryd.ntmps49
    go_wp2_with fail
    refine HG.out.mono ?_
    rintro e w1 ⟨rfl, hw⟩
    replace hw := hw.symm
    subst hw
    go_wp2_with fail
    refine HY.out.mono ?_
    rintro e w1 ⟨rfl, hw⟩
    replace hw := hw.symm
    subst hw
    exact ⟨rfl, HF.out⟩
  · rw [hg] at HG
    obtain ⟨n, hnn⟩ : ∃ n, zagI u = n := ⟨_, rfl⟩
    replace HG : Hid (Calls Tryd.prog 51 #[v] w fun e w' => e = .returned (.tuple #[.int .i64 n, .int .i64 (k : Int), .int .i64 0]) ∧ w' = w) := by
      have := HG.out
      rw [← hnn]
      try unfold U.gotS at this
      exact this
    obtain ⟨a2, c2, s2, b2⟩ := h.src.tail hk
    have HOB : Hid (∀ X, Only (fun j => j = nb) w X → X.cell? ⟨R, 0, none⟩ = some v) := hid (fun X kx => (Only.blk kx h.blk (fun e => hne e.symm)).cell 0 rfl)
    have HST : Hid (∀ X, Only (fun j => j = nb) w X → (∃ y, X.cell? ⟨nb, no, none⟩ = some y) → True) := hid (fun _ _ _ => trivial)
    have nc : w.drew.cell? ⟨nb, no, none⟩ = some x := hM.drew.cell no hx
    have nf : w.drew.frozen? ⟨nb, no, none⟩ = false := hM.drew.frozen no
    have HO1 : Hid (Only (fun j => j = nb) w (w.drew.setCell ⟨nb, no, none⟩ (.int .i64 n))) := hid ((Only.refl (fun j => j = nb) w).drew.setCell (fun _ => rfl) _)
    have r1 := (h.blk.drew.other (a := ⟨nb, no, none⟩) (fun e => hne e.symm) (.int .i64 n))
    have rc := r1.cell 0 rfl
    have rf := r1.frozen 0
    have rz := h.blk.frozen 0
    have HF : Hid (PQ (.returned (.tuple #[])) ((w.drew.setCell ⟨nb, no, none⟩ (.int .i64 n)).setCell ⟨R, 0, none⟩ (.slice a2 (bs.length - k) c2))) := hid (by
      rw [← HPQ.out]
      have hR := h.le
      refine .inr ⟨n, bs.drop k, _, by rw [hn2, hnn], rfl, ⟨r1.set 0 _, b2, ?_, h.le⟩, (hM.drew.set no _).other (a := ⟨R, 0, none⟩) hne _, ?_⟩
      · exact ((h.kept.trans HO1.out (fun j hj e => by omega))).setCell (p := ⟨R, 0, none⟩) (fun hl => by have : R < w0.heap.size := hl; omega) _
      · exact (HO1.out.mono (fun _ _ e => .inr e)).setCell (p := ⟨R, 0, none⟩) (fun _ => .inl rfl) _)
    have HRS : Hid (∀ W, (Instr.sliceAt 28 v (some (.int .i64 (k : Int))) none none).run Tryd.prog W = .ok (.slice a2 (bs.length - k) c2) W) := hid s2
    obtain ⟨a, c, rfl⟩ := h.src.len
    have hkk : k ≤ bs.length := hk
    generalize bs.length - k = MN at *
    generalize bs.length = M at *
    have HK := hid hkk
    clear h hM hx hPQ hg hn1 hn2 b2 s2 hk r1 hkk
    go_enter Tryd.func49, Tryd.ntmps49
    go_wp2_with fail
    refine HG.out.mono ?_
    rintro e w1 ⟨rfl, hw⟩
    replace hw := hw.symm
    subst hw
    go_wp2_with fail
    refine HN.out.mono ?_
    rintro e w1 ⟨rfl, hw⟩
    replace hw := hw.symm
    subst hw
    go_wp2_with fail
    have hS : (fun w' : World => Only (fun j => j = nb) w w') w.drew := (Only.refl _ w).drew
    have hS1 := HO1.out
    have rs := HRS.out
    refine wp_region_noPanic ?_
    refine wp_region_last (L := 13) (S := fun w' => Only (fun j => j = nb) w w') (by kernel_rfl) ?_
    refine wpAnyL_take (i := 0) (v := .pointer (some ⟨nb, no, none⟩)) rfl (by kernel_rfl) (by kernel_rfl) (by kernel_rfl) (by kernel_rfl) (by kernel_rfl) (fun _ _ _ h => h) (Or.inl ⟨by kernel_rfl, ?_⟩) hS ?_
    · (intro w' hSw; have x0 := HOB.out w' hSw; clear hSw; go_simp)
    (try simp only [List.getElem_toArray, List.getElem_cons_succ, List.getElem_cons_zero])
    go_frame
    refine wpAnyL_take (i := 1) (v := .pointer (some ⟨R, 0, none⟩)) rfl (by kernel_rfl) (by kernel_rfl) (by kernel_rfl) (by kernel_rfl) (by kernel_rfl) (fun _ _ _ h => h) (Or.inl ⟨by kernel_rfl, ?_⟩) hS ?_
    · (intro w' hSw; have x0 := HOB.out w' hSw; clear hSw; go_simp)
    (try simp only [List.getElem_toArray, List.getElem_cons_succ, List.getElem_cons_zero])
    go_frame
    refine wpAnyL_take (i := 2) (v := .int .i64 n) rfl (by kernel_rfl) (by kernel_rfl) (by kernel_rfl) (by kernel_rfl) (by kernel_rfl) (fun _ _ _ h => h) (Or.inl ⟨by kernel_rfl, ?_⟩) hS ?_
    · (intro w' hSw; have x0 := HOB.out w' hSw; clear hSw; go_simp)
    (try simp only [List.getElem_toArray, List.getElem_cons_succ, List.getElem_cons_zero])
    go_frame
    refine wpAnyL_take (i := 3) (v := .pointer (some ⟨R, 0, none⟩)) rfl (by kernel_rfl) (by kernel_rfl) (by kernel_rfl) (by kernel_rfl) (by kernel_rfl) (fun _ _ _ h => h) (Or.inl ⟨by kernel_rfl, ?_⟩) hS ?_
    · (intro w' hSw; have x0 := HOB.out w' hSw; clear hSw; go_simp)
    (try simp only [List.getElem_toArray, List.getElem_cons_succ, List.getElem_cons_zero])
    go_frame
    refine wpAnyL_take (i := 4) (v := .pointer (some ⟨R, 0, none⟩)) rfl (by kernel_rfl) (by kernel_rfl) (by kernel_rfl) (by kernel_rfl) (by kernel_rfl) (fun _ _ _ h => h) (Or.inl ⟨by kernel_rfl, ?_⟩) hS ?_
    · (intro w' hSw; have x0 := HOB.out w' hSw; clear hSw; go_simp)
    (try simp only [List.getElem_toArray, List.getElem_cons_succ, List.getElem_cons_zero])
    go_frame
    refine wpAnyL_take (i := 5) (v := .pointer (some ⟨R, 0, none⟩)) rfl (by kernel_rfl) (by kernel_rfl) (by kernel_rfl) (by kernel_rfl) (by kernel_rfl) (fun _ _ _ h => h) (Or.inl ⟨by kernel_rfl, ?_⟩) hS ?_
    · (intro w' hSw; have x0 := HOB.out w' hSw; clear hSw; go_simp)
    (try simp only [List.getElem_toArray, List.getElem_cons_succ, List.getElem_cons_zero])
    go_frame
    refine wpAnyL_take (i := 6) (v := .slice a M c) rfl (by kernel_rfl) (by kernel_rfl) (by kernel_rfl) (by kernel_rfl) (by kernel_rfl) (fun _ _ _ h => h) (Or.inl ⟨by kernel_rfl, ?_⟩) hS ?_
    · (intro w' hSw; have x0 := HOB.out w' hSw; clear hSw; go_simp)
    (try simp only [List.getElem_toArray, List.getElem_cons_succ, List.getElem_cons_zero])
    go_frame
    refine wpAnyL_take (i := 7) (v := .int .i64 (k : Int)) rfl (by kernel_rfl) (by kernel_rfl) (by kernel_rfl) (by kernel_rfl) (by kernel_rfl) (fun _ _ _ h => h) (Or.inl ⟨by kernel_rfl, ?_⟩) hS ?_
    · (intro w' hSw; have x0 := HOB.out w' hSw; clear hSw; go_simp)
    (try simp only [List.getElem_toArray, List.getElem_cons_succ, List.getElem_cons_zero])
    go_frame
    refine wpAnyL_take (i := 8) (v := .slice a2 MN c2 ) rfl (by kernel_rfl) (by kernel_rfl) (by kernel_rfl) (by kernel_rfl) (by kernel_rfl) (fun _ _ _ h => h) (Or.inl ⟨by kernel_rfl, ?_⟩) hS ?_
    · (intro w' hSw; have x0 := HOB.out w' hSw; clear hSw; go_simp)
    (try simp only [List.getElem_toArray, List.getElem_cons_succ, List.getElem_cons_zero])
    go_frame
    refine wpAnyL_take (i := 9) (v := .pointer (some ⟨nb, no, none⟩)) rfl (by kernel_rfl) (by kernel_rfl) (by kernel_rfl) (by kernel_rfl) (by kernel_rfl) (fun _ _ _ h => h) (Or.inl ⟨by kernel_rfl, ?_⟩) hS ?_
    · (intro w' hSw; have x0 := HOB.out w' hSw; clear hSw; go_simp)
    (try simp only [List.getElem_toArray, List.getElem_cons_succ, List.getElem_cons_zero])
    go_frame
    refine wpAnyL_one (i := 10) (by kernel_rfl) rfl (by kernel_rfl) ?_
    go_simp
    refine ⟨hS1, ?_⟩
    (try simp only [List.getElem_toArray, List.getElem_cons_succ, List.getElem_cons_zero])
    (try go_frame)
    refine wpAnyL_take (i := 11) (v := .pointer (some ⟨R, 0, none⟩)) rfl (by kernel_rfl) (by kernel_rfl) (by kernel_rfl) (by kernel_rfl) (by kernel_rfl) (fun _ _ _ h => h) (Or.inl ⟨by kernel_rfl, ?_⟩) hS1 ?_
    · (intro w' hSw; have x0 := HOB.out w' hSw; clear hSw; go_simp)
    (try simp only [List.getElem_toArray, List.getElem_cons_succ, List.getElem_cons_zero])
    go_frame
    refine wpAnyL_take (i := 12) (v := .pointer (some ⟨R, 0, none⟩)) rfl (by kernel_rfl) (by kernel_rfl) (by kernel_rfl) (by kernel_rfl) (by kernel_rfl) (fun _ _ _ h => h) (Or.inl ⟨by kernel_rfl, ?_⟩) hS1 ?_
    · (intro w' hSw; have x0 := HOB.out w' hSw; clear hSw; go_simp)
    (try simp only [List.getElem_toArray, List.getElem_cons_succ, List.getElem_cons_zero])
    go_frame
    refine wpAnyL_last (by kernel_rfl) (by kernel_rfl) rfl (by kernel_rfl) ?_
    go_simp
    refine NoPanic.normal ?_
    (try go_wp2)
    first | exact HF.out | (refine bodyPost_ret (results_none rfl _ _ _) rfl ?_; exact HF.out)
set_option maxHeartbeats 800000 in
theorem rsigned_any (w0 w : World) (R : Nat) (v : Value) (bs : List UInt8) (nb no : Nat) (vs : List Value) (T : TypeId) (x : Value) (h : RdJ w0 w R v bs) (hM : Blk w nb vs T) (hx : vs[no]? = some x) (hne : nb ≠ R) (hnb : w0.heap.size ≤ nb) (hl : bs.length ≤ 100000) :
    Calls Tryd.prog 44 #[.pointer (some ⟨R, 0, none⟩), .pointer (some ⟨nb, no, none⟩)] w (NumJ w0 w R nb no vs T (sgnA bs)) := by
  have HN := hid (gets_num w0 w R v bs nb no vs T x h hM hx hne hnb hl)
  obtain ⟨PQ, hPQ⟩ : ∃ PQ, NumJ w0 w R nb no vs T (sgnA bs) = PQ := ⟨_, rfl⟩
  rw [hPQ] at HN ⊢
  have HP : Hid (∀ e w', PQ e w' → (e = gaveJ ∨ e = .returned (.tuple #[]))) := hid (fun e w' hp => by
    rw [← hPQ] at hp
    rcases hp with ⟨_, he, _⟩ | ⟨_, _, _, _, he, _⟩
    · exact .inl he
    · exact .inr he)
  clear h hM hx hPQ
  go_enter Tryd.func44, Tryd.ntmps44
  go_wp2_with fail
  refine HN.out.mono ?_
  intro e w' hp
  rcases HP.out e w' hp with rfl | rfl
  · exact ⟨rfl, hp⟩
  · have HQ := hid hp
    clear hp
    (try go_wp2)
    first | exact HQ.out | (refine bodyPost_ret (results_none rfl _ _ _) rfl ?_; exact HQ.out) | (go_end0; exact HQ.out)
end Go.Proofs.YtjifcgphlidimaaDoor.J
