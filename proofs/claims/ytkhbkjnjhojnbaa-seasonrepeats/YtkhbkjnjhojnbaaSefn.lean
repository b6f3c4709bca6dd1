/-
  Package season: Cast, the document's own, and how far a point is from its cast.
-/
import Derived.Test.YtkhbkjnjhojnbaaSenum
import Derived.Test.YtkhbkjnjhojnbaaDlast
import Derived.Test.YtkhbkjnjhojnbaaWlast
namespace Go.Proofs.Ytkhbkjnjhojnbaa.Se
open Go Go.RowKit Go.Proofs.Lys
set_option linter.unusedVariables false
set_option linter.unusedSimpArgs false

theorem castV_ok {l : List Int} {L : Nat} {s d : Int} (hL : l.length = L) (hm : MayB L s) (h1 : 1 ≤ d) (h2 : d ≤ 10000) : castV l s d = l.getD (agoN L s d) 0 := by
  unfold castV
  rw [hL, if_pos ⟨hm, h1, h2⟩]
theorem castV_no {l : List Int} {L : Nat} {s d : Int} (hL : l.length = L) (h : ¬ (MayB L s ∧ 1 ≤ d ∧ d ≤ 10000)) : castV l s d = 0 := by
  unfold castV
  rw [hL, if_neg h]
theorem castE_ok {L : Nat} {s d : Int} (hm : MayB L s) (h1 : 1 ≤ d) (h2 : d ≤ 10000) : castE L s d = 0 := if_pos ⟨hm, h1, h2⟩
theorem castE_no {L : Nat} {s d : Int} (h : ¬ (MayB L s ∧ 1 ≤ d ∧ d ≤ 10000)) : castE L s d = 1 := if_neg h
/-- What Cast returns. -/
def CastR (w : World) (l : List Int) (L : Nat) (s d : Int) (e : Ending) (w' : World) : Prop := e = .returned (.tuple #[.int .i64 (castV l s d), .int .i64 (castE L s d)]) ∧ w' = w
theorem castR_no {w : World} {l : List Int} {L : Nat} {s d : Int} (hL : l.length = L) (h : ¬ (MayB L s ∧ 1 ≤ d ∧ d ≤ 10000)) : CastR w l L s d (.returned (.tuple #[.int .i64 0, .int .i64 1])) w := by
  refine ⟨?_, rfl⟩
  rw [castV_no hL h, castE_no h]
theorem castR_ok {w : World} {l : List Int} {L : Nat} {s d : Int} (hL : l.length = L) (hm : MayB L s) (h1 : 1 ≤ d) (h2 : d ≤ 10000) : CastR w l L s d (.returned (.tuple #[.int .i64 (l.getD (agoN L s d) 0), .int .i64 0])) w := by
  refine ⟨?_, rfl⟩
  rw [castV_ok hL hm h1 h2, castE_ok hm h1 h2]
set_option maxRecDepth 100000 in
theorem cast_any (w : World) (a : Option Addr) (L c : Nat) (l : List Int) (s d : Int) (h : PtSrc w (.slice a L c) l) (hL : l.length = L) (hl : L ≤ 9223372036854775807) :
    Calls Try.prog 6 #[.slice a L c, .int .i64 s, .int .i64 d] w (CastR w l L s d) := by
  have HM := hid (fun W => may_any W a L c s)
  by_cases hm : MayB L s
  · rw [decide_eq_true hm] at HM
    by_cases h1 : d < 1
    · have HF := hid (castR_no (w := w) (d := d) (s := s) hL (by omega))
      clear hm h
      go_enter Try.func6, Try.ntmps6
      go_wp2_with fail
      refine (HM.out _).mono ?_
      rintro e w' ⟨rfl, rfl⟩
      go_wp2
      go_ret2
      exact HF.out
    by_cases h2 : 10000 < d
    · have HF := hid (castR_no (w := w) (d := d) (s := s) hL (by omega))
      clear hm h
      go_enter Try.func6, Try.ntmps6
      go_wp2_with fail
      refine (HM.out _).mono ?_
      rintro e w' ⟨rfl, rfl⟩
      go_wp2
      go_ret2
      exact HF.out
    have HF := hid (castR_ok (w := w) hL hm (show 1 ≤ d by omega) (show d ≤ 10000 by omega))
    have HA := hid (ago_any w a L c l s d h hL hl hm (by omega) (by omega))
    generalize l.getD (agoN L s d) 0 = V at *
    clear hm h
    go_enter Try.func6, Try.ntmps6
    go_wp2_with fail
    refine (HM.out _).mono ?_
    rintro e w' ⟨rfl, rfl⟩
    go_wp2_with fail
    refine HA.out.mono ?_
    rintro e w' ⟨rfl, rfl⟩
    go_wp2
    go_ret2
    exact HF.out
  · rw [decide_eq_false hm] at HM
    have HF := hid (castR_no (w := w) (d := d) (s := s) hL (fun x => hm x.1))
    clear hm h
    go_enter Try.func6, Try.ntmps6
    go_wp2_with fail
    refine (HM.out _).mono ?_
    rintro e w' ⟨rfl, rfl⟩
    go_wp2
    go_ret2
    exact HF.out
set_option maxRecDepth 100000 in
theorem rcast_any (w : World) (a : Option Addr) (L c : Nat) (l : List Int) (s d : Int) (h : PtSrc w (.slice a L c) l) (hL : l.length = L) (hl : L ≤ 9223372036854775807) :
    Calls Try.prog 7 #[.slice a L c, .int .i64 s, .int .i64 d] w (CastR w l L s d) := by
  by_cases h1 : s < 1
  · have HF := hid (castR_no (w := w) (d := d) (s := s) hL (fun x => by have := x.1.1; omega))
    clear h hL
    go_enter Try.func7, Try.ntmps7
    go_wp2
    go_ret2
    exact HF.out
  by_cases h2 : 10000 < s
  · have HF := hid (castR_no (w := w) (d := d) (s := s) hL (fun x => by have := x.1.2.1; omega))
    clear h hL
    go_enter Try.func7, Try.ntmps7
    go_wp2
    go_ret2
    exact HF.out
  by_cases h3 : d < 1
  · have HF := hid (castR_no (w := w) (d := d) (s := s) hL (fun x => by have := x.2.1; omega))
    clear h hL
    go_enter Try.func7, Try.ntmps7
    go_wp2
    go_ret2
    exact HF.out
  by_cases h4 : 10000 < d
  · have HF := hid (castR_no (w := w) (d := d) (s := s) hL (fun x => by have := x.2.2; omega))
    clear h hL
    go_enter Try.func7, Try.ntmps7
    go_wp2
    go_ret2
    exact HF.out
  by_cases h5 : (L : Int) < s
  · have HF := hid (castR_no (w := w) (d := d) (s := s) hL (fun x => by have := x.1.2.2; omega))
    clear h hL
    go_enter Try.func7, Try.ntmps7
    go_wp2
    go_ret2
    exact HF.out
  have hm : MayB L s := ⟨by omega, by omega, by omega⟩
  have HF := hid (castR_ok (w := w) hL hm (show 1 ≤ d by omega) (show d ≤ 10000 by omega))
  obtain ⟨b, o, rfl, c0⟩ := pt_cell h hL (agoN L s d) (ago_lt hm)
  obtain ⟨n, hn⟩ : ∃ n, agoN L s d = n := ⟨_, rfl⟩
  have e1 := ago_eq (a := d) hm
  have e2 : (d - 1).tmod s = (d - 1) % s := Int.tmod_eq_emod_of_nonneg (by omega)
  have e3 := Int.emod_lt_of_pos (d - 1) (show 0 < s by have := hm.1; omega)
  have e4 := Int.emod_nonneg (d - 1) (show s ≠ 0 by have := hm.1; omega)
  have e5 : n < L := by rw [← hn]; exact ago_lt hm
  rw [hn] at c0 e1 HF
  obtain ⟨R, hR⟩ : ∃ R, (d - 1) % s = R := ⟨_, rfl⟩
  rw [hR] at e1 e2 e3 e4
  obtain ⟨V, hV⟩ : ∃ V, l.getD n 0 = V := ⟨_, rfl⟩
  rw [hV] at c0 HF
  have hs0 : s ≠ 0 := by omega
  have hb : b < w.heap.size := World.block_lt_of_cell? w _ c0
  have hw1 : wrap64 ((L : Int) - s) = (L : Int) - s := by unfold wrap64; omega
  have hw2 : wrap64 (d - 1) = d - 1 := by unfold wrap64; omega
  have ht : ((L : Int) - s + R).toNat = n := by omega
  have hw4 : wrap64 R = R := by unfold wrap64; omega
  clear h hn hR hV hm hL
  go_enter Try.func7, Try.ntmps7
  go_wp2
  go_ret2
  exact HF.out
theorem pt_cut {w : World} {b o L c : Nat} {l : List Int} (h : PtSrc w (.slice (some ⟨b, o, none⟩) L c) l) (hL : l.length = L) (p : Nat) (hp : p ≤ L) : PtSrc w (.slice (some ⟨b, o, none⟩) p c) (l.take p) := by
  refine .inr ⟨⟨b, o, none⟩, c, ?_, fun j u hu => ?_⟩
  · rw [List.length_map, List.length_take, Nat.min_eq_left (by omega)]
  · rcases h with ⟨he, _⟩ | ⟨a', c', he, hc⟩
    · cases he
    · cases he
      refine hc j u ?_
      rw [List.getElem?_map, List.getElem?_take] at hu
      rw [List.getElem?_map]
      split at hu
      · exact hu
      · cases hu
theorem take_getD (l : List Int) (p i : Nat) (h : i < p) : (l.take p).getD i 0 = l.getD i 0 := by
  rw [List.getD_eq_getElem?_getD, List.getD_eq_getElem?_getD, List.getElem?_take, if_pos h]
set_option maxRecDepth 100000 in
set_option maxHeartbeats 1600000 in
theorem miss1_any (W : World) (P Q b o L c : Nat) (l : List Int) (s : Int) (p : Nat) (hP : W.cell? ⟨P, 0, none⟩ = some (.slice (some ⟨b, o, none⟩) L c)) (hQ : W.cell? ⟨Q, 0, none⟩ = some (.int .i64 s))
    (h : PtSrc W (.slice (some ⟨b, o, none⟩) L c) l) (hL : l.length = L) (hc : L ≤ c) (hl : L ≤ 9223372036854775807) (hin : ∀ i, In64 (l.getD i 0)) (h1 : 1 ≤ s) (h2 : s ≤ 10000) (h3 : s ≤ (p : Int)) (hp : p < L) :
    Calls Try.prog 13 #[.int .i64 (p : Int), .pointer (some ⟨P, 0, none⟩), .pointer (some ⟨Q, 0, none⟩)] W fun e w' => e = .returned (.int .i64 (distC (l.getD p 0) (l.getD (p - s.toNat) 0))) ∧ Kept W w' := by
  have kd : Kept W W.drew := (Only.refl _ W).drew
  have hcd : ∀ a, W.drew.cell? a = W.cell? a := fun a => rfl
  have hlt : (l.take p).length = p := by rw [List.length_take]; omega
  have hmp : MayB p s := ⟨h1, h2, h3⟩
  have HA := ago_any W.drew _ p c (l.take p) s 1 (SrcOf.stay (pt_cut h hL p (by omega)) kd) hlt (by omega) hmp (by omega) (by omega)
  have hag := ago_one hmp
  rw [take_getD l p _ (ago_lt hmp), hag] at HA
  obtain ⟨b', o', he, c0⟩ := pt_cell h hL p hp
  cases he
  have i1 := hin p
  have i2 := hin (p - s.toNat)
  generalize l.getD p 0 = X at *
  generalize l.getD (p - s.toNat) 0 = Y at *
  have HSL0 : ∀ W, (Instr.sliceAt 22 (.slice (some ⟨b, o, none⟩) L c) none (some (.int .i64 (p : Int))) none).run Try.prog W = .ok (.slice (some ⟨b, o, none⟩) p c) W := by
    intro W
    have hz : ∀ W, (sizeOf 3).run Try.prog W = .ok 1 W := fun W => by kernel_rfl
    have hpc : p ≤ c := by omega
    simp [hz, hpc, Instr.sliceAt, Instr.slice, Instr.sliceBounds, Instr.sliceBound, run_underlying Try.underlying22, asIntOf, Result.andThen, Addr.add]
  have HSL := hid HSL0
  have HA1 := hid HA
  clear HSL0 HA
  have KD := hid kd
  have hpp : (p : Int) < (L : Int) := by omega
  clear kd hin h hlt hmp hag
  have hb : b < W.heap.size := World.block_lt_of_cell? W _ c0
  obtain ⟨D, hD⟩ : ∃ D, distC X Y = D := ⟨_, rfl⟩
  rw [hD]
  have three : ∃ M m, distC X Y = subC M m ∧ ((X < Y ∧ Y = M ∧ X = m) ∨ (X = Y ∧ X = M ∧ X = m) ∨ (Y < X ∧ X = M ∧ Y = m)) := by
    rcases Int.lt_trichotomy X Y with g | g | g
    · exact ⟨Y, X, dist_lt g, .inl ⟨g, rfl, rfl⟩⟩
    · exact ⟨X, X, by rw [dist_ge (by omega), g], .inr (.inl ⟨g, rfl, rfl⟩)⟩
    · exact ⟨X, Y, dist_ge (by omega), .inr (.inr ⟨g, rfl, rfl⟩)⟩
  obtain ⟨M, m, hM, three⟩ := three
  rw [hD] at hM
  have HS := hid (fun W' => sub_any M m W' (by rcases three with g | g | g <;> (obtain ⟨_, rfl, rfl⟩ := g; first | exact i1 | exact i2)) (by rcases three with g | g | g <;> (obtain ⟨_, rfl, rfl⟩ := g; first | exact i1 | exact i2)))
  rw [← hM] at HS
  clear hM hD i1 i2
  rcases three with ⟨g, rfl, rfl⟩ | ⟨rfl, rfl, rfl⟩ | ⟨g, rfl, rfl⟩
  all_goals
    go_enter Try.func13, Try.ntmps13
    go_wp2_with fail
    refine wp_region_noPanic ?_
    refine wp_region_last (L := 10) (S := fun w' => w' = W.drew) (by kernel_rfl) ?_
    have hS : (fun w' : World => w' = W.drew) W.drew := rfl
    refine wpAnyL_take (i := 0) (v := .slice (some ⟨b, o, none⟩) L c) rfl (by kernel_rfl) (by kernel_rfl) (by kernel_rfl) (by kernel_rfl) (by kernel_rfl) (fun _ _ _ h => h) (Or.inl ⟨by kernel_rfl, ?_⟩) hS ?_
    · (intro w' hSw; subst hSw; go_simp)
    (try simp only [List.getElem_toArray, List.getElem_cons_succ, List.getElem_cons_zero])
    go_frame
    refine wpAnyL_take (i := 1) (v := .int .i64 (p : Int)) rfl (by kernel_rfl) (by kernel_rfl) (by kernel_rfl) (by kernel_rfl) (by kernel_rfl) (fun _ _ _ h => h) (Or.inl ⟨by kernel_rfl, ?_⟩) hS ?_
    · (intro w' hSw; subst hSw; go_simp)
    (try simp only [List.getElem_toArray, List.getElem_cons_succ, List.getElem_cons_zero])
    go_frame
    refine wpAnyL_take (i := 2) (v := .pointer (some ⟨b, o + p, none⟩)) rfl (by kernel_rfl) (by kernel_rfl) (by kernel_rfl) (by kernel_rfl) (by kernel_rfl) (fun _ _ _ h => h) (Or.inl ⟨by kernel_rfl, ?_⟩) hS ?_
    · (intro w' hSw; subst hSw; go_simp)
    (try simp only [List.getElem_toArray, List.getElem_cons_succ, List.getElem_cons_zero])
    go_frame
    refine wpAnyL_take (i := 3) (v := .int .i64 X) rfl (by kernel_rfl) (by kernel_rfl) (by kernel_rfl) (by kernel_rfl) (by kernel_rfl) (fun _ _ _ h => h) (Or.inl ⟨by kernel_rfl, ?_⟩) hS ?_
    · (intro w' hSw; subst hSw; go_simp)
    (try simp only [List.getElem_toArray, List.getElem_cons_succ, List.getElem_cons_zero])
    go_frame
    refine wpAnyL_take (i := 4) (v := .slice (some ⟨b, o, none⟩) L c) rfl (by kernel_rfl) (by kernel_rfl) (by kernel_rfl) (by kernel_rfl) (by kernel_rfl) (fun _ _ _ h => h) (Or.inl ⟨by kernel_rfl, ?_⟩) hS ?_
    · (intro w' hSw; subst hSw; go_simp)
    (try simp only [List.getElem_toArray, List.getElem_cons_succ, List.getElem_cons_zero])
    go_frame
    refine wpAnyL_take (i := 5) (v := .int .i64 (p : Int)) rfl (by kernel_rfl) (by kernel_rfl) (by kernel_rfl) (by kernel_rfl) (by kernel_rfl) (fun _ _ _ h => h) (Or.inl ⟨by kernel_rfl, ?_⟩) hS ?_
    · (intro w' hSw; subst hSw; go_simp)
    (try simp only [List.getElem_toArray, List.getElem_cons_succ, List.getElem_cons_zero])
    go_frame
    refine wpAnyL_take (i := 6) (v := .slice (some ⟨b, o, none⟩) p c) rfl (by kernel_rfl) (by kernel_rfl) (by kernel_rfl) (by kernel_rfl) (by kernel_rfl) (fun _ _ _ h => h) (Or.inl ⟨by kernel_rfl, ?_⟩) hS ?_
    · (intro w' hSw; subst hSw; simp [go_sem, HSL.out])
    (try simp only [List.getElem_toArray, List.getElem_cons_succ, List.getElem_cons_zero])
    go_frame
    refine wpAnyL_take (i := 7) (v := .int .i64 s) rfl (by kernel_rfl) (by kernel_rfl) (by kernel_rfl) (by kernel_rfl) (by kernel_rfl) (fun _ _ _ h => h) (Or.inl ⟨by kernel_rfl, ?_⟩) hS ?_
    · (intro w' hSw; subst hSw; go_simp)
    (try simp only [List.getElem_toArray, List.getElem_cons_succ, List.getElem_cons_zero])
    go_frame
    refine wpAnyL_one (i := 8) (by kernel_rfl) rfl (by kernel_rfl) ?_
    go_simp
    refine HA1.out.mono ?_
    rintro e w' ⟨rfl, rfl⟩
    refine ⟨rfl, ?_⟩
    (try simp only [List.getElem_toArray, List.getElem_cons_succ, List.getElem_cons_zero])
    (try go_frame)
    refine wpAnyL_take (i := 9) (v := .int .i64 X) rfl (by kernel_rfl) (by kernel_rfl) (by kernel_rfl) (by kernel_rfl) (by kernel_rfl) (fun _ _ _ h => h) (Or.inl ⟨by kernel_rfl, ?_⟩) hS ?_
    · (intro w' hSw; subst hSw; go_simp)
    (try simp only [List.getElem_toArray, List.getElem_cons_succ, List.getElem_cons_zero])
    go_frame
    refine wpAnyL_last (by kernel_rfl) (by kernel_rfl) rfl rfl ?_
    go_simp
    refine NoPanic.normal ?_
    go_wp2_with fail
    refine (HS.out _).mono ?_
    rintro e w' ⟨rfl, rfl⟩
    go_wp2
    go_ret
    exact ⟨rfl, KD.out⟩
end Go.Proofs.Ytkhbkjnjhojnbaa.Se
