/-
  The law of cuts: what is cut and what stays.
-/
import Derived.Test.YtnbfbnhiikliaaaGreatHcut3
import Derived.Test.YtnbfbnhiikliaaaGreatHlaw2
import Derived.Test.YtnbfbnhiikliaaaGreatHopen2
namespace Go.Proofs.YtnbfbnhiikliaaaGreat.Hd
open Go.RowKit Go.Proofs.Lys Go.Maps Go.Proofs.YtnbfbnhiikliaaaGreat.N
set_option linter.unusedVariables false
set_option linter.unusedSimpArgs false

theorem count_part_cons (f : Smps → Smps) (x : Ser) (M : Mod) : countM (partM f (x :: M)) = (f x.2).length + countM (partM f M) := by
  unfold partM
  rw [List.map_cons, List.filter_cons]
  by_cases h : 0 < (f x.2).length
  · rw [if_pos (by simpa using h)]
    rfl
  · rw [if_neg (by simpa using h)]
    omega
theorem count_cut (low : Int) (M : Mod) : countM (partM (goneS low) M) + countM (partM (stayS low) M) = countM M := by
  induction M with
  | nil => rfl
  | cons x M ih =>
    rw [count_part_cons, count_part_cons]
    have h1 := placeS_le low x.2
    have h2 : (goneS low x.2).length = placeS low x.2 := by unfold goneS; rw [List.length_take]; omega
    have h3 : (stayS low x.2).length = x.2.length - placeS low x.2 := by unfold stayS; rw [List.length_drop]
    simp only [countM]
    omega
theorem part_mem {f : Smps → Smps} {M : Mod} {y : Ser} (h : y ∈ partM f M) : ∃ x ∈ M, y.2 = f x.2 := by
  obtain ⟨h1, h2⟩ := List.mem_filter.1 h
  obtain ⟨x, hx, rfl⟩ := List.mem_map.1 h1
  exact ⟨x, hx, rfl⟩
theorem gone_lt {low : Int} {M : Mod} {y : Ser} (h : y ∈ partM (goneS low) M) (j : Nat) (hj : j < y.2.length) : y.2[j].1 < low := by
  obtain ⟨x, hx, e⟩ := part_mem h
  have hj' : j < (goneS low x.2).length := by rw [← e]; exact hj
  have h2 : j < placeS low x.2 := by unfold goneS at hj'; rw [List.length_take] at hj'; omega
  have h3 := placeS_le low x.2
  have e2 : y.2[j] = x.2[j]'(by omega) := by
    simp only [e, goneS, List.getElem_take]
  rw [e2]
  exact placeS_lt h2 (by omega)
theorem stay_ge {low : Int} {M : Mod} (hM : ModOk M) {y : Ser} (h : y ∈ partM (stayS low) M) (j : Nat) (hj : j < y.2.length) : ¬ y.2[j].1 < low := by
  obtain ⟨x, hx, e⟩ := part_mem h
  have hj' : j < (stayS low x.2).length := by rw [← e]; exact hj
  have h2 : placeS low x.2 + j < x.2.length := by unfold stayS at hj'; rw [List.length_drop] at hj'; omega
  have e2 : y.2[j] = x.2[placeS low x.2 + j]'h2 := by
    simp only [e, stayS, List.getElem_drop]
  rw [e2]
  exact placeS_ge (hM.rise x hx) (by omega) h2
theorem countM_take {xs : Mod} {k : Nat} (hk : k < xs.length) : countM (xs.take (k + 1)) = countM (xs.take k) + xs[k].2.length := by
  rw [← List.take_append_getElem hk, countM_app]
  simp [countM]
theorem countM_take_le (xs : Mod) (k : Nat) : countM (xs.take k) ≤ countM xs := by
  conv => rhs; rw [← List.take_append_drop k xs, countM_app]
  omega
/-- A cut of a law's head. -/
def CutIn (w0 W : World) (h : HeadC) (O : Nat → Prop) (M : Mod) (low : Int) (e : Ending) (w' : World) : Prop :=
  ∃ v h', e = .returned v ∧ SerSrc w' v (partM (goneS low) M) ∧ HeadIn w0 w' h' O (partM (stayS low) M) ∧ h'.hb = h.hb
theorem cut_in {w0 W : World} {h : HeadC} {O : Nat → Prop} {M : Mod} (hI : HeadIn w0 W h O M) (hc : countM M ≤ 100000) (low : Int) :
    Calls Tryz.prog 19 #[.pointer (some ⟨h.hb, 0, none⟩), .int .i64 low] W (CutIn w0 W h O M low) := by
  refine (head_cut_any hI.at_ hI.is_ hc low).mono ?_
  rintro e w' ⟨v, qs, h', rfl, h1, h2, h3, h4, h5, h6, h7⟩
  refine ⟨v, h', rfl, by rw [← h2]; exact SerAt.src h1, ⟨h3, h4, hI.new, hI.kept.trans h5 (fun j hj e => by have := hI.new j e; omega)⟩, h6⟩
def BatC (ey : Int) (Mb : Mod) : Prop := ey = 0 → countM Mb ≤ 200
theorem bat_c (rs : List Row) : BatC (errM (writeM 9007199254740992 [] rs)) (modM [] (writeM 9007199254740992 [] rs)) := by
  intro h0
  unfold writeM
  split
  · exact Nat.zero_le _
  · split
    · exact Nat.zero_le _
    · cases hr : rowsM 9007199254740992 [] rs with
      | error x => exact Nat.zero_le _
      | ok N =>
        have := countM_rows ModOk.nil hr
        simp only [countM] at this
        show countM N ≤ 200
        omega
set_option maxRecDepth 100000 in
set_option maxHeartbeats 2000000 in
theorem counts_any (w : World) (v : Value) (xs : Mod) (hs : SerSrc w v xs) (hl : xs.length ≤ 1000000) (hc : countM xs ≤ 100000) :
    Calls Tryz.prog 29 #[v] w fun e w' => e = .returned (.int .i64 (countM xs : Nat)) ∧ Kept w w' := by
  obtain ⟨a1, c1, rfl⟩ := hs.len
  obtain ⟨L, hL⟩ : ∃ L, xs.length = L := ⟨_, rfl⟩
  rw [hL] at hs hl ⊢
  have HS := hid hs
  have HL := hid hL
  have HC := hid hc
  clear hs hL hc
  go_enter Tryz.func29, Tryz.ntmps29
  go_wp2
  go_loopw [3, 4] (fun s1 s2 wr => ∃ (k n : Nat), k ≤ L ∧ s2 = .int .i64 (k : Int) ∧ s1 = .int .i64 (n : Int) ∧ n = countM (xs.take k) ∧ Kept w wr) (fun _ s _ => L - (intOf s).toNat)
  case atStart => exact ⟨0, 0, by omega, rfl, rfl, by simp [countM], Only.refl _ _⟩
  case round =>
    obtain ⟨k, n, hk, rfl, rfl, hn, kr⟩ := hrel
    have HK := hid kr
    have hnb : n ≤ 100000 := by rw [hn]; have := countM_take_le xs k; have := HC.out; omega
    have HN := hid hn
    clear hn
    by_cases hlt : k < L
    · have hkl : k < xs.length := by have := HL.out; omega
      obtain ⟨b1, o1, lv1, sv1, rfl, x1, y1, p1, q1⟩ := (HS.out.stay kr).cell HL.out k hlt
      obtain ⟨a5, c5, e5⟩ := q1.len
      subst e5
      have hst := countM_take hkl
      have hb := countM_take_le xs (k + 1)
      have hcc := HC.out
      obtain ⟨m, hm⟩ : ∃ m, (xs[k]'hkl).2.length = m := ⟨_, rfl⟩
      rw [hm] at hst y1
      have HNN := hid (show n + m = countM (xs.take (k + 1)) by rw [hst, HN.out])
      have hmb : n + m ≤ 100000 := by rw [HNN.out]; omega
      clear p1 q1 kr hst hm hb hcc
      go_wp2
      refine ⟨⟨k + 1, n + m, by omega, by go_num, by go_num, HNN.out, HK.out⟩, ?_⟩
      simp [intOf]
      omega
    · have e : k = L := by omega
      subst e
      have hn2 : n = countM xs := by rw [HN.out, ← HL.out, List.take_length]
      subst hn2
      go_wp2
      go_ret
      exact ⟨rfl, HK.out⟩
end Go.Proofs.YtnbfbnhiikliaaaGreat.Hd
