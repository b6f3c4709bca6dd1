/-
  Which list stands at the beginning of all bytes, by the code and by the document.
-/
import Derived.Test.YtpbeenhaaaocpaaOlaw
namespace Go.Proofs.Ytpbeenhaaaocpaa.Po
open Go.RowKit Go.Proofs.Lys
set_option linter.unusedVariables false

/-- A copy in new memory, by append to none. -/
theorem copy_bytes {w : World} {v : Value} {bs : List UInt8} (h : SrcOf w v (bs.map bV)) (hl : bs.length ≤ 100000000) :
    ∃ v' w', Hid ((Builtin.append_ #[31, 31] 0 #[.slice none 0 0, v]).run Try.prog w = .ok v' w') ∧ w'.ownsRow w.heap.size 5 1 v' bs.length (bs.map bV) ∧ Kept w w' := by
  obtain ⟨v', w', hrun, hown, hg, _⟩ := append_src (P := Try.prog) Try.underlying31 Try.infoB rfl (by decide) (World.ownsRow_nil w w.heap.size 5 1) h (bytes_one bs) (by simp; omega) (Nat.le_refl _)
  refine ⟨v', w', hrun, ?_, (Only.refl _ w).grown hg (fun k e _ => by cases e)⟩
  simpa using hown
theorem copy_ints {w : World} {v : Value} {l : List Int} (h : SrcOf w v (l.map (Value.int .i64))) (hl : l.length ≤ 100000000) :
    ∃ v' w', Hid ((Builtin.append_ #[22, 22] 0 #[.slice none 0 0, v]).run Try.prog w = .ok v' w') ∧ w'.ownsRow w.heap.size 3 1 v' l.length (l.map (Value.int .i64)) ∧ Kept w w' := by
  obtain ⟨v', w', hrun, hown, hg, _⟩ := append_src (P := Try.prog) Try.underlying22 infoI6 rfl (by decide) (World.ownsRow_nil w w.heap.size 3 1) h (ints_one l) (by simp; omega) (Nat.le_refl _)
  refine ⟨v', w', hrun, ?_, (Only.refl _ w).grown hg (fun k e _ => by cases e)⟩
  simpa using hown

theorem rd_short : ∀ (n : Nat) (last : Int) (acc : List Int) (at_ : Nat) (bs : List UInt8) (l : List Int) (k : Nat), rdA n last acc at_ bs = some (l, k) → l.length = acc.length + n := by
  intro n
  induction n with
  | zero =>
    intro last acc at_ bs l k h
    rw [rdA] at h
    simp only [Option.some.injEq, Prod.mk.injEq] at h
    rw [← h.1]
    rfl
  | succ n ih =>
    intro last acc at_ bs l k h
    cases hn : numB bs with
    | none =>
      rw [rd_none hn] at h
      cases h
    | some q =>
      obtain ⟨d, j⟩ := q
      by_cases h2 : last + d + 1 < 1099511627776
      · rw [rd_go hn h2] at h
        have := ih _ _ _ _ _ _ h
        simp at this
        omega
      · rw [rd_high hn h2] at h
        cases h
theorem read_short {bs : List UInt8} {l : List Int} {k : Nat} (h : readR bs = some (l, k)) : l.length ≤ 1000000 := by
  unfold readR at h
  cases hn : numB bs with
  | none =>
    rw [hn] at h
    cases h
  | some q =>
    obtain ⟨c, j⟩ := q
    rw [hn] at h
    simp only at h
    by_cases hc : c ≤ 10000
    · rw [if_pos hc] at h
      have := rd_short _ _ _ _ _ _ _ h
      simp at this
      omega
    · rw [if_neg hc] at h
      cases h

set_option maxRecDepth 100000 in
set_option maxHeartbeats 1600000 in
theorem read_walk (w : World) (v : Value) (bs : List UInt8) (h : BIn w v bs) :
    Calls Try.prog 6 #[v] w fun e w' => e = .returned (.bool true) ∧ Kept w w' := by
  obtain ⟨hs, hm⟩ := h
  obtain ⟨a, c, rfl⟩ : ∃ a c, v = .slice a bs.length c := ⟨_, _, hs.2.choose_spec.choose_spec.1⟩
  have HS := hid hs
  have HA := hid (alive_any w)
  by_cases hl : bs.length ≤ 5000
  · obtain ⟨L, hL⟩ : ∃ L, bs.length = L := ⟨_, rfl⟩
    have HL := hid hl
    rw [hL] at hl hm HS ⊢
    clear hs hL
    go_enter Try.func6, Try.ntmps6
    go_wp2_with fail
    refine HA.out.mono ?_
    rintro e w1 ⟨rfl, k1⟩
    obtain ⟨v2, w2, Hr, ho2, k2⟩ := copy_bytes (HS.out.stay k1).1 (by have := HL.out; omega)
    have HK2 := hid (show Kept w w2 from k1.trans k2 (fun _ _ f => f))
    have HU := hid (unpack_any w2 v2 bs (own_bsrc ho2) (by have := HL.out; omega))
    clear ho2 k2 k1 HA
    go_wp2_with (at_builtin; refine wpList_append_run rfl _ _ _ rfl rfl rfl Hr ?_)
    refine HU.out.mono ?_
    rintro e w3 ⟨k3, hR3⟩
    have HK3 := hid (HK2.out.trans k3 (fun _ _ f => f))
    have HV := hid (rread_any w3 _ bs (HS.out.stay HK3.out) (by have := HL.out; omega))
    clear HU k3
    rcases hR3 with ⟨hR, rfl⟩ | ⟨u, l, k, hR, rfl, ho3⟩
    · go_wp2_with fail
      refine HV.out.mono ?_
      rintro e w4 ⟨k4, hR4⟩
      rcases hR4 with ⟨_, rfl⟩ | ⟨_, _, _, h, _⟩
      · have HK4 := hid (HK3.out.trans k4 (fun _ _ f => f))
        clear k4 hR
        go_wp2_with (go_at_call 20; refine (num_any _ _).mono ?_; rintro e w' ⟨rfl, hw⟩; replace hw := hw.symm; subst hw)
        refine (same_any _ _ _ [] (.inl ⟨rfl, rfl⟩) (.inl ⟨rfl, rfl⟩) (by decide)).mono ?_
        rintro e w5 ⟨rfl, k5⟩
        have HK5 := hid (HK4.out.trans k5 (fun _ _ f => f))
        clear k5
        go_wp2_with fail
        go_ret
        exact ⟨rfl, HK5.out⟩
      · rw [hR] at h
        cases h
    · have HO3 := hid ho3
      have HRR := hid hR
      clear ho3 hR
      have hll : Hid (l.length ≤ 1000000) := by
        have := HRR.out
        exact hid (read_short this)
      go_wp2_with fail
      refine HV.out.mono ?_
      rintro e w4 ⟨k4, hR4⟩
      rcases hR4 with ⟨h, _⟩ | ⟨u4, l4, k4', h, rfl, ho4⟩
      · rw [HRR.out] at h
        cases h
      · rw [HRR.out] at h
        simp only [Option.some.injEq, Prod.mk.injEq] at h
        obtain ⟨rfl, rfl⟩ := h
        have HK4 := hid (HK3.out.trans k4 (fun _ _ f => f))
        have HO4 := hid ho4
        have HO3b := hid (own_only HO3.out k4 (fun _ _ f => f))
        clear k4 ho4
        go_wp2_with (go_at_call 20; refine (num_any _ _).mono ?_; rintro e w' ⟨rfl, hw⟩; replace hw := hw.symm; subst hw)
        refine (same_any _ _ _ l (own_src HO3b.out) (own_src HO4.out) hll.out).mono ?_
        rintro e w5 ⟨rfl, k5⟩
        have HK5 := hid (HK4.out.trans k5 (fun _ _ f => f))
        clear k5
        go_wp2_with fail
        go_ret
        exact ⟨rfl, HK5.out⟩
  · obtain ⟨L, hL⟩ : ∃ L, bs.length = L := ⟨_, rfl⟩
    rw [hL] at hl hm ⊢
    clear hs hL HS
    go_enter Try.func6, Try.ntmps6
    go_wp2_with fail
    refine HA.out.mono ?_
    rintro e w1 ⟨rfl, k1⟩
    go_wp2_with fail
    go_ret
    exact ⟨rfl, k1⟩
end Go.Proofs.Ytpbeenhaaaocpaa.Po
