/-
  What is in all of many lists, by the code and by the document.
-/
import Derived.Test.YtpbeenhaaaocpaaLsets14
namespace Go.Proofs.Ytpbeenhaaaocpaa.Po
open Go.RowKit Go.Proofs.Lys
set_option linter.unusedVariables false

/-- Many lists that are read. -/
def LLSrc (w : World) (v : Value) (ls : List (List Int)) : Prop :=
  ∃ vs : List Value, SrcOf w v vs ∧ vs.length = ls.length ∧ ∀ i (h : i < vs.length) (h2 : i < ls.length), IIn w vs[i] ls[i]
theorem LLSrc.stay {w w' : World} {v : Value} {ls : List (List Int)} (h : LLSrc w v ls) (k : Kept w w') : LLSrc w' v ls := by
  obtain ⟨vs, h1, h2, h3⟩ := h
  exact ⟨vs, h1.stay k, h2, fun i a b => ⟨(h3 i a b).1.stay k, (h3 i a b).2⟩⟩
theorem LLSrc.len {w : World} {v : Value} {ls : List (List Int)} (h : LLSrc w v ls) : ∃ a c, v = .slice a ls.length c := by
  obtain ⟨vs, h1, h2, h3⟩ := h
  obtain ⟨a, c, rfl⟩ := h1.len
  exact ⟨a, c, by rw [h2]⟩
theorem LLSrc.cell {w : World} {av : Option Addr} {L c : Nat} {ls : List (List Int)} (h : LLSrc w (.slice av L c) ls) (hL : ls.length = L) (i : Nat) (hi : i < L) :
    ∃ b o a' c', av = some ⟨b, o, none⟩ ∧ w.cell? ⟨b, o + i, none⟩ = some (.slice a' (ls[i]'(by omega)).length c') ∧ IIn w (.slice a' (ls[i]'(by omega)).length c') (ls[i]'(by omega)) := by
  obtain ⟨vs, h1, h2, h3⟩ := h
  have hiv : i < vs.length := by omega
  have hil : i < ls.length := by omega
  have h4 := h3 i hiv hil
  obtain ⟨a', c', hv⟩ := h4.1.len
  rcases h1.shape with ⟨hn, _⟩ | ⟨_, b, o, c2, hv2, hc⟩
  · subst hn
    simp at hiv
  · simp only [Value.slice.injEq] at hv2
    refine ⟨b, o, a', c', hv2.1, ?_, by rw [← hv]; exact h4⟩
    rw [← hv]
    exact hc i _ (List.getElem?_eq_getElem hiv)

set_option maxRecDepth 100000 in
set_option maxHeartbeats 3200000 in
theorem all_any (w : World) (v : Value) (ls : List (List Int)) (hs : LLSrc w v ls) (hl : ls.length ≤ 50) (hll : ∀ i (h : i < ls.length), ls[i].length ≤ 500) :
    Calls Try.prog 16 #[v] w fun e w' => ∃ u, e = .returned u ∧ w'.ownsRow w.heap.size 3 1 u (allL ls).length ((allL ls).map (Value.int .i64)) ∧ (allL ls).length ≤ 100000 ∧ Kept w w' := by
  obtain ⟨av, c, rfl⟩ := hs.len
  by_cases h0 : ls = []
  · subst h0
    simp only [List.length_nil]
    clear hs hll
    go_enter Try.func16, Try.ntmps16
    go_wp2
    go_ret
    exact ⟨_, rfl, World.ownsRow_nil _ _ _ _, by decide, Only.refl _ _⟩
  · obtain ⟨L, hL⟩ : ∃ L, ls.length = L := ⟨_, rfl⟩
    have hpos : 0 < L := by
      have := List.length_pos_iff.2 h0
      omega
    have HS := hid hs
    rw [hL] at hl HS ⊢
    have HL := hid hL
    have HLL := hid hll
    obtain ⟨b, o, a0, c0, rfl, y0, s0⟩ := HS.out.cell hL 0 hpos
    have hls : ls.headD [] = ls[0]'(by omega) := by
      cases ls with
      | nil => exact absurd rfl h0
      | cons x t => rfl
    have HR0 : Hid ((ls.drop 0).foldl (setL 0) (ls[0]'(by omega)) = allL ls) := by
      show _ = _
      unfold allL
      rw [hls]
      rfl
    have hf := hll 0 (by omega)
    generalize ls[0]'(by omega) = f at y0 s0 HR0 hf
    simp only [Nat.add_zero] at y0
    have S0 := hid s0.1
    have HF := hid hf
    obtain ⟨R, hR⟩ : ∃ R, allL ls = R := ⟨_, rfl⟩
    rw [hR] at HR0 ⊢
    have z0 : ((L : Int) == 0) = false := by simp; omega
    clear hs hll h0 hls s0 hL hR
    go_enter Try.func16, Try.ntmps16
    go_wp2
    go_loopw [3, 5, 14] (fun p _ s wr => ∃ (k : Nat) (cur : List Int), k ≤ L ∧ s = .int .i64 (k : Int) ∧ ISrc wr p cur ∧ cur.length ≤ 500 * (k + 1) ∧ (0 < k → wr.ownsRow w.heap.size 3 1 p cur.length (cur.map (Value.int .i64))) ∧ Kept w wr ∧ (ls.drop k).foldl (setL 0) cur = R) (fun _ _ s _ => L - (intOf s).toNat)
    case atStart => exact ⟨0, f, by omega, rfl, S0.out, HF.out, fun h => absurd h (by omega), Only.refl _ _, HR0.out⟩
    case round =>
      obtain ⟨k, cur, hk, rfl, hp, hcl, hown, kr, hP⟩ := hrel
      have HK := hid kr
      have HC := hid hp
      have HCl := hid hcl
      have HO := hid hown
      by_cases hlt : k < L
      · have hkl : k < ls.length := by have := HL.out; omega
        obtain ⟨b', o', a1, c1, hb, y1, s1⟩ := HS.out.cell HL.out k hlt
        cases hb
        have y1 := cell_kept kr y1
        have S1 := hid (s1.1.stay kr)
        have hle := HLL.out k hkl
        rw [List.drop_eq_getElem_cons hkl, List.foldl_cons] at hP
        obtain ⟨x, hx⟩ : ∃ x, ls[k] = x := ⟨_, rfl⟩
        rw [hx] at y1 S1 hle hP
        have HP := hid hP
        have HLe := hid hle
        have HA := hid (and_any wr _ _ cur x HC.out S1.out (by have := HCl.out; omega) (by have := HLe.out; omega))
        clear hx hP hp hown kr s1 hle hcl
        go_wp2_with fail
        refine HA.out.mono ?_
        rintro e w2 ⟨v2, rfl, ho2, k2⟩
        have HK2 := hid (HK.out.trans k2 (fun _ _ f => f))
        have HO2 := hid (own_base ho2 HK.out.size)
        clear ho2 k2 HA
        go_wp2_with fail
        go_roundw
        case rel => exact ⟨k + 1, setL 0 cur x, by omega, by go_num, own_isrc HO2.out, by have := set_len 0 cur x; have := HLe.out; have := HCl.out; omega, fun _ => HO2.out, HK2.out, HP.out⟩
        case measure => simp [intOf]; omega
      · have e0 : ls.drop k = [] := List.drop_of_length_le (by have := HL.out; omega)
        rw [e0, List.foldl_nil] at hP
        subst hP
        clear hp hown kr e0 hcl
        go_wp2_with fail
        go_ret
        exact ⟨_, rfl, HO.out (by omega), by have := HCl.out; omega, HK.out⟩

set_option maxRecDepth 100000 in
set_option maxHeartbeats 3200000 in
theorem rall_any (w : World) (v : Value) (ls : List (List Int)) (hs : LLSrc w v ls) (hl : ls.length ≤ 50) (hll : ∀ i (h : i < ls.length), ls[i].length ≤ 500) :
    Calls Try.prog 17 #[v] w fun e w' => ∃ u, e = .returned u ∧ SrcOf w' u ((allL ls).map (Value.int .i64)) ∧ Kept w w' := by
  obtain ⟨av, c, rfl⟩ := hs.len
  by_cases h0 : ls = []
  · subst h0
    simp only [List.length_nil]
    clear hs hll
    go_enter Try.func17, Try.ntmps17
    go_wp2
    go_ret
    exact ⟨_, rfl, .inl ⟨rfl, rfl⟩, Only.refl _ _⟩
  · obtain ⟨L, hL⟩ : ∃ L, ls.length = L := ⟨_, rfl⟩
    have hpos : 0 < L := by
      have := List.length_pos_iff.2 h0
      omega
    have HS := hid hs
    rw [hL] at hl HS ⊢
    have HL := hid hL
    have HLL := hid hll
    obtain ⟨b, o, a0, c0, rfl, y0, s0⟩ := HS.out.cell hL 0 hpos
    have hls : ls.headD [] = ls[0]'(by omega) := by
      cases ls with
      | nil => exact absurd rfl h0
      | cons x t => rfl
    have HR0 : Hid ((ls.drop 0).foldl (setL 0) (ls[0]'(by omega)) = allL ls) := by
      show _ = _
      unfold allL
      rw [hls]
      rfl
    have hf := hll 0 (by omega)
    generalize ls[0]'(by omega) = f at y0 s0 HR0 hf
    simp only [Nat.add_zero] at y0
    have S0 := hid s0.1
    have HF := hid hf
    obtain ⟨R, hR⟩ : ∃ R, allL ls = R := ⟨_, rfl⟩
    rw [hR] at HR0 ⊢
    have z0 : ((L : Int) == 0) = false := by simp; omega
    clear hs hll h0 hls s0 hL hR
    go_enter Try.func17, Try.ntmps17
    go_wp2
    go_loopw [3, 4, 5] (fun p s _ wr => ∃ (k : Nat) (cur : List Int), k ≤ L ∧ s = .int .i64 (k : Int) ∧ ISrc wr p cur ∧ cur.length ≤ 500 * (k + 1) ∧ Kept w wr ∧ (ls.drop k).foldl (setL 0) cur = R) (fun _ s _ _ => L - (intOf s).toNat)
    case atStart => exact ⟨0, f, by omega, rfl, S0.out, HF.out, Only.refl _ _, HR0.out⟩
    case round =>
      obtain ⟨k, cur, hk, rfl, hp, hcl, kr, hP⟩ := hrel
      have HK := hid kr
      have HC := hid hp
      have HCl := hid hcl
      by_cases hlt : k < L
      · have hkl : k < ls.length := by have := HL.out; omega
        obtain ⟨b', o', a1, c1, hb, y1, s1⟩ := HS.out.cell HL.out k hlt
        cases hb
        have y1 := cell_kept kr y1
        have S1 := hid (s1.1.stay kr)
        have hle := HLL.out k hkl
        rw [List.drop_eq_getElem_cons hkl] at hP
        obtain ⟨x, hx⟩ : ∃ x, ls[k] = x := ⟨_, rfl⟩
        rw [hx] at y1 S1 hle hP
        have HP := hid hP
        have HLe := hid hle
        have HA := hid (rrising_any wr _ x S1.out.1 (by have := HLe.out; omega))
        obtain ⟨B, hB⟩ : ∃ B, upB (-1) x = B := ⟨_, rfl⟩
        rw [hB] at HA
        have HB := hid hB
        clear hx hP hp kr s1 hle hcl hB
        go_wp2_with fail
        refine HA.out.mono ?_
        rintro e w2 ⟨rfl, k2⟩
        have HK2 := hid (HK.out.trans k2 (fun _ _ f => f))
        have HC2 := hid (HC.out.stay k2)
        have S2 := hid (S1.out.stay k2)
        have y2 := cell_kept k2 y1
        clear k2 HA y1
        cases B with
        | false =>
          have HF2 : Hid (R = []) := by
            have := HP.out
            rw [fold_bad HB.out] at this
            exact this.symm
          go_wp2_with fail
          go_ret
          exact ⟨_, rfl, by rw [HF2.out]; exact .inl ⟨rfl, rfl⟩, HK2.out⟩
        | true =>
          have HA := hid (rset_any w2 _ _ cur x 0 (by decide) HC2.out.1 S2.out.1 (by have := HCl.out; omega) (by have := HLe.out; omega))
          go_wp2_with fail
          refine HA.out.mono ?_
          rintro e w3 ⟨v3, rfl, ho3, k3⟩
          have HK3 := hid (HK2.out.trans k3 (fun _ _ f => f))
          have HO3 := hid ho3
          clear ho3 k3 HA
          go_wp2_with fail
          go_roundw
          case rel => exact ⟨k + 1, setL 0 cur x, by omega, by go_num, own_isrc HO3.out, by have := set_len 0 cur x; have := HLe.out; have := HCl.out; omega, HK3.out, HP.out⟩
          case measure => simp [intOf]; omega
      · have e0 : ls.drop k = [] := List.drop_of_length_le (by have := HL.out; omega)
        rw [e0, List.foldl_nil] at hP
        subst hP
        obtain ⟨v', w', Hr, ho', k'⟩ := copy_ints hp.1 (by omega)
        have HE := hid ho'
        have HK2 := hid (HK.out.trans k' (fun _ _ f => f))
        clear hp kr e0 hcl ho' k'
        go_wp2_with (at_builtin; refine wpList_append_run rfl _ _ _ rfl rfl rfl Hr ?_)
        go_ret
        exact ⟨_, rfl, own_src HE.out, HK2.out⟩
end Go.Proofs.Ytpbeenhaaaocpaa.Po
