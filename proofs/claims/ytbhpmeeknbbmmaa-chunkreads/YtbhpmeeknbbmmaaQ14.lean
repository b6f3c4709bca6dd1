/-
  Wpack, Wrzero.
-/
import Derived.Test.YtbhpmeeknbbmmaaQ13

/-
  Pack: the bytes of numbers.
-/
namespace Go.Proofs.Ytbhpmeeknbbmmaa.V
open Go.RowKit Go.Proofs.Lys
set_option linter.unusedVariables false

theorem change_any {w : World} {b : Nat} {W : Win} {v : Value} {l : List Bool} (h : PkAt w b W v l) (hW : W.wf) (hl : l.length ≤ 900000) {x : Nat} (hx : x < 18446744073709551616) :
    Calls Try.prog 40 #[.pointer (some ⟨b, 0, none⟩), .int .u64 (x : Int)] w fun e w' => e = .returned (.tuple #[]) ∧ ∃ v', PkS w b v w' (W.next x) v' (l ++ encX W x) := by
  obtain ⟨o, z, t⟩ := W
  by_cases h0 : x = 0
  · subst h0
    have := change_zero h hl
    unfold encX Win.next
    rw [if_pos rfl, if_pos rfl]
    exact this
  · by_cases hf : Win.fit ⟨o, z, t⟩ x
    · have ho : o = true := hf.1
      subst ho
      have := change_fit h hl hx h0 hf.2.1 hf.2.2
      unfold encX Win.next
      rw [if_neg h0, if_neg h0, if_pos hf, if_pos hf]
      exact this
    · have := change_new h hl hW.zt hx h0 (fun ho hh => hf ⟨ho, hh.1, hh.2⟩)
      unfold encX Win.next
      rw [if_neg h0, if_neg h0, if_neg hf, if_neg hf]
      exact this

/-- The bits of the numbers from the k-th on, by the window. -/
def restB (l : List Int) (k : Nat) (W : Win) : List Bool := if k = 0 then allB l else encT (l.getD (k - 1) 0) W (l.drop k)
theorem restB_step {l : List Int} {k : Nat} (W : Win) (hk : k + 1 < l.length) : restB l (k + 1) W = encX W (xr l[k] l[k + 1]) ++ restB l (k + 2) (W.next (xr l[k] l[k + 1])) := by
  unfold restB
  rw [if_neg (by omega), if_neg (by omega), List.drop_eq_getElem_cons hk]
  simp only [encT, Nat.add_sub_cancel, List.getD_eq_getElem?_getD]
  rw [List.getElem?_eq_getElem (show k < l.length by omega), List.getElem?_eq_getElem (show k + 2 - 1 < l.length by omega)]
  rfl
theorem restB_zero {l : List Int} (h : 0 < l.length) (W : Win) : restB l 0 W = bitsL (uN l[0]) 64 ++ restB l 1 W0 := by
  cases l with
  | nil => simp at h
  | cons t r => simp [restB, allB]
theorem restB_end {l : List Int} {k : Nat} (W : Win) (h0 : 0 < k) (h : l.length ≤ k) : restB l k W = [] := by
  unfold restB
  rw [if_neg (by omega), List.drop_eq_nil_of_le h]
  rfl
theorem rest_few {l : List Int} {k : Nat} {W : Win} {lw : List Bool} (h : lw ++ restB l k W = allB l) (hl : l.length ≤ 120) : lw.length ≤ 10000 := by
  have h1 := allB_length l
  rw [← h, List.length_append] at h1
  omega
theorem xor_int (y x : Int) : bits .xor .u64 ((uN x : Nat) : Int) ((uN y : Nat) : Int) = ((xr y x : Nat) : Int) := u64_xor_nat _ _ (uN_lt x) (uN_lt y)

theorem int_cells_at {w : World} {b o n c j : Nat} {l : List Int} {x : Int} {hj : j < l.length} (h : SrcOf w (.slice (some ⟨b, o, none⟩) n c) (l.map (Value.int .i64))) (hx : l[j] = x) : w.cell? ⟨b, o + j, none⟩ = some (.int .i64 x) := by
  have := int_cells h j hj
  rw [hx] at this
  exact this

/-- What Pack leaves. -/
def PackPost (w : World) (l : List Int) (e : Ending) (w' : World) : Prop :=
  Kept w w' ∧ ∃ u bs x, e = .returned (.tuple #[u, .int .i64 x]) ∧ Packs l bs x ∧ w'.ownsRow w.heap.size 5 1 u bs.length (bs.map bV)

set_option maxRecDepth 100000 in
set_option maxHeartbeats 1600000 in
theorem pack_any (w : World) (v : Value) (l : List Int) (hs : SrcOf w v (l.map (Value.int .i64))) (hl : l.length ≤ 1000) :
    Calls Try.prog 19 #[v] w (PackPost w l) := by
  obtain ⟨a0, c0, e0⟩ := hs.len
  rw [List.length_map] at e0
  by_cases h120 : 120 < l.length
  · obtain ⟨L, hL⟩ : ∃ L, l.length = L := ⟨_, rfl⟩
    rw [hL] at e0 h120
    subst e0
    go_enter Try.func19, Try.ntmps19
    go_wp2_with fail
    go_ret2
    exact ⟨Only.refl _ w, _, [], 2, rfl, .inl ⟨by omega, rfl, rfl⟩, World.ownsRow_nil _ _ _ _⟩
  · rcases hs.shape with ⟨hnil, a, c, rfl⟩ | ⟨hpos, b, o, c, rfl, hc⟩
    · have el : l = [] := List.map_eq_nil_iff.1 hnil
      subst el
      clear e0
      go_enter Try.func19, Try.ntmps19
      go_wp2_with fail
      go_ret2
      exact ⟨Only.refl _ w, _, [], 0, rfl, .inr ⟨by simp, rfl, rfl⟩, World.ownsRow_nil _ _ _ _⟩
    · rw [List.length_map] at hpos hs ⊢
      clear e0
      obtain ⟨L, hL⟩ : ∃ L, l.length = L := ⟨_, rfl⟩
      have HS := hid hs
      obtain ⟨x0, hx0⟩ : ∃ x, l[0] = x := ⟨_, rfl⟩
      rw [hL] at hpos HS h120 ⊢
      have HL := hid hL
      have HX := hid hx0
      clear hL hx0 hs hc
      have hL0 : ((L : Int) == 0) = false := by simp; omega
      have hA := PkAt.new w
      have kA : Kept w (w.alloc (.cells #[.int .i64 0, .int .i64 0, .slice none 0 0, .int .i64 0, .bool false] 78)) := (Only.refl _ w).alloc _
      have hI : PkIn w w.heap.size (w.alloc (.cells #[.int .i64 0, .int .i64 0, .slice none 0 0, .int .i64 0, .bool false] 78)) W0 (.slice none 0 0) [] := ⟨hA, kA, Nat.le_refl _, fun j hj => by cases hj⟩
      have HI := hid hI
      have hc0 : (w.alloc (.cells #[.int .i64 0, .int .i64 0, .slice none 0 0, .int .i64 0, .bool false] 78)).cell? ⟨b, o, none⟩ = some (.int .i64 x0) := by
        have := int_cells (HS.out.stay kA) 0 (by have := HL.out; omega)
        rw [HX.out, Nat.add_zero] at this
        exact this
      have hB : Hid (([] ++ bitsL (uN x0) 64) ++ restB l 1 W0 = allB l) := by
        have hp : 0 < l.length := by have := HL.out; omega
        have := restB_zero hp W0
        rw [HX.out] at this
        show _ = _
        rw [List.nil_append, ← this]
        rfl
      clear hA kA hI
      go_enter Try.func19, Try.ntmps19
      go_wp2_with fail
      generalize hbk : w.heap.size = B at HI ⊢
      generalize w.alloc (.cells #[.int .i64 0, .int .i64 0, .slice none 0 0, .int .i64 0, .bool false] 78) = w0 at HI hc0 ⊢
      go_region_with (go_at_call 37; refine (pk_put HI.out.drew.at_ x0 64 64 (.inr (.inr ⟨rfl, by decide⟩)) (by simp)).mono ?_; rintro e w1 ⟨rfl, v1, h1, k1, n1⟩)
      have HP := hid (HI.out.drew.put h1 k1 n1)
      clear h1 k1 n1 hc0
      go_wp2_with fail
      go_loopw [5] (fun i wr => ∃ (k : Nat) (W : Win) (vw : Value) (lw : List Bool), k + 1 ≤ L ∧ i = .int .i64 ((k : Int) + 1) ∧ W.wf ∧ PkIn w B wr W vw lw ∧ lw ++ restB l (k + 1) W = allB l) (fun i _ => L - (intOf i).toNat)
      case atStart => exact ⟨0, W0, v1, _, by omega, rfl, W0_wf, HP.out, hB.out⟩
      case round =>
        obtain ⟨k, W, vw, lw, hk, rfl, hW, hI, hb⟩ := hrel
        have HW := hid hW
        have Hb := hid hb
        have HIk := hid hI
        clear hI hb hW HI HP
        by_cases hlt : k + 1 < L
        · have hkl : k + 1 < l.length := by have := HL.out; omega
          have hcx := int_cells (HS.out.stay HIk.out.kept) (k + 1) hkl
          have hcy := int_cells (HS.out.stay HIk.out.kept) k (by omega)
          obtain ⟨x, hx⟩ : ∃ x, l[k + 1] = x := ⟨_, rfl⟩
          obtain ⟨y, hy⟩ : ∃ y, l[k] = y := ⟨_, rfl⟩
          have hst := restB_step W hkl
          rw [hx, hy] at hst
          rw [hx] at hcx
          rw [hy] at hcy
          have ux := uN_wrap x
          have uy := uN_wrap y
          have hxo := xor_int y x
          have hXl := hid (xr_lt y x)
          obtain ⟨X, hX⟩ : ∃ X, xr y x = X := ⟨_, rfl⟩
          rw [hX] at hxo hst hXl
          generalize uN x = UX at ux hxo
          generalize uN y = UY at uy hxo
          have Hst := hid hst
          have hlw : Hid (lw.length ≤ 900000) := by have := rest_few Hb.out (by have := HL.out; omega); show _ ≤ _; omega
          replace hx := hid hx
          replace hy := hid hy
          clear hst hX
          have hik : (k : Int) < (L : Int) := by omega
          have hik1 : (k : Int) + 1 < (L : Int) := by omega
          have hikn : (0 : Int) ≤ (k : Int) := by omega
          go_wp2_with fail
          refine wp_region_noPanic ?_
          refine wp_region_last (L := 1000) (S := fun w' => w'.cell? ⟨b, o + (k + 1), none⟩ = some (.int .i64 x) ∧ w'.cell? ⟨b, o + k, none⟩ = some (.int .i64 y)) (by kernel_rfl) ?_
          have hS : (fun w' : World => w'.cell? ⟨b, o + (k + 1), none⟩ = some (.int .i64 x) ∧ w'.cell? ⟨b, o + k, none⟩ = some (.int .i64 y)) wr.drew := ⟨hcx, hcy⟩
          refine wpAnyN_take (i := 0) (v := .pointer (some ⟨B, 0, none⟩)) rfl (by kernel_rfl) (by kernel_rfl) (by kernel_rfl) (by decide) (by kernel_rfl) (fun _ _ _ h => h) (Or.inl ⟨by rfl, ?_⟩) hS ?_
          · (intro w' hSw; go_simp)
          go_frame
          refine wpAnyN_take (i := 1) (v := .slice (some ⟨b, o, none⟩) L c) rfl (by kernel_rfl) (by kernel_rfl) (by kernel_rfl) (by decide) (by kernel_rfl) (fun _ _ _ h => h) (Or.inl ⟨by rfl, ?_⟩) hS ?_
          · (intro w' hSw; go_simp)
          go_frame
          refine wpAnyN_take (i := 2) (v := .int .i64 ((k : Int) + 1)) rfl (by kernel_rfl) (by kernel_rfl) (by kernel_rfl) (by decide) (by kernel_rfl) (fun _ _ _ h => h) (Or.inl ⟨by rfl, ?_⟩) hS ?_
          · (intro w' hSw; go_simp)
          go_frame
          refine wpAnyN_take (i := 3) (v := .pointer (some ⟨b, o + (k + 1), none⟩)) rfl (by kernel_rfl) (by kernel_rfl) (by kernel_rfl) (by decide) (by kernel_rfl) (fun _ _ _ h => h) (Or.inl ⟨by rfl, ?_⟩) hS ?_
          · (intro w' hSw; go_simp; (intro h; omega))
          go_frame
          refine wpAnyN_take (i := 4) (v := .int .i64 x) rfl (by kernel_rfl) (by kernel_rfl) (by kernel_rfl) (by decide) (by kernel_rfl) (fun _ _ _ h => h) (Or.inl ⟨by rfl, ?_⟩) hS ?_
          · (intro w' hSw; go_simp)
          go_frame
          refine wpAnyN_take (i := 5) (v := .int .u64 (UX : Int)) rfl (by kernel_rfl) (by kernel_rfl) (by kernel_rfl) (by decide) (by kernel_rfl) (fun _ _ _ h => h) (Or.inl ⟨by rfl, ?_⟩) hS ?_
          · (intro w' hSw; go_simp)
          go_frame
          refine wpAnyN_take (i := 6) (v := .slice (some ⟨b, o, none⟩) L c) rfl (by kernel_rfl) (by kernel_rfl) (by kernel_rfl) (by decide) (by kernel_rfl) (fun _ _ _ h => h) (Or.inl ⟨by rfl, ?_⟩) hS ?_
          · (intro w' hSw; go_simp)
          go_frame
          refine wpAnyN_take (i := 7) (v := .int .i64 ((k : Int) + 1)) rfl (by kernel_rfl) (by kernel_rfl) (by kernel_rfl) (by decide) (by kernel_rfl) (fun _ _ _ h => h) (Or.inl ⟨by rfl, ?_⟩) hS ?_
          · (intro w' hSw; go_simp)
          go_frame
          refine wpAnyN_take (i := 8) (v := .int .i64 (k : Int)) rfl (by kernel_rfl) (by kernel_rfl) (by kernel_rfl) (by decide) (by kernel_rfl) (fun _ _ _ h => h) (Or.inl ⟨by rfl, ?_⟩) hS ?_
          · (intro w' hSw; go_simp; (rw [wrap_is]; unfold wrap64; omega))
          go_frame
          refine wpAnyN_take (i := 9) (v := .pointer (some ⟨b, o + k, none⟩)) rfl (by kernel_rfl) (by kernel_rfl) (by kernel_rfl) (by decide) (by kernel_rfl) (fun _ _ _ h => h) (Or.inl ⟨by rfl, ?_⟩) hS ?_
          · (intro w' hSw; go_simp)
          go_frame
          refine wpAnyN_take (i := 10) (v := .int .i64 y) rfl (by kernel_rfl) (by kernel_rfl) (by kernel_rfl) (by decide) (by kernel_rfl) (fun _ _ _ h => h) (Or.inl ⟨by rfl, ?_⟩) hS ?_
          · (intro w' hSw; go_simp)
          go_frame
          refine wpAnyN_take (i := 11) (v := .int .u64 (UY : Int)) rfl (by kernel_rfl) (by kernel_rfl) (by kernel_rfl) (by decide) (by kernel_rfl) (fun _ _ _ h => h) (Or.inl ⟨by rfl, ?_⟩) hS ?_
          · (intro w' hSw; go_simp)
          go_frame
          refine wpAnyN_take (i := 12) (v := .int .u64 (X : Int)) rfl (by kernel_rfl) (by kernel_rfl) (by kernel_rfl) (by decide) (by kernel_rfl) (fun _ _ _ h => h) (Or.inl ⟨by rfl, ?_⟩) hS ?_
          · (intro w' hSw; go_simp)
          go_frame
          refine wpAnyL_one (i := 13) (by kernel_rfl) rfl rfl ?_
          go_simp
          refine (change_any HIk.out.drew.at_ HW.out hlw.out hXl.out).mono ?_
          rintro e w2 ⟨rfl, v2, h2⟩
          have HP2 := hid (HIk.out.drew.put h2.at_ h2.only h2.new)
          refine ⟨⟨int_cells_at (HS.out.stay HP2.out.kept) hx.out, int_cells_at (HS.out.stay HP2.out.kept) hy.out⟩, ?_⟩
          refine wpAnyN_done (by kernel_rfl) ?_
          refine NoPanic.normal ?_
          clear hS
          clear h2
          go_wp2_with fail
          go_roundw
          case rel => exact ⟨k + 1, W.next X, v2, _, by omega, by go_num, HW.out.next hXl.out, HP2.out, by rw [List.append_assoc, ← Hst.out]; exact Hb.out⟩
          case measure => simp [intOf]; omega
        · have e : k + 1 = L := by omega
          have hw := HIk.out.at_
          have hfull : lw = allB l := by
            have := Hb.out
            rw [restB_end W (by omega) (by have := HL.out; omega), List.append_nil] at this
            exact this
          have HFu := hid hfull
          clear hfull
          go_wp2_with fail
          refine (pbytes_any _ B _ _ vw _ _ (packL lw) hw.blk hw.src (by rw [packL_length]; have := rest_few Hb.out (by have := HL.out; omega); omega)).mono ?_
          rintro e w3 ⟨v3, rfl, h3, k3⟩
          go_wp2_with fail
          go_ret2
          have hs3 := HIk.out.kept.size
          exact ⟨HIk.out.kept.trans k3 (fun _ _ f => f), v3, packL lw, 0, rfl, .inr ⟨by have := HL.out; omega, by rw [HFu.out], rfl⟩, own_base h3 hs3⟩
end Go.Proofs.Ytbhpmeeknbbmmaa.V

/-
  The document's own: how many of the highest and lowest bits are 0.
-/
namespace Go.Proofs.Ytbhpmeeknbbmmaa.V
open Go.RowKit Go.Proofs.Lys
set_option linter.unusedVariables false

/-- How far the highest bits are counted. -/
def LdAt (x z : Nat) : Prop := (z ≤ 31 ∧ leadA x (31 - z) = lead x) ∨ (31 < z ∧ lead x = 31)
theorem LdAt.step {x z : Nat} (h : LdAt x z) (hb : x.testBit (63 - z) = false) : LdAt x (z + 1) := by
  rcases h with ⟨h1, h2⟩ | ⟨h1, h2⟩
  · by_cases e : z = 31
    · subst e
      exact .inr ⟨by omega, h2.symm⟩
    · have e1 : 31 - z = (30 - z) + 1 := by omega
      rw [e1, leadA_step (by rw [show 33 + (30 - z) = 63 - z by omega]; exact hb)] at h2
      exact .inl ⟨by omega, by rw [show 31 - (z + 1) = 30 - z by omega]; exact h2⟩
  · exact .inr ⟨by omega, h2⟩
theorem LdAt.stop {x z : Nat} (h : LdAt x z) (hb : z < 64 → x.testBit (63 - z) = true) : (31 < z ∧ lead x = 31) ∨ (z ≤ 31 ∧ lead x = z) := by
  rcases h with ⟨h1, h2⟩ | h
  · refine .inr ⟨h1, ?_⟩
    by_cases e : z = 31
    · subst e
      exact h2.symm
    · have e1 : 31 - z = (30 - z) + 1 := by omega
      rw [e1, leadA_stop (by rw [show 33 + (30 - z) = 63 - z by omega]; exact hb (by omega))] at h2
      omega
  · exact .inl h
theorem tr_step {x t : Nat} (hx : x < 18446744073709551616) (h0 : x ≠ 0) (ht : t ≤ 63) (h : trailA x (64 - t) = trail x) (hb : x.testBit t = false) : t + 1 ≤ 63 ∧ trailA x (64 - (t + 1)) = trail x := by
  have e : 64 - t = (63 - t) + 1 := by omega
  rw [e, trailA_step (by rw [show 63 - (63 - t) = t by omega]; exact hb)] at h
  have hl := trail_lt hx h0
  refine ⟨?_, by rw [show 64 - (t + 1) = 63 - t by omega]; exact h⟩
  refine Nat.le_of_not_lt (fun hlt => ?_)
  rw [show 63 - t = 0 by omega] at h
  have : trailA x 0 = 64 := rfl
  omega
theorem tr_stop {x t : Nat} (ht : t ≤ 63) (h : trailA x (64 - t) = trail x) (hb : x.testBit t = true) : trail x = t := by
  have e : 64 - t = (63 - t) + 1 := by omega
  rw [e, trailA_stop (by rw [show 63 - (63 - t) = t by omega]; exact hb)] at h
  omega

set_option maxRecDepth 100000 in
set_option maxHeartbeats 1600000 in
theorem zeros_any (w : World) (x : Nat) (hx : x < 18446744073709551616) (h0 : x ≠ 0) : Calls Try.prog 44 #[.int .u64 (x : Int)] w fun e w' => e = .returned (.tuple #[.int .i64 (lead x : Int), .int .i64 (trail x : Int)]) ∧ w' = w := by
  go_enter Try.func44, Try.ntmps44
  go_wp2
  go_loopw [4] (fun s wr => ∃ z : Nat, z ≤ 64 ∧ s = .int .i64 (z : Int) ∧ LdAt x z ∧ wr = w) (fun s _ => 64 - (intOf s).toNat)
  case atStart => exact ⟨0, by omega, rfl, .inl ⟨by omega, rfl⟩, rfl⟩
  case round =>
    obtain ⟨z, hz, rfl, hL, hw⟩ := hrel
    subst hw
    have HL := hid hL
    clear hL
    by_cases hlt : z < 64
    · obtain ⟨q, hq⟩ : ∃ q : Nat, (63 : Int) - (z : Int) = (q : Int) := ⟨63 - z, by omega⟩
      have hqe : q = 63 - z := by omega
      have hq63 : q ≤ 63 := by omega
      have hl := low_bit x q hx
      cases hbit : x.testBit q with
      | false =>
        rw [hbit] at hl
        have HU := hid (HL.out.step (by rw [← hqe]; exact hbit))
        clear hqe
        go_wp2
        go_roundw
        case rel => exact ⟨z + 1, by omega, by go_num, HU.out, trivial⟩
        case measure => simp [intOf]; omega
      | true =>
        rw [hbit] at hl
        have HU := hid (HL.out.stop (fun _ => by rw [← hqe]; exact hbit))
        clear hqe
        go_wp2
        go_loopw [5] (fun s w1 => ∃ t : Nat, t ≤ 63 ∧ s = .int .i64 (t : Int) ∧ trailA x (64 - t) = trail x ∧ w1 = wr) (fun s _ => 64 - (intOf s).toNat)
        case atStart => exact ⟨0, by omega, rfl, rfl, rfl⟩
        case round =>
          obtain ⟨t, ht, rfl, hT, hw⟩ := hrel
          subst hw
          have HT := hid hT
          clear hT hl
          have hl := low_bit x t hx
          cases hbt : x.testBit t with
          | false =>
            rw [hbt] at hl
            have HV := hid (tr_step hx h0 ht HT.out hbt)
            go_wp2
            go_roundw
            case rel => exact ⟨t + 1, HV.out.1, by go_num, HV.out.2, trivial⟩
            case measure => simp [intOf]; omega
          | true =>
            rw [hbt] at hl
            have HV := hid (tr_stop ht HT.out hbt)
            by_cases hz31 : 31 < z
            · have HE : Hid (lead x = 31) := by
                rcases HU.out with h | h
                · exact h.2
                · omega
              go_wp2
              go_ret2
              rw [HE.out, HV.out]
              exact ⟨rfl, rfl⟩
            · have HE : Hid (lead x = z) := by
                rcases HU.out with h | h
                · omega
                · exact h.2
              go_wp2
              go_ret2
              rw [HE.out, HV.out]
              exact ⟨rfl, rfl⟩
    · have HU := hid (HL.out.stop (fun h => absurd h hlt))
      have hl : True := trivial
      go_wp2
      go_loopw [5] (fun s w1 => ∃ t : Nat, t ≤ 63 ∧ s = .int .i64 (t : Int) ∧ trailA x (64 - t) = trail x ∧ w1 = wr) (fun s _ => 64 - (intOf s).toNat)
      case atStart => exact ⟨0, by omega, rfl, rfl, rfl⟩
      case round =>
        obtain ⟨t, ht, rfl, hT, hw⟩ := hrel
        subst hw
        have HT := hid hT
        clear hT hl
        have hl := low_bit x t hx
        cases hbt : x.testBit t with
        | false =>
          rw [hbt] at hl
          have HV := hid (tr_step hx h0 ht HT.out hbt)
          go_wp2
          go_roundw
          case rel => exact ⟨t + 1, HV.out.1, by go_num, HV.out.2, trivial⟩
          case measure => simp [intOf]; omega
        | true =>
          rw [hbt] at hl
          have HV := hid (tr_stop ht HT.out hbt)
          have hz31 : 31 < z := by omega
          have HE : Hid (lead x = 31) := by
            rcases HU.out with h | h
            · exact h.2
            · omega
          go_wp2
          go_ret2
          rw [HE.out, HV.out]
          exact ⟨rfl, rfl⟩
end Go.Proofs.Ytbhpmeeknbbmmaa.V
