/-
  All and Cut.
-/
import Derived.Test.YtnbfbnhiikliaaaGreatHcut
import Derived.Test.YtnbfbnhiikliaaaGreatHgather
import Derived.Test.YtnbfbnhiikliaaaGreatDelf
namespace Go.Proofs.YtnbfbnhiikliaaaGreat.Hd
open Go.RowKit Go.Proofs.Lys Go.Maps Go.Proofs.YtnbfbnhiikliaaaGreat.N
set_option linter.unusedVariables false
set_option linter.unusedSimpArgs false

/-- A series whose samples ahead of a time are taken away. -/
def cutC (low : Int) (c : SerC) : SerC := { c with sv := shrinkV c.sv (placeS low c.smps), smps := stayS low c.smps }
theorem cut_has (low : Int) (c : SerC) (k : Nat) : (cutC low c).has k ↔ c.has k := by
  unfold cutC SerC.has
  simp only [shrink_own]

set_option maxHeartbeats 1600000 in
theorem cut_any (w : World) (c : SerC) (S : SerOk w c) (hr : RiseS c.smps) (hl : c.smps.length ≤ 100000) (low : Int) :
    Calls Tryz.prog 43 #[.pointer (some ⟨c.b, 0, none⟩), .int .i64 low] w fun e w' => ∃ v', e = .returned v' ∧ SmpAt w' w.heap.size v' (goneS low c.smps) ∧ SerOk w' (cutC low c) ∧ Only (fun k => c.has k) w w' := by
  have HP := hid (place_any w c S hr (by omega) low)
  have hple := placeS_le low c.smps
  obtain ⟨a3, c3, hsv⟩ := ownN_slice S.smp
  have HS := hid S
  have HSV := hid hsv
  have hnc : c.smps.length ≤ c3 := by
    rcases S.smp.2 with ⟨e, h0⟩ | ⟨g, cap, cur, e, hb, hg, hnc, _⟩
    · rw [h0]; exact Nat.zero_le _
    · rw [hsv] at e; cases e; exact hnc
  have hgone : goneS low c.smps = c.smps.take (placeS low c.smps) := rfl
  obtain ⟨at_, hat⟩ : ∃ at_, placeS low c.smps = at_ := ⟨_, rfl⟩
  rw [hat] at hple HP hgone
  -- the part that goes
  have hpre : ∃ a4 c4, (∀ W, (Instr.sliceAt 54 (.slice a3 c.smps.length c3) none (some (.int .i64 (at_ : Int))) none).run Tryz.prog W = .ok (.slice a4 at_ c4) W) ∧ ∀ W, Kept w W → SmpSrc W (.slice a4 at_ c4) (c.smps.take at_) := by
    have hll : (c.smps.take at_).length = at_ := by rw [List.length_take]; omega
    cases a3 with
    | none =>
      have h0 : c.smps.length = 0 ∧ c3 = 0 := by
        rcases S.smp.2 with ⟨e, h0⟩ | ⟨g, cap, cur, e, _⟩
        · rw [hsv] at e
          simp only [Value.slice.injEq] at e
          exact ⟨h0, e.2.2⟩
        · rw [hsv] at e
          cases e
      have hat0 : at_ = 0 := by omega
      rw [h0.1, h0.2, hat0]
      exact ⟨none, 0, fun W => by kernel_rfl, fun W _ => .inl ⟨none, 0, rfl, by simp⟩⟩
    | some A =>
      obtain ⟨g, hA⟩ : ∃ g, A = ⟨g, 0, none⟩ := by
        rcases S.smp.2 with ⟨e, h0⟩ | ⟨g, cap, cur, e, _⟩
        · rw [hsv] at e; cases e
        · rw [hsv] at e
          simp only [Value.slice.injEq, Option.some.injEq] at e
          exact ⟨g, e.1⟩
      subst hA
      by_cases hc0 : c3 = 0
      · have hat0 : at_ = 0 := by omega
        have hl0 : c.smps.length = 0 := by omega
        rw [hat0, hl0, hc0]
        exact ⟨some ⟨g, 0, none⟩, 0, fun W => by simp [Instr.sliceAt, Instr.slice, Instr.sliceBounds, Instr.sliceBound, run_underlying Tryz.underlying54, asIntOf, Tryz.sizeSmpR, add_none, Result.andThen], fun W _ => .inl ⟨_, _, rfl, by simp⟩⟩
      · refine ⟨some ⟨g, 0, none⟩, c3, fun W => slice_hi (n := c.smps.length) (hi := at_) (by omega) hc0 W, fun W kW => ?_⟩
        have hsrc := SmpAt.src (S.only kW (fun _ _ f => f)).smp
        rw [HSV.out] at hsrc
        by_cases h0 : at_ = 0
        · rw [h0]
          exact .inl ⟨_, _, rfl, by simp⟩
        · refine .inr ⟨by omega, g, 0, c3, by rw [hll], fun i hi => ?_⟩
          rw [hll] at hi
          obtain ⟨b, o, e, h1, h2⟩ := hsrc.cell rfl i (by omega)
          simp only [Option.some.injEq, Addr.mk.injEq] at e
          obtain ⟨rfl, rfl, _⟩ := e
          simp only [List.getElem_take]
          exact ⟨h1, h2⟩
  obtain ⟨a4, c4, hsl, hsrc⟩ := hpre
  have HCL := hid (fun W (kW : Kept w W) => sclone_any W _ (c.smps.take at_) (hsrc W kW) (by rw [List.length_take]; omega))
  have HDL := hid (fun W (h : SmpAt W 0 c.sv c.smps) => del_any (k := at_) h hple hl)
  rw [hsv] at HDL
  have d1 := S.blk.cell 1 rfl
  rw [hsv] at d1
  have HGO := hid hgone
  have hlab := hid S.lab
  clear S hsrc hgone
  obtain ⟨cb, hcb⟩ : ∃ cb, c.b = cb := ⟨_, rfl⟩
  rw [hcb] at d1 HP ⊢
  have HCB := hid hcb
  have HAT := hid hat
  clear hcb hat hsv
  obtain ⟨n, hn⟩ : ∃ n, c.smps.length = n := ⟨_, rfl⟩
  have HN := hid hn
  rw [hn] at d1 HDL hsl hnc hl hple HSV
  clear hn
  go_enter Tryz.func43, Tryz.ntmps43
  go_wp2_with fail
  refine HP.out.mono ?_
  rintro e w1 ⟨rfl, k1⟩
  have d1 := only_cell k1 (fun f => f) d1
  have K1 := hid k1
  have HCL1 := hid (fun W (kW : Kept w1 W) => HCL.out W (k1.trans kW (fun _ _ f => f)))
  have hz1 := k1.size
  clear k1 HP HCL
  go_wp2_with fail
  refine (HCL1.out w1 (Only.refl _ _)).mono ?_
  rintro e w2 ⟨v', rfl, hv', k2⟩
  obtain ⟨a5, c5, e5⟩ := ownN_slice hv'
  obtain ⟨n5, hn5⟩ : ∃ n5, (c.smps.take at_).length = n5 := ⟨_, rfl⟩
  rw [hn5] at e5
  subst e5
  have K2 := hid (K1.out.trans k2 (fun _ _ f => f))
  have hz2 := k2.size
  have S2 := HS.out.only K2.out (fun _ _ f => f)
  have d2 := only_cell k2 (fun f => f) d1
  have hs2 : SmpAt w2 0 (.slice a3 n c3) c.smps := by
    have h1 := S2.smp
    rw [HSV.out] at h1
    exact h1
  have HD2 := hid (HDL.out w2 hs2)
  have HV := hid hv'
  have HS2 := hid S2
  clear k2 hv' S2 hs2 HDL HCL1 hn5
  go_wp2_with fail
  refine HD2.out.mono ?_
  rintro e w3 ⟨rfl, hs3, k3⟩
  have hne : ∀ j, (Value.slice a3 n c3).ownBlock = some j → j ≠ cb := fun j hj => by
    have h1 := HS2.out.ne.2.1 j (by rw [HSV.out]; exact hj)
    rw [HCB.out] at h1
    exact h1
  have b2 := HS2.out.blk
  rw [HCB.out] at b2
  have b3 := k3.blk b2 (fun e => hne cb e rfl)
  have d3 := b3.cell 1 rfl
  have f3 := b3.frozen 1
  rw [HSV.out] at d3
  have HS3 := hid hs3
  have K3 := hid k3
  have B3 := hid b3
  have HNE := hid hne
  have hz3 := k3.size
  have hsh : shrinkV (.slice a3 n c3) at_ = .slice a3 (n - at_) c3 := rfl
  rw [hsh] at HS3 ⊢
  clear hs3 k3 b2 b3 HD2 hne hsh
  go_wp2
  go_ret
  have kS := (Only.refl (fun k => k = cb) w3).setCell (p := ⟨cb, 1, none⟩) (fun _ => rfl) (.slice a3 (n - at_) c3)
  have kW : Only (fun k => c.has k) w w3 := (K2.out.mono (fun _ _ f => f.elim)).trans K3.out (fun j _ e => .inr (.inr (by rw [HSV.out]; exact e)))
  have hcu : cutC low c = ⟨cb, c.lv, .slice a3 (n - at_) c3, c.labs, c.smps.drop at_⟩ := by
    unfold cutC stayS
    rw [HAT.out, HCB.out, HSV.out]
    rfl
  refine ⟨_, rfl, ?_, ?_, kW.trans kS (fun j _ e => .inl (by rw [HCB.out]; exact e))⟩
  · rw [HGO.out]
    have h1 : SmpAt w3 w1.heap.size (.slice a5 n5 c5) (c.smps.take at_) := ownN_only HV.out K3.out (fun j hj e => by
      have h2 := (ownN_lt HV.out hj).1
      have h3 := (ownN_lt HS.out.smp (k := j) (by rw [HSV.out]; exact e)).2
      omega)
    refine ownN_base (ownN_only h1 kS (fun j hj e => ?_)) hz1
    have h2 := (ownN_lt HV.out hj).1
    have h3 := HS.out.blk.lt
    rw [HCB.out] at h3
    omega
  · rw [hcu]
    refine ⟨B3.out.set 1 _, ?_, ?_⟩
    · have h1 := ownN_only HS2.out.lab K3.out (fun j hj e => HS2.out.ne.2.2 j j hj (by rw [HSV.out]; exact e) rfl)
      refine ownN_only h1 kS (fun j hj e => ?_)
      exact (ownN_typed h1 hj).ne B3.out.typed (by decide) e
    · refine ownN_only HS3.out kS (fun j hj e => ?_)
      exact (ownN_typed HS3.out hj).ne B3.out.typed (by decide) e
end Go.Proofs.YtnbfbnhiikliaaaGreat.Hd
