/-
  Ncmp.
-/
import Derived.Test.YteknpfldemgmnaaGreatQ26
import Derived.Test.YteknpfldemgmnaaGreatQ09
import Derived.Test.YteknpfldemgmnaaGreatQ18
import Derived.WalkMore

/-
  The order of labels: Cmp, and the document's own.
-/
namespace Go.Proofs.YteknpfldemgmnaaGreat.N
open Go.RowKit Go.Proofs.Lys
set_option linter.unusedVariables false
set_option linter.unusedSimpArgs false

theorem or_any (w : World) (b : Nat) (x y : Int) (c0 : w.cell? ⟨b, 0, none⟩ = some (.int .i64 x)) (c1 : w.cell? ⟨b, 1, none⟩ = some (.int .i64 y)) :
    Calls Tryz.prog 60 #[.slice (some ⟨b, 0, none⟩) 2 2] w fun e w' => e = .returned (.int .i64 (if x ≠ 0 then x else y)) ∧ w' = w := by
  by_cases hx : x = 0
  · subst hx
    by_cases hy : y = 0
    · subst hy
      go_enter Tryz.func60, Tryz.ntmps60
      go_wp2
      refine wp_loop_rounds 3 ?_
      rw [rounds_succ]
      go_wp2
      rw [rounds_succ]
      go_wp2
      rw [rounds_succ]
      go_wp2
      go_ret
      exact ⟨rfl, rfl⟩
    · go_enter Tryz.func60, Tryz.ntmps60
      go_wp2
      refine wp_loop_rounds 2 ?_
      rw [rounds_succ]
      go_wp2
      rw [rounds_succ]
      go_wp2
      go_ret
      exact ⟨rfl, rfl⟩
  · go_enter Tryz.func60, Tryz.ntmps60
    go_wp2
    refine wp_loop_rounds 1 ?_
    rw [rounds_succ]
    go_wp2
    go_ret
    exact ⟨rfl, rfl⟩

structure CmpS (b : Nat) (a1 a2 b1 b2 : ByteArray) (w : World) : Prop where
  x : Blk w b [.string a1, .string a2] 43
  y : Blk w (b + 1) [.string b1, .string b2] 43
theorem CmpS.alloc {b : Nat} {a1 a2 b1 b2 : ByteArray} {w : World} (h : CmpS b a1 a2 b1 b2 w) (o : Obj) : CmpS b a1 a2 b1 b2 (w.alloc o) := ⟨h.x.alloc o, h.y.alloc o⟩
/-- The first so many are the same. -/
def SameTo (a b : Labs) (k : Nat) : Prop := cmpL a b = cmpL (a.drop k) (b.drop k)
theorem same_step {a b : Labs} {k : Nat} (h : SameTo a b k) (ha : k < a.length) (hb : k < b.length) (h0 : labC a[k] b[k] = 0) : SameTo a b (k + 1) := by
  unfold SameTo at h ⊢
  rw [h, List.drop_eq_getElem_cons ha, List.drop_eq_getElem_cons hb]
  show (if labC a[k] b[k] ≠ 0 then _ else lexC labC (a.drop (k + 1)) (b.drop (k + 1))) = _
  rw [if_neg (by omega)]
  rfl
theorem same_ne {a b : Labs} {k : Nat} (h : SameTo a b k) (ha : k < a.length) (hb : k < b.length) (h0 : labC a[k] b[k] ≠ 0) : cmpL a b = labC a[k] b[k] := by
  unfold SameTo at h
  rw [h, List.drop_eq_getElem_cons ha, List.drop_eq_getElem_cons hb]
  show (if labC a[k] b[k] ≠ 0 then labC a[k] b[k] else _) = _
  rw [if_pos h0]
theorem same_long {a b : Labs} {k : Nat} (h : SameTo a b k) (ha : k < a.length) (hb : b.length ≤ k) : cmpL a b = 1 := by
  unfold SameTo at h
  rw [h, List.drop_eq_getElem_cons ha, List.drop_of_length_le hb]
  rfl
theorem same_short {a b : Labs} {k : Nat} (h : SameTo a b k) (ha : a.length ≤ k) (hb : k < b.length) : cmpL a b = -1 := by
  unfold SameTo at h
  rw [h, List.drop_eq_getElem_cons hb, List.drop_of_length_le ha]
  rfl
theorem same_end {a b : Labs} {k : Nat} (h : SameTo a b k) (ha : a.length ≤ k) (hb : b.length ≤ k) : cmpL a b = 0 := by
  unfold SameTo at h
  rw [h, List.drop_of_length_le ha, List.drop_of_length_le hb]
  rfl

set_option maxRecDepth 100000 in
set_option maxHeartbeats 1600000 in
theorem rcmp_any (w : World) (va vb : Value) (a b : Labs) (ha : LabSrc w va a) (hb : LabSrc w vb b) (hla : a.length ≤ 1000000) (hlb : b.length ≤ 1000000) :
    Calls Tryz.prog 37 #[va, vb] w fun e w' => e = .returned (.int .i64 (cmpL a b)) ∧ Kept w w' := by
  obtain ⟨a1, c1, rfl⟩ := ha.len
  obtain ⟨a2, c2, rfl⟩ := hb.len
  obtain ⟨L, hL⟩ : ∃ L, a.length = L := ⟨_, rfl⟩
  obtain ⟨M, hM⟩ : ∃ M, b.length = M := ⟨_, rfl⟩
  rw [hL] at ha hla ⊢
  rw [hM] at hb hlb ⊢
  have HA := hid ha
  have HB := hid hb
  have HL := hid hL
  have HM := hid hM
  clear ha hb hL hM
  go_enter Tryz.func37, Tryz.ntmps37
  go_wp2
  go_loopw [5] (fun s wr => ∃ (k : Nat), k ≤ L ∧ k ≤ M ∧ s = .int .i64 (k : Int) ∧ SameTo a b k ∧ Kept w wr) (fun s _ => L - (intOf s).toNat)
  case atStart => exact ⟨0, by omega, by omega, rfl, rfl, Only.refl _ _⟩
  case round =>
    obtain ⟨k, hk, hkm, rfl, hS, kr⟩ := hrel
    have HS := hid hS
    have HK := hid kr
    clear hS
    by_cases hlt : k < L
    · have hka : k < a.length := by have := HL.out; omega
      obtain ⟨b1, o1, rfl, x1, y1⟩ := (HA.out.stay kr).cell HL.out k hlt
      by_cases hm : k < M
      · have hkb : k < b.length := by have := HM.out; omega
        obtain ⟨b2, o2, rfl, x2, y2⟩ := (HB.out.stay kr).cell HM.out k hm
        have HN := hid (fun h => same_ne HS.out hka hkb h)
        have HT := hid (fun h => same_step HS.out hka hkb h)
        clear kr
        generalize a[k]'hka = x at x1 y1 HN HT
        generalize b[k]'hkb = y at x2 y2 HN HT
        obtain ⟨X1, Y1⟩ := x
        obtain ⟨X2, Y2⟩ := y
        simp only at x1 y1 x2 y2
        have H1 := hid (fun W => less_any W X1 X2)
        have H2 := hid (fun W => less_any W Y1 Y2)
        have hf : labC (X1, Y1) (X2, Y2) = if cmpB X1 X2 ≠ 0 then cmpB X1 X2 else cmpB Y1 Y2 := rfl
        rw [hf] at HN HT
        generalize cmpB X1 X2 = P1 at H1 HN HT
        generalize cmpB Y1 Y2 = P2 at H2 HN HT
        clear hf
        go_wp2_with fail
        go_quiet ((go_at_call 62; exact Calls.quiet_of_same (H1.out _)))
        by_cases h1 : P1 = 0
        · subst h1
          have HKq := hid (kept_drewN HK.out nq)
          have y1q : (wr.drewN nq).cell? ⟨b1, o1 + k * 2 + 1, none⟩ = some (.string Y1) := y1
          have y2q : (wr.drewN nq).cell? ⟨b2, o2 + k * 2 + 1, none⟩ = some (.string Y2) := y2
          generalize wr.drewN nq = wq at HKq y1q y2q ⊢
          clear x1 y1 x2 y2
          go_wp2_with fail
          go_quiet ((go_at_call 62; exact Calls.quiet_of_same (H2.out _)))
          have hp : (if (0 : Int) ≠ 0 then (0 : Int) else P2) = P2 := if_neg (fun h => h rfl)
          rw [hp] at HN HT
          by_cases h2 : P2 = 0
          · subst h2
            have HT2 := hid (HT.out rfl)
            go_wp2
            refine ⟨⟨k + 1, by omega, by omega, by go_num, HT2.out, kept_drewN HKq.out _⟩, ?_⟩
            simp [intOf]
            omega
          · have HN2 := hid (HN.out h2)
            go_wp2
            go_ret
            exact ⟨by rw [HN2.out]; rfl, kept_drewN HKq.out _⟩
        · have hp : (if P1 ≠ 0 then P1 else P2) = P1 := if_pos h1
          rw [hp] at HN
          have HN2 := hid (HN.out h1)
          go_wp2
          go_ret
          exact ⟨by rw [HN2.out]; rfl, kept_drewN HK.out nq⟩
      · have HE := hid (same_long HS.out hka (by have := HM.out; omega))
        go_wp2
        go_ret
        exact ⟨by rw [HE.out]; rfl, kr⟩
    · have e : k = L := by omega
      subst e
      by_cases hm : k < M
      · have HE := hid (same_short HS.out (by have := HL.out; omega) (by have := HM.out; omega))
        go_wp2
        go_ret
        exact ⟨by rw [HE.out]; rfl, kr⟩
      · have HE := hid (same_end HS.out (by have := HL.out; omega) (by have := HM.out; omega))
        go_wp2
        go_ret
        exact ⟨by rw [HE.out]; rfl, kr⟩
end Go.Proofs.YteknpfldemgmnaaGreat.N
