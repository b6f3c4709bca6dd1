/-
  The document's own SameManifest, of two that are the same.
-/
import Derived.Test.YtjifcgphlidimaaDoorJrchk
namespace Go.Proofs.YtjifcgphlidimaaDoor.J
open Go.RowKit Go.Proofs.Lys
set_option linter.unusedVariables false
set_option linter.unusedSimpArgs false

set_option maxRecDepth 100000 in
set_option maxHeartbeats 1600000 in
theorem rsame_any (w : World) (a1 a2 : Option Addr) (c1 c2 L : Nat) (l : List Rf) (N G Lo : Int) (h1 : RfSrc w (.slice a1 L c1) l) (h2 : RfSrc w (.slice a2 L c2) l) (hL : l.length = L) (hl : L ≤ 1000000) :
    Calls Tryd.prog 12 #[.agg #[.slice a1 L c1, .int .i64 N, .int .i64 G, .int .i64 Lo], .agg #[.slice a2 L c2, .int .i64 N, .int .i64 G, .int .i64 Lo]] w fun e w' => e = .returned (.bool true) ∧ Kept w w' := by
  have HA := hid h1
  have HB := hid h2
  have HL := hid hL
  clear h1 h2 hL
  obtain ⟨w2, hw2⟩ : ∃ W, (w.alloc (manO a1 L c1 N G Lo)).alloc (manO a2 L c2 N G Lo) = W := ⟨_, rfl⟩
  have HK2 : Hid (Kept w w2) := by rw [← hw2]; exact hid (((Only.refl _ w).alloc _).alloc _)
  have HX2 : Hid (Blk w2 w.heap.size [.slice a1 L c1, .int .i64 N, .int .i64 G, .int .i64 Lo] 24) := by
    rw [← hw2]
    exact (Blk.new w [.slice a1 L c1, .int .i64 N, .int .i64 G, .int .i64 Lo] 24).alloc _
  have HY2 : Hid (Blk w2 (w.heap.size + 1) [.slice a2 L c2, .int .i64 N, .int .i64 G, .int .i64 Lo] 24) := by
    rw [← hw2]
    have := Blk.new (w.alloc (manO a1 L c1 N G Lo)) [.slice a2 L c2, .int .i64 N, .int .i64 G, .int .i64 Lo] 24
    rw [World.size_alloc] at this
    exact hid this
  have HW2 := hid hw2
  clear hw2
  go_enter Tryd.func12, Tryd.ntmps12
  go_wp2
  rw [HW2.out]
  go_loopw [5] (fun s wr => ∃ (k : Nat), k ≤ L ∧ s = .int .i64 (k : Int) ∧ Kept w2 wr) (fun s _ => L - (intOf s).toNat)
  case atStart => exact ⟨0, by omega, rfl, Only.refl _ _⟩
  case round =>
    obtain ⟨k, hk, rfl, kr⟩ := hrel
    have KR := hid kr
    have hX := Only.blk kr HX2.out (fun f => f)
    have hY := Only.blk kr HY2.out (fun f => f)
    have x0 := hX.cell 0 rfl
    have y0 := hY.cell 0 rfl
    have hlx := hX.lt
    have hly := hY.lt
    clear hX hY
    by_cases hlt : k < L
    · obtain ⟨b1, o1, rfl, p0, p1, p2, p3⟩ := (HA.out.stay (HK2.out.trans kr (fun _ _ f => f))).cell HL.out k hlt
      obtain ⟨b2, o2, rfl, q0, q1, q2, q3⟩ := (HB.out.stay (HK2.out.trans kr (fun _ _ f => f))).cell HL.out k hlt
      have hkl : k < l.length := by have := HL.out; omega
      generalize l[k] = x at p0 p1 p2 p3 q0 q1 q2 q3
      obtain ⟨i, lv, f, t⟩ := x
      simp only at p0 p1 p2 p3 q0 q1 q2 q3
      clear kr
      go_wp2_with fail
      go_quiet (fail)
      go_wp2_with fail
      go_roundw
      case rel => exact ⟨k + 1, by omega, by go_num, kept_drewN KR.out nq⟩
      case measure => simp [intOf]; omega
    · have e : k = L := by omega
      subst e
      clear kr
      go_wp2
      go_ret
      exact ⟨rfl, HK2.out.trans KR.out (fun _ _ f => f)⟩
end Go.Proofs.YtjifcgphlidimaaDoor.J
