/-
  The law ManifestReads, walked.
-/
import Derived.Test.YtjifcgphlidimaaDoorJunp
import Derived.Test.YtjifcgphlidimaaDoorJrrd
import Derived.Test.YtjifcgphlidimaaDoorJal
import Derived.Test.YtjifcgphlidimaaDoorJsame0
namespace Go.Proofs.YtjifcgphlidimaaDoor.J
open Go Go.RowKit Go.Proofs.Lys
set_option linter.unusedVariables false
set_option linter.unusedSimpArgs false

theorem num17_any (n : Int) (w : World) : Calls Tryd.prog 9 #[.int .i64 n] w fun e w' => e = .returned (.int .i64 n) ∧ w' = w := by
  go_enter Tryd.func9, Tryd.ntmps9
  go_wp2
  go_ret
  exact ⟨rfl, rfl⟩
/-- A copy of bytes: new memory. -/
theorem byt_copy {w : World} {xv : Value} {bs : List UInt8} (hs : SrcOf w xv (bs.map bV)) (hl : bs.length ≤ 90000) :
    ∃ a n c w', Hid ((Builtin.append_ #[28, 28] 0 #[.slice none 0 0, xv]).run Tryd.prog w = .ok (.slice a n c) w') ∧ BytAt w' w.heap.size (.slice a n c) bs ∧ Kept w w' := by
  obtain ⟨a, n, c, w', hr, _, h, ho⟩ := byt_app (w := w) (B := w.heap.size) (v := .slice none 0 0) (bs := []) ⟨rfl, .inl ⟨rfl, rfl⟩⟩ hs (by simp; omega) (Nat.le_refl _)
  rw [List.nil_append] at h
  exact ⟨a, n, c, w', hr, h.out, ho.out.mono (fun j hj e => by simp [Value.ownBlock] at e)⟩
/-- The answer of bytes. -/
def AnsM (bs : List UInt8) (m : Man) (x : Int) : Prop := (IsM bs m ∧ x = 0) ∨ ((∀ n, ¬ IsM bs n) ∧ m = manZ ∧ x = 5)
theorem AnsM.inj {bs : List UInt8} {m n : Man} {x y : Int} (h : AnsM bs m x) (k : AnsM bs n y) : m = n ∧ x = y := by
  rcases h with ⟨h, rfl⟩ | ⟨h, rfl, rfl⟩
  · rcases k with ⟨k, rfl⟩ | ⟨k, rfl, rfl⟩
    · exact ⟨h.inj k, rfl⟩
    · exact absurd h (k m)
  · rcases k with ⟨k, rfl⟩ | ⟨k, rfl, rfl⟩
    · exact absurd k (h n)
    · exact ⟨rfl, rfl⟩
theorem AnsM.len {bs : List UInt8} {m : Man} {x : Int} (h : AnsM bs m x) : m.bl.length ≤ 200 := by
  rcases h with ⟨h, rfl⟩ | ⟨h, rfl, rfl⟩
  · exact (chk_in h.1).1
  · exact Nat.zero_le _
theorem UnpJ.ans {w w' : World} {bs : List UInt8} {e : Ending} (h : UnpJ w bs e w') : Kept w w' ∧ ∃ (m : Man) (x : Int) (a : Option Addr) (c : Nat), AnsM bs m x ∧ e = .returned (.tuple #[manV (.slice a m.bl.length c) m, .int .i64 x]) ∧ RfSrc w' (.slice a m.bl.length c) m.bl := by
  obtain ⟨k, ⟨m, a, c, hm, rfl, hr⟩ | ⟨hno, rfl⟩⟩ := h
  · exact ⟨k, m, 0, a, c, .inl ⟨hm, rfl⟩, rfl, hr.src⟩
  · exact ⟨k, manZ, 5, none, 0, .inr ⟨hno, rfl, rfl⟩, rfl, .inl ⟨_, _, rfl, rfl⟩⟩
set_option maxRecDepth 100000 in
set_option maxHeartbeats 3200000 in
theorem reads17_walk (w : World) (v : Value) (bs : List UInt8) (hs : G.BSrc w v bs) (hT : G.Tab w) : Calls Tryd.prog 4 #[v] w fun e w' => e = .returned (.bool true) ∧ Kept w w' := by
  obtain ⟨PQ, hPQ⟩ : ∃ PQ, (fun (e : Ending) (w' : World) => e = .returned (.bool true) ∧ Kept w w') = PQ := ⟨_, rfl⟩
  rw [hPQ]
  have HPQ := hid hPQ
  have HF : Hid (∀ W, Kept w W → PQ (.returned (.bool true)) W) := hid (fun W k => by rw [← HPQ.out]; exact ⟨rfl, k⟩)
  have HA := hid (alive17_any w)
  have HS := hid hs
  have HT := hid hT
  obtain ⟨x0, y0, e0⟩ := hs.len
  obtain ⟨L, hL⟩ : ∃ L, bs.length = L := ⟨_, rfl⟩
  rw [hL] at e0
  have HL := hid hL
  subst e0
  clear hs hT hPQ hL
  go_enter Tryd.func4, Tryd.ntmps4
  go_wp2_with fail
  refine HA.out.mono ?_
  rintro e w1 ⟨rfl, k1⟩
  have HK1 := hid k1
  clear k1 HA
  by_cases hbig : 5000 < L
  · have d1 : decide (5000 < (L : Int)) = true := decide_eq_true (by omega)
    have HFF := hid (HF.out _ HK1.out)
    clear hbig
    go_wp2_with fail
    (try go_ret)
    exact HFF.out
  · have d1 : decide (5000 < (L : Int)) = false := decide_eq_false (by omega)
    obtain ⟨a2, n2, c2, w2, hr2, hb2, k2⟩ := byt_copy (HS.out.1.stay HK1.out) (by have := HL.out; omega)
    have HR2 := hid hr2.out
    have HK2 := hid (HK1.out.trans k2 (fun _ _ f => f))
    have HUN := hid (unpack_any w2 (.slice a2 n2 c2) bs (by
      refine ⟨own_src hb2, ?_⟩
      rcases hb2.2 with ⟨hv, h0⟩ | ⟨g, cap, cur, hv, _, _, hcap, _⟩
      · exact ⟨none, 0, by rw [hv, h0], by omega⟩
      · exact ⟨_, cap, hv, hcap⟩) (by have := HL.out; omega) (HT.out.stay HK2.out))
    have HRD : Hid (∀ W, Kept w W → Calls Tryd.prog 13 #[.slice x0 L y0] W (UnpJ W bs)) := hid (fun W k => rread_any W _ bs (HS.out.stay k) (by have := HL.out; omega))
    clear hbig hr2 hb2 k2
    go_wp2_with (at_builtin; refine Lys.wpList_append_run rfl _ _ _ rfl rfl rfl HR2.out ?_)
    refine HUN.out.mono ?_
    intro e1 w3 hu
    obtain ⟨k3, m, x, a3, c3, hans, rfl, hsrc3⟩ := hu.ans
    obtain ⟨⟨l, N, Gn, Lo⟩, hM⟩ : ∃ m', m' = m := ⟨m, rfl⟩
    subst hM
    unfold manV
    simp only at hsrc3 ⊢
    have HANS := hid hans
    have hlen := hans.len
    simp only at hlen
    obtain ⟨LL, hLL⟩ : ∃ LL, l.length = LL := ⟨_, rfl⟩
    rw [hLL] at hsrc3 hlen ⊢
    have HLL := hid hLL
    obtain ⟨w4, hw4⟩ : ∃ w4, w3.alloc (.cells #[.slice a3 LL c3, .int .i64 N, .int .i64 Gn, .int .i64 Lo] 24) = w4 := ⟨_, rfl⟩
    have k4 : Kept w3 w4 := by rw [← hw4]; exact (Only.refl _ w3).alloc _
    have HB4 : Hid (Blk w4 w3.heap.size [.slice a3 LL c3, .int .i64 N, .int .i64 Gn, .int .i64 Lo] 24) := hid (by rw [← hw4]; exact Blk.new w3 _ _)
    have HK4 := hid ((HK2.out.trans k3 (fun _ _ f => f)).trans k4 (fun _ _ f => f))
    have HS4 := hid (hsrc3.stay k4)
    have HW4 := hid hw4
    have HR4 := hid (HRD.out w4 HK4.out)
    clear hu k3 hans hsrc3 hLL hw4 k4 HUN HR2
    go_wp2_with fail
    rw [HW4.out]
    go_wp2_with fail
    refine HR4.out.mono ?_
    intro e2 w5 hu
    obtain ⟨k5, m2, x2, a5, c5, hans2, rfl, hsrc5⟩ := hu.ans
    obtain ⟨rfl, rfl⟩ := HANS.out.inj hans2
    unfold manV
    simp only at hsrc5 ⊢
    rw [HLL.out] at hsrc5 ⊢
    obtain ⟨w6, hw6⟩ : ∃ w6, w5.alloc (.cells #[.slice a5 LL c5, .int .i64 N, .int .i64 Gn, .int .i64 Lo] 24) = w6 := ⟨_, rfl⟩
    have k6 : Kept w5 w6 := by rw [← hw6]; exact (Only.refl _ w5).alloc _
    have hb6 : Blk w6 w5.heap.size [.slice a5 LL c5, .int .i64 N, .int .i64 Gn, .int .i64 Lo] 24 := by rw [← hw6]; exact Blk.new w5 _ _
    have k56 := k5.trans k6 (fun _ _ f => f)
    have hb4 := Only.blk k56 HB4.out (fun f => f)
    have HK6 := hid (HK4.out.trans k56 (fun _ _ f => f))
    have HNU := hid (num17_any x w6)
    have HSA := hid (rsame_any w6 a3 a5 c3 c5 LL l N Gn Lo (HS4.out.stay k56) (hsrc5.stay k6) HLL.out (by omega))
    have HW6 := hid hw6
    have y0 := hb4.cell 0 rfl
    have y1 := hb4.cell 1 rfl
    have y2 := hb4.cell 2 rfl
    have y3 := hb4.cell 3 rfl
    have z0 := hb6.cell 0 rfl
    have z1 := hb6.cell 1 rfl
    have z2 := hb6.cell 2 rfl
    have z3 := hb6.cell 3 rfl
    clear hu k5 hans2 hsrc5 hw6 k6 hb6 k56 hb4 HR4
    go_wp2_with fail
    rw [HW6.out]
    go_wp2_with fail
    refine HNU.out.mono ?_
    rintro e w7 ⟨rfl, hw⟩
    replace hw := hw.symm
    subst hw
    go_wp2_with fail
    refine HSA.out.mono ?_
    rintro e w8 ⟨rfl, k8⟩
    have HFF := hid (HF.out _ (HK6.out.trans k8 (fun _ _ f => f)))
    clear k8 HSA
    go_wp2_with fail
    (try go_ret)
    exact HFF.out
end Go.Proofs.YtjifcgphlidimaaDoor.J
