/-
  Big: are calls too much to be played?
-/
import Derived.Test.YtpjedcfdchebgaaEacts
import Derived.BigQuiet
namespace Go.Proofs.Ytpjedcfdchebgaa
open Go.RowKit Go.Proofs.Lys Go.Maps Go.Shelf
set_option linter.unusedVariables false

/-- So small that no sum of sizes leaves its bounds. -/
structure CAct.small (a : CAct) : Prop where
  bs : a.op.bs.length ≤ 281474976710656
  keep : a.keep.length ≤ 281474976710656
  n : a.op.n.size ≤ 281474976710656
  t : a.op.t.size ≤ 281474976710656
def CAct.bulk (a : CAct) : Nat := 20 + a.op.bs.length + a.keep.length + a.op.n.size + a.op.t.size

theorem kept_drewN3 {w w' : World} (h : Kept w w') (n : Nat) : Kept w (w'.drewN n) := by
  induction n with
  | zero => exact h
  | succ n ih => exact ih.drew
theorem kept_cell {w w' : World} (k : Kept w w') {a : Addr} {v : Value} (h : w.cell? a = some v) : w'.cell? a = some v := by
  rw [World.cell?_of_block (w := w) (w' := w') (a := a) (k.block a.block (World.block_lt_of_cell? w a h) (fun f => f))]
  exact h

/-- What Big answers. -/
def BigPost (w : World) (ps : List CAct) (e : Ending) (w' : World) : Prop := Kept w w' ∧ ∃ b, e = .returned (.bool b) ∧ (b = false → ∀ a ∈ ps, a.bulk ≤ 20000)

set_option maxRecDepth 100000 in
set_option maxHeartbeats 3200000 in
theorem big_any (w : World) (v : Value) (ps : List CAct) (h : ActsSrc w v ps) (hs : ∀ a ∈ ps, a.small) (hl : ps.length ≤ 281474976710656) :
    Calls Try.prog 8 #[v] w (BigPost w ps) := by
  rcases h with ⟨a, c, rfl, rfl⟩ | ⟨hpos, b, o, c, rfl, hc⟩
  · go_enter Try.func8, Try.ntmps8
    go_wp2
    refine wp_loop_rounds 1 ?_
    rw [rounds_succ]
    go_wp2
    go_ret
    exact ⟨Only.refl _ _, _, rfl, fun _ a ha => by cases ha⟩
  · obtain ⟨L, hL⟩ : ∃ L, ps.length = L := ⟨_, rfl⟩
    rw [hL] at hpos hl ⊢
    have HC := Hid.mk hc
    have HL := Hid.mk hL
    have HS := Hid.mk hs
    clear hc hL hs
    go_enter Try.func8, Try.ntmps8
    go_wp2
    go_loopw [3, 4] (fun s t wr => ∃ (n k : Nat), k ≤ L ∧ n ≤ 2000000000000000 ∧ s = .int .i64 (n : Int) ∧ t = .int .i64 (k : Int) ∧ Kept w wr ∧ (∀ i (hi : i < ps.length), i < k → (ps[i]).bulk ≤ n)) (fun _ t _ => L - (intOf t).toNat)
    case atStart => exact ⟨0, 0, by omega, by omega, rfl, rfl, Only.refl _ _, fun i _ h => absurd h (Nat.not_lt_zero i)⟩
    case round =>
      obtain ⟨n, k, hk, hn, rfl, rfl, kr, hb⟩ := hrel
      have HB := Hid.mk hb
      clear hb
      by_cases hlt : k < L
      · by_cases hbig : n ≤ 20000
        · have hkl : k < ps.length := by have := HL.out; omega
          obtain ⟨x0, x1, x2, x3, x4, x5, x6, hok⟩ := HC.out k hkl
          obtain ⟨s1, s2, s3, s4⟩ := HS.out _ (List.getElem_mem hkl)
          obtain ⟨a5, c5, e5⟩ := hok.op.src.len
          obtain ⟨_, a6, c6, e6, _⟩ := hok.keep
          rw [List.length_map] at e5
          rw [e5] at x5
          rw [e6] at x6
          have HU : Hid ((ps[k]).bulk = 20 + (ps[k]).op.bs.length + (ps[k]).keep.length + (ps[k]).op.n.size + (ps[k]).op.t.size) := rfl
          have y3 := kept_cell kr x3
          have y4 := kept_cell kr x4
          have y5 := kept_cell kr x5
          have y6 := kept_cell kr x6
          obtain ⟨nb, hnb⟩ : ∃ z, (ps[k]).op.bs.length = z := ⟨_, rfl⟩
          obtain ⟨nk, hnk⟩ : ∃ z, (ps[k]).keep.length = z := ⟨_, rfl⟩
          obtain ⟨sn, hsn⟩ : ∃ z, (ps[k]).op.n = z := ⟨_, rfl⟩
          obtain ⟨st, hst⟩ : ∃ z, (ps[k]).op.t = z := ⟨_, rfl⟩
          rw [hnb] at y5 s1 HU
          rw [hnk] at y6 s2 HU
          rw [hsn] at y3 s3 HU
          rw [hst] at y4 s4 HU
          have e39 : o + k * 7 + 2 + 1 = o + k * 7 + 3 := by omega
          have e44 : o + k * 7 + 2 + 2 = o + k * 7 + 4 := by omega
          have e21 : o + k * 7 + 2 + 3 = o + k * 7 + 5 := by omega
          clear x0 x1 x2 x3 x4 x5 x6 hok e5 e6 hnb hnk hsn hst
          have hnm : Hid (∀ i (hi : i < ps.length), i < k + 1 → (ps[i]).bulk ≤ n + 20 + nb + nk + sn.size + st.size) := fun i hi h => by
            by_cases e : i = k
            · subst e
              rw [HU.out]
              omega
            · have := HB.out i hi (by omega)
              omega
          obtain ⟨zn, hzn⟩ : ∃ z, sn.size = z := ⟨_, rfl⟩
          obtain ⟨zt, hzt⟩ : ∃ z, st.size = z := ⟨_, rfl⟩
          rw [hzn] at s3 hnm
          rw [hzt] at s4 hnm
          go_wp2_with fail
          go_quiet (fail)
          have HK := Hid.mk (kept_drewN3 kr nq)
          clear kr y3 y4 y5 y6 e39 e44 e21
          go_wp2_with fail
          go_roundw
          case rel => exact ⟨n + 20 + nb + nk + zn + zt, k + 1, by omega, by omega, by go_num, by go_num, HK.out, hnm.out⟩
          case measure => simp [intOf]; omega
        · have d2 : decide ((n : Int) ≤ 20000) = false := by simp; omega
          have hb1 : (20000 : Int) < (n : Int) := by omega
          go_wp2_with fail
          go_ret
          exact ⟨kr, true, rfl, fun h => by cases h⟩
      · by_cases hbig : n ≤ 20000
        · have hb1 : ¬ (20000 : Int) < (n : Int) := by omega
          go_wp2_with fail
          go_ret
          refine ⟨kr, false, rfl, fun _ a ha => ?_⟩
          obtain ⟨i, hi, rfl⟩ := List.getElem_of_mem ha
          have := HB.out i hi (by have := HL.out; omega)
          omega
        · have hb1 : (20000 : Int) < (n : Int) := by omega
          go_wp2_with fail
          go_ret
          exact ⟨kr, true, rfl, fun h => by cases h⟩
end Go.Proofs.Ytpjedcfdchebgaa
