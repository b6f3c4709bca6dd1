/-
  The law PostingsAll; many lists that came in.
-/
import Derived.Test.YtpbeenhaaaocpaaOall
namespace Go.Proofs.Ytpbeenhaaaocpaa.Po
open Go.RowKit Go.Proofs.Lys
set_option linter.unusedVariables false

def LLIn (w : World) (v : Value) (ls : List (List Int)) : Prop := LLSrc w v ls ∧ ls.length ≤ 9223372036854775807
theorem Try.cellsInts : Try.prog.cellsOf 22 = 1 := by kernel_rfl
open Go.ChangeShapes in
theorem open_cell {H : Type} {enc : TypeId × Value → H} {w : World} {spare : Nat → Bool} {held : Bool} {base fuel : Nat} {cs : List Value} {x : DataW H × List MemPlace}
    (h : DataW.trod enc Try.prog w base spare held fuel 22 cs = some x) : ∃ q : Value × List Int, cs = [q.1] ∧ IIn w q.1 q.2 := by
  rcases open_ints Try.underlying22 Try.underlying3 (by kernel_rfl) h with ⟨hcs, _⟩ | ⟨a, l, c, zs, hcs, _⟩
  · subst hcs
    obtain ⟨l, hl⟩ := open_isrc (a0 := none) (len0 := 0) (cap0 := 0) ⟨fuel, by simpa [Value.cells] using h⟩
    exact ⟨(_, l), rfl, hl⟩
  · subst hcs
    obtain ⟨l', hl⟩ := open_isrc (a0 := some a) (len0 := l) (cap0 := c) ⟨fuel, by simpa [Value.cells] using h⟩
    exact ⟨(_, l'), rfl, hl⟩
set_option maxRecDepth 100000 in
theorem open_lls {H : Type} {enc : TypeId × Value → H} {w : World} {spare : Nat → Bool} {held : Bool} {base : Nat} {a0 : Option Addr} {len0 cap0 : Nat} {x : DataW H × List MemPlace}
    (h : ∃ m, DataW.trod enc Try.prog w base spare held m 28 (Value.slice a0 len0 cap0).cells.toList = some x) : ∃ ls : List (List Int), LLIn w (.slice a0 len0 cap0) ls := by
  obtain ⟨fuel, hf⟩ := h
  rcases Deep.open_slice Try.underlying28 hf with ⟨hcs, _⟩ | ⟨a, len, cap, m, n, D, Pl, hcs, _, hl, hm, hmm, _, hx⟩
  · simp [Value.cells] at hcs
    obtain ⟨rfl, rfl, rfl⟩ := hcs
    exact ⟨[], ⟨[], .inl ⟨rfl, rfl⟩, rfl, fun i h => absurd h (by simp)⟩, by simp⟩
  · simp [Value.cells] at hcs
    obtain ⟨rfl, rfl, rfl⟩ := hcs
    have hlm : len0 ≤ m := by rw [hmm]; split <;> omega
    have each : ∀ i, i < len0 → ∃ q : Value × List Int, w.cell? (a.add i) = some q.1 ∧ IIn w q.1 q.2 := by
      intro i hi
      obtain ⟨cs', h1, h2⟩ := hx i (by omega)
      rw [Try.cellsInts] at h1
      obtain ⟨_, hlen, hcell⟩ := World.cells?_some h1
      obtain ⟨q, rfl, hq⟩ := open_cell h2
      have c0 := hcell 0 (by simp)
      rw [Deep.add_add] at c0
      exact ⟨q, by simpa using c0, hq⟩
    have hinh : Inhabited (Value × List Int) := ⟨(.slice none 0 0, [])⟩
    obtain ⟨q, hq⟩ := Deep.choose_lt each
    have hmx : maxLen = 9223372036854775807 := by decide
    refine ⟨(List.range len0).map (fun i => (q i).2), ⟨(List.range len0).map (fun i => (q i).1), .inr ⟨a, cap0, by simp, fun j u hu => ?_⟩, by simp, fun i h1 h2 => ?_⟩, by simp; omega⟩
    · have hj : j < len0 := by
        have := (List.getElem?_eq_some_iff.1 hu).1
        simpa using this
      have hu2 : (q j).1 = u := by
        rw [List.getElem?_map, List.getElem?_range hj] at hu
        simpa using hu
      rw [← hu2]
      exact (hq j hj).1
    · have hi : i < len0 := by simpa using h1
      simpa using (hq i hi).2

set_option maxRecDepth 100000 in
set_option maxHeartbeats 3200000 in
theorem all_walk (w : World) (v : Value) (ls : List (List Int)) (h : LLIn w v ls) :
    Calls Try.prog 4 #[v] w fun e w' => e = .returned (.bool true) ∧ Kept w w' := by
  obtain ⟨hs, hm⟩ := h
  obtain ⟨av, c, rfl⟩ := hs.len
  have HA := hid (alive_any w)
  have HS := hid hs
  obtain ⟨L, hL⟩ : ∃ L, ls.length = L := ⟨_, rfl⟩
  have HL := hid hL
  rw [hL] at HS hm ⊢
  clear hs hL
  by_cases h1 : 50 < L
  · clear HS HL
    go_enter Try.func4, Try.ntmps4
    go_wp2_with fail
    refine HA.out.mono ?_
    rintro e w1 ⟨rfl, k1⟩
    go_wp2_with fail
    go_ret
    exact ⟨rfl, k1⟩
  have d0 : decide ((50 : Int) < (L : Int)) = false := by simp; omega
  go_enter Try.func4, Try.ntmps4
  go_wp2_with fail
  refine HA.out.mono ?_
  rintro e w1 ⟨rfl, k1⟩
  have HK1 := hid k1
  have HS1 := hid (HS.out.stay k1)
  clear HA k1
  go_wp2_with fail
  go_loopw [4] (fun s wt => ∃ (k : Nat), k ≤ L ∧ s = .int .i64 (k : Int) ∧ wt = w1 ∧ ∀ i (h : i < ls.length), i < k → ls[i].length ≤ 500) (fun s _ => L - (intOf s).toNat)
  case atStart => exact ⟨0, by omega, rfl, rfl, fun i _ h => absurd h (by omega)⟩
  case round =>
    obtain ⟨k, hk, rfl, hw, hall⟩ := hrel
    replace hw := hw.symm
    subst hw
    have HAll := hid hall
    clear hall
    by_cases hlt : k < L
    · have hkl : k < ls.length := by have := HL.out; omega
      obtain ⟨b, o, a1, c1, rfl, y1, s1⟩ := HS1.out.cell HL.out k hlt
      obtain ⟨x, hx⟩ : ∃ x, ls[k] = x := ⟨_, rfl⟩
      rw [hx] at y1 s1
      have HX := hid hx
      have hxm := s1.2
      obtain ⟨X, hX⟩ : ∃ X, x.length = X := ⟨_, rfl⟩
      rw [hX] at y1 hxm
      have HXl := hid hX
      clear hx s1 hX
      by_cases h5 : 500 < X
      · go_wp2_with fail
        go_ret
        exact ⟨rfl, HK1.out⟩
      · go_wp2_with fail
        go_roundw
        case rel =>
          refine ⟨k + 1, by omega, by go_num, trivial, fun i hi hik => ?_⟩
          by_cases e : i < k
          · exact HAll.out i hi e
          · have : i = k := by omega
            subst this
            have h1 := HX.out
            have h2 := HXl.out
            rw [h1, h2]
            omega
        case measure => simp [intOf]; omega
    · have HLL : Hid (∀ i (h : i < ls.length), ls[i].length ≤ 500) := fun i h => HAll.out i h (by have := HL.out; omega)
      have A1 := hid (fun (W : World) (k : Kept w W) => all_any W _ ls (HS.out.stay k) (by have := HL.out; omega) HLL.out)
      have A2 := hid (fun (W : World) (k : Kept w W) => rall_any W _ ls (HS.out.stay k) (by have := HL.out; omega) HLL.out)
      clear HAll HLL
      generalize allL ls = R at A1 A2
      go_wp2_with fail
      refine (A1.out _ HK1.out).mono ?_
      rintro e w2 ⟨vA, rfl, hoA, hlA, k2⟩
      have HA := hid hoA
      have HK2 := hid (HK1.out.trans k2 (fun _ _ f => f))
      have LO : Hid (∀ j, vA.ownBlock = some j → w.heap.size ≤ j) := hid (fun j e => Nat.le_trans HK1.out.size (hoA.lt j e).1)
      clear hoA k2
      go_wp2_with fail
      refine (A2.out _ HK2.out).mono ?_
      rintro e w3 ⟨vB, rfl, hsB, k3⟩
      have HA3 := hid (own_only HA.out k3 (fun _ _ f => f))
      have HK3 := hid (HK2.out.trans k3 (fun _ _ f => f))
      have HB := hid hsB
      clear k3 hsB HA
      go_wp2_with fail
      refine (same_any _ _ _ R (own_src HA3.out) HB.out (by omega)).mono ?_
      rintro e w4 ⟨rfl, k4⟩
      have HA4 := hid (own_only HA3.out k4 (fun _ _ f => f))
      have HK4 := hid (HK3.out.trans k4 (fun _ _ f => f))
      clear k4 HA3 HB
      go_wp2_with fail
      obtain ⟨N, hN⟩ : ∃ N, R.length = N := ⟨_, rfl⟩
      rw [hN] at HA4 hlA
      have HN := hid hN
      obtain ⟨a2, c2, hv2⟩ := own_slice HA4.out
      subst hv2
      clear hN
      go_loopw [7] (fun s wt => ∃ (k : Nat) (lw : List Int) (base : Nat), k ≤ N ∧ s = .int .i64 (k : Int) ∧ lw.length = N ∧ wt.ownsRow base 3 1 (.slice a2 N c2) N (lw.map (Value.int .i64)) ∧ Only (fun j => (Value.slice a2 N c2).ownBlock = some j) w4 wt) (fun s _ => N - (intOf s).toNat)
      case atStart => exact ⟨0, R, _, by omega, rfl, HN.out, HA4.out, Only.refl _ _⟩
      case round =>
        obtain ⟨j, lw, base, hj, rfl, hlw, ho, kr⟩ := hrel
        by_cases hlt2 : j < N
        · obtain ⟨g, cap, hg⟩ := own_some ho (by omega)
          cases hg
          obtain ⟨⟨u, y0⟩, f0, hst⟩ := wipe_step ho j (by omega)
          have HW := hid hst
          have HLW := hid hlw
          have HKR := hid (kr.setCell (p := ⟨g, j, none⟩) (fun _ => rfl) (.int .i64 (-1)))
          clear hst ho kr hlw
          go_wp2_with fail
          go_roundw
          case rel => exact ⟨j + 1, lw.set j (-1), base, by omega, by go_num, by rw [List.length_set]; exact HLW.out, HW.out, HKR.out⟩
          case measure => simp [intOf]; omega
        · have hk2 : j = N := by omega
          subst hk2
          have HK5 := hid (HK4.out.trans kr (fun q hq e => absurd hq (by have := LO.out q e; omega)))
          clear kr ho hlw
          go_wp2_with fail
          refine (A1.out _ HK5.out).mono ?_
          rintro e w6 ⟨vC, rfl, hoC, hlC, k6⟩
          have HC := hid hoC
          have HK6 := hid (HK5.out.trans k6 (fun _ _ f => f))
          clear hoC k6
          go_wp2_with fail
          refine (A2.out _ HK6.out).mono ?_
          rintro e w7 ⟨vD, rfl, hsD, k7⟩
          have HC7 := hid (own_only HC.out k7 (fun _ _ f => f))
          have HK7 := hid (HK6.out.trans k7 (fun _ _ f => f))
          have HD := hid hsD
          clear k7 hsD HC
          go_wp2_with fail
          refine (same_any _ _ _ R (own_src HC7.out) HD.out (by omega)).mono ?_
          rintro e w8 ⟨rfl, k8⟩
          have HK8 := hid (HK7.out.trans k8 (fun _ _ f => f))
          clear k8
          go_wp2_with fail
          go_ret
          exact ⟨rfl, HK8.out⟩
end Go.Proofs.Ytpbeenhaaaocpaa.Po
