/-
  The law of Make.
-/
import Derived.Test.YtfpncddoaenffaaNalive
import Derived.Test.YtfpncddoaenffaaNopen
import Derived.Test.YtfpncddoaenffaaNrmake
namespace Go.Proofs.Ytfpncddoaenffaa.N
open Go.RowKit Go.Proofs.Lys
set_option linter.unusedVariables false
set_option linter.unusedSimpArgs false

theorem lab_pre {w : World} {base g cap : Nat} {l : Labs} {p : Lab} (h : LabAt w base (.slice (some ⟨g, 0, none⟩) (l.length + 1) cap) (l ++ [p])) :
    (∀ W, (Instr.sliceAt 22 (.slice (some ⟨g, 0, none⟩) (l.length + 1) cap) none (some (.int .i64 (l.length : Int))) none).run Try.prog W = .ok (.slice (some ⟨g, 0, none⟩) l.length cap) W) ∧
    LabSrc w (.slice (some ⟨g, 0, none⟩) l.length cap) l ∧ w.cell? ⟨g, l.length * 2, none⟩ = some (.string p.1) ∧ w.cell? ⟨g, l.length * 2 + 1, none⟩ = some (.string p.2) := by
  have hcap : l.length + 1 ≤ cap := by
    rcases h.2 with ⟨e, _⟩ | ⟨g', cap', cur, hv, _, _, hc, _⟩
    · cases e
    · simp only [Value.slice.injEq] at hv
      obtain ⟨_, _, rfl⟩ := hv
      rw [List.length_append] at hc
      exact hc
  have hs := LabAt.src h
  have each : ∀ i (hi : i < (l ++ [p]).length), w.cell? ⟨g, i * 2, none⟩ = some (.string ((l ++ [p])[i]).1) ∧ w.cell? ⟨g, i * 2 + 1, none⟩ = some (.string ((l ++ [p])[i]).2) := by
    rcases hs with ⟨a, c, e, e3⟩ | ⟨_, b, o, c, hv, hc⟩
    · simp at e3
    · simp only [Value.slice.injEq, Option.some.injEq, Addr.mk.injEq] at hv
      obtain ⟨⟨rfl, rfl, _⟩, _, _⟩ := hv
      intro i hi
      have := hc i hi
      rw [Nat.zero_add] at this
      exact this
  refine ⟨fun W => slice_hi (by omega) (by omega) W, ?_, ?_⟩
  · by_cases h0 : l.length = 0
    · have hn : l = [] := List.length_eq_zero_iff.1 h0
      subst hn
      exact .inl ⟨_, _, rfl, rfl⟩
    · refine .inr ⟨by omega, g, 0, cap, rfl, fun i hi => ?_⟩
      have := each i (by rw [List.length_append]; omega)
      rw [List.getElem_append_left hi] at this
      rw [Nat.zero_add]
      exact this
  · have := each l.length (by simp)
    rw [List.getElem_append_right (Nat.le_refl _)] at this
    simpa using this

/-- What a turned list leaves: only its own block has turned. -/
theorem setTwo {w W : World} {O : Nat → Prop} (k : Only O w W) {g i : Nat} (hg : w.heap.size ≤ g) (u v : Value) : Only O w ((W.setCell ⟨g, i, none⟩ u).setCell ⟨g, i + 1, none⟩ v) :=
  (k.setCell (fun hlt => absurd hlt (by show ¬ g < w.heap.size; omega)) _).setCell (fun hlt => absurd hlt (by show ¬ g < w.heap.size; omega)) _

set_option maxRecDepth 100000 in
set_option maxHeartbeats 3200000 in
theorem make11_walk (w : World) (vl vo : Value) (l o : Labs) (hl : In w vl l) (ho : In w vo o) :
    Calls Try.prog 3 #[vl, vo] w fun e w' => e = .returned (.bool true) ∧ Kept w w' := by
  have HL := hid hl
  have HO := hid ho
  obtain ⟨a1, c1, rfl⟩ := hl.src.len
  obtain ⟨a2, c2, rfl⟩ := ho.src.len
  have H0 := hid (alive_any w)
  have HBl := hid (fun W (k : Kept w W) => big_any W _ l (HL.out.src.stay k) (by have := HL.out.len; omega) HL.out.came)
  have HBo := hid (fun W (k : Kept w W) => big_any W _ o (HO.out.src.stay k) (by have := HO.out.len; omega) HO.out.came)
  clear hl ho
  go_enter Try.func3, Try.ntmps3
  go_wp2_with fail
  refine H0.out.mono ?_
  rintro e w1 ⟨rfl, k1⟩
  go_wp2_with fail
  refine (HBl.out w1 k1).mono ?_
  rintro e w2 ⟨rfl, k2'⟩
  have k2 : Kept w w2 := k1.trans k2' (fun _ _ f => f)
  by_cases ga : 4000 < bigN l
  · rw [decide_eq_true ga]
    go_wp2
    go_ret
    exact ⟨rfl, k2⟩
  rw [decide_eq_false ga]
  go_wp2_with fail
  refine (HBo.out w2 k2).mono ?_
  rintro e w3 ⟨rfl, k3'⟩
  have k3 : Kept w w3 := k2.trans k3' (fun _ _ f => f)
  by_cases gb : 4000 < bigN o
  · rw [decide_eq_true gb]
    go_wp2
    go_ret
    exact ⟨rfl, k3⟩
  rw [decide_eq_false gb]
  obtain ⟨sl, ll⟩ := bigN_small (l := l) (by omega)
  obtain ⟨so, lo⟩ := bigN_small (l := o) (by omega)
  have HSl := hid sl
  have HSo := hid so
  have HK3 := hid k3
  have H1 := hid (lent_any w3 _ l (HL.out.src.stay k3) (by omega))
  clear HBl HBo H0 k1 k2 k2' k3' ga gb sl so k3
  go_wp2_with fail
  refine H1.out.mono ?_
  rintro e w4 ⟨g, cap, rfl, hfull, k4⟩
  obtain ⟨hcut, hpre, hend, _⟩ := lab_pre hfull
  have HF := hid hfull
  have HK4 := hid (HK3.out.trans k4 (fun _ _ f => f))
  have H2 := hid (make_any w4 _ l hpre (by omega) HSl.out)
  clear hpre hend hfull k4 H1
  go_wp2_with fail
  refine H2.out.mono ?_
  rintro e w5 ⟨⟨ua, na, rfl, hA⟩, k5⟩
  have HA := hid hA
  have HF5 := hid (ownN_stay HF.out k5)
  have HK5 := hid (HK4.out.trans k5 (fun _ _ f => f))
  have H3 := hid (make_any w5 _ o (HO.out.src.stay HK5.out) (by omega) HSo.out)
  clear hA k5 H2
  go_wp2_with fail
  refine H3.out.mono ?_
  rintro e w6 ⟨⟨ub, nb, rfl, hB⟩, k6⟩
  have HK56 := hid k6
  -- the second answer, a row of its own
  obtain ⟨M, cb, gb, hub, hrow⟩ : ∃ (M : Nat) (cb : Nat) (gb : Option Nat), ub = .slice (gb.map (fun g => ⟨g, 0, none⟩)) M cb ∧ M ≤ 16 ∧ (gb = none → M = 0) ∧ ∀ g, gb = some g → w5.heap.size ≤ g ∧ ∃ cs : List Value, Blk w6 g cs 30 ∧ M * 2 ≤ cs.length := by
    cases hm : makeL o with
    | none =>
      rw [hm] at hB
      obtain ⟨_, rfl⟩ := hB
      exact ⟨0, 0, none, rfl, by omega, fun _ => rfl, fun g h => by cases h⟩
    | some m =>
      rw [hm] at hB
      obtain ⟨_, hat⟩ := hB
      have hmd := makeL_made hm
      rcases hat.2 with ⟨_, h0⟩ | ⟨g, cap, cur, hv, hb, hg, hnc, _, hcs, _⟩
      · have := hmd.len
        omega
      · refine ⟨m.length, cap, some g, hv, hmd.len16, fun h => (by cases h), fun g' h => ?_⟩
        cases h
        have hcl : cur.toList.length = cap * 2 := by rw [Array.length_toList (xs := cur)]; exact hcs
        exact ⟨hb, cur.toList, by unfold Blk; simpa using hg, by omega⟩
  subst hub
  have HR := hid hrow
  have hM16 := hrow.1
  clear hB k6 H3 hrow
  go_wp2
  go_loopw [12] (fun i wr => ∃ (k : Nat), k ≤ M ∧ i = .int .i64 (k : Int) ∧ Kept w5 wr ∧ ∀ g, gb = some g → w5.heap.size ≤ g ∧ ∃ cs : List Value, Blk wr g cs 30 ∧ M * 2 ≤ cs.length) (fun i _ => M - (intOf i).toNat)
  case atStart => exact ⟨0, by omega, rfl, HK56.out, HR.out.2.2⟩
  case round =>
    obtain ⟨k, hk, rfl, kr, hcs⟩ := hrel
    have HC := hid hcs
    have HKr := hid kr
    by_cases hlt : k < M
    · obtain ⟨q, hq⟩ : ∃ q, gb = some q := by
        cases hg : gb with
        | none => have := HR.out.2.1 hg; omega
        | some q => exact ⟨q, rfl⟩
      subst hq
      obtain ⟨hge, cs, hblk, hlen⟩ := hcs q rfl
      have c0 := hblk.cell (k * 2) (List.getElem?_eq_getElem (by omega))
      have c1 := hblk.cell (k * 2 + 1) (List.getElem?_eq_getElem (by omega))
      have f0 := hblk.frozen (k * 2)
      have f1 := hblk.frozen (k * 2 + 1)
      have HB2 := hid ((hblk.set (k * 2) (.string ⟨#[]⟩)).set (k * 2 + 1) (.string ⟨#[]⟩))
      have HGe := hid hge
      have hlen2 : M * 2 ≤ ((cs.set (k * 2) (.string ⟨#[]⟩)).set (k * 2 + 1) (.string ⟨#[]⟩)).length := by simp; omega
      clear hcs kr hblk
      generalize cs[k * 2]'(by omega) = z0 at c0
      generalize cs[k * 2 + 1]'(by omega) = z1 at c1
      simp only [Option.map_some] at *
      go_wp2
      refine ⟨⟨k + 1, by omega, by go_num, setTwo HKr.out HGe.out _ _, fun g' h => ?_⟩, ?_⟩
      · cases h
        exact ⟨HGe.out, _, HB2.out, hlen2⟩
      · simp [intOf]
        omega
    · have e : k = M := by omega
      subst e
      clear hcs
      have HK7 := hid (HK5.out.trans kr (fun _ _ f => f))
      have H4 := hid (rmake_any wr _ l (HL.out.src.stay HK7.out) (by omega) HSl.out)
      clear kr
      go_wp2_with fail
      refine H4.out.mono ?_
      rintro e w8 ⟨⟨uw, x, rfl, hW⟩, k8⟩
      have HK8 := hid (HK7.out.trans k8 (fun _ _ f => f))
      have HKa := hid (HKr.out.trans k8 (fun _ _ f => f))
      obtain ⟨m, n, hn1, hn2, sa, sw, hmn⟩ : ∃ (m : Labs) (n : Int), na = n ∧ x = n ∧ LabSrc w8 ua m ∧ LabSrc w8 uw m ∧ m.length ≤ 16 := by
        have hA := HA.out
        cases hm : makeL l with
        | none =>
          rw [hm] at hA hW
          obtain ⟨rfl, rfl⟩ := hA
          obtain ⟨rfl, rfl⟩ := hW
          exact ⟨[], 20, rfl, rfl, .inl ⟨_, _, rfl, rfl⟩, .inl ⟨_, _, rfl, rfl⟩, by simp⟩
        | some m =>
          rw [hm] at hA hW
          obtain ⟨rfl, h1⟩ := hA
          obtain ⟨rfl, h2⟩ := hW
          exact ⟨m, 0, rfl, rfl, (LabAt.src h1).stay HKa.out, LabAt.src h2, (makeL_made hm).len16⟩
      subst hn1 hn2
      have H5 := hid (num_any w8 x)
      have H6 := hid (same_any w8 _ _ m sa sw (by omega))
      obtain ⟨xa, xc, exa⟩ := sa.len
      obtain ⟨ya, yc, eya⟩ := sw.len
      subst exa eya
      clear sa sw hW k8 H4 HA
      go_wp2_with fail
      refine H5.out.mono ?_
      rintro e w9 ⟨rfl, hq⟩
      replace hq := hq.symm
      subst hq
      go_wp2_with fail
      refine H6.out.mono ?_
      rintro e w9 ⟨rfl, k9⟩
      have HK9 := hid (HK8.out.trans k9 (fun _ _ f => f))
      have HF9 := hid (ownN_stay HF5.out (HKa.out.trans k9 (fun _ _ f => f)))
      obtain ⟨_, hpre9, _, _⟩ := lab_pre (show LabAt w9 _ (.slice (some ⟨g, 0, none⟩) (l.length + 1) cap) (l ++ [endL]) from HF9.out)
      have H7 := hid (same_any w9 _ _ l hpre9 (HL.out.src.stay HK9.out) (by omega))
      clear hpre9 k9 H5 H6
      go_wp2_with fail
      refine H7.out.mono ?_
      rintro e w10 ⟨rfl, k10⟩
      have hend := (lab_pre (show LabAt w10 _ (.slice (some ⟨g, 0, none⟩) (l.length + 1) cap) (l ++ [endL]) from ownN_stay HF9.out k10)).2.2.1
      have hend' : w10.cell? ⟨g, l.length * 2, none⟩ = some (.string ⟨#[45]⟩) := hend
      have HK10 := hid (HK9.out.trans k10 (fun _ _ f => f))
      clear hend k10 H7
      go_wp2
      go_ret
      exact ⟨rfl, HK10.out⟩
end Go.Proofs.Ytfpncddoaenffaa.N
