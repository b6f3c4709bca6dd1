/-
  Xput.
-/
import Derived.Test.YteknpfldemgmnaaGreatQ17
import Derived.Test.YteknpfldemgmnaaGreatQ09
import Derived.Test.YteknpfldemgmnaaGreatQ18
import Derived.Test.YteknpfldemgmnaaGreatQ19
import Derived.Defers
import Derived.Recover
import Derived.BigQuiet
import Derived.Deep.QuietTactic
import Derived.Deep.CutRange
import Derived.Deep.RegionWith

/-
  refuse, strings.Clone, put.
-/
namespace Go.Proofs.YteknpfldemgmnaaGreat.X
open Go.RowKit Go.Proofs.Lys Go.Maps Go.Proofs.YteknpfldemgmnaaGreat.N
set_option linter.unusedVariables false
set_option linter.unusedSimpArgs false

/-- The end of a call that gives up. -/
abbrev gave (n : Int) : Ending := .panicked [{ v := .iface 27 (.int .i64 n), recovered := false }]
theorem refuse_no (n : Int) (w : World) : Calls Tryz.prog 33 #[.bool false, .int .i64 n] w fun e w' => e = .returned (.tuple #[]) ∧ w' = w := by
  go_enter Tryz.func33, Tryz.ntmps33
  go_wp2
  go_end0
  exact ⟨rfl, rfl⟩
theorem refuse_yes (n : Int) (w : World) : Calls Tryz.prog 33 #[.bool true, .int .i64 n] w fun e w' => e = gave n ∧ w' = w := by
  go_enter Tryz.func33, Tryz.ntmps33
  go_wp2
  exact ⟨rfl, rfl, rfl⟩

theorem clone_any (w : World) (s : ByteArray) (hs : s.size ≤ 100000) : Calls Tryz.prog 49 #[.string s] w fun e w' => e = .returned (.string s) ∧ Kept w w' := by
  have HC := hid (fun W => Tryz.stringslite_Clone s W (by omega))
  go_enter Tryz.func49, Tryz.ntmps49
  go_wp2_with fail
  refine (HC.out w).mono ?_
  rintro e w' ⟨rfl, hb⟩
  have HK := hid (Only.below hb)
  clear hb HC
  go_wp2
  go_ret
  exact ⟨rfl, HK.out⟩

/-- What lies there when the pair is copied. -/
def OwnL (w : World) (y : Lab) (nb : Nat) (w' : World) : Prop := Kept w w' ∧ Blk w' nb [.string y.1, .string y.2] 43 ∧ w.heap.size ≤ nb

/-- What the map is made of, step by step. -/
theorem put_steps {w wc : World} {x : IxC} {O : Nat → Prop} {P : Posts} (h : IxAt w x O) (hI : Is x P) (y : Lab) (hy : y.1.size ≤ 100000 ∧ y.2.size ≤ 100000) (i : Int) (hn : x.kv.length < 100000) (hl : (lookP P y).length ≤ 100000) (k : Kept w wc) :
    ∃ st w1 g cap w2 w4, Hid ((Instr.mapEntry 57 (.map (some x.mb)) (labV y)).run Tryz.prog ((wc.alloc (.cells #[.int .i64 i] 3)).drew) = .ok (.tuple #[slV (slOf x y), .int .i64 st]) w1) ∧
      Hid ((Builtin.append_ #[45, 45] 0 #[slV (slOf x y), .slice (some ⟨wc.heap.size, 0, none⟩) 1 1]).run Tryz.prog w1 = .ok (.slice (some ⟨g, 0, none⟩) ((lookP P y).length + 1) cap) w2) ∧
      Hid ((Instr.entryStore 57 (.map (some x.mb)) (.int .i64 st) (.slice (some ⟨g, 0, none⟩) ((lookP P y).length + 1) cap)).run Tryz.prog w2 = .ok () w4) ∧
      Hid (IxAt w4 (putC x y i (lookP P y) (some (g, (lookP P y).length + 1, cap))) (OX O w w4) ∧ Only O w w4) ∧
      Hid (Only (fun j => j < w.heap.size ∧ j ≠ x.xb) ((wc.alloc (.cells #[.int .i64 i] 3)).drew) w1) ∧ Hid (Only (fun j => j < w.heap.size ∧ j ≠ x.xb) w1 w2) := by
  have kA : Kept w ((wc.alloc (.cells #[.int .i64 i] 3)).drew) := (k.alloc _).drew
  have hA := h.stay kA
  have hm := small_max hy
  obtain ⟨st, w1, hr1, k1, s1, hB⟩ := entry_sl hA.map (by omega) hm.1 hm.2
  obtain ⟨hs1, hs2⟩ := hA.slice hI y hy
  have hmb : ∀ j, (slV (slOf x y)).ownBlock = some j → j ≠ x.mb := fun j hj => (hs2 j hj).2.2.1
  have hrow1 : NumAt w1 0 (slV (slOf x y)) (lookP P y) := ownN_only hs1 k1 hmb
  have hlt := h.lt x.mb (h.own _ (.inr (.inl rfl)))
  have hlit : SrcOf w1 (.slice (some ⟨wc.heap.size, 0, none⟩) 1 1) [.int .i64 i] := by
    have hb : Blk ((wc.alloc (.cells #[.int .i64 i] 3)).drew) wc.heap.size [.int .i64 i] 3 := (Blk.new wc _ _).drew
    have hb1 := k1.blk hb (by have := k.size; show ¬ wc.heap.size = x.mb; omega)
    refine .inr ⟨⟨wc.heap.size, 0, none⟩, 1, rfl, fun j u hu => ?_⟩
    have hj : j = 0 := by
      have := (List.getElem?_eq_some_iff.1 hu).1
      simpa using this
    subst hj
    cases hu
    exact hb1.cell 0 rfl
  obtain ⟨v', w2, hr2, ho2, hg2, hloc⟩ := append_src (P := Tryz.prog) (base := 0) Tryz.underlying45 Po.infoI6 rfl (by decide) hrow1 hlit (by intro u hu; rw [List.mem_singleton.1 hu]; rfl) (by simp; omega) (Nat.zero_le _)
  have ho2' : w2.ownsRow 0 3 1 v' ((lookP P y).length + 1) ((lookP P y ++ [i]).map (Value.int .i64)) := by simpa using ho2
  obtain ⟨g, cap, rfl⟩ := own_some ho2' (by omega)
  have k3 : Only (fun j => (slV (slOf x y)).ownBlock = some j) w1 w2 := (Only.refl _ w1).grown hg2 (fun j e _ => e)
  have hsz1 : x.mb < w1.heap.size := by have := k.size; rw [s1]; simp; omega
  obtain ⟨w4, hr4, hm4, k4, s4⟩ := hB w2 (k3.block x.mb hsz1 (fun e => hmb _ e rfl)) (some (g, (lookP P y).length + 1, cap))
  refine ⟨st, w1, g, cap, w2, w4, hr1, hr2, hr4, ?_, k1.mono (fun j _ e => ⟨by rw [e]; exact hlt, fun e2 => hA.ne.1 (by rw [← e2, e])⟩), k3.mono (fun j _ e => ⟨h.lt j (hs2 j e).1, (hs2 j e).2.1⟩)⟩
  have k2 : Only (fun j => j = x.mb) w w1 := (kA.mono (O' := fun j => j = x.mb) (fun _ _ f => f.elim)).trans k1 (fun _ _ e => e)
  refine put_at (w := w) (w2 := w1) (w3 := w2) h hI y hy i _ k2 k3 ?_ ?_ hm4 k4
  · show w2.ownsRow 0 3 1 _ (lookP P y ++ [i]).length _
    rw [List.length_append]
    exact ho2'
  · intro j hj
    rcases hloc with e | e
    · exact .inl (by rw [← e]; exact hj)
    · refine .inr ?_
      rw [show slV (some (g, (lookP P y).length + 1, cap)) = .slice (some ⟨g, 0, none⟩) ((lookP P y).length + 1) cap from rfl, e] at hj
      cases hj
      exact Nat.le_refl _

set_option maxRecDepth 100000 in
set_option maxHeartbeats 3200000 in
theorem put_any {w : World} {x : IxC} {O : Nat → Prop} {P : Posts} (h : IxAt w x O) (hI : Is x P) (y : Lab) (hy : y.1.size ≤ 100000 ∧ y.2.size ≤ 100000) (i : Int) (hn : x.kv.length < 100000) (hl : (lookP P y).length ≤ 100000) :
    Calls Tryz.prog 24 #[.pointer (some ⟨x.xb, 0, none⟩), labV y, .int .i64 i] w fun e w' => ∃ c, e = .returned (.tuple #[]) ∧ IxAt w' (putC x y i (lookP P y) c) (OX O w w') ∧ Only O w w' := by
  have HC1 := hid (fun W => clone_any W y.1 hy.1)
  have HC2 := hid (fun W => clone_any W y.2 hy.2)
  obtain ⟨s, t⟩ := y
  have HB := hid (Blk.new w [.string s, .string t] 43)
  have HK := hid ((Only.refl (fun _ => False) w).alloc (.cells #[.string s, .string t] 43))
  have HH := hid h
  have HI := hid hI
  clear h hI
  simp only at *
  go_enter Tryz.func24, Tryz.ntmps24
  go_upto_region 1 with fail
  generalize w.alloc (.cells #[.string s, .string t] 43) = w0 at HB HK ⊢
  have S0 : Hid (∀ W, Kept w0 W → W.cell? ⟨w.heap.size, 0, none⟩ = some (.string s) ∧ W.cell? ⟨w.heap.size, 1, none⟩ = some (.string t)) := fun W k => ⟨(k.blk HB.out (fun f => f)).cell 0 rfl, (k.blk HB.out (fun f => f)).cell 1 rfl⟩
  go_cut [6] from 7 to 13 (fun s6 wc => ∃ nb, s6 = .pointer (some ⟨nb, 0, none⟩) ∧ OwnL w0 (s, t) nb wc)
  case first =>
    refine wp_region_noPanic ?_
    refine wp_region_last (L := 8) (S := fun w' => Kept w0 w') (by kernel_rfl) ?_
    have K0 := hid (show Kept w0 w0.drew from (Only.refl _ _).drew)
    refine wpAnyL_take (i := 0) (v := .pointer (some ⟨w.heap.size, 0, none⟩)) rfl (by kernel_rfl) (by kernel_rfl) (by kernel_rfl) (by kernel_rfl) (by kernel_rfl) (fun _ _ _ h => h) (Or.inl ⟨by rfl, ?_⟩) K0.out ?_
    · (intro w' hSw; obtain ⟨s0, s1⟩ := S0.out w' hSw; clear hSw; go_simp)
    (try simp only [List.getElem_toArray, List.getElem_cons_succ, List.getElem_cons_zero])
    go_frame
    refine wpAnyL_take (i := 3) (v := .pointer (some ⟨w.heap.size, 1, none⟩)) rfl (by kernel_rfl) (by kernel_rfl) (by kernel_rfl) (by kernel_rfl) (by kernel_rfl) (fun _ _ _ h => h) (Or.inl ⟨by rfl, ?_⟩) K0.out ?_
    · (intro w' hSw; obtain ⟨s0, s1⟩ := S0.out w' hSw; clear hSw; go_simp)
    (try simp only [List.getElem_toArray, List.getElem_cons_succ, List.getElem_cons_zero])
    go_frame
    refine wpAnyL_take (i := 1) (v := .string s) rfl (by kernel_rfl) (by kernel_rfl) (by kernel_rfl) (by kernel_rfl) (by kernel_rfl) (fun _ _ _ h => h) (Or.inl ⟨by rfl, ?_⟩) K0.out ?_
    · (intro w' hSw; obtain ⟨s0, s1⟩ := S0.out w' hSw; clear hSw; go_simp)
    (try simp only [List.getElem_toArray, List.getElem_cons_succ, List.getElem_cons_zero])
    go_frame
    refine wpAnyL_take (i := 4) (v := .string t) rfl (by kernel_rfl) (by kernel_rfl) (by kernel_rfl) (by kernel_rfl) (by kernel_rfl) (fun _ _ _ h => h) (Or.inl ⟨by rfl, ?_⟩) K0.out ?_
    · (intro w' hSw; obtain ⟨s0, s1⟩ := S0.out w' hSw; clear hSw; go_simp)
    (try simp only [List.getElem_toArray, List.getElem_cons_succ, List.getElem_cons_zero])
    go_frame
    refine wpAnyL_two (i := 2) (j := 7) (by kernel_rfl) rfl rfl (by kernel_rfl) (by kernel_rfl) ?_ ?_
    · go_simp
      refine (HC1.out _).mono ?_
      rintro e w1 ⟨rfl, k1⟩
      have K1 := hid (show Kept w0 w1 from K0.out.trans k1 (fun _ _ f => f))
      refine ⟨K1.out, ?_⟩
      (try go_frame)
      refine wpAnyL_two (i := 5) (j := 7) (by kernel_rfl) rfl rfl (by kernel_rfl) (by kernel_rfl) ?_ ?_
      · go_simp
        refine (HC2.out _).mono ?_
        rintro e w2 ⟨rfl, k2⟩
        have K2 := hid (show Kept w0 w2 from K1.out.trans k2 (fun _ _ f => f))
        refine ⟨K2.out, ?_⟩
        (try go_frame)
        have HS := hid K2.out
        refine wpAnyL_take (i := 6) (v := .agg #[.string s, .string t]) rfl (by kernel_rfl) (by kernel_rfl) (by kernel_rfl) (by kernel_rfl) (by kernel_rfl) (fun _ _ _ h => h) (Or.inl ⟨by rfl, ?_⟩) HS.out ?_
        · (intro w' hSw; go_simp)
        (try simp only [List.getElem_toArray, List.getElem_cons_succ, List.getElem_cons_zero])
        go_frame
        refine wpAnyL_one (i := 7) (by kernel_rfl) rfl rfl ?_
        go_simp
        have HSA := hid (show Kept w0 (w2.alloc (.cells #[.string ⟨#[]⟩, .string ⟨#[]⟩] 43)) from K2.out.alloc _)
        refine ⟨HSA.out, ?_⟩
        (try go_frame)
        have hbx : Blk (w2.alloc (.cells #[.string ⟨#[]⟩, .string ⟨#[]⟩] 43)) w2.heap.size [.string ⟨#[]⟩, .string ⟨#[]⟩] 43 := Blk.new w2 _ _
        have z0 := hbx.cell 0 rfl
        have z1 := hbx.cell 1 rfl
        have g0 := hbx.frozen 0
        have g1 := hbx.frozen 1
        have hlo : w0.heap.size ≤ w2.heap.size := K2.out.size
        have HE := hid (show OwnL w0 (s, t) w2.heap.size (((w2.alloc (.cells #[.string ⟨#[]⟩, .string ⟨#[]⟩] 43)).setCell ⟨w2.heap.size, 0, none⟩ (.string s)).setCell ⟨w2.heap.size, 1, none⟩ (.string t)) from ⟨((HSA.out).setCell (p := ⟨w2.heap.size, 0, none⟩) (fun h => absurd h (Nat.not_lt.2 hlo)) _).setCell (p := ⟨w2.heap.size, 1, none⟩) (fun h => absurd h (Nat.not_lt.2 hlo)) _, (hbx.set 0 _).set 1 _, hlo⟩)
        clear hbx
        generalize (w2.alloc (.cells #[.string ⟨#[]⟩, .string ⟨#[]⟩] 43)) = X at z0 z1 g0 g1 HE ⊢
        refine wpAnyL_last (by kernel_rfl) (by kernel_rfl) rfl rfl ?_
        go_simp
        refine NoPanic.normal ?_
        go_wp2_with fail
        go_meet
        case rel => exact ⟨_, rfl, HE.out⟩
      · go_simp
        have HSA := hid (show Kept w0 (w1.alloc (.cells #[.string ⟨#[]⟩, .string ⟨#[]⟩] 43)) from K1.out.alloc _)
        refine ⟨HSA.out, ?_⟩
        (try go_frame)
        refine wpAnyL_one (i := 5) (by kernel_rfl) rfl rfl ?_
        go_simp
        refine (HC2.out _).mono ?_
        rintro e w2 ⟨rfl, k2⟩
        have K2 := hid (show Kept w0 w2 from HSA.out.trans k2 (fun _ _ f => f))
        refine ⟨K2.out, ?_⟩
        (try go_frame)
        have HS := hid K2.out
        refine wpAnyL_take (i := 6) (v := .agg #[.string s, .string t]) rfl (by kernel_rfl) (by kernel_rfl) (by kernel_rfl) (by kernel_rfl) (by kernel_rfl) (fun _ _ _ h => h) (Or.inl ⟨by rfl, ?_⟩) HS.out ?_
        · (intro w' hSw; go_simp)
        (try simp only [List.getElem_toArray, List.getElem_cons_succ, List.getElem_cons_zero])
        go_frame
        have hbx : Blk w2 w1.heap.size [.string ⟨#[]⟩, .string ⟨#[]⟩] 43 := k2.blk (Blk.new w1 _ _) (fun f => f)
        have z0 := hbx.cell 0 rfl
        have z1 := hbx.cell 1 rfl
        have g0 := hbx.frozen 0
        have g1 := hbx.frozen 1
        have hlo : w0.heap.size ≤ w1.heap.size := K1.out.size
        have HE := hid (show OwnL w0 (s, t) w1.heap.size ((w2.setCell ⟨w1.heap.size, 0, none⟩ (.string s)).setCell ⟨w1.heap.size, 1, none⟩ (.string t)) from ⟨((K2.out).setCell (p := ⟨w1.heap.size, 0, none⟩) (fun h => absurd h (Nat.not_lt.2 hlo)) _).setCell (p := ⟨w1.heap.size, 1, none⟩) (fun h => absurd h (Nat.not_lt.2 hlo)) _, (hbx.set 0 _).set 1 _, hlo⟩)
        clear hbx
        generalize w2 = X at z0 z1 g0 g1 HE ⊢
        refine wpAnyL_last (by kernel_rfl) (by kernel_rfl) rfl rfl ?_
        go_simp
        refine NoPanic.normal ?_
        go_wp2_with fail
        go_meet
        case rel => exact ⟨_, rfl, HE.out⟩
    · go_simp
      have HSA := hid (show Kept w0 (w0.drew.alloc (.cells #[.string ⟨#[]⟩, .string ⟨#[]⟩] 43)) from K0.out.alloc _)
      refine ⟨HSA.out, ?_⟩
      (try go_frame)
      refine wpAnyL_one (i := 2) (by kernel_rfl) rfl rfl ?_
      go_simp
      refine (HC1.out _).mono ?_
      rintro e w1 ⟨rfl, k1⟩
      have K1 := hid (show Kept w0 w1 from HSA.out.trans k1 (fun _ _ f => f))
      refine ⟨K1.out, ?_⟩
      (try go_frame)
      refine wpAnyL_one (i := 5) (by kernel_rfl) rfl rfl ?_
      go_simp
      refine (HC2.out _).mono ?_
      rintro e w2 ⟨rfl, k2⟩
      have K2 := hid (show Kept w0 w2 from K1.out.trans k2 (fun _ _ f => f))
      refine ⟨K2.out, ?_⟩
      (try go_frame)
      have HS := hid K2.out
      refine wpAnyL_take (i := 6) (v := .agg #[.string s, .string t]) rfl (by kernel_rfl) (by kernel_rfl) (by kernel_rfl) (by kernel_rfl) (by kernel_rfl) (fun _ _ _ h => h) (Or.inl ⟨by rfl, ?_⟩) HS.out ?_
      · (intro w' hSw; go_simp)
      (try simp only [List.getElem_toArray, List.getElem_cons_succ, List.getElem_cons_zero])
      go_frame
      have hbx : Blk w2 w0.heap.size [.string ⟨#[]⟩, .string ⟨#[]⟩] 43 := k2.blk (k1.blk (Blk.new w0.drew _ _) (fun f => f)) (fun f => f)
      have z0 := hbx.cell 0 rfl
      have z1 := hbx.cell 1 rfl
      have g0 := hbx.frozen 0
      have g1 := hbx.frozen 1
      have hlo : w0.heap.size ≤ w0.heap.size := Nat.le_refl _
      have HE := hid (show OwnL w0 (s, t) w0.heap.size ((w2.setCell ⟨w0.heap.size, 0, none⟩ (.string s)).setCell ⟨w0.heap.size, 1, none⟩ (.string t)) from ⟨((K2.out).setCell (p := ⟨w0.heap.size, 0, none⟩) (fun h => absurd h (Nat.not_lt.2 hlo)) _).setCell (p := ⟨w0.heap.size, 1, none⟩) (fun h => absurd h (Nat.not_lt.2 hlo)) _, (hbx.set 0 _).set 1 _, hlo⟩)
      clear hbx
      generalize w2 = X at z0 z1 g0 g1 HE ⊢
      refine wpAnyL_last (by kernel_rfl) (by kernel_rfl) rfl rfl ?_
      go_simp
      refine NoPanic.normal ?_
      go_wp2_with fail
      go_meet
      case rel => exact ⟨_, rfl, HE.out⟩
  case rest =>
    obtain ⟨nb, rfl, hL⟩ := hcut
    have KC := hid (show Kept w wc from HK.out.trans hL.1 (fun _ _ f => f))
    obtain ⟨st, w1, g, cap, w2, w4, HR1, HR2, HR3, HF, HO1, HO2⟩ := put_steps HH.out HI.out (s, t) hy i hn hl KC.out
    have hb := hL.2.1
    have hnb : w.heap.size ≤ nb := Nat.le_trans HK.out.size hL.2.2
    have hxb := KC.out.blk HH.out.blk (fun f => f)
    obtain ⟨Q0, hQ0⟩ : ∃ Q0 : World → Prop, Q0 = fun W => W.cell? ⟨x.xb, 1, none⟩ = some (.map (some x.mb)) ∧ W.cell? ⟨nb, 0, none⟩ = some (.string s) ∧ W.cell? ⟨nb, 1, none⟩ = some (.string t) := ⟨_, rfl⟩
    have hq : ∀ W : World, Blk W x.xb [.int .i64 (x.n : Int), .map (some x.mb)] 59 → Blk W nb [.string s, .string t] 43 → Q0 W := fun W h1 h2 => by
      rw [hQ0]
      exact ⟨h1.cell 1 rfl, h2.cell 0 rfl, h2.cell 1 rfl⟩
    have T0 : Hid (∀ W : World, Q0 W → W.cell? ⟨x.xb, 1, none⟩ = some (.map (some x.mb)) ∧ W.cell? ⟨nb, 0, none⟩ = some (.string s) ∧ W.cell? ⟨nb, 1, none⟩ = some (.string t)) := fun W h => by
      rw [hQ0] at h
      exact h
    have HQ0 : Hid (Q0 wc.drew) := hq _ hxb hb
    have x1 := (hxb.alloc (.cells #[.int .i64 i] 3)).drew
    have b1 := (hb.alloc (.cells #[.int .i64 i] 3)).drew
    have HQ1 : Hid (Q0 ((wc.alloc (.cells #[.int .i64 i] 3)).drew)) := hq _ x1 b1
    have x2 := HO1.out.blk x1 (fun e => e.2 rfl)
    have b2 := HO1.out.blk b1 (fun e => by omega)
    have HQ2 : Hid (Q0 w1) := hq _ x2 b2
    have HQ3 : Hid (Q0 w2) := hq _ (HO2.out.blk x2 (fun e => e.2 rfl)) (HO2.out.blk b2 (fun e => by omega))
    have hsl : ∃ a n c, slV (slOf x (s, t)) = .slice a n c := by
      cases slOf x (s, t) with
      | none => exact ⟨_, _, _, rfl⟩
      | some q => exact ⟨_, _, _, rfl⟩
    clear hb hxb hq x1 b1 x2 b2 hL hQ0 HO1 HO2 HB S0 HC1 HC2 hnb
    generalize slV (slOf x (s, t)) = SV at HR1 HR2 hsl
    obtain ⟨sa, sn, sc, rfl⟩ := hsl
    generalize hXB : x.xb = XB at T0 ⊢
    generalize x.mb = MB at T0 HR1 HR3
    clear hXB
    go_wp2_with fail
    refine wp_region_noPanic ?_
    refine wp_region_last (L := 11) (S := fun w' => Q0 w') (by kernel_rfl) ?_
    refine wpAnyL_take (i := 0) (v := .pointer (some ⟨XB, 0, none⟩)) rfl (by kernel_rfl) (by kernel_rfl) (by kernel_rfl) (by kernel_rfl) (by kernel_rfl) (fun _ _ _ h => h) (Or.inl ⟨by rfl, ?_⟩) HQ0.out ?_
    · (intro w' hSw; obtain ⟨s0, s1, s2⟩ := T0.out w' hSw; clear hSw; go_simp)
    (try simp only [List.getElem_toArray, List.getElem_cons_succ, List.getElem_cons_zero])
    go_frame
    refine wpAnyL_take (i := 1) (v := .pointer (some ⟨XB, 0, none⟩)) rfl (by kernel_rfl) (by kernel_rfl) (by kernel_rfl) (by kernel_rfl) (by kernel_rfl) (fun _ _ _ h => h) (Or.inl ⟨by rfl, ?_⟩) HQ0.out ?_
    · (intro w' hSw; obtain ⟨s0, s1, s2⟩ := T0.out w' hSw; clear hSw; go_simp)
    (try simp only [List.getElem_toArray, List.getElem_cons_succ, List.getElem_cons_zero])
    go_frame
    refine wpAnyL_take (i := 2) (v := .pointer (some ⟨XB, 1, none⟩)) rfl (by kernel_rfl) (by kernel_rfl) (by kernel_rfl) (by kernel_rfl) (by kernel_rfl) (fun _ _ _ h => h) (Or.inl ⟨by rfl, ?_⟩) HQ0.out ?_
    · (intro w' hSw; obtain ⟨s0, s1, s2⟩ := T0.out w' hSw; clear hSw; go_simp)
    (try simp only [List.getElem_toArray, List.getElem_cons_succ, List.getElem_cons_zero])
    go_frame
    refine wpAnyL_take (i := 3) (v := .map (some MB)) rfl (by kernel_rfl) (by kernel_rfl) (by kernel_rfl) (by kernel_rfl) (by kernel_rfl) (fun _ _ _ h => h) (Or.inl ⟨by rfl, ?_⟩) HQ0.out ?_
    · (intro w' hSw; obtain ⟨s0, s1, s2⟩ := T0.out w' hSw; clear hSw; go_simp)
    (try simp only [List.getElem_toArray, List.getElem_cons_succ, List.getElem_cons_zero])
    go_frame
    refine wpAnyL_take (i := 4) (v := .agg #[.string s, .string t]) rfl (by kernel_rfl) (by kernel_rfl) (by kernel_rfl) (by kernel_rfl) (by kernel_rfl) (fun _ _ _ h => h) (Or.inl ⟨by rfl, ?_⟩) HQ0.out ?_
    · (intro w' hSw; obtain ⟨s0, s1, s2⟩ := T0.out w' hSw; clear hSw; go_simp)
    (try simp only [List.getElem_toArray, List.getElem_cons_succ, List.getElem_cons_zero])
    go_frame
    refine wpAnyL_take (i := 5) (v := .int .i64 i) rfl (by kernel_rfl) (by kernel_rfl) (by kernel_rfl) (by kernel_rfl) (by kernel_rfl) (fun _ _ _ h => h) (Or.inl ⟨by rfl, ?_⟩) HQ0.out ?_
    · (intro w' hSw; obtain ⟨s0, s1, s2⟩ := T0.out w' hSw; clear hSw; go_simp)
    (try simp only [List.getElem_toArray, List.getElem_cons_succ, List.getElem_cons_zero])
    go_frame
    refine wpAnyL_one (i := 6) (by kernel_rfl) rfl rfl ?_
    go_simp
    refine ⟨HQ1.out, ?_⟩
    (try go_frame)
    refine wpAnyL_one (i := 7) (by kernel_rfl) rfl rfl ?_
    have hr1 := HR1.out
    go_simp
    clear hr1
    refine ⟨HQ2.out, ?_⟩
    (try go_frame)
    refine wpAnyL_take (i := 8) (v := .slice sa sn sc) rfl (by kernel_rfl) (by kernel_rfl) (by kernel_rfl) (by kernel_rfl) (by kernel_rfl) (fun _ _ _ h => h) (Or.inl ⟨by rfl, ?_⟩) HQ2.out ?_
    · (intro w' hSw; go_simp)
    (try simp only [List.getElem_toArray, List.getElem_cons_succ, List.getElem_cons_zero])
    go_frame
    refine wpAnyL_take (i := 10) (v := .int .i64 st) rfl (by kernel_rfl) (by kernel_rfl) (by kernel_rfl) (by kernel_rfl) (by kernel_rfl) (fun _ _ _ h => h) (Or.inl ⟨by rfl, ?_⟩) HQ2.out ?_
    · (intro w' hSw; go_simp)
    (try simp only [List.getElem_toArray, List.getElem_cons_succ, List.getElem_cons_zero])
    go_frame
    refine wpAnyL_one (i := 9) (by kernel_rfl) rfl rfl (oper_appendH _ _ _ rfl rfl rfl HR2 ?_)
    refine ⟨HQ3.out, ?_⟩
    go_frame
    have hr3 := HR3.out
    refine wpAnyL_last (by kernel_rfl) (by kernel_rfl) rfl rfl ?_
    go_simp
    clear hr3
    refine NoPanic.normal ?_
    go_wp2_with fail
    go_end0
    exact ⟨_, rfl, HF.out.1, HF.out.2⟩
end Go.Proofs.YteknpfldemgmnaaGreat.X
