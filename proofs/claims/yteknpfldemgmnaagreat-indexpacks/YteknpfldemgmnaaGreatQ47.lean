/-
  Xread.
-/
import Derived.Test.YteknpfldemgmnaaGreatQ20
import Derived.Test.YteknpfldemgmnaaGreatQ46

/-
  The reader of an index' bytes: take, number, text, list.
-/
namespace Go.Proofs.YteknpfldemgmnaaGreat.X
open Go.RowKit Go.Proofs.Lys Go.Maps Go.Proofs.YteknpfldemgmnaaGreat.N
set_option linter.unusedVariables false
set_option linter.unusedSimpArgs false

/-- A reader over bytes of an elder world: its block, and what is left. -/
structure RdAt (w0 w : World) (R : Nat) (v : Value) (bs : List UInt8) : Prop where
  blk : Blk w R [v] 102
  src : Po.BSrc w0 v bs
  kept : Kept w0 w
  le : w0.heap.size ≤ R
theorem RdAt.stay {w0 w W : World} {R : Nat} {v : Value} {bs : List UInt8} (h : RdAt w0 w R v bs) (k : Kept w W) : RdAt w0 W R v bs := ⟨k.blk h.blk (fun f => f), h.src, h.kept.trans k (fun _ _ f => f), h.le⟩
theorem bsrc_to {w : World} {v : Value} {bs : List UInt8} (h : Po.BSrc w v bs) {n : Nat} (hn : n ≤ bs.length) :
    ∃ a c, (∀ W, (Instr.sliceAt 30 v none (some (.int .i64 (n : Int))) none).run Tryz.prog W = .ok (.slice a n c) W) ∧ Po.BSrc w (.slice a n c) (bs.take n) := by
  obtain ⟨hs, a, c, rfl, hc⟩ := h
  have hzB : ∀ W : World, (sizeOf 5).run Tryz.prog W = .ok 1 W := fun W => by kernel_rfl
  have e2 : n ≤ c := by omega
  have hlt : (bs.take n).length = n := by rw [List.length_take]; omega
  cases a with
  | none =>
    have hb0 : bs = [] := by
      rcases hs.shape with ⟨h1, _⟩ | ⟨_, b, o, c2, e, _⟩
      · exact List.map_eq_nil_iff.1 h1
      · cases e
    subst hb0
    have hn0 : n = 0 := by simpa using hn
    subst hn0
    refine ⟨none, c, fun W => ?_, .inl ⟨?_, rfl⟩, none, c, rfl, Nat.zero_le _⟩
    · simp [Instr.sliceAt, Instr.slice, Instr.sliceBounds, Instr.sliceBound, run_underlying Tryz.underlying30, asIntOf, Result.andThen, hzB]
    · rcases hs with ⟨h1, _⟩ | ⟨a, c2, e, _⟩
      · exact h1
      · cases e
  | some a =>
    refine ⟨some a, c, fun W => ?_, .inr ⟨a, c, by rw [List.length_map, hlt], fun j u hu => ?_⟩, some a, c, by rw [hlt], by rw [hlt]; exact e2⟩
    · obtain ⟨b, o, s⟩ := a
      simp [Instr.sliceAt, Instr.slice, Instr.sliceBounds, Instr.sliceBound, run_underlying Tryz.underlying30, asIntOf, e2, Result.andThen, hzB, Addr.add]
    · rcases hs with ⟨h1, h2⟩ | ⟨a', c2, e, hcell⟩
      · have : bs = [] := List.map_eq_nil_iff.1 h2
        rw [this] at hu
        simp at hu
      · simp only [Value.slice.injEq, Option.some.injEq] at e
        rw [e.1]
        refine hcell j u ?_
        rw [List.map_take, List.getElem?_take] at hu
        split at hu
        · exact hu
        · cases hu
theorem take_no (w0 w : World) (R : Nat) (v : Value) (bs : List UInt8) (h : RdAt w0 w R v bs) (n : Int) (hn : (bs.length : Int) < n) :
    Calls Tryz.prog 81 #[.pointer (some ⟨R, 0, none⟩), .int .i64 n] w fun e w' => e = gave 5 ∧ w' = w := by
  have HY := hid (refuse_yes 5 w)
  have c0 := h.blk.cell 0 rfl
  obtain ⟨a, c, rfl, _⟩ := h.src.2
  have d1 : decide ((bs.length : Int) < n) = true := decide_eq_true (by omega)
  generalize bs.length = M at *
  clear h
  go_enter Tryz.func81, Tryz.ntmps81
  go_wp2_with fail
  refine HY.out.mono ?_
  rintro e w' ⟨rfl, rfl⟩
  exact ⟨rfl, rfl, rfl⟩
/-- What take tells. -/
def TakeP (w0 w : World) (R : Nat) (bs : List UInt8) (n : Nat) (e : Ending) (w' : World) : Prop := ∃ u v', e = .returned u ∧ Po.BSrc w0 u (bs.take n) ∧ RdAt w0 w' R v' (bs.drop n) ∧ Only (fun j => j = R) w w'
set_option maxRecDepth 100000 in
set_option maxHeartbeats 800000 in
theorem take_yes (w0 w : World) (R : Nat) (v : Value) (bs : List UInt8) (h : RdAt w0 w R v bs) (n : Nat) (hn : n ≤ bs.length) :
    Calls Tryz.prog 81 #[.pointer (some ⟨R, 0, none⟩), .int .i64 (n : Int)] w (TakeP w0 w R bs n) := by
  have HN := hid (refuse_no 5 w)
  have c0 := h.blk.cell 0 rfl
  have f0 := h.blk.frozen 0
  obtain ⟨a1, c1, s1, b1⟩ := bsrc_to h.src hn
  obtain ⟨a2, c2, s2, b2⟩ := h.src.tail hn
  have HF : Hid (TakeP w0 w R bs n (.returned (.slice a1 n c1)) (w.setCell ⟨R, 0, none⟩ (.slice a2 (bs.length - n) c2))) :=
    ⟨_, _, rfl, b1, ⟨h.blk.set 0 _, b2, h.kept.setCell (p := ⟨R, 0, none⟩) (fun hl => by have := h.le; have : R < w0.heap.size := hl; omega) _, h.le⟩, (Only.refl (fun j => j = R) w).setCell (p := ⟨R, 0, none⟩) (fun _ => rfl) _⟩
  obtain ⟨a, c, rfl, _⟩ := h.src.2
  have d1 : decide (bs.length < n) = false := decide_eq_false (by omega)
  have d2 : ¬ bs.length < n := by omega
  generalize hM : bs.length = M at c0 d1 d2 s1 s2 HF
  generalize M - n = MN at s2 HF
  clear h b1 b2 hn hM
  go_enter Tryz.func81, Tryz.ntmps81
  go_wp2_with fail
  refine HN.out.mono ?_
  rintro e w' ⟨rfl, hw⟩
  replace hw := hw.symm
  subst hw
  go_wp2
  go_ret
  exact HF.out
/-- The number that stands at the beginning, and its bytes; 63 bits at most. -/
def numR (bs : List UInt8) : Option (Nat × Nat) := if (getA bs 0 0).2.2 = 0 ∧ (getA bs 0 0).1 < 9223372036854775808 then some ((getA bs 0 0).1, (getA bs 0 0).2.1) else none
def NumP (w0 w : World) (R : Nat) (bs : List UInt8) (e : Ending) (w' : World) : Prop :=
  (numR bs = none ∧ e = gave 5 ∧ w' = w) ∨ ∃ n k v', numR bs = some (n, k) ∧ e = .returned (.int .i64 (n : Int)) ∧ RdAt w0 w' R v' (bs.drop k) ∧ Only (fun j => j = R) w w'
theorem numR_le {bs : List UInt8} {n k : Nat} (h : numR bs = some (n, k)) : k ≤ bs.length ∧ n < 9223372036854775808 := by
  unfold numR at h
  split at h
  · rename_i hc
    cases h
    refine ⟨?_, hc.2⟩
    rcases Po.getA_cases bs 0 0 (by decide) (by decide) with e | ⟨u, k, e, _, hk⟩
    · rw [e]; exact Nat.zero_le _
    · rw [e]; show k ≤ _; omega
  · cases h
set_option maxRecDepth 100000 in
set_option maxHeartbeats 1600000 in
theorem number_any (w0 w : World) (R : Nat) (v : Value) (bs : List UInt8) (h : RdAt w0 w R v bs) (hl : bs.length ≤ 1000000) :
    Calls Tryz.prog 54 #[.pointer (some ⟨R, 0, none⟩)] w (NumP w0 w R bs) := by
  have HG := hid (U.get_any w v bs ((h.src.stay h.kept).1) hl)
  have c0 := h.blk.cell 0 rfl
  have HR := hid (refuse_no 5 w)
  have HY := hid (refuse_yes 5 w)
  have HT := hid (fun n (hn : n ≤ bs.length) => take_yes w0 w R v bs h n hn)
  obtain ⟨a, c, rfl, _⟩ := h.src.2
  have hcs := Po.getA_cases bs 0 0 (by decide) (by decide)
  have hnum : numR bs = if (getA bs 0 0).2.2 = 0 ∧ (getA bs 0 0).1 < 9223372036854775808 then some ((getA bs 0 0).1, (getA bs 0 0).2.1) else none := rfl
  clear h
  rcases hcs with e0 | ⟨u, k, e0, hu, hk⟩
  · rw [e0] at HG hnum
    have hno : numR bs = none := by rw [hnum]; rfl
    have HF : Hid (NumP w0 w R bs (gave 5) w) := .inl ⟨hno, rfl, rfl⟩
    have hgot : U.got (0, 0, 5) = .tuple #[.int .i64 0, .int .i64 0, .int .i64 5] := by
      unfold U.got
      rw [show wrap64 ((0 : Nat) : Int) = 0 by unfold wrap64; omega]
      rfl
    rw [hgot] at HG
    generalize bs.length = M at *
    clear hnum e0 hno HT hgot
    go_enter Tryz.func54, Tryz.ntmps54
    go_wp2_with fail
    refine HG.out.mono ?_
    rintro e w' ⟨rfl, hw⟩
    replace hw := hw.symm
    subst hw
    go_wp2_with fail
    refine HY.out.mono ?_
    rintro e w' ⟨rfl, hw⟩
    replace hw := hw.symm
    subst hw
    exact ⟨rfl, HF.out⟩
  · rw [e0] at HG hnum
    by_cases h63 : u < 9223372036854775808
    · have hyes : numR bs = some (u, k) := by rw [hnum, if_pos ⟨rfl, h63⟩]
      have hw64 : wrap64 (u : Int) = (u : Int) := by unfold wrap64; omega
      have HTK := hid (HT.out k (by omega))
      have HF : Hid (∀ w', (∃ v', RdAt w0 w' R v' (bs.drop k) ∧ Only (fun j => j = R) w w') → NumP w0 w R bs (.returned (.int .i64 (u : Int))) w') := fun w' hx => by
        obtain ⟨v', h1, h2⟩ := hx
        exact .inr ⟨u, k, v', hyes, rfl, h1, h2⟩
      have hu0 : ¬ (u : Int) < 0 := by omega
      have hgot : U.got (u, k, 0) = .tuple #[.int .i64 (u : Int), .int .i64 (k : Int), .int .i64 0] := by
        unfold U.got
        rw [hw64]
        rfl
      rw [hgot] at HG
      generalize bs.length = M at *
      clear hnum e0 hyes HT hw64 hgot
      go_enter Tryz.func54, Tryz.ntmps54
      go_wp2_with fail
      refine HG.out.mono ?_
      rintro e w' ⟨rfl, hw⟩
      replace hw := hw.symm
      subst hw
      go_wp2_with fail
      refine HR.out.mono ?_
      rintro e w' ⟨rfl, hw⟩
      replace hw := hw.symm
      subst hw
      go_wp2_with fail
      refine HTK.out.mono ?_
      rintro e w2 ⟨u2, v2, rfl, _, hrd, hon⟩
      have HF2 := hid (HF.out w2 ⟨v2, hrd, hon⟩)
      clear hrd hon
      go_wp2
      go_ret
      exact HF2.out
    · have hno : numR bs = none := by rw [hnum, if_neg (fun hx => h63 hx.2)]
      have HF : Hid (NumP w0 w R bs (gave 5) w) := .inl ⟨hno, rfl, rfl⟩
      have hw64 : wrap64 (u : Int) < 0 := by unfold wrap64; omega
      have hgot : U.got (u, k, 0) = .tuple #[.int .i64 (wrap64 (u : Int)), .int .i64 (k : Int), .int .i64 0] := rfl
      rw [hgot] at HG
      generalize wrap64 (u : Int) = U0 at HG hw64
      generalize bs.length = M at *
      clear hnum e0 hno HT hgot
      go_enter Tryz.func54, Tryz.ntmps54
      go_wp2_with fail
      refine HG.out.mono ?_
      rintro e w' ⟨rfl, hw⟩
      replace hw := hw.symm
      subst hw
      go_wp2_with fail
      refine HY.out.mono ?_
      rintro e w' ⟨rfl, hw⟩
      replace hw := hw.symm
      subst hw
      exact ⟨rfl, HF.out⟩
theorem conv_bytes {w : World} {v : Value} {bs : List UInt8} (h : SrcOf w v (bs.map bV)) : (convert 30 9 v).run Tryz.prog w = .ok (.string (mkB bs)) w := by
  rcases h with ⟨rfl, e⟩ | ⟨a, c, rfl, hc⟩
  · have : bs = [] := List.map_eq_nil_iff.1 e
    subst this
    exact run_convert_bytes_nil (P := Tryz.prog) w 30 5 Tryz.underlying30 Tryz.underlying5 0 0 9 Tryz.underlying9
  · rw [List.length_map]
    refine run_convert_bytes_back (P := Tryz.prog) w 30 9 5 a c bs Tryz.underlying30 Tryz.underlying5 Tryz.underlying9 (fun j hj => ?_)
    exact hc j _ (by rw [List.getElem?_map, List.getElem?_eq_getElem hj]; rfl)

/-- The text that stands at the beginning, and what is behind it. -/
def txtR (bs : List UInt8) : Option (List UInt8 × List UInt8) := match numR bs with
  | none => none
  | some (n, k) => if n ≤ (bs.drop k).length then some ((bs.drop k).take n, (bs.drop k).drop n) else none
def TxtP (w0 w : World) (R : Nat) (bs : List UInt8) (e : Ending) (w' : World) : Prop :=
  (txtR bs = none ∧ e = gave 5 ∧ Only (fun j => j = R) w w') ∨ ∃ s r v', txtR bs = some (s, r) ∧ e = .returned (.string (mkB s)) ∧ RdAt w0 w' R v' r ∧ Only (fun j => j = R) w w'
set_option maxRecDepth 100000 in
set_option maxHeartbeats 1600000 in
theorem rtext_ix (w0 w : World) (R : Nat) (v : Value) (bs : List UInt8) (h : RdAt w0 w R v bs) (hl : bs.length ≤ 1000000) :
    Calls Tryz.prog 55 #[.pointer (some ⟨R, 0, none⟩)] w (TxtP w0 w R bs) := by
  have HN := hid (number_any w0 w R v bs h hl)
  clear h
  cases hnum : numR bs with
  | none =>
    have HF : Hid (∀ w', Only (fun j => j = R) w w' → TxtP w0 w R bs (gave 5) w') := fun w' k => .inl ⟨by unfold txtR; rw [hnum], rfl, k⟩
    have HNM := hid hnum
    clear hnum
    go_enter Tryz.func55, Tryz.ntmps55
    go_wp2_with fail
    refine HN.out.mono ?_
    intro e w1 h1
    obtain ⟨_, rfl, hw⟩ | ⟨n, k, v', h2, _⟩ := h1
    · replace hw := hw.symm
      subst hw
      exact ⟨rfl, HF.out _ (Only.refl _ _)⟩
    · have := HNM.out
      rw [this] at h2
      cases h2
  | some nk =>
    obtain ⟨n, k⟩ := nk
    have hle := numR_le hnum
    have HNM := hid hnum
    have HTX : Hid (txtR bs = if n ≤ (bs.drop k).length then some ((bs.drop k).take n, (bs.drop k).drop n) else none) := by
      show txtR bs = _
      unfold txtR
      rw [hnum]
    have hdl : (bs.drop k).length ≤ 1000000 := by rw [List.length_drop]; omega
    clear hnum
    go_enter Tryz.func55, Tryz.ntmps55
    go_wp2_with fail
    refine HN.out.mono ?_
    intro e w1 h1
    obtain ⟨h2, _⟩ | ⟨n', k', v', h2, rfl, hrd, hon⟩ := h1
    · have := HNM.out
      rw [this] at h2
      cases h2
    · have hx := HNM.out
      rw [hx] at h2
      cases h2
      have HON := hid hon
      have HRD := hid hrd
      clear hrd hon hx
      generalize bs.drop k = ds at *
      by_cases hn : n ≤ ds.length
      · have HT := hid (take_yes w0 w1 R v' ds HRD.out n hn)
        have HFY : Hid (∀ w' v2, RdAt w0 w' R v2 (ds.drop n) → Only (fun j => j = R) w1 w' → TxtP w0 w R bs (.returned (.string (mkB (ds.take n)))) w') := fun w' v2 h3 h4 =>
          .inr ⟨_, _, v2, by rw [HTX.out, if_pos hn], rfl, h3, HON.out.trans h4 (fun _ _ e => e)⟩
        have htl : (ds.take n).length = n := by rw [List.length_take]; omega
        go_wp2_with fail
        refine HT.out.mono ?_
        rintro e w2 ⟨u, v2, rfl, hbu, hrd, hon2⟩
        have hcv := conv_bytes (hbu.stay hrd.kept).1
        have HF2 := hid (HFY.out w2 v2 hrd hon2)
        obtain ⟨ua, uc, ue, _⟩ := hbu.2
        rw [htl] at ue
        subst ue
        generalize mkB (ds.take n) = TX at hcv HF2
        clear hbu hrd hon2 HT HFY
        go_wp2
        go_ret
        exact HF2.out
      · have HT := hid (take_no w0 w1 R v' ds HRD.out (n : Int) (by omega))
        have HFN := hid (show TxtP w0 w R bs (gave 5) w1 from .inl ⟨by rw [HTX.out, if_neg hn], rfl, HON.out⟩)
        go_wp2_with fail
        refine HT.out.mono ?_
        rintro e w2 ⟨rfl, hw⟩
        replace hw := hw.symm
        subst hw
        exact ⟨rfl, HFN.out⟩
def LstP (w0 w : World) (R : Nat) (bs : List UInt8) (e : Ending) (w' : World) : Prop :=
  (Po.readR bs = none ∧ e = gave 5 ∧ Only (fun j => j = R) w w') ∨ ∃ u l k v', Po.readR bs = some (l, k) ∧ e = .returned u ∧ w'.ownsRow w.heap.size 3 1 u l.length (l.map (Value.int .i64)) ∧ RdAt w0 w' R v' (bs.drop k) ∧ Only (fun j => j = R) w w'
set_option maxRecDepth 100000 in
set_option maxHeartbeats 1600000 in
theorem list_ix (w0 w : World) (R : Nat) (v : Value) (bs : List UInt8) (h : RdAt w0 w R v bs) (hl : bs.length ≤ 1000000) (hk : ∀ l k, Po.readR bs = some (l, k) → k ≤ bs.length) :
    Calls Tryz.prog 56 #[.pointer (some ⟨R, 0, none⟩)] w (LstP w0 w R bs) := by
  have HU := hid (Po.unpack_any w v bs (h.src.stay h.kept) hl)
  have c0 := h.blk.cell 0 rfl
  have HRD := hid h
  have HR := hid (fun W => refuse_no 5 W)
  have HY := hid (fun W => refuse_yes 5 W)
  obtain ⟨a, c, rfl, _⟩ := h.src.2
  have HK := hid hk
  generalize hM : bs.length = M at *
  clear h hk
  go_enter Tryz.func56, Tryz.ntmps56
  go_wp2_with fail
  refine HU.out.mono ?_
  rintro e w1 ⟨k1, h1⟩
  obtain ⟨hno, rfl⟩ | ⟨u, l, k, hyes, rfl, hat⟩ := h1
  · have HF := hid (show LstP w0 w R bs (gave 5) w1 from .inl ⟨hno, rfl, k1.mono (fun _ _ f => f.elim)⟩)
    clear hno k1
    go_wp2_with fail
    refine (HY.out w1).mono ?_
    rintro e w' ⟨rfl, hw⟩
    replace hw := hw.symm
    subst hw
    exact ⟨rfl, HF.out⟩
  · have HT := hid (take_yes w0 w1 R _ bs (HRD.out.stay k1) k (by rw [hM]; exact HK.out l k hyes))
    have HAT := hid hat
    have K1 := hid k1
    have HYS := hid hyes
    have hwR := HRD.out.blk.lt
    obtain ⟨ua, uc, ue⟩ := ownN_slice hat
    generalize hLN : l.length = LN at ue
    subst ue
    clear hat k1 hyes
    go_wp2_with fail
    refine (HR.out w1).mono ?_
    rintro e w' ⟨rfl, hw⟩
    replace hw := hw.symm
    subst hw
    go_wp2_with fail
    refine HT.out.mono ?_
    rintro e w2 ⟨u2, v2, rfl, _, hrd, hon⟩
    have HF := hid (show LstP w0 w R bs (.returned (.slice ua LN uc)) w2 from .inr ⟨_, l, k, v2, HYS.out, rfl, ownN_only HAT.out hon (fun b hb e => by have := (ownN_lt HAT.out hb).1; omega), hrd, (K1.out.mono (O' := fun j => j = R) (fun _ _ f => f.elim)).trans hon (fun _ _ e => e)⟩)
    clear hrd hon
    go_wp2
    go_ret
    exact HF.out
end Go.Proofs.YteknpfldemgmnaaGreat.X
