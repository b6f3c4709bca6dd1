/-
  Package manifest: read takes bytes apart.
-/
import Derived.Test.YtjifcgphlidimaaDoorJrf
import Derived.Test.YtjifcgphlidimaaDoorJcut
import Derived.Test.YtjifcgphlidimaaDoorJpack
namespace Go.Proofs.YtjifcgphlidimaaDoor.J
open Go Go.RowKit Go.Proofs.Lys
set_option linter.unusedVariables false
set_option linter.unusedSimpArgs false

theorem Tryd.sizeMan1 : (Tryd.prog.info? 24).map (·.size) = some 4 := by kernel_rfl
theorem results_cell_one {P : Program} {fn : Func} {p : Tmp} {ty : TypeId} (h : fn.results = #[.cell p ty]) (tmps : Array Value) (w : World) (g : Nat) (t : TypeId) (cs : Array Value) (fr : Nat × Nat) (d : TypeDesc)
    (hp : tmps.getD p undef = .pointer (some ⟨g, 0, none⟩)) (hg : w.heap[g]? = some (.cells cs t fr))
    (hu : P.underlying ty = some d) (hd : (match d with | .struct _ | .array _ _ => true | _ => false) = true) (hi : (P.info? ty).map (·.size) = some cs.size) :
    (results fn tmps).run P w = .ok (.agg cs) w := by
  have hp' : tmps[p]?.getD undef = .pointer (some ⟨g, 0, none⟩) := by simpa using hp
  simp [results, h, hp', asAddr, run_loadVar_row w g t ty cs fr d hg hu hd hi]
theorem ret_man1 {fn : Func} {p : Tmp} (h : fn.results = #[.cell p 24]) {R : Ending → World → Prop} {tmps : Array Value} {w : World} {g : Nat} {c0 c1 c2 c3 : Value}
    (hp : tmps.getD p undef = .pointer (some ⟨g, 0, none⟩)) (hb : Blk w g [c0, c1, c2, c3] 24) (hF : R (.returned (.agg #[c0, c1, c2, c3])) w) :
    bodyPost Tryd.prog fn R .ret { tmps := tmps, defers := [] } w :=
  bodyPost_ret (v := .agg #[c0, c1, c2, c3]) (results_cell_one h tmps w g 24 #[c0, c1, c2, c3] (0, 0) _ hp hb Tryd.underlying24 rfl Tryd.sizeMan1) rfl hF
theorem kset4 (w : World) (b : Nat) (v0 v1 v2 v3 : Value) {w0 : World} (k : Kept w0 w) (hb : w0.heap.size ≤ b) : Kept w0 ((((w.setCell ⟨b, 0, none⟩ v0).setCell ⟨b, 1, none⟩ v1).setCell ⟨b, 2, none⟩ v2).setCell ⟨b, 3, none⟩ v3) :=
  (((k.setCell (fun h => by simp at h; omega) _).setCell (fun h => by simp at h; omega) _).setCell (fun h => by simp at h; omega) _).setCell (fun h => by simp at h; omega) _
theorem kset4_row {w : World} {b B : Nat} {v : Value} {l : List Rf} (h : RfAt w B v l) (v0 v1 v2 v3 : Value) (hb : ∀ q, v.ownBlock = some q → q ≠ b) : RfAt ((((w.setCell ⟨b, 0, none⟩ v0).setCell ⟨b, 1, none⟩ v1).setCell ⟨b, 2, none⟩ v2).setCell ⟨b, 3, none⟩ v3) B v l := by
  refine ownN_block h (fun q hq => ?_)
  have hne : ∀ p : Addr, p.block = b → q ≠ p.block := fun p hp => by rw [hp]; exact hb q hq
  rw [Below.heap_setCell _ _ _ q (hne _ rfl), Below.heap_setCell _ _ _ q (hne _ rfl), Below.heap_setCell _ _ _ q (hne _ rfl), Below.heap_setCell _ _ _ q (hne _ rfl)]
theorem RdJ.only {w0 w w1 : World} {R : Nat} {v : Value} {bs : List UInt8} {O : Nat → Prop} (h : RdJ w0 w R v bs) (k : Only O w w1) (hR : ¬ O R) (hO : ∀ j, O j → w0.heap.size ≤ j) : RdJ w0 w1 R v bs :=
  ⟨Only.blk k h.blk hR, h.src, h.kept.trans k (fun j hj e => by have := hO j e; omega), h.le⟩
/-- What read leaves. -/
def ReadJ (w : World) (bs : List UInt8) (e : Ending) (w' : World) : Prop :=
  Kept w w' ∧ ((readA bs = none ∧ e = gaveJ) ∨ ∃ m a c, readA bs = some m ∧ e = .returned (manV (.slice a m.bl.length c) m) ∧ RfAt w' w.heap.size (.slice a m.bl.length c) m.bl)
theorem mark_bsrc (w : World) : G.BSrc (w.alloc (.cells #[.int .u8 76, .int .u8 89, .int .u8 83, .int .u8 77] 5 (4, 5))) (.slice (some ⟨w.heap.size, 0, none⟩) 4 4) markA :=
  G.lit_bsrc markA w (vs := #[.int .u8 76, .int .u8 89, .int .u8 83, .int .u8 77]) (fz := (4, 5)) rfl
theorem refsA_len {n : Nat} : ∀ {bs : List UInt8} {l : List Rf} {r : List UInt8}, refsA n bs = some (l, r) → l.length = n := by
  induction n with
  | zero => intro bs l r h; rw [refsA] at h; injection h with h; injection h with h _; rw [← h]; rfl
  | succ n ih =>
    intro bs l r h
    rw [refsA] at h
    cases hx : refA bs with
    | none => rw [hx] at h; cases h
    | some x =>
      rw [hx] at h
      simp only [Option.bind_some] at h
      cases hy : refsA n x.2 with
      | none => rw [hy] at h; cases h
      | some y =>
        rw [hy] at h
        simp only [Option.bind_some] at h
        injection h with h
        injection h with h _
        rw [← h, List.length_cons, ih (show refsA n x.2 = some (y.1, y.2) from hy)]
theorem refA_len {bs r : List UInt8} {x : Rf} (h : refA bs = some (x, r)) : r.length ≤ bs.length := by
  unfold refA at h
  cases h1 : numA bs with
  | none => rw [h1] at h; cases h
  | some a =>
    rw [h1] at h; simp only [Option.bind_some] at h
    cases h2 : numA a.2 with
    | none => rw [h2] at h; cases h
    | some b =>
      rw [h2] at h; simp only [Option.bind_some] at h
      cases h3 : sgnA b.2 with
      | none => rw [h3] at h; cases h
      | some c =>
        rw [h3] at h; simp only [Option.bind_some] at h
        cases h4 : sgnA c.2 with
        | none => rw [h4] at h; cases h
        | some d =>
          rw [h4] at h; simp only [Option.bind_some] at h
          injection h with h
          injection h with _ h
          have e1 := numA_len (show numA bs = some (a.1, a.2) from h1)
          have e2 := numA_len (show numA a.2 = some (b.1, b.2) from h2)
          have e3 := sgnA_len (show sgnA b.2 = some (c.1, c.2) from h3)
          have e4 := sgnA_len (show sgnA c.2 = some (d.1, d.2) from h4)
          rw [← h]
          omega
theorem ownA_len {bs r : List UInt8} {x : Int × Int × Int} (h : ownA bs = some (x, r)) : r.length ≤ bs.length := by
  unfold ownA at h
  cases h1 : numA bs with
  | none => rw [h1] at h; cases h
  | some a =>
    rw [h1] at h; simp only [Option.bind_some] at h
    cases h2 : numA a.2 with
    | none => rw [h2] at h; cases h
    | some b =>
      rw [h2] at h; simp only [Option.bind_some] at h
      cases h3 : sgnA b.2 with
      | none => rw [h3] at h; cases h
      | some c =>
        rw [h3] at h; simp only [Option.bind_some] at h
        injection h with h
        injection h with _ h
        have e1 := numA_len (show numA bs = some (a.1, a.2) from h1)
        have e2 := numA_len (show numA a.2 = some (b.1, b.2) from h2)
        have e3 := sgnA_len (show sgnA b.2 = some (c.1, c.2) from h3)
        rw [← h]
        omega

set_option maxRecDepth 100000 in
set_option maxHeartbeats 3200000 in
theorem read_any (w : World) (v : Value) (bs : List UInt8) (hs : G.BSrc w v bs) (hl : bs.length ≤ 90000) : Calls Tryd.prog 28 #[v] w (ReadJ w bs) := by
  obtain ⟨PQ, hPQ⟩ : ∃ PQ, ReadJ w bs = PQ := ⟨_, rfl⟩
  rw [hPQ]
  have HPQ := hid hPQ
  have HS := hid hs
  have HL := hid hl
  have hmf : ∀ (fn : Fn) (first cap : Array Value) (w : World), (Instr.makeFunc fn first cap).run Tryd.prog w = .ok (.func fn first cap) w := fun _ _ _ _ => rfl
  have hnot : ∀ (x : Bool) (w : World), (Op.unary .not (.bool x)).run Tryd.prog w = .ok (.bool (!x)) w := fun _ _ => rfl
  obtain ⟨w1, hw1⟩ : ∃ w1, w.alloc (.cells #[.slice none 0 0, .int .i64 0, .int .i64 0, .int .i64 0] 24) = w1 := ⟨_, rfl⟩
  have k1 : Kept w w1 := by rw [← hw1]; exact (Only.refl _ w).alloc _
  have hb1 : Blk w1 w.heap.size [.slice none 0 0, .int .i64 0, .int .i64 0, .int .i64 0] 24 := by rw [← hw1]; exact Blk.new w _ _
  have hz1 : w1.heap.size = w.heap.size + 1 := by rw [← hw1]; simp
  have hcv : (convert 28 28 (.slice (some ⟨w1.heap.size, 0, none⟩) 4 4)).run Tryd.prog (w1.alloc (.cells #[.int .u8 76, .int .u8 89, .int .u8 83, .int .u8 77] 5)) = .ok (.slice (some ⟨w1.heap.size, 0, none⟩) 4 4) (w1.alloc (.cells #[.int .u8 76, .int .u8 89, .int .u8 83, .int .u8 77] 5 (4, 5))) := Lib.run_convert_bytes_const (P := Tryd.prog) w1 28 5 #[.int .u8 76, .int .u8 89, .int .u8 83, .int .u8 77] 4 4 Tryd.underlying28 Tryd.underlying5
  rw [hz1] at hcv
  obtain ⟨w2, hw2⟩ : ∃ w2, w1.alloc (.cells #[.int .u8 76, .int .u8 89, .int .u8 83, .int .u8 77] 5 (4, 5)) = w2 := ⟨_, rfl⟩
  have k2 : Kept w1 w2 := by rw [← hw2]; exact (Only.refl _ w1).alloc _
  have hz2 : w2.heap.size = w1.heap.size + 1 := by rw [← hw2]; simp
  have hmk : G.BSrc w2 (.slice (some ⟨w.heap.size + 1, 0, none⟩) 4 4) markA := by rw [← hw2, ← hz1]; exact mark_bsrc w1
  have HCP := hid (cutprefix_any (hs.stay (k1.trans k2 (fun _ _ f => f))) hmk)
  have HY := hid (jrefuse_yes w2)
  have HN := hid (jrefuse_no w2)
  have HK2 := hid (k1.trans k2 (fun _ _ f => f))
  have HB2 := hid (Only.blk k2 hb1 (fun f => f))
  have HZ1 := hid hz1
  have HZ2 := hid hz2
  have HW1 := hid hw1
  have HW2 := hid hw2
  obtain ⟨x0, y0, e0⟩ := hs.len
  generalize hLL : bs.length = LL at e0
  have HLL := hid hLL
  subst e0
  clear hs hl hPQ hw1 k1 hb1 hz1 hw2 k2 hz2 hmk hLL
  go_enter Tryd.func28, Tryd.ntmps28
  go_wp2_with fail
  rw [HW1.out, hcv, HW2.out]
  go_simp
  go_wp2_with fail
  refine HCP.out.mono ?_
  rintro e w3 ⟨hw, ⟨hp, u, rfl, hu⟩ | ⟨hp, rfl⟩⟩
  · replace hw := hw.symm
    subst hw
    obtain ⟨a3, c3, e3⟩ := hu.len
    have HU := hid hu
    have HP := hid (show bs.take 4 = markA from hp)
    generalize hN3 : (bs.drop markA.length).length = N3 at e3
    have HN3 := hid hN3
    subst e3
    clear hp hu HCP hcv hN3
    go_wp2_with fail
    refine HN.out.mono ?_
    rintro e w4 ⟨rfl, hw⟩
    replace hw := hw.symm
    subst hw
    go_wp2_with fail
    obtain ⟨wA, hwA⟩ : ∃ wA, (w2.alloc (.cells #[.slice a3 N3 c3] 78)).alloc (.cells #[.slice none 0 0, .int .i64 0, .int .i64 0, .int .i64 0] 24) = wA := ⟨_, rfl⟩
    have hRA : RdJ w2 wA w2.heap.size (.slice a3 N3 c3) (bs.drop 4) := by
      rw [← hwA]
      exact ⟨(Blk.new w2 [.slice a3 N3 c3] 78).alloc _, HU.out, ((Only.refl _ w2).alloc _).alloc _, Nat.le_refl _⟩
    have hMA : Blk wA (w2.heap.size + 1) [.slice none 0 0, .int .i64 0, .int .i64 0, .int .i64 0] 24 := by
      have h := Blk.new (w2.alloc (.cells #[.slice a3 N3 c3] 78)) [.slice none 0 0, .int .i64 0, .int .i64 0, .int .i64 0] 24
      rw [World.size_alloc] at h
      rw [← hwA]
      exact h
    have HBL : Hid ((bs.drop 4).length ≤ 90000) := hid (by rw [List.length_drop]; have := HL.out; omega)
    have HOF := hid (rown_fields w2 wA w2.heap.size (.slice a3 N3 c3) (bs.drop 4) (w2.heap.size + 1) _ _ _ _ hRA hMA (by omega) (by omega) (by have := HBL.out; omega))
    unfold rplainV rsignedV at HOF
    rw [hwA]
    clear hRA hMA hwA
    refine HOF.out.mono ?_
    rintro e w5 (⟨ho, rfl, k5⟩ | ⟨n, g, lo, r5, v5, ho, rfl, hR5, hM5, ho5⟩)
    · have HF : Hid (PQ gaveJ w5) := hid (by
        rw [← HPQ.out]
        refine ⟨HK2.out.trans k5 (fun _ _ f => f), .inl ⟨?_, rfl⟩⟩
        unfold readA
        rw [if_pos HP.out, ho]
        rfl)
      exact ⟨rfl, HF.out⟩
    have HO5 := hid ho
    have HR5 := hid hR5
    have HM5 := hid hM5
    clear hR5 hM5 ho5 HOF ho
    go_wp2_with fail
    have kc : Kept w5 (w5.alloc (.cells #[.int .i64 0] 3)) := (Only.refl _ w5).alloc _
    have HL5 : Hid (r5.length ≤ 90000) := hid (by have := ownA_len HO5.out; have := HBL.out; omega)
    have hRw := HR5.out.le
    have hm5 := HM5.out.lt
    have HC6 := hid (rplain_any w2 (w5.alloc (.cells #[.int .i64 0] 3)) w2.heap.size v5 r5 w5.heap.size 0 [.int .i64 0] 3 (.int .i64 0) (HR5.out.only kc (fun f => f) (fun _ f => f.elim)) (Blk.new w5 [.int .i64 0] 3) rfl (by have := HR5.out.blk.lt; omega) HR5.out.kept.size (by have := HL5.out; omega))
    have HKC := hid kc
    clear kc hRw hm5
    refine HC6.out.mono ?_
    rintro e w7 (⟨ho, rfl, k7⟩ | ⟨cnt, r7, v7, ho, rfl, hR7, hC7, ho7⟩)
    · have HF : Hid (PQ gaveJ w7) := hid (by
        rw [← HPQ.out]
        refine ⟨HK2.out.trans k7 (fun _ _ f => f), .inl ⟨?_, rfl⟩⟩
        unfold readA
        rw [if_pos HP.out, HO5.out]
        simp only [Option.bind_some]
        rw [ho]
        rfl)
      exact ⟨rfl, HF.out⟩
    have HO7 := hid ho
    have HR7 := hid hR7
    have HM7 : Hid (Blk w7 (w2.heap.size + 1) [.slice none 0 0, .int .i64 n, .int .i64 g, .int .i64 lo] 24) := hid (Only.blk ho7 (Only.blk HKC.out HM5.out (fun f => f)) (fun e => by
      have := HM5.out.lt
      rcases e with e | e <;> omega))
    have HL7 : Hid (r7.length ≤ 90000) := hid (by have := numA_len ho; have := HL5.out; omega)
    have y0 := hC7.cell 0 rfl
    have HC7 := hid hC7
    clear hR7 hC7 ho7 HC6 HKC ho
    have HY7 := hid (jrefuse_yes w7)
    have HN7 := hid (jrefuse_no w7)
    by_cases hbig : 200 < cnt
    · have HF : Hid (PQ gaveJ w7) := hid (by
        rw [← HPQ.out]
        refine ⟨HK2.out.trans HR7.out.kept (fun _ _ f => f), .inl ⟨?_, rfl⟩⟩
        unfold readA
        rw [if_pos HP.out, HO5.out]
        simp only [Option.bind_some]
        rw [HO7.out]
        simp only [Option.bind_some]
        rw [if_pos hbig])
      have d1 : decide (200 < cnt) = true := decide_eq_true hbig
      go_wp2_with fail
      refine HY7.out.mono ?_
      rintro e w8 ⟨rfl, hw⟩
      replace hw := hw.symm
      subst hw
      exact ⟨rfl, HF.out⟩
    have d1 : decide (200 < cnt) = false := decide_eq_false hbig
    have HBIG := hid hbig
    clear hbig
    go_wp2_with fail
    refine HN7.out.mono ?_
    rintro e w8 ⟨rfl, hw⟩
    replace hw := hw.symm
    subst hw
    obtain ⟨N, hN⟩ : ∃ N, cnt.toNat = N := ⟨_, rfl⟩
    have HN := hid hN
    have hN200 : N ≤ 200 := by have := HBIG.out; omega
    clear hN d1
    have y0 := HC7.out.cell 0 rfl
    go_wp2_with fail
    clear y0
    go_loopw [33] (fun s wr => ∃ (k : Nat) (acc : List Rf) (rest : List UInt8) (rv sv : Value), k ≤ N ∧ s = .int .i64 (k : Int) ∧ acc.length = k ∧ Hid (refsA N r7 = (refsA (N - k) rest).bind fun y => some (acc ++ y.1, y.2)) ∧ Hid (RdJ w2 wr w2.heap.size rv rest) ∧ Hid (rest.length ≤ 90000) ∧ Hid (Blk wr (w2.heap.size + 1) [sv, .int .i64 n, .int .i64 g, .int .i64 lo] 24) ∧ Hid (RfAt wr w2.heap.size sv acc)) (fun s _ => N - (intOf s).toNat)
    case atStart => exact ⟨0, [], r7, v7, .slice none 0 0, by omega, rfl, rfl, hid (by
      rw [Nat.sub_zero]
      cases refsA N r7 with
      | none => rfl
      | some y => simp), HR7, HL7, HM7, hid ⟨rfl, .inl ⟨rfl, rfl⟩⟩⟩
    case round =>
      obtain ⟨k, acc, rest, rv, sv, hk, rfl, hacc, hT, hR, hLr, hM, hW⟩ := hrel
      by_cases hlt : k < N
      · have d2 : decide ((k : Int) < cnt) = true := decide_eq_true (by have := HN.out; omega)
        have hml := hM.out.lt
        have hRl := hR.out.blk.lt
        have hRle := hR.out.kept.size
        have ka : Kept wr (wr.alloc (.cells #[.int .i64 0, .int .i64 0, .int .i64 0, .int .i64 0] 54)) := (Only.refl _ wr).alloc _
        have HBF := hid (rblock_fields w2 (wr.alloc (.cells #[.int .i64 0, .int .i64 0, .int .i64 0, .int .i64 0] 54)) w2.heap.size rv rest wr.heap.size _ _ _ _ (hR.out.only ka (fun f => f) (fun _ f => f.elim)) (Blk.new wr [.int .i64 0, .int .i64 0, .int .i64 0, .int .i64 0] 54) (by omega) hRle (by have := hLr.out; omega))
        unfold rplainV rsignedV at HBF
        have HKA := hid ka
        have HAC := hid hacc
        have HLT := hid hlt
        have HML := hid hml
        clear ka hacc hRl hRle hml
        go_wp2_with fail
        refine HBF.out.mono ?_
        rintro e w8 (⟨ho, rfl, k8⟩ | ⟨x, r8, v8, ho, rfl, hR8, hX8, ho8⟩)
        · have HF : Hid (PQ gaveJ w8) := hid (by
            rw [← HPQ.out]
            refine ⟨HK2.out.trans k8 (fun _ _ f => f), .inl ⟨?_, rfl⟩⟩
            unfold readA
            rw [if_pos HP.out, HO5.out]
            simp only [Option.bind_some]
            rw [HO7.out]
            simp only [Option.bind_some]
            rw [if_neg (show ¬ 200 < cnt by have := HBIG.out; omega), HN.out, hT.out]
            obtain ⟨f, hf⟩ : ∃ f, N - k = f + 1 := ⟨N - k - 1, by have := HLT.out; omega⟩
            rw [hf, refsA, ho]
            rfl)
          exact ⟨rfl, HF.out⟩
        have hO8 : Only (fun j => j = w2.heap.size ∨ j = wr.heap.size) wr w8 := (HKA.out.mono (fun _ _ f => f.elim)).trans ho8 (fun _ _ e => e)
        have hM8 := Only.blk hO8 hM.out (fun e => by have := HML.out; rcases e with e | e <;> omega)
        have hW8 := ownN_only hW.out hO8 (fun b hb e => by
          rcases e with e | e
          · exact (ownN_typed hW.out hb).ne hR.out.blk.typed (by decide) e
          · have := (ownN_lt hW.out hb).2; omega)
        have HT8 : Hid (refsA N r7 = (refsA (N - (k + 1)) r8).bind fun y => some ((acc ++ [x]) ++ y.1, y.2)) := hid (by
          have h := hT.out
          have hf : N - k = (N - (k + 1)) + 1 := by have := HLT.out; omega
          rw [hf] at h
          exact refsA_snoc h ho)
        have HL8 : Hid (r8.length ≤ 90000) := hid (by have := refA_len ho; have := hLr.out; omega)
        obtain ⟨gg, cap, w9, hr9, hW9, ho9⟩ := rf_one hW8 hR8.kept.size x (by have := HAC.out; have := HBIG.out; have := HN.out; omega)
        have hM9 := Only.blk ho9 hM8 (fun e => (ownN_typed hW8 e).ne hM8.typed (by decide) rfl)
        have hR9 := hR8.only ho9 (fun e => (ownN_typed hW8 e).ne hR8.blk.typed (by decide) rfl) (fun j e => (ownN_lt hW8 e).1)
        have hOm : Only (fun j => j = w2.heap.size + 1) w9 (w9.setCell ⟨w2.heap.size + 1, 0, none⟩ (.slice (some ⟨gg, 0, none⟩) (acc.length + 1) cap)) := (Only.refl (fun j => j = w2.heap.size + 1) w9).setCell (fun _ => rfl) _
        have HR10 := hid (hR9.only hOm (fun e => by omega) (fun j e => by omega))
        have HW10 := hid (ownN_only hW9 hOm (fun b hb e => (ownN_typed hW9 hb).ne hM9.typed (by decide) e))
        have HM10 := hid (hM9.set 0 (.slice (some ⟨gg, 0, none⟩) (acc.length + 1) cap))
        obtain ⟨xi, xl, xf, xt⟩ := x
        have z0 := hX8.cell 0 rfl
        have z1 := hX8.cell 1 rfl
        have z2 := hX8.cell 2 rfl
        have z3 := hX8.cell 3 rfl
        have z4 := hM8.cell 0 rfl
        have z5 := hM9.frozen 0
        have z6 := hM9.cell 0 rfl
        have HR9 := hr9
        obtain ⟨sa, sc, hsv⟩ := ownN_slice hW8
        simp only at z0 z1 z2 z3
        rw [HAC.out] at HR9 HR10 HW10 HM10 hsv
        subst hsv
        clear hO8 hM8 hW8 hr9 hW9 ho9 hM9 hR9 hOm hX8 ho8 hR8 HBF ho hT hR hLr hM hW
        go_wp2_with (at_builtin; refine Lys.wpList_append_run rfl _ _ _ rfl rfl rfl HR9.out ?_)
        go_roundw
        case rel => exact ⟨k + 1, acc ++ [(xi, xl, xf, xt)], r8, v8, _, by have := HLT.out; omega, by go_num, by rw [List.length_append, HAC.out]; rfl, HT8, HR10, HL8, HM10, HW10⟩
        case measure => simp [intOf]; have := HLT.out; omega
      · have e : k = N := by omega
        subst e
        have d2 : decide ((k : Int) < cnt) = false := decide_eq_false (by have := HN.out; omega)
        have hRA : readA bs = some ⟨acc, n, g, lo⟩ := by
          unfold readA
          rw [if_pos HP.out, HO5.out]
          simp only [Option.bind_some]
          rw [HO7.out]
          simp only [Option.bind_some]
          rw [if_neg (show ¬ 200 < cnt by have := HBIG.out; omega), HN.out, hT.out, Nat.sub_self, refsA]
          simp
        have hA := Only.blk hR.out.kept HB2.out (fun f => f)
        have m0 := hM.out.cell 0 rfl
        have m1 := hM.out.cell 1 rfl
        have m2 := hM.out.cell 2 rfl
        have m3 := hM.out.cell 3 rfl
        have g0 := hA.frozen 0
        have g1 := hA.frozen 1
        have g2 := hA.frozen 2
        have g3 := hA.frozen 3
        have q0 := hA.cell 0 rfl
        have q1 := hA.cell 1 rfl
        have q2 := hA.cell 2 rfl
        have q3 := hA.cell 3 rfl
        obtain ⟨sa, sc, hsv⟩ := ownN_slice hW.out
        rw [hacc] at hsv
        subst hsv
        have HE := hid ((((hA.set 0 (.slice sa k sc)).set 1 (.int .i64 n)).set 2 (.int .i64 g)).set 3 (.int .i64 lo))
        have HF : Hid (PQ (.returned (.agg #[.slice sa k sc, .int .i64 n, .int .i64 g, .int .i64 lo])) ((((wr.setCell ⟨w.heap.size, 0, none⟩ (.slice sa k sc)).setCell ⟨w.heap.size, 1, none⟩ (.int .i64 n)).setCell ⟨w.heap.size, 2, none⟩ (.int .i64 g)).setCell ⟨w.heap.size, 3, none⟩ (.int .i64 lo))) := hid (by
          rw [← HPQ.out]
          have hwl : w.heap.size < w2.heap.size := HB2.out.lt
          refine ⟨kset4 _ _ _ _ _ _ (HK2.out.trans hR.out.kept (fun _ _ f => f)) (Nat.le_refl _), .inr ⟨⟨acc, n, g, lo⟩, sa, sc, hRA, ?_, ?_⟩⟩
          · unfold manV
            rw [← hacc]
          · show RfAt _ _ (.slice sa acc.length sc) acc
            rw [hacc]
            exact ownN_base (kset4_row hW.out _ _ _ _ (fun q hq => by have := (ownN_lt hW.out hq).1; omega)) (Nat.le_of_lt hwl))
        clear hA hRA hT hR hLr hM hW
        go_wp2_with fail
        exact ret_man1 rfl rfl HE.out HF.out
  · replace hw := hw.symm
    subst hw
    have HF : Hid (PQ gaveJ w2) := hid (by
      rw [← HPQ.out]
      refine ⟨HK2.out, .inl ⟨?_, rfl⟩⟩
      unfold readA
      rw [if_neg (show ¬ bs.take 4 = markA from hp)])
    clear hp HCP hcv
    go_wp2_with fail
    refine HY.out.mono ?_
    rintro e w4 ⟨rfl, hw⟩
    replace hw := hw.symm
    subst hw
    exact ⟨rfl, HF.out⟩
end Go.Proofs.YtjifcgphlidimaaDoor.J
