/-
  The document's own: the frame at the beginning of bytes.
-/
import Derived.Test.YtjohnomlhcncnaaDoorGref
namespace Go.Proofs.YtjohnomlhcncnaaDoor.G
open Go.RowKit Go.Proofs.Lys
set_option linter.unusedVariables false

theorem BSrc.pre {w : World} {v : Value} {bs : List UInt8} (h : BSrc w v bs) {hi : Nat} (h2 : hi ≤ bs.length) :
    ∃ a' c', (∀ W, (Instr.sliceAt 22 v none (some (.int .i64 (hi : Int))) none).run Tryd.prog W = .ok (.slice a' hi c') W) ∧ BSrc w (.slice a' hi c') (bs.take hi) := by
  obtain ⟨a', c', hr, hb⟩ := h.sub (Nat.zero_le hi) h2
  refine ⟨a', c', fun W => ?_, by simpa using hb⟩
  obtain ⟨hs, a, c, rfl, hc⟩ := h
  have h3 := hr W
  have hz : ∀ W, (sizeOf 5).run Tryd.prog W = .ok 1 W := fun W => by kernel_rfl
  have e2 : hi ≤ c := by omega
  simp [Instr.sliceAt, Instr.slice, Instr.sliceBounds, Instr.sliceBound, run_underlying Tryd.underlying22, asIntOf, e2, hz, Result.andThen] at h3 ⊢
  exact h3

theorem results_tmp4 {fn : Func} {t u v x : Tmp} (h : fn.results = #[.tmp t, .tmp u, .tmp v, .tmp x]) (tmps : Array Value) (P : Program) (w : World) :
    (results fn tmps).run P w = .ok (.tuple #[tmps.getD t undef, tmps.getD u undef, tmps.getD v undef, tmps.getD x undef]) w := by
  simp [results, h]

/-- What Get leaves. -/
def GetPost (w : World) (bs : List UInt8) (e : Ending) (w' : World) : Prop :=
  Kept w w' ∧ ∃ (k : Int) (u : Value) (p : List UInt8) (n : Nat) (x : Int), e = .returned (.tuple #[.int .i64 k, u, .int .i64 (n : Int), .int .i64 x]) ∧ Gets bs k p n x ∧ w'.ownsRow w.heap.size 5 1 u p.length (p.map bV)
theorem GetPost.none {w w' : World} {bs : List UInt8} (hk : Kept w w') (h : readF bs = .none) : GetPost w bs (.returned (.tuple #[.int .i64 0, .slice .none 0 0, .int .i64 0, .int .i64 5])) w' :=
  ⟨hk, 0, _, [], 0, 5, rfl, .inl ⟨h, rfl, rfl, rfl, rfl⟩, World.ownsRow_nil _ _ _ _⟩

set_option maxRecDepth 100000 in
set_option maxHeartbeats 1600000 in
theorem rreadframe_any (w : World) (v : Value) (bs : List UInt8) (hs : BSrc w v bs) (hl : bs.length ≤ 400000) :
    Calls Tryd.prog 15 #[v] w (GetPost w bs) := by
  obtain ⟨a, c, rfl⟩ := hs.len
  obtain ⟨L, hL⟩ : ∃ L, bs.length = L := ⟨_, rfl⟩
  have HL := hid hL
  have HS := hid hs
  by_cases h9 : L < 9
  · have hN : Hid (readF bs = none) := by
      show _ = _
      unfold readF
      rw [if_pos (.inl (by omega))]
    rw [hL]
    clear hs hL
    go_enter Tryd.func15, Tryd.ntmps15
    go_wp2
    (try simp only [Exit.inBlock, Exit.then])
    refine bodyPost_ret (results_tmp4 rfl _ _ _) rfl ?_
    exact GetPost.none (Only.refl _ _) hN.out
  · obtain ⟨b, o, rfl, c0⟩ := BSrc.cell hs.1 0 (by omega)
    obtain ⟨_, _, e1, c1⟩ := BSrc.cell hs.1 1 (by omega)
    cases e1
    obtain ⟨_, _, e2, c2⟩ := BSrc.cell hs.1 2 (by omega)
    cases e2
    obtain ⟨_, _, e3, c3⟩ := BSrc.cell hs.1 3 (by omega)
    cases e3
    obtain ⟨_, _, e4, c4⟩ := BSrc.cell hs.1 4 (by omega)
    cases e4
    have g : ∀ i (h : i < bs.length), bs.getD i 0 = bs[i] := fun i h => by rw [List.getD_eq_getElem?_getD, List.getElem?_eq_getElem h]; rfl
    have HLF : Hid (lenF bs = le4 bs[1] bs[2] bs[3] bs[4] ∧ bs.getD 0 0 = bs[0]) := by
      refine ⟨?_, g 0 (by omega)⟩
      unfold lenF
      rw [g 1 (by omega), g 2 (by omega), g 3 (by omega), g 4 (by omega)]
    generalize bs[0] = x0 at *
    generalize bs[1] = x1 at *
    generalize bs[2] = x2 at *
    generalize bs[3] = x3 at *
    generalize bs[4] = x4 at *
    obtain ⟨A, B, C, f1, f2, f3, l1, l2, l3, eC⟩ := word_nums x1.toNat x2.toNat x3.toNat x4.toNat (byte_lt x1) (byte_lt x2) (byte_lt x3) (byte_lt x4)
    have HC : Hid (lenF bs = C) := HLF.out.1.trans eC.symm
    have H0 := hid HLF.out.2
    have b0 := byte_lt x0
    have b1 := byte_lt x1
    have b2 := byte_lt x2
    have b3 := byte_lt x3
    have b4 := byte_lt x4
    obtain ⟨K, hK⟩ : ∃ K, x0.toNat = K := ⟨_, rfl⟩
    have HK0 : Hid ((bs.getD 0 0).toNat = K) := by show _ = _; rw [H0.out, hK]
    rw [hK] at b0 c0
    generalize x1.toNat = X1 at *
    generalize x2.toNat = X2 at *
    generalize x3.toNat = X3 at *
    generalize x4.toNat = X4 at *
    rw [hL] at hl ⊢
    rw [Nat.add_zero] at c0
    rw [hL] at HS
    clear hs g hL eC HLF hK H0
    by_cases hC1 : 1048576 < C
    · have hN : Hid (readF bs = none) := by
        show _ = _
        unfold readF
        rw [if_pos (.inr (.inl (by rw [HC.out]; exact hC1)))]
      go_enter Tryd.func15, Tryd.ntmps15
      go_wp2
      go_quiet (fail)
      go_wp2
      (try simp only [Exit.inBlock, Exit.then])
      refine bodyPost_ret (results_tmp4 rfl _ _ _) rfl ?_
      exact GetPost.none (kept_drewN (Only.refl _ _) nq) hN.out
    · by_cases hC2 : (L : Int) - 9 < (C : Int)
      · have hN : Hid (readF bs = none) := by
          show _ = _
          unfold readF
          rw [if_pos (.inr (.inr (by rw [HC.out, HL.out]; omega)))]
        go_enter Tryd.func15, Tryd.ntmps15
        go_wp2
        go_quiet (fail)
        go_wp2
        (try simp only [Exit.inBlock, Exit.then])
        refine bodyPost_ret (results_tmp4 rfl _ _ _) rfl ?_
        exact GetPost.none (kept_drewN (Only.refl _ _) nq) hN.out
      · go_enter Tryd.func15, Tryd.ntmps15
        go_wp2
        go_quiet (fail)
        have k1 : Kept w (w.drewN nq) := kept_drewN (Only.refl _ _) nq
        generalize w.drewN nq = w1 at k1 ⊢
        have h9C : 9 ≤ 9 + C := by omega
        have hCL : 9 + C ≤ bs.length := by rw [HL.out]; omega
        obtain ⟨pa, pc, hsl, hbp⟩ := (HS.out.stay k1).sub h9C hCL
        rw [show 9 + C - 9 = C by omega] at hsl hbp
        rw [show ((9 + C : Nat) : Int) = 9 + (C : Int) by omega, show ((9 : Nat) : Int) = 9 from rfl] at hsl
        obtain ⟨P, hP⟩ : ∃ P, (bs.take (9 + C)).drop 9 = P := ⟨_, rfl⟩
        have hPl : P.length = C := by rw [← hP, List.length_drop, List.length_take]; omega
        rw [hP] at hbp
        obtain ⟨a2, cap2, w2, Hr2, ho2, hon2⟩ := row_app (w := w1) (base := w1.heap.size) (v := .slice none 0 0) (xs := []) (ys := P) (World.ownsRow_nil _ _ _ _) (Nat.le_refl _) hbp.1 (by rw [hPl]; simp; omega)
        have k12 : Kept w1 w2 := hon2.mono (fun _ _ h => by cases h)
        have k2 : Kept w w2 := k1.trans k12 (fun _ _ f => f)
        simp only [List.length_nil, Nat.zero_add, List.nil_append] at Hr2 ho2
        have hfr := rframe_any w2 (K : Int) _ P (own_bsrc (by rw [hPl] at ho2 ⊢; exact ho2)) (by rw [hPl]; omega)
        rw [hPl] at Hr2 ho2
        have d0 : w2.cell? ⟨b, o, none⟩ = some (.int .u8 (K : Int)) := by
          rw [World.cell?_of_block (w := w) (w' := w2) (a := ⟨b, o, none⟩) (k2.block b (World.block_lt_of_cell? w _ c0) (fun f => f))]
          exact c0
        have HP : Hid ((bs.take (9 + C)).drop 9 = P ∧ P.length = C) := ⟨hP, hPl⟩
        have HK2 := hid k2
        have HO2 := hid (own_base ho2 k1.size)
        have H9 : Hid (9 + C ≤ bs.length) := hCL
        clear k1 hbp hP hPl ho2 hon2 k12 k2 h9C hCL
        go_wp2_with (at_builtin; refine wpList_append_run rfl _ _ _ rfl rfl rfl Hr2 ?_)
        refine hfr.mono ?_
        rintro e w3 ⟨k23, u, fs, x, rfl, hPu, ho3⟩
        have hfs : fs = frameL K P := by
          rcases hPu with ⟨h, _⟩ | ⟨_, _, h, _⟩ | ⟨_, _, _, h, _⟩
          · exfalso; omega
          · exfalso; rw [HP.out.2] at h; omega
          · rw [h, Int.toNat_natCast]
        subst hfs
        have k3 : Kept w w3 := HK2.out.trans k23 (fun _ _ f => f)
        have cv1 : ∀ n, (convert 22 9 u).run Tryd.prog (w3.drewN n) = .ok (.string ⟨(frameL K P).toArray⟩) (w3.drewN n) := fun n => bytes_str (own_src (own_only ho3 (kept_drewN (Only.refl _ _) n) (fun _ _ f => f)))
        obtain ⟨qa, qc, hsl2, hbq⟩ := (HS.out.stay k3).pre H9.out
        rw [show ((9 + C : Nat) : Int) = 9 + (C : Int) by omega] at hsl2
        have cv2 : ∀ n, (convert 22 9 (.slice qa (9 + C) qc)).run Tryd.prog (w3.drewN n) = .ok (.string ⟨(bs.take (9 + C)).toArray⟩) (w3.drewN n) := fun n => bytes_str (hbq.stay (kept_drewN (Only.refl _ _) n)).1
        have hse := str_eq (frameL K P) (bs.take (9 + C))
        have d3 : ∀ n, (w3.drewN n).cell? ⟨b, o, none⟩ = some (.int .u8 (K : Int)) := fun n => by
          rw [World.cell?_of_block (w := w) (w' := w3.drewN n) (a := ⟨b, o, none⟩) ((kept_drewN k3 n).block b (World.block_lt_of_cell? w _ c0) (fun f => f))]
          exact c0
        obtain ⟨ua, uc, hu⟩ := own_slice ho3
        subst hu
        have HO3 : Hid (∀ n, (w3.drewN n).ownsRow w.heap.size 5 1 (.slice a2 C cap2) C (P.map bV)) := fun n => own_only HO2.out (k23.trans (kept_drewN (Only.refl _ _) n) (fun _ _ f => f)) (fun _ _ f => f)
        have HK3 : Hid (∀ n, Kept w (w3.drewN n)) := fun n => kept_drewN k3 n
        have HRD : Hid (readF bs = if frameL K P = bs.take (9 + C) then some (K, P, 9 + C) else none) := by
          show _ = _
          unfold readF
          rw [if_neg (by rw [HC.out, HL.out]; omega), HC.out, HK0.out]
          have e1 : (bs.drop 9).take C = P := by
            rw [← HP.out.1, List.drop_take, show 9 + C - 9 = C by omega]
          rw [e1]
        generalize (⟨(frameL K P).toArray⟩ : ByteArray) = sa at cv1 hse
        generalize (⟨(bs.take (9 + C)).toArray⟩ : ByteArray) = sb at cv2 hse
        clear hfr hPu ho3 k23 k3 hbq HO2 HK2 Hr2 d0
        by_cases hEq : frameL K P = bs.take (9 + C)
        · have hs1 : (sa.toList == sb.toList) = true := by rw [hse]; simp [hEq]
          rw [if_pos hEq] at HRD
          clear hse hEq
          go_wp2_with fail
          go_quiet (fail)
          go_wp2_with fail
          (try simp only [Exit.inBlock, Exit.then])
          refine bodyPost_ret (results_tmp4 rfl _ _ _) rfl ?_
          refine ⟨HK3.out nq, K, .slice a2 C cap2, P, 9 + C, 0, ?_, .inr ⟨K, P, 9 + C, HRD.out, rfl, rfl, rfl, rfl⟩, ?_⟩
          · rw [show ((9 + C : Nat) : Int) = 9 + (C : Int) by omega]
            rfl
          · have := HO3.out nq
            rw [HP.out.2]
            exact this
        · have hs1 : (sa.toList == sb.toList) = false := by rw [hse]; simp [hEq]
          rw [if_neg hEq] at HRD
          clear hse hEq
          go_wp2_with fail
          go_quiet (fail)
          go_wp2_with fail
          (try simp only [Exit.inBlock, Exit.then])
          refine bodyPost_ret (results_tmp4 rfl _ _ _) rfl ?_
          exact GetPost.none (HK3.out nq) HRD.out
end Go.Proofs.YtjohnomlhcncnaaDoor.G
