/-
  Package manifest: Pack.
-/
import Derived.Test.YtjifcgphlidimaaDoorJfld
import Derived.Test.YtjifcgphlidimaaDoorGsum2
import Derived.Test.YtjifcgphlidimaaDoorJlib
import Derived.Lib.ConvBytes
import Derived.Lib.SmallJoins
namespace Go.Proofs.YtjifcgphlidimaaDoor.G
open Go Go.RowKit Go.Proofs.Lys
theorem lit_bsrc (bs : List UInt8) (W : World) {vs : Array Value} {fz : Nat × Nat} (hv : vs = (bs.map bV).toArray) : BSrc (W.alloc (.cells vs 5 fz)) (.slice (some ⟨W.heap.size, 0, none⟩) bs.length bs.length) bs := by
  subst hv
  refine ⟨.inr ⟨⟨W.heap.size, 0, none⟩, bs.length, by rw [List.length_map], fun j u hu => ?_⟩, _, _, rfl, Nat.le_refl _⟩
  rw [add_none, Nat.zero_add]
  have : (W.alloc (.cells (bs.map bV).toArray 5 fz)).heap[W.heap.size]? = some (.cells (bs.map bV).toArray 5 fz) := heap_alloc_new W _
  simp only [World.cell?, this]
  simp [hu]
end Go.Proofs.YtjifcgphlidimaaDoor.G
namespace Go.Proofs.YtjifcgphlidimaaDoor.J
open Go Go.RowKit Go.Proofs.Lys
open Go.Proofs.YtjifcgphlidimaaDoor.U (zigN zigN_lt uN uN_lt)
set_option linter.unusedVariables false
set_option linter.unusedSimpArgs false

theorem tim_in : ∀ {l : List Rf}, timO l = true → ∀ x ∈ l, RfIn x := by
  intro l
  induction l with
  | nil => intro _ x hx; cases hx
  | cons y r ih =>
    intro h x hx
    rw [timO] at h
    simp only [Bool.and_eq_true, winO, decide_eq_true_eq] at h
    rcases List.mem_cons.1 hx with rfl | hx
    · unfold RfIn U.In64
      omega
    · exact ih h.2 x hx
theorem chk_in {m : Man} (h : chkO m = 0) : m.bl.length ≤ 200 ∧ U.In64 m.low ∧ ∀ x ∈ m.bl, RfIn x := by
  unfold chkO at h
  by_cases h1 : 200 < m.bl.length
  · rw [if_pos h1] at h; omega
  · rw [if_neg h1] at h
    by_cases h2 : (cntO m.next && cntO m.log && numO 0 m.next m.bl) = false
    · rw [if_pos h2] at h; omega
    · rw [if_neg h2] at h
      by_cases h3 : (timO m.bl && winO m.low) = false
      · rw [if_pos h3] at h; omega
      · have h4 : (timO m.bl && winO m.low) = true := by simpa using h3
        simp only [Bool.and_eq_true, winO, decide_eq_true_eq] at h4
        exact ⟨by omega, by unfold U.In64; omega, tim_in h4.1⟩
/-- Bytes put behind a slice that is full: new memory. -/
theorem byt_grow {w : World} {b o : Nat} {xv : Value} {m ps : List UInt8} (hs0 : SrcOf w (.slice (some ⟨b, o, none⟩) m.length m.length) (m.map bV)) (hs : SrcOf w xv (ps.map bV)) (h0 : 0 < ps.length) (hp : ps.length ≤ 1000) (hm : m.length ≤ 1000) :
    ∃ a n c w3, Hid ((Builtin.append_ #[28, 28] 0 #[.slice (some ⟨b, o, none⟩) m.length m.length, xv]).run Tryd.prog w = .ok (.slice a n c) w3) ∧ BytAt w3 w.heap.size (.slice a n c) (m ++ ps) ∧ Kept w w3 := by
  obtain ⟨i0, hi0, hz0, hz1, hz2⟩ := info_parts Tryd.infoBy
  rcases hs.shape with ⟨hn, _⟩ | ⟨_, b2, o2, c2, rfl, hc2⟩
  · have := List.map_eq_nil_iff.1 hn
    rw [this] at h0
    simp at h0
  rw [List.length_map] at *
  have hfit : Builtin.nextslicecap (m.length + ps.length) m.length * i0.bytes ≤ 281474976710656 := by
    rw [hz2]
    have := nextslicecap_le (need := m.length + ps.length) (old := m.length) (by omega)
    omega
  have hr := run_append_grow (P := Tryd.prog) w 28 0 5 i0 _ Tryd.underlying28 hi0 hz0 ⟨b, o, none⟩ m.length m.length (m.map bV) (by rw [hz1, List.length_map]; omega) (fun j u hu => by rw [add_none]; exact src_cells hs0 j u hu) ⟨b2, o2, none⟩ ps.length c2 (ps.map bV) (by rw [hz1, List.length_map]; omega) (fun j u hu => by rw [add_none]; exact hc2 j u hu) (by omega) (by omega) hfit
  have hge := grownCap_ge w (m.length + ps.length) m.length 5
  have hcm := grownCap_le_maxLen w (m.length + ps.length) m.length 5 (by unfold maxLen; omega)
  refine ⟨_, _, _, _, hr, ?_, ((Only.refl _ w).drew).alloc _⟩
  have hlen : (m ++ ps).length = m.length + ps.length := List.length_append
  refine ⟨by rw [List.length_map, hlen]; omega, .inr ⟨w.heap.size, _, _, by rw [hlen], Nat.le_refl _, heap_alloc_new w.drew _, by rw [hlen]; exact hge, hcm, ?_, ?_⟩⟩
  · simp only [Array.size_append, List.size_toArray, size_zeroCells, List.length_map]
    simp [Value.cells]
    omega
  · simp only [Array.toList_append]
    rw [List.take_left' (by simp)]
    simp
theorem bya_mark {w2 W : World} (hW : SrcOf W (.slice (some ⟨w2.heap.size, 0, none⟩) 4 4) (([76, 89, 83, 77] : List UInt8).map bV)) (ht : Typed W w2.heap.size 5) (hB : w2.heap.size ≤ W.heap.size) : ByA W w2.heap.size (.slice (some ⟨w2.heap.size, 0, none⟩) 4 4) [76, 89, 83, 77] := by
  refine ⟨fun j hj => ?_, ⟨_, _, _, rfl⟩, fun X xv ps k hs h0 hp => ?_⟩
  · have e : w2.heap.size = j := by simpa [Value.ownBlock] using hj
    subst e
    exact ⟨Nat.le_refl _, ht⟩
  · obtain ⟨a, n, c, w3, hr, h3, k3⟩ := byt_grow (m := [76, 89, 83, 77]) (hW.stay k) hs h0 hp (by decide)
    exact ⟨a, n, c, w3, hr, ownN_base h3 (Nat.le_trans hB k.size), k3.mono (fun _ _ f => f.elim)⟩
theorem four_vals (n : Nat) (h : n < 4294967296) : #[Value.int .u8 ((n : Int) % 256), .int .u8 ((n : Int) / 256 % 256), .int .u8 ((n : Int) / 65536 % 256), .int .u8 ((n : Int) / 16777216)] = ((G.four n).map bV).toArray := by
  have e : ∀ k : Nat, k < 256 → ((UInt8.ofNat k).toNat : Int) = (k : Int) := fun k hk => by rw [G.ofNat_toNat hk]
  show _ = #[bV (UInt8.ofNat (n % 256)), bV (UInt8.ofNat (n / 256 % 256)), bV (UInt8.ofNat (n / 65536 % 256)), bV (UInt8.ofNat (n / 16777216 % 256))]
  unfold bV
  rw [e _ (by omega), e _ (by omega), e _ (by omega), e _ (by omega)]
  have h1 : ((n % 256 : Nat) : Int) = (n : Int) % 256 := by omega
  have h2 : ((n / 256 % 256 : Nat) : Int) = (n : Int) / 256 % 256 := by omega
  have h3 : ((n / 65536 % 256 : Nat) : Int) = (n : Int) / 65536 % 256 := by omega
  have h4 : ((n / 16777216 % 256 : Nat) : Int) = (n : Int) / 16777216 := by omega
  rw [h1, h2, h3, h4]
/-- What Pack leaves. -/
def PackP (w : World) (m : Man) (e : Ending) (w' : World) : Prop :=
  Kept w w' ∧ ((chkO m ≠ 0 ∧ e = .returned (.tuple #[.slice none 0 0, .int .i64 (chkO m)])) ∨
    (chkO m = 0 ∧ ∃ v, e = .returned (.tuple #[v, .int .i64 0]) ∧ BytAt w' w.heap.size v (packM m)))
theorem tyO_kept {w W w1 : World} {P B : Nat} (h : Only (TyO W P B) W w1) (k : Kept w W) (hP : w.heap.size ≤ P) (hB : w.heap.size ≤ B) : Kept w w1 :=
  k.trans h (fun j hj e => by
    rcases e with e | ⟨e, _⟩
    · omega
    · omega)
set_option maxRecDepth 100000 in
set_option maxHeartbeats 3200000 in
theorem pack_any (w : World) (a : Option Addr) (c : Nat) (m : Man) (hs : RfSrc w (.slice a m.bl.length c) m.bl) (hT : G.Tab w) :
    Calls Tryd.prog 7 #[manV (.slice a m.bl.length c) m] w (PackP w m) := by
  obtain ⟨PQ, hPQ⟩ : ∃ PQ, PackP w m = PQ := ⟨_, rfl⟩
  rw [hPQ]
  have HPQ := hid hPQ
  have HS := hid hs
  have HT := hid hT
  obtain ⟨L, hL⟩ : ∃ L, m.bl.length = L := ⟨_, rfl⟩
  have HL := hid hL
  obtain ⟨w1, hw1⟩ : ∃ w1, w.alloc (.cells #[.slice a L c, .int .i64 m.next, .int .i64 m.log, .int .i64 m.low] 24) = w1 := ⟨_, rfl⟩
  have k1 : Kept w w1 := by rw [← hw1]; exact (Only.refl _ w).alloc _
  have hb1 : Blk w1 w.heap.size [.slice a L c, .int .i64 m.next, .int .i64 m.log, .int .i64 m.low] 24 := by rw [← hw1]; exact Blk.new w _ _
  have HCK := hid (check_any w1 a c m (hs.stay k1))
  have HK1 := hid k1
  have HB1 := hid hb1
  have HW1 := hid hw1
  rw [hL] at HS HCK ⊢
  obtain ⟨CK, hCK⟩ : ∃ CK, chkO m = CK := ⟨_, rfl⟩
  have HCKE := hid hCK
  rw [hCK] at HCK
  unfold manV at HCK ⊢
  have m0 := hb1.cell 0 rfl
  have m1 := hb1.cell 1 rfl
  have m2 := hb1.cell 2 rfl
  have m3 := hb1.cell 3 rfl
  have hmf : ∀ (fn : Fn) (first cap : Array Value) (w : World), (Instr.makeFunc fn first cap).run Tryd.prog w = .ok (.func fn first cap) w := fun _ _ _ _ => rfl
  clear hs hT hPQ hL k1 hb1 hw1 hCK
  go_enter Tryd.func7, Tryd.ntmps7
  go_wp2_with fail
  rw [HW1.out]
  refine HCK.out.mono ?_
  rintro e w2 ⟨rfl, k2⟩
  have HK2 := hid (HK1.out.trans k2 (fun _ _ f => f))
  have HM2 := hid (Only.blk k2 HB1.out (fun f => f))
  by_cases h0 : CK = 0
  · have hci := chk_in (HCKE.out.trans h0)
    have HCI := hid hci
    have n0 := HM2.out.cell 0 rfl
    subst h0
    have hcv : (convert 28 28 (.slice (some ⟨w2.heap.size, 0, none⟩) 4 4)).run Tryd.prog (w2.alloc (.cells #[.int .u8 76, .int .u8 89, .int .u8 83, .int .u8 77] 5)) = .ok (.slice (some ⟨w2.heap.size, 0, none⟩) 4 4) (w2.alloc (.cells #[.int .u8 76, .int .u8 89, .int .u8 83, .int .u8 77] 5 (4, 5))) := Lib.run_convert_bytes_const (P := Tryd.prog) w2 28 5 #[.int .u8 76, .int .u8 89, .int .u8 83, .int .u8 77] 4 4 Tryd.underlying28 Tryd.underlying5
    clear hci m0 m1 m2 m3 k2 HCK
    go_wp2_with fail
    obtain ⟨w3, hw3⟩ : ∃ w3, (w2.alloc (.cells #[.int .u8 76, .int .u8 89, .int .u8 83, .int .u8 77] 5 (4, 5))).alloc (.cells #[.slice (some ⟨w2.heap.size, 0, none⟩) 4 4] 48) = w3 := ⟨_, rfl⟩
    have hP3 : Blk w3 (w2.heap.size + 1) [.slice (some ⟨w2.heap.size, 0, none⟩) 4 4] 48 := by
      have h := Blk.new (w2.alloc (.cells #[.int .u8 76, .int .u8 89, .int .u8 83, .int .u8 77] 5 (4, 5))) [.slice (some ⟨w2.heap.size, 0, none⟩) 4 4] 48
      rw [World.size_alloc] at h
      rw [← hw3]
      exact h
    have hR3 : ByA w3 w2.heap.size (.slice (some ⟨w2.heap.size, 0, none⟩) 4 4) [76, 89, 83, 77] := by
      refine bya_mark ?_ ?_ (by rw [← hw3]; simp; omega)
      · rw [← hw3]
        exact (G.lit_bsrc [76, 89, 83, 77] w2 (vs := #[.int .u8 76, .int .u8 89, .int .u8 83, .int .u8 77]) (fz := (4, 5)) rfl).1.stay ((Only.refl _ _).alloc _)
      · rw [← hw3]
        exact ⟨_, _, (Below.heap_alloc _ _ _ (by simp)).trans (heap_alloc_new w2 _)⟩
    have k3 : Kept w2 w3 := by rw [← hw3]; exact ((Only.refl _ w2).alloc _).alloc _
    have hM3 := Only.blk k3 HM2.out (fun f => f)
    have hwl : w.heap.size < w2.heap.size := HM2.out.lt
    have HOF := hid (own_fields w3 (w2.heap.size + 1) w2.heap.size w.heap.size _ _ _ m.next m.log m.low hP3 hR3 hM3 k3.size (by decide) HCI.out.2.1)
    unfold plainV signedV at HOF
    have HM3 := hid hM3
    have HK3 := hid k3
    rw [hw3]
    clear hP3 hR3 k3 hM3 hw3 n0
    refine HOF.out.mono ?_
    rintro e w4 ⟨rfl, v4, hP4, hR4, ho4⟩
    have hM4 := tyO_blk ho4 HM3.out (by omega) (by decide)
    have n0 := hM4.cell 0 rfl
    have HP4 := hid hP4
    have HR4 := hid hR4
    have HO4 := hid ho4
    have hs4 := Nat.le_trans HK3.out.size ho4.size
    clear hP4 hR4 ho4 HOF hM4
    go_wp2_with fail
    have hwP : w.heap.size ≤ w2.heap.size + 1 := by omega
    have hL200 : L ≤ 200 := by have := HCI.out.1; have := HL.out; omega
    have HK4 := hid (tyO_kept HO4.out (HK2.out.trans HK3.out (fun _ _ f => f)) hwP (Nat.le_of_lt hwl))
    have k5 : Kept w4 (w4.alloc (.cells #[.int .i64 (L : Int)] 3)) := (Only.refl _ w4).alloc _
    have hc5 := Blk.new w4 [.int .i64 (L : Int)] 3
    have HWP := hid (wplain_any (w4.alloc (.cells #[.int .i64 (L : Int)] 3)) (w2.heap.size + 1) w2.heap.size v4 _ w4.heap.size 0 (L : Int) (Only.blk k5 HP4.out (fun f => f)) (ByA.of (ownN_stay HR4.out k5) (Nat.le_trans hs4 k5.size) (by
      have q1 := put10 m.next
      have q2 := put10 m.log
      have q3 := sgn10 HCI.out.2.1
      simp only [List.length_append, List.length_cons, List.length_nil]
      omega)) (hc5.cell 0 rfl) ⟨_, by decide, hc5.typed⟩)
    have HHD : Hid (([76, 89, 83, 77] : List UInt8) ++ putN (uN m.next) ++ putN (uN m.log) ++ putN (zigN m.low) ++ putN (uN (L : Int)) = headM m) := hid (by unfold headM; rw [HL.out])
    rw [HHD.out] at HWP
    have HK5 := hid (HK4.out.trans k5 (fun _ _ f => f))
    clear k5 hc5
    refine HWP.out.mono ?_
    rintro e w6 ⟨rfl, v6, hP6, hR6, ho6⟩
    have HK6 := hid (tyO_kept ho6 HK5.out hwP (Nat.le_of_lt hwl))
    have hM6 : Blk w6 w.heap.size _ 24 := tyO_blk ho6 ((tyO_blk HO4.out HM3.out (by omega) (by decide)).alloc (.cells #[.int .i64 (L : Int)] 3)) (by omega) (by decide)
    have n0 := hM6.cell 0 rfl
    have HP6 := hid hP6
    have HR6 := hid hR6
    have HZ6 : Hid (w2.heap.size ≤ w6.heap.size) := hid (Nat.le_trans (Nat.le_trans hs4 (by simp)) ho6.size)
    clear hP6 hR6 ho6 HWP hM6
    go_wp2_with fail
    go_loopw [32] (fun s wr => ∃ (k : Nat) (v : Value), k ≤ L ∧ s = .int .i64 (k : Int) ∧ Hid (Blk wr (w2.heap.size + 1) [v] 48) ∧ Hid (BytAt wr w2.heap.size v (headM m ++ refsB (m.bl.take k))) ∧ Hid (Kept w wr) ∧ Hid (w2.heap.size ≤ wr.heap.size)) (fun s _ => L - (intOf s).toNat)
    case atStart => exact ⟨0, v6, by omega, rfl, HP6, hid (by rw [List.take_zero]; show BytAt _ _ _ (headM m ++ []); rw [List.append_nil]; exact HR6.out), HK6, HZ6⟩
    case round =>
      obtain ⟨k, v, hk, rfl, hP, hR, hK, hZ⟩ := hrel
      by_cases hlt : k < L
      · obtain ⟨b, o, rfl, hc0, hc1, hc2, hc3⟩ := (HS.out.stay hK.out).cell HL.out k hlt
        have hkl : k < m.bl.length := by have := HL.out; omega
        have hxi := HCI.out.2.2 m.bl[k] (List.getElem_mem hkl)
        have hts : refsB (m.bl.take (k + 1)) = refsB (m.bl.take k) ++ refB m.bl[k] := by
          rw [← List.take_append_getElem hkl, refsB_snoc]
        have hrl : (refsB (m.bl.take k)).length ≤ 40 * 200 := by
          have h1 := refsB_len (l := m.bl.take k) (fun x hx => HCI.out.2.2 x (List.mem_of_mem_take hx))
          have h2 : (m.bl.take k).length ≤ 200 := by rw [List.length_take]; have := HCI.out.1; omega
          omega
        have hhl := headM_len HCI.out.2.1
        obtain ⟨⟨xi, xl, xf, xt⟩, hX⟩ : ∃ x, m.bl[k] = x := ⟨_, rfl⟩
        rw [hX] at hc0 hc1 hc2 hc3 hxi hts
        simp only at hc0 hc1 hc2 hc3
        have ka : Kept wr (wr.alloc (.cells #[.int .i64 xi, .int .i64 xl, .int .i64 xf, .int .i64 xt] 54)) := (Only.refl _ wr).alloc _
        have HBF := hid (block_fields (wr.alloc (.cells #[.int .i64 xi, .int .i64 xl, .int .i64 xf, .int .i64 xt] 54)) (w2.heap.size + 1) w2.heap.size wr.heap.size v _ (xi, xl, xf, xt) (Only.blk ka hP.out (fun f => f)) (ownN_stay hR.out ka) (Blk.new wr [.int .i64 xi, .int .i64 xl, .int .i64 xf, .int .i64 xt] 54) (Nat.le_trans hZ.out ka.size) (by rw [List.length_append]; omega) hxi)
        unfold plainV signedV at HBF
        have HKA := hid (hK.out.trans ka (fun _ _ f => f))
        have HTS := hid hts
        have hzz : w2.heap.size ≤ (wr.alloc (.cells #[.int .i64 xi, .int .i64 xl, .int .i64 xf, .int .i64 xt] 54)).heap.size := Nat.le_trans hZ.out ka.size
        have HZZ := hid hzz
        clear ka hts hrl hhl hX hzz hP hR hK hZ
        go_wp2_with fail
        refine HBF.out.mono ?_
        rintro e w8 ⟨rfl, v8, hP8, hR8, ho8⟩
        have HK8 := hid (tyO_kept ho8 HKA.out hwP (Nat.le_of_lt hwl))
        have HP8 := hid hP8
        have HR8 : Hid (BytAt w8 w2.heap.size v8 (headM m ++ refsB (m.bl.take (k + 1)))) := hid (by
          rw [HTS.out, ← List.append_assoc]
          exact hR8)
        have HZ8 := hid (Nat.le_trans HZZ.out ho8.size)
        clear hP8 hR8 ho8 HBF
        go_wp2_with fail
        go_roundw
        case rel => exact ⟨k + 1, v8, by omega, by go_num, HP8, HR8, HK8, HZ8⟩
        case measure => simp [intOf]; omega
      · have e : k = L := by omega
        subst e
        have c0 := hP.out.cell 0 rfl
        have hRB : BytAt wr w2.heap.size v (bodyM m) := by
          have h := hR.out
          rw [List.take_of_length_le (by have := HL.out; omega)] at h
          exact h
        have HRB := hid hRB
        have hbl : (bodyM m).length ≤ 8100 := by
          have h1 := refsB_len (l := m.bl) HCI.out.2.2
          have h2 := headM_len HCI.out.2.1
          have h3 := HCI.out.1
          unfold bodyM
          rw [List.length_append]
          omega
        have hbs : G.BSrc wr v (bodyM m) := by
          refine ⟨own_src hRB, ?_⟩
          rcases hRB.2 with ⟨rfl, h0⟩ | ⟨g, cap, cur, rfl, _, _, hcap, _⟩
          · exact ⟨none, 0, by rw [h0], by omega⟩
          · exact ⟨_, cap, rfl, hcap⟩
        have HSU := hid (G.sum_any wr v (bodyM m) hbs (by omega) (HT.out.stay hK.out))
        have HBL := hid hbl
        have hsl := G.sumL_lt (bodyM m)
        obtain ⟨SS, hSS⟩ : ∃ SS, G.sumL (bodyM m) = SS := ⟨_, rfl⟩
        rw [hSS] at HSU hsl
        have HSS := hid hSS
        obtain ⟨va, vc, hvv⟩ := ownN_slice hRB
        obtain ⟨NB, hNB⟩ : ∃ NB, (bodyM m).length = NB := ⟨_, rfl⟩
        rw [hNB] at hvv
        have HNB := hid hNB
        subst hvv
        clear hRB hbl hbs hSS hNB
        go_wp2_with fail
        refine HSU.out.mono ?_
        rintro e w9 ⟨rfl, k9⟩
        have c9 := (Only.blk k9 hP.out (fun f => f)).cell 0 rfl
        have HK9 := hid (hK.out.trans k9 (fun _ _ f => f))
        have HR9 := hid (ownN_stay HRB.out k9)
        have HZ9 := hid (Nat.le_trans hZ.out k9.size)
        obtain ⟨w10, e10⟩ : ∃ w10, w9.alloc (.cells #[.int .u8 ((SS : Int) % 256), .int .u8 ((SS : Int) / 256 % 256), .int .u8 ((SS : Int) / 65536 % 256), .int .u8 ((SS : Int) / 16777216)] 5) = w10 := ⟨_, rfl⟩
        have k10 : Kept w9 w10 := by rw [← e10]; exact (Only.refl _ w9).alloc _
        have hsrc : SrcOf w10 (.slice (some ⟨w9.heap.size, 0, none⟩) 4 4) ((G.four SS).map bV) := by
          rw [← e10]
          exact (G.lit_bsrc (G.four SS) w9 (vs := #[.int .u8 ((SS : Int) % 256), .int .u8 ((SS : Int) / 256 % 256), .int .u8 ((SS : Int) / 65536 % 256), .int .u8 ((SS : Int) / 16777216)]) (fz := (0, 0)) (four_vals SS hsl)).1
        obtain ⟨a11, n11, c11, w11, hr11, hn11, h11, o11⟩ := byt_app (w := w10) (ownN_stay HR9.out k10) hsrc (by have := HBL.out; have h4 : (G.four SS).length = 4 := rfl; omega) (Nat.le_trans HZ9.out k10.size)
        rw [← e10] at hr11
        have HR11 := hid hr11
        have HF : Hid (PQ (.returned (.tuple #[.slice a11 n11 c11, .int .i64 0])) w11) := hid (by
          rw [← HPQ.out]
          refine ⟨?_, .inr ⟨HCKE.out, _, rfl, ?_⟩⟩
          · exact (HK9.out.trans k10 (fun _ _ f => f)).trans o11.out (fun j hj e => by have := (ownN_lt (ownN_stay HR9.out k10) e).1; omega)
          · unfold packM
            rw [HSS.out]
            exact ownN_base h11.out (Nat.le_of_lt hwl))
        clear k9 HSU e10 k10 hsrc hr11 hn11 h11 o11
        go_wp2_with (at_builtin; refine Lys.wpList_append_run rfl _ _ _ rfl rfl rfl HR11.out ?_)
        exact HF.out
  · have HF : Hid (PQ (.returned (.tuple #[.slice none 0 0, .int .i64 CK])) w2) := hid (by
      rw [← HPQ.out]
      exact ⟨HK2.out, .inl ⟨by rw [HCKE.out]; exact h0, by rw [HCKE.out]⟩⟩)
    have e0 : (CK != 0) = true := by simpa using h0
    clear h0 m0 m1 m2 m3 k2 HCK
    go_wp2
    exact HF.out
end Go.Proofs.YtjifcgphlidimaaDoor.J
