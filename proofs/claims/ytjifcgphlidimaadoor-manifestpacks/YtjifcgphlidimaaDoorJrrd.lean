/-
  The document's own: what bytes are as a manifest.
-/
import Derived.Test.YtjifcgphlidimaaDoorJdn
import Derived.Test.YtjifcgphlidimaaDoorJrman
import Derived.Test.YtjifcgphlidimaaDoorJunp
namespace Go.Proofs.YtjifcgphlidimaaDoor.J
open Go Go.RowKit Go.Proofs.Lys
set_option linter.unusedVariables false
set_option linter.unusedSimpArgs false

theorem numD_none {f : List UInt8 → Option (Int × List UInt8)} {s s' : Option (List UInt8)} {n : Int} (h : NumD f s s' n) (hs : s.bind f = none) : s' = none := by
  unfold NumD at h
  rw [hs] at h
  exact h
theorem numD_some {f : List UInt8 → Option (Int × List UInt8)} {s s' : Option (List UInt8)} {n n0 : Int} {r : List UInt8} (h : NumD f s s' n) (hs : s.bind f = some (n0, r)) : s' = some r ∧ n = n0 := by
  unfold NumD at h
  rw [hs] at h
  exact h
/-- The four numbers ahead, and what is behind them. -/
def headA (bs : List UInt8) : Option ((Int × Int × Int × Int) × List UInt8) := (ownA bs).bind fun h => (numA h.2).bind fun n => some ((h.1.1, h.1.2.1, h.1.2.2, n.1), n.2)
theorem readD_head {bs : List UInt8} : readD bs = (headA bs).bind fun h => (refsA (min h.1.2.2.2.toNat 201) h.2).bind fun l => some ⟨l.1, h.1.1, h.1.2.1, h.1.2.2.1⟩ := by
  unfold readD headA
  cases ownA bs with
  | none => rfl
  | some h =>
    simp only [Option.bind_some]
    cases numA h.2 with
    | none => rfl
    | some n => rfl
theorem head_num {s0 s1 s2 s3 s4 : Option (List UInt8)} {r0 : List UInt8} {n g l c : Int} (h0 : s0 = some r0) (h1 : NumD numA s0 s1 n) (h2 : NumD numA s1 s2 g) (h3 : NumD sgnA s2 s3 l) (h4 : NumD numA s3 s4 c) :
    (s4 = none ∧ headA r0 = none) ∨ ∃ r, s4 = some r ∧ headA r0 = some ((n, g, l, c), r) := by
  subst h0
  unfold headA ownA
  cases e1 : numA r0 with
  | none =>
    have := numD_none h1 e1
    subst this
    have := numD_none h2 rfl
    subst this
    have := numD_none h3 rfl
    subst this
    exact .inl ⟨numD_none h4 rfl, rfl⟩
  | some x =>
    obtain ⟨rfl, rfl⟩ := numD_some (n0 := x.1) (r := x.2) h1 e1
    simp only [Option.bind_some]
    cases e2 : numA x.2 with
    | none =>
      have := numD_none h2 e2
      subst this
      have := numD_none h3 rfl
      subst this
      exact .inl ⟨numD_none h4 rfl, rfl⟩
    | some y =>
      obtain ⟨rfl, rfl⟩ := numD_some (n0 := y.1) (r := y.2) h2 e2
      simp only [Option.bind_some]
      cases e3 : sgnA y.2 with
      | none =>
        have := numD_none h3 e3
        subst this
        exact .inl ⟨numD_none h4 rfl, rfl⟩
      | some z =>
        obtain ⟨rfl, rfl⟩ := numD_some (n0 := z.1) (r := z.2) h3 e3
        simp only [Option.bind_some]
        cases e4 : numA z.2 with
        | none => exact .inl ⟨numD_none h4 e4, rfl⟩
        | some q =>
          obtain ⟨rfl, rfl⟩ := numD_some (n0 := q.1) (r := q.2) h4 e4
          exact .inr ⟨q.2, rfl, rfl⟩
theorem ref_num {s0 s1 s2 s3 s4 : Option (List UInt8)} {r0 : List UInt8} {i l f t : Int} (h0 : s0 = some r0) (h1 : NumD numA s0 s1 i) (h2 : NumD numA s1 s2 l) (h3 : NumD sgnA s2 s3 f) (h4 : NumD sgnA s3 s4 t) :
    (s4 = none ∧ refA r0 = none) ∨ ∃ r, s4 = some r ∧ refA r0 = some ((i, l, f, t), r) := by
  subst h0
  unfold refA
  cases e1 : numA r0 with
  | none =>
    have := numD_none h1 e1
    subst this
    have := numD_none h2 rfl
    subst this
    have := numD_none h3 rfl
    subst this
    exact .inl ⟨numD_none h4 rfl, rfl⟩
  | some x =>
    obtain ⟨rfl, rfl⟩ := numD_some (n0 := x.1) (r := x.2) h1 e1
    simp only [Option.bind_some]
    cases e2 : numA x.2 with
    | none =>
      have := numD_none h2 e2
      subst this
      have := numD_none h3 rfl
      subst this
      exact .inl ⟨numD_none h4 rfl, rfl⟩
    | some y =>
      obtain ⟨rfl, rfl⟩ := numD_some (n0 := y.1) (r := y.2) h2 e2
      simp only [Option.bind_some]
      cases e3 : sgnA y.2 with
      | none =>
        have := numD_none h3 e3
        subst this
        exact .inl ⟨numD_none h4 rfl, rfl⟩
      | some z =>
        obtain ⟨rfl, rfl⟩ := numD_some (n0 := z.1) (r := z.2) h3 e3
        simp only [Option.bind_some]
        cases e4 : sgnA z.2 with
        | none => exact .inl ⟨numD_none h4 e4, rfl⟩
        | some q =>
          obtain ⟨rfl, rfl⟩ := numD_some (n0 := q.1) (r := q.2) h4 e4
          exact .inr ⟨q.2, rfl, rfl⟩
theorem results_man_num {fn : Func} (h : fn.results = #[.cell 2 24, .tmp 3]) {R : Ending → World → Prop} {tmps : Array Value} {w : World} {g : Nat} {c0 c1 c2 c3 : Value}
    (hp : tmps.getD 2 undef = .pointer (some ⟨g, 0, none⟩)) (hb : Blk w g [c0, c1, c2, c3] 24) {y : Value} (hF : R (.returned (.tuple #[.agg #[c0, c1, c2, c3], y])) w) (hy : tmps.getD 3 undef = y) :
    bodyPost Tryd.prog fn R .ret { tmps := tmps, defers := [] } w := by
  refine bodyPost_ret (v := .tuple #[.agg #[c0, c1, c2, c3], y]) ?_ rfl hF
  have b0 := hb.cell 0 rfl
  have b1 := hb.cell 1 rfl
  have b2 := hb.cell 2 rfl
  have b3 := hb.cell 3 rfl
  have hp' : tmps[2]?.getD undef = .pointer (some ⟨g, 0, none⟩) := by simpa using hp
  have hy' : tmps[3]?.getD undef = y := by simpa using hy
  simp [results, h, hp', hy', asAddr, go_sem, b0, b1, b2, b3]
theorem src_pre {w : World} {a : Option Addr} {n c : Nat} {xs : List Value} (h : SrcOf w (.slice a n c) xs) {k : Nat} (h0 : 0 < k) (hk : k ≤ xs.length) : SrcOf w (.slice a k c) (xs.take k) := by
  rcases h with ⟨h1, h2⟩ | ⟨b, c', h1, hc⟩
  · rw [h2] at hk; simp at hk; omega
  · simp only [Value.slice.injEq] at h1
    obtain ⟨rfl, _, rfl⟩ := h1
    refine .inr ⟨b, c, by rw [List.length_take]; congr 1; omega, fun j u hu => ?_⟩
    rw [List.getElem?_take] at hu
    split at hu
    · exact hc j u hu
    · cases hu
theorem RdD.put {w0 w : World} {R : Nat} {v : Value} {bs : List UInt8} {s : Option (List UInt8)} (h : RdD w0 w R v bs s) (b i : Nat) (x : Value) (hb : b ≠ R) (hle : w0.heap.size ≤ b) : RdD w0 (w.setCell ⟨b, i, none⟩ x) R v bs s :=
  h.only ((Only.refl (fun j => j = b) w).setCell (p := ⟨b, i, none⟩) (fun _ => rfl) x) (fun e => hb e.symm) (fun j e => by omega)
theorem isM_mark {bs : List UInt8} {m : Man} (h : IsM bs m) : 8 ≤ bs.length ∧ bs.take 4 = markA := by
  rw [← h.2]
  unfold packM bodyM headM
  refine ⟨?_, rfl⟩
  simp only [List.length_append, List.length_cons, List.length_nil, four_len]
  omega

set_option maxRecDepth 100000 in
set_option maxHeartbeats 3200000 in
theorem rread_any (w : World) (v : Value) (bs : List UInt8) (hs : G.BSrc w v bs) (hl : bs.length ≤ 90000) : Calls Tryd.prog 13 #[v] w (UnpJ w bs) := by
  obtain ⟨PQ, hPQ⟩ : ∃ PQ, UnpJ w bs = PQ := ⟨_, rfl⟩
  rw [hPQ]
  have HPQ := hid hPQ
  have HS := hid hs
  have HL := hid hl
  obtain ⟨w1, hw1⟩ : ∃ w1, (w.alloc (.cells #[.slice none 0 0, .int .i64 0, .int .i64 0, .int .i64 0] 24)).alloc (.cells #[.slice none 0 0, .int .i64 0, .int .i64 0, .int .i64 0] 24) = w1 := ⟨_, rfl⟩
  have k1 : Kept w w1 := by rw [← hw1]; exact ((Only.refl _ w).alloc _).alloc _
  have hz1 : w1.heap.size = w.heap.size + 2 := by rw [← hw1]; simp
  have hA1 : Blk w1 w.heap.size [.slice none 0 0, .int .i64 0, .int .i64 0, .int .i64 0] 24 := by rw [← hw1]; exact (Blk.new w [.slice none 0 0, .int .i64 0, .int .i64 0, .int .i64 0] 24).alloc _
  have hM1 : Blk w1 (w.heap.size + 1) [.slice none 0 0, .int .i64 0, .int .i64 0, .int .i64 0] 24 := by
    have := Blk.new (w.alloc (.cells #[.slice none 0 0, .int .i64 0, .int .i64 0, .int .i64 0] 24)) [.slice none 0 0, .int .i64 0, .int .i64 0, .int .i64 0] 24
    rw [World.size_alloc] at this
    rw [← hw1]
    exact this
  have HW1 := hid hw1
  have HK1 := hid k1
  have HZ1 := hid hz1
  have HA1 := hid hA1
  have HM1 := hid hM1
  have q0 := hA1.cell 0 rfl
  have q1 := hA1.cell 1 rfl
  have q2 := hA1.cell 2 rfl
  have q3 := hA1.cell 3 rfl
  have g0 := hA1.frozen 0
  have g1 := hA1.frozen 1
  have g2 := hA1.frozen 2
  have g3 := hA1.frozen 3
  have m0 := hM1.cell 0 rfl
  have m1 := hM1.cell 1 rfl
  have m2 := hM1.cell 2 rfl
  have m3 := hM1.cell 3 rfl
  have HF0 : Hid ((∀ m, ¬ IsM bs m) → PQ (.returned (.tuple #[.agg #[.slice none 0 0, .int .i64 0, .int .i64 0, .int .i64 0], .int .i64 5])) w1) := hid (fun hno => by
    rw [← HPQ.out]
    exact ⟨k1, .inr ⟨hno, rfl⟩⟩)
  by_cases h8 : bs.length < 8
  · have HF := hid (HF0.out (fun m hm => by have := (isM_mark hm).1; omega))
    obtain ⟨x0, y0, e0⟩ := hs.len
    generalize hLL : bs.length = LL at e0 h8
    subst e0
    have d8 : decide (LL < 8) = true := decide_eq_true h8
    clear hs hl hPQ hw1 k1 hA1 hM1 hLL HF0
    go_enter Tryd.func13, Tryd.ntmps13
    go_wp2_with fail
    rw [HW1.out]
    go_wp2_with fail
    exact results_man_num rfl rfl HA1.out HF.out rfl
  obtain ⟨LN, hLN⟩ : ∃ LN, bs.length = LN + 4 := ⟨bs.length - 4, by omega⟩
  have hLN4 : 4 ≤ LN := by omega
  obtain ⟨hs1, x0, y0, e0, hcap⟩ := hs
  rw [hLN] at e0 hcap
  subst e0
  have hy4 : 4 ≤ y0 := by omega
  have hyl : LN ≤ y0 := by omega
  have hwl : wrap64 (LN : Int) = (LN : Int) := by unfold wrap64; omega
  have b5 : G.BSrc w (.slice x0 LN y0) (bs.take LN) := by
    have hl5 : (bs.take LN).length = LN := by rw [List.length_take]; omega
    refine ⟨?_, x0, y0, by rw [hl5], by rw [hl5]; exact hyl⟩
    rw [List.map_take]
    exact src_pre hs1 (by omega) (by rw [List.length_map]; omega)
  have cv := G.bytes_str (w := w1) (v := .slice x0 4 y0) (bs := bs.take 4) (by
    rw [List.map_take]
    exact (src_pre hs1 (by decide) (by rw [List.length_map]; omega)).stay k1)
  obtain ⟨sa, hsa⟩ : ∃ sa, (⟨(bs.take 4).toArray⟩ : ByteArray) = sa := ⟨_, rfl⟩
  rw [hsa] at cv
  have d8 : decide ((LN : Int) + 4 < 8) = false := decide_eq_false (by omega)
  by_cases hmk : bs.take 4 = markA
  · have heq : (sa.toList == [76, 89, 83, 77]) = true := by
      rw [← hsa, ByteArray.toList_eq]
      simpa [markA] using hmk
    have HB5 := hid b5
    have HMK := hid hmk
    have HLN := hid hLN
    clear hl hPQ hw1 k1 hA1 hM1 HF0 b5 hsa hmk hs1 hcap
    go_enter Tryd.func13, Tryd.ntmps13
    go_wp2_with fail
    rw [HW1.out, cv]
    go_simp
    go_wp2_with fail
    obtain ⟨wB, hwB⟩ : ∃ wB, w1.alloc (.cells #[.slice x0 LN y0, .int .i64 4, .bool false] 66) = wB := ⟨_, rfl⟩
    have kB : Kept w1 wB := by rw [← hwB]; exact (Only.refl _ w1).alloc _
    have hl5 : (bs.take LN).length = LN := by rw [List.length_take]; have := HLN.out; omega
    have HL5 : Hid ((bs.take LN).length ≤ 100000) := hid (by have := HL.out; have := HLN.out; omega)
    have HRa0 : Hid (RdD w wB (w.heap.size + 2) (.slice x0 LN y0) (bs.take LN) (some ((bs.take LN).drop 4))) := hid (by
      refine ⟨4, false, by omega, ?_, HB5.out, HK1.out.trans kB (fun _ _ f => f), by omega, rfl⟩
      have := Blk.new w1 [.slice x0 LN y0, .int .i64 4, .bool false] 66
      rw [HZ1.out] at this
      rw [← hwB]
      exact this)
    obtain ⟨r0, hr0⟩ : ∃ r0, (bs.take LN).drop 4 = r0 := ⟨_, rfl⟩
    rw [hr0] at HRa0
    obtain ⟨sa0, hsa0⟩ : ∃ sa0, sa0 = some r0 := ⟨_, rfl⟩
    rw [← hsa0] at HRa0
    have HSA0 := hid hsa0
    have HR0 := hid hr0
    have HXa0 := hid (Only.blk kB HM1.out (fun f => f))
    have HAB := hid (Only.blk kB HA1.out (fun f => f))
    have HOa0 : Hid (Only (fun j => j = w.heap.size + 2 ∨ j = w.heap.size + 1) wB wB) := hid (Only.refl _ _)
    rw [hwB]
    clear hwB kB hl5 hr0 hsa0 q0 q1 q2 q3 g0 g1 g2 g3 m0 m1 m2 m3 cv heq
    have HCa0 := hid (rnum_any w (wB) (w.heap.size + 2) (.slice x0 LN y0) (bs.take LN) sa0 HRa0.out HL5.out)
    go_wp2_with fail
    refine HCa0.out.mono ?_
    rintro e ua0 ⟨va0, sa1, rfl, hna0, hra0, hoa0, _⟩
    have HNa0 := hid hna0
    have hxa0 := Only.blk hoa0 HXa0.out (fun e => by omega)
    have ffa0 := hxa0.frozen 1
    have cca0 := hxa0.cell 1 rfl
    have HRa1 := hid (hra0.put (w.heap.size + 1) 1 (.int .i64 va0) (by omega) (by omega))
    have HXa1 : Hid (Blk (ua0.setCell ⟨(w.heap.size + 1), 1, none⟩ (.int .i64 va0)) (w.heap.size + 1) [.slice none 0 0, .int .i64 va0, .int .i64 0, .int .i64 0] 24) := hid (hxa0.set 1 (.int .i64 va0))
    have HOa1 := hid ((HOa0.out.trans hoa0 (fun j _ e => .inl e)).setCell (p := ⟨(w.heap.size + 1), 1, none⟩) (fun _ => .inr rfl) (.int .i64 va0))
    clear hna0 hra0 hoa0 hxa0 HCa0
    have HCa1 := hid (rnum_any w (ua0.setCell ⟨(w.heap.size + 1), 1, none⟩ (.int .i64 va0)) (w.heap.size + 2) (.slice x0 LN y0) (bs.take LN) sa1 HRa1.out HL5.out)
    go_wp2_with fail
    refine HCa1.out.mono ?_
    rintro e ua1 ⟨va1, sa2, rfl, hna1, hra1, hoa1, _⟩
    have HNa1 := hid hna1
    have hxa1 := Only.blk hoa1 HXa1.out (fun e => by omega)
    have ffa1 := hxa1.frozen 2
    have cca1 := hxa1.cell 2 rfl
    have HRa2 := hid (hra1.put (w.heap.size + 1) 2 (.int .i64 va1) (by omega) (by omega))
    have HXa2 : Hid (Blk (ua1.setCell ⟨(w.heap.size + 1), 2, none⟩ (.int .i64 va1)) (w.heap.size + 1) [.slice none 0 0, .int .i64 va0, .int .i64 va1, .int .i64 0] 24) := hid (hxa1.set 2 (.int .i64 va1))
    have HOa2 := hid ((HOa1.out.trans hoa1 (fun j _ e => .inl e)).setCell (p := ⟨(w.heap.size + 1), 2, none⟩) (fun _ => .inr rfl) (.int .i64 va1))
    clear hna1 hra1 hoa1 hxa1 HCa1
    have HCa2 := hid (rsgn_any w (ua1.setCell ⟨(w.heap.size + 1), 2, none⟩ (.int .i64 va1)) (w.heap.size + 2) (.slice x0 LN y0) (bs.take LN) sa2 HRa2.out HL5.out)
    go_wp2_with fail
    refine HCa2.out.mono ?_
    rintro e ua2 ⟨va2, sa3, rfl, hna2, hra2, hoa2⟩
    have HNa2 := hid hna2
    have hxa2 := Only.blk hoa2 HXa2.out (fun e => by omega)
    have ffa2 := hxa2.frozen 3
    have cca2 := hxa2.cell 3 rfl
    have HRa3 := hid (hra2.put (w.heap.size + 1) 3 (.int .i64 va2) (by omega) (by omega))
    have HXa3 : Hid (Blk (ua2.setCell ⟨(w.heap.size + 1), 3, none⟩ (.int .i64 va2)) (w.heap.size + 1) [.slice none 0 0, .int .i64 va0, .int .i64 va1, .int .i64 va2] 24) := hid (hxa2.set 3 (.int .i64 va2))
    have HOa3 := hid ((HOa2.out.trans hoa2 (fun j _ e => .inl e)).setCell (p := ⟨(w.heap.size + 1), 3, none⟩) (fun _ => .inr rfl) (.int .i64 va2))
    clear hna2 hra2 hoa2 hxa2 HCa2
    have HCa3 := hid (rnum_any w (ua2.setCell ⟨(w.heap.size + 1), 3, none⟩ (.int .i64 va2)) (w.heap.size + 2) (.slice x0 LN y0) (bs.take LN) sa3 HRa3.out HL5.out)
    go_wp2_with fail
    refine HCa3.out.mono ?_
    rintro e ua3 ⟨va3, sa4, rfl, hna3, hra3, hoa3, _⟩
    have HNa3 := hid hna3
    have hxa3 := Only.blk hoa3 HXa3.out (fun e => by omega)
    have HRa4 := hid hra3
    have HXa4 := hid hxa3
    have HOa4 := hid (HOa3.out.trans hoa3 (fun j _ e => .inl e))
    clear hna3 hra3 hoa3 hxa3 HCa3
    have HAC := hid (Only.blk HOa4.out HAB.out (fun e => by rcases e with e | e <;> omega))
    have HHD := hid (head_num HSA0.out HNa0.out HNa1.out HNa2.out HNa3.out)
    obtain ⟨NN, hNN⟩ : ∃ NN, min va3.toNat 201 = NN := ⟨_, rfl⟩
    have HNN := hid hNN
    have HREL : Hid ((sa4 = none ∧ readD r0 = none) ∨ ∃ rest, sa4 = some rest ∧ 0 ≤ NN ∧ readD r0 = (refsA (NN - 0) rest).bind fun y => some ⟨[] ++ y.1, va0, va1, va2⟩) := hid (by
      rcases HHD.out with ⟨h1, h2⟩ | ⟨r4, h1, h2⟩
      · exact .inl ⟨h1, by rw [readD_head, h2]; rfl⟩
      · exact .inr ⟨r4, h1, Nat.zero_le _, by rw [readD_head, h2]; simp only [Option.bind_some]; rw [hNN, Nat.sub_zero]; rfl⟩)
    clear hNN
    go_wp2_with fail
    go_loopw [7] (fun s wr => ∃ (k : Nat) (acc : List Rf) (st : Option (List UInt8)) (sv : Value), k ≤ 201 ∧ s = .int .i64 (k : Int) ∧ acc.length = k ∧ Hid ((st = none ∧ readD r0 = none) ∨ ∃ rest, st = some rest ∧ k ≤ NN ∧ readD r0 = (refsA (NN - k) rest).bind fun y => some ⟨acc ++ y.1, va0, va1, va2⟩) ∧ Hid (RdD w wr (w.heap.size + 2) (.slice x0 LN y0) (bs.take LN) st) ∧ Hid (Blk wr (w.heap.size + 1) [sv, .int .i64 va0, .int .i64 va1, .int .i64 va2] 24) ∧ Hid (Blk wr w.heap.size [.slice none 0 0, .int .i64 0, .int .i64 0, .int .i64 0] 24) ∧ Hid (RfAt wr w1.heap.size sv acc)) (fun s _ => 201 - (intOf s).toNat)
    case atStart => exact ⟨0, [], sa4, .slice none 0 0, by omega, rfl, rfl, HREL, HRa4, HXa4, HAC, hid ⟨rfl, .inl ⟨rfl, rfl⟩⟩⟩
    case round =>
      obtain ⟨k, acc, st, sv, hk, rfl, hacc, hRel, hR, hM, hA, hW⟩ := hrel
      obtain ⟨pos, bad, hpos, hRB, _, _, _, hst⟩ := hR.out
      have r2 := hRB.cell 2 rfl
      have HAK := hid hacc
      rcases hRel.out with ⟨hs0, hno⟩ | ⟨rest, hs0, hkN, hrd⟩
      · have hbad : bad = true := by
          cases bad with
          | true => rfl
          | false => rw [hs0] at hst; simp at hst
        subst hbad
        have HNO : Hid (∀ m, ¬ IsM bs m) := hid (fun m hm => by
          have h := hm.readD
          rw [HLN.out, Nat.add_sub_cancel, HR0.out, hno] at h
          cases h)
        have g0 := hA.out.frozen 0
        have g1 := hA.out.frozen 1
        have g2 := hA.out.frozen 2
        have g3 := hA.out.frozen 3
        have q0 := hA.out.cell 0 rfl
        have q1 := hA.out.cell 1 rfl
        have q2 := hA.out.cell 2 rfl
        have q3 := hA.out.cell 3 rfl
        have HE0 := hid ((((hA.out.set 0 (.slice none 0 0)).set 1 (.int .i64 0)).set 2 (.int .i64 0)).set 3 (.int .i64 0))
        have HF : Hid (PQ (.returned (.tuple #[.agg #[.slice none 0 0, .int .i64 0, .int .i64 0, .int .i64 0], .int .i64 5])) ((((wr.setCell ⟨w.heap.size, 0, none⟩ (.slice none 0 0)).setCell ⟨w.heap.size, 1, none⟩ (.int .i64 0)).setCell ⟨w.heap.size, 2, none⟩ (.int .i64 0)).setCell ⟨w.heap.size, 3, none⟩ (.int .i64 0))) := hid (by
          rw [← HPQ.out]
          exact ⟨kset4 _ _ _ _ _ _ hR.out.kept (Nat.le_refl _), .inr ⟨HNO.out, rfl⟩⟩)
        obtain ⟨D, hD⟩ : ∃ D, decide ((k : Int) < va3) = D := ⟨_, rfl⟩
        have HR9 := hid hR.out
        clear hRel hR hM hW hRB hs0 hno hst hA
        cases D
        · go_wp2_with fail
          exact results_man_num rfl rfl HE0.out HF.out rfl
        · go_wp2_with fail
          exact results_man_num rfl rfl HE0.out HF.out rfl
      · have hbad : bad = false := by
          cases bad with
          | false => rfl
          | true => rw [hs0] at hst; simp at hst
        subst hbad
        by_cases hlt : k < NN
        · have d1 : decide ((k : Int) < va3) = true := decide_eq_true (by have := HNN.out; omega)
          have d2 : decide ((k : Int) < 201) = true := decide_eq_true (by have := HNN.out; omega)
          have hml := hM.out.lt
          have hRl := hR.out.lt
          have HML := hid hml
          have HRL := hid hRl
          have HLT := hid hlt
          obtain ⟨xb, hxb⟩ : ∃ xb, wr.heap.size = xb := ⟨_, rfl⟩
          obtain ⟨wx, hwx⟩ : ∃ wx, wr.alloc (.cells #[.int .i64 0, .int .i64 0, .int .i64 0, .int .i64 0] 54) = wx := ⟨_, rfl⟩
          have kx : Kept wr wx := by rw [← hwx]; exact (Only.refl _ wr).alloc _
          have HXb0 : Hid (Blk wx xb [.int .i64 0, .int .i64 0, .int .i64 0, .int .i64 0] 54) := hid (by rw [← hwx, ← hxb]; exact Blk.new wr _ _)
          obtain ⟨sb0, hsb0⟩ : ∃ sb0, sb0 = st := ⟨_, rfl⟩
          have HRb0 : Hid (RdD w wx (w.heap.size + 2) (.slice x0 LN y0) (bs.take LN) sb0) := hid (by rw [hsb0]; exact hR.out.only kx (fun f => f) (fun _ f => f.elim))
          have HOb0 : Hid (Only (fun j => j = w.heap.size + 2 ∨ j = xb) wx wx) := hid (Only.refl _ _)
          have HSB : Hid (sb0 = some rest) := hid (by rw [hsb0]; exact hs0)
          have HKX := hid kx
          have HWX := hid hwx
          have HXB := hid hxb
          have HRD := hid hrd
          have HXN : Hid (xb ≠ w.heap.size + 2 ∧ xb ≠ w.heap.size + 1 ∧ w.heap.size + 2 < xb) := hid (by omega)
          have hxn := HXN.out
          clear hRel hR hRB hs0 hrd hst kx hsb0 hml hRl hxb hwx
          go_wp2_with fail
          rw [HWX.out]
          simp only [HXB.out]
          go_wp2_with fail
          have HCb0 := hid (rnum_any w (wx) (w.heap.size + 2) (.slice x0 LN y0) (bs.take LN) sb0 HRb0.out HL5.out)
          go_wp2_with fail
          refine HCb0.out.mono ?_
          rintro e ub0 ⟨vb0, sb1, rfl, hnb0, hrb0, hob0, _⟩
          have HNb0 := hid hnb0
          have hxb0 := Only.blk hob0 HXb0.out (fun e => by omega)
          have ffb0 := hxb0.frozen 0
          have ccb0 := hxb0.cell 0 rfl
          have HRb1 := hid (hrb0.put xb 0 (.int .i64 vb0) (by omega) (by omega))
          have HXb1 : Hid (Blk (ub0.setCell ⟨xb, 0, none⟩ (.int .i64 vb0)) xb [.int .i64 vb0, .int .i64 0, .int .i64 0, .int .i64 0] 54) := hid (hxb0.set 0 (.int .i64 vb0))
          have HOb1 := hid ((HOb0.out.trans hob0 (fun j _ e => .inl e)).setCell (p := ⟨xb, 0, none⟩) (fun _ => .inr rfl) (.int .i64 vb0))
          clear hnb0 hrb0 hob0 hxb0 HCb0
          have HCb1 := hid (rnum_any w (ub0.setCell ⟨xb, 0, none⟩ (.int .i64 vb0)) (w.heap.size + 2) (.slice x0 LN y0) (bs.take LN) sb1 HRb1.out HL5.out)
          go_wp2_with fail
          refine HCb1.out.mono ?_
          rintro e ub1 ⟨vb1, sb2, rfl, hnb1, hrb1, hob1, _⟩
          have HNb1 := hid hnb1
          have hxb1 := Only.blk hob1 HXb1.out (fun e => by omega)
          have ffb1 := hxb1.frozen 1
          have ccb1 := hxb1.cell 1 rfl
          have HRb2 := hid (hrb1.put xb 1 (.int .i64 vb1) (by omega) (by omega))
          have HXb2 : Hid (Blk (ub1.setCell ⟨xb, 1, none⟩ (.int .i64 vb1)) xb [.int .i64 vb0, .int .i64 vb1, .int .i64 0, .int .i64 0] 54) := hid (hxb1.set 1 (.int .i64 vb1))
          have HOb2 := hid ((HOb1.out.trans hob1 (fun j _ e => .inl e)).setCell (p := ⟨xb, 1, none⟩) (fun _ => .inr rfl) (.int .i64 vb1))
          clear hnb1 hrb1 hob1 hxb1 HCb1
          have HCb2 := hid (rsgn_any w (ub1.setCell ⟨xb, 1, none⟩ (.int .i64 vb1)) (w.heap.size + 2) (.slice x0 LN y0) (bs.take LN) sb2 HRb2.out HL5.out)
          go_wp2_with fail
          refine HCb2.out.mono ?_
          rintro e ub2 ⟨vb2, sb3, rfl, hnb2, hrb2, hob2⟩
          have HNb2 := hid hnb2
          have hxb2 := Only.blk hob2 HXb2.out (fun e => by omega)
          have ffb2 := hxb2.frozen 2
          have ccb2 := hxb2.cell 2 rfl
          have HRb3 := hid (hrb2.put xb 2 (.int .i64 vb2) (by omega) (by omega))
          have HXb3 : Hid (Blk (ub2.setCell ⟨xb, 2, none⟩ (.int .i64 vb2)) xb [.int .i64 vb0, .int .i64 vb1, .int .i64 vb2, .int .i64 0] 54) := hid (hxb2.set 2 (.int .i64 vb2))
          have HOb3 := hid ((HOb2.out.trans hob2 (fun j _ e => .inl e)).setCell (p := ⟨xb, 2, none⟩) (fun _ => .inr rfl) (.int .i64 vb2))
          clear hnb2 hrb2 hob2 hxb2 HCb2
          have HCb3 := hid (rsgn_any w (ub2.setCell ⟨xb, 2, none⟩ (.int .i64 vb2)) (w.heap.size + 2) (.slice x0 LN y0) (bs.take LN) sb3 HRb3.out HL5.out)
          go_wp2_with fail
          refine HCb3.out.mono ?_
          rintro e ub3 ⟨vb3, sb4, rfl, hnb3, hrb3, hob3⟩
          have HNb3 := hid hnb3
          have hxb3 := Only.blk hob3 HXb3.out (fun e => by omega)
          have ffb3 := hxb3.frozen 3
          have ccb3 := hxb3.cell 3 rfl
          have HRb4 := hid (hrb3.put xb 3 (.int .i64 vb3) (by omega) (by omega))
          have HXb4 : Hid (Blk (ub3.setCell ⟨xb, 3, none⟩ (.int .i64 vb3)) xb [.int .i64 vb0, .int .i64 vb1, .int .i64 vb2, .int .i64 vb3] 54) := hid (hxb3.set 3 (.int .i64 vb3))
          have HOb4 := hid ((HOb3.out.trans hob3 (fun j _ e => .inl e)).setCell (p := ⟨xb, 3, none⟩) (fun _ => .inr rfl) (.int .i64 vb3))
          clear hnb3 hrb3 hob3 hxb3 HCb3
          have HRF := hid (ref_num HSB.out HNb0.out HNb1.out HNb2.out HNb3.out)
          obtain ⟨U, hU⟩ : ∃ U, ub3.setCell ⟨xb, 3, none⟩ (.int .i64 vb3) = U := ⟨_, rfl⟩
          rw [hU] at HRb4 HXb4 HOb4
          have hOU : Only (fun j => j = w.heap.size + 2 ∨ j = xb) wr U := (HKX.out.mono (fun _ _ f => f.elim)).trans HOb4.out (fun _ _ e => e)
          have hMU := Only.blk hOU hM.out (fun e => by rcases e with e | e <;> omega)
          have hAU := Only.blk hOU hA.out (fun e => by rcases e with e | e <;> omega)
          have hWU := ownN_only hW.out hOU (fun b hb e => by
            rcases e with e | e
            · obtain ⟨_, _, _, hRB, _⟩ := HRb0.out
              have h9 := Only.blk HKX.out hM.out (fun f => f)
              have ht := (ownN_typed (ownN_stay hW.out HKX.out) hb).ne hRB.typed (by decide)
              exact ht e
            · have := (ownN_lt hW.out hb).2
              have := HXB.out
              omega)
          have hZU : w1.heap.size ≤ U.heap.size := by have := HZ1.out; have := HRb4.out.lt; omega
          obtain ⟨gg, cap, w9, hr9, hW9, ho9⟩ := rf_one hWU hZU (vb0, vb1, vb2, vb3) (by omega)
          have hRBU : ∃ vs, Blk U (w.heap.size + 2) vs 66 := by
            obtain ⟨_, _, _, hRB, _⟩ := HRb4.out
            exact ⟨_, hRB⟩
          obtain ⟨rvs, hRBU⟩ := hRBU
          have hM9 := Only.blk ho9 hMU (fun e => (ownN_typed hWU e).ne hMU.typed (by decide) rfl)
          have hA9 := Only.blk ho9 hAU (fun e => (ownN_typed hWU e).ne hAU.typed (by decide) rfl)
          have hR9 := HRb4.out.only ho9 (fun e => (ownN_typed hWU e).ne hRBU.typed (by decide) rfl) (fun j e => by have := (ownN_lt hWU e).1; have := HZ1.out; omega)
          have hOm : Only (fun j => j = w.heap.size + 1) w9 (w9.setCell ⟨w.heap.size + 1, 0, none⟩ (.slice (some ⟨gg, 0, none⟩) (acc.length + 1) cap)) := (Only.refl (fun j => j = w.heap.size + 1) w9).setCell (fun _ => rfl) _
          have HR10 := hid (hR9.put (w.heap.size + 1) 0 (.slice (some ⟨gg, 0, none⟩) (acc.length + 1) cap) (by omega) (by omega))
          have HW10 := hid (ownN_only hW9 hOm (fun b hb e => (ownN_typed hW9 hb).ne hM9.typed (by decide) e))
          have HM10 := hid (hM9.set 0 (.slice (some ⟨gg, 0, none⟩) (acc.length + 1) cap))
          have HA10 := hid (Only.blk hOm hA9 (fun e => by omega))
          have HRL2 : Hid ((sb4 = none ∧ readD r0 = none) ∨ ∃ rest, sb4 = some rest ∧ k + 1 ≤ NN ∧ readD r0 = (refsA (NN - (k + 1)) rest).bind fun y => some ⟨(acc ++ [(vb0, vb1, vb2, vb3)]) ++ y.1, va0, va1, va2⟩) := hid (by
            have hf : NN - k = (NN - (k + 1)) + 1 := by have := HLT.out; omega
            have h := HRD.out
            rw [hf, refsA] at h
            rcases HRF.out with ⟨e1, e2⟩ | ⟨r, e1, e2⟩
            · rw [e2] at h
              exact .inl ⟨e1, h⟩
            · refine .inr ⟨r, e1, by have := HLT.out; omega, ?_⟩
              rw [h, e2]
              simp only [Option.bind_some]
              cases refsA (NN - (k + 1)) r with
              | none => rfl
              | some y => simp)
          have z0 := HXb4.out.cell 0 rfl
          have z1 := HXb4.out.cell 1 rfl
          have z2 := HXb4.out.cell 2 rfl
          have z3 := HXb4.out.cell 3 rfl
          have z4 := hMU.cell 0 rfl
          have z5 := hM9.frozen 0
          have z6 := hM9.cell 0 rfl
          have HR9 := hr9
          obtain ⟨sa, sc, hsv⟩ := ownN_slice hWU
          rw [HAK.out] at HR9 HR10 HW10 HM10 HA10 hsv
          subst hsv
          have HU := hid hU
          clear hOU hMU hAU hWU hZU hr9 hW9 ho9 hRBU hM9 hA9 hR9 hOm hM hA hW hU
          go_wp2_with (first | (rw [HU.out]) | (at_builtin; refine Lys.wpList_append_run rfl _ _ _ rfl rfl rfl HR9.out ?_))
          go_roundw
          case rel => exact ⟨k + 1, acc ++ [(vb0, vb1, vb2, vb3)], sb4, _, by have := HLT.out; have := HNN.out; omega, by go_num, by rw [List.length_append, HAK.out]; rfl, HRL2, HR10, HM10, HA10, HW10⟩
          case measure => simp [intOf]; have := HLT.out; have := HNN.out; omega
        · have hkN2 : k = NN := by omega
          have hRD : readD r0 = some ⟨acc, va0, va1, va2⟩ := by
            rw [hrd, hkN2, Nat.sub_self, refsA]
            simp
          have HIS : Hid (∀ m, IsM bs m → m = ⟨acc, va0, va1, va2⟩) := hid (fun m hm => by
            have h := hm.readD
            rw [HLN.out, Nat.add_sub_cancel, HR0.out, hRD] at h
            injection h with h
            exact h.symm)
          have HKN2 := hid hkN2
          clear hkN2 hlt
          obtain ⟨sa', sc', hsv⟩ := ownN_slice hW.out
          rw [hacc] at hsv
          subst hsv
          have HPK := hid (rpack_any wr sa' sc' ⟨acc, va0, va1, va2⟩ (by
            show RfSrc wr (.slice sa' acc.length sc') acc
            rw [hacc]
            exact hW.out.src))
          unfold manV at HPK
          simp only [hacc] at HPK
          have HA9 := hid hA.out
          have HM9 := hid hM.out
          have HW9 := hid hW.out
          have HKR := hid hR.out.kept
          have n0 := hM.out.cell 0 rfl
          have n1 := hM.out.cell 1 rfl
          have n2 := hM.out.cell 2 rfl
          have n3 := hM.out.cell 3 rfl
          clear hRel hR hM hW hRB hs0 hst hA hrd hRD hkN hacc
          by_cases hd : (k : Int) < va3
          · have d1 := decide_eq_true hd
            have d2 : decide ((k : Int) < 201) = false := decide_eq_false (by have := HNN.out; have := HKN2.out; omega)
            clear hd
            go_wp2_with fail
            refine HPK.out.mono ?_
            rintro e w9 ⟨k9, ⟨hck, rfl⟩ | ⟨hck, bv, rfl, hby⟩⟩
            · have hA9 := Only.blk k9 HA9.out (fun f => f)
              have HK9 := hid (HKR.out.trans k9 (fun _ _ f => f))
              have HNO : Hid (∀ m, ¬ IsM bs m) := hid (fun m hm => by
                have e := HIS.out m hm
                subst e
                exact hck hm.1)
              have g0 := hA9.frozen 0
              have g1 := hA9.frozen 1
              have g2 := hA9.frozen 2
              have g3 := hA9.frozen 3
              have q0 := hA9.cell 0 rfl
              have q1 := hA9.cell 1 rfl
              have q2 := hA9.cell 2 rfl
              have q3 := hA9.cell 3 rfl
              have HE0 := hid ((((hA9.set 0 (.slice none 0 0)).set 1 (.int .i64 0)).set 2 (.int .i64 0)).set 3 (.int .i64 0))
              have HF : Hid (PQ (.returned (.tuple #[.agg #[.slice none 0 0, .int .i64 0, .int .i64 0, .int .i64 0], .int .i64 5])) ((((w9.setCell ⟨w.heap.size, 0, none⟩ (.slice none 0 0)).setCell ⟨w.heap.size, 1, none⟩ (.int .i64 0)).setCell ⟨w.heap.size, 2, none⟩ (.int .i64 0)).setCell ⟨w.heap.size, 3, none⟩ (.int .i64 0))) := hid (by
                rw [← HPQ.out]
                exact ⟨kset4 _ _ _ _ _ _ HK9.out (Nat.le_refl _), .inr ⟨HNO.out, rfl⟩⟩)
              obtain ⟨X, hX⟩ : ∃ X, chkO ⟨acc, va0, va1, va2⟩ = X := ⟨_, rfl⟩
              have hX0 : (X != 0) = true := by rw [hX] at hck; simpa using hck
              rw [hX]
              clear hA9 k9 hck hX HPK
              go_wp2_with fail
              exact results_man_num rfl rfl HE0.out HF.out rfl
            · have hA9 := Only.blk k9 HA9.out (fun f => f)
              have hM9 := Only.blk k9 HM9.out (fun f => f)
              have HK9 := hid (HKR.out.trans k9 (fun _ _ f => f))
              have HCK := hid hck
              have cv1 := G.bytes_str (own_src hby)
              have cv2 := G.bytes_str (HS.out.1.stay HK9.out)
              have hcmp := G.str_eq (packM ⟨acc, va0, va1, va2⟩) bs
              generalize (⟨(packM ⟨acc, va0, va1, va2⟩).toArray⟩ : ByteArray) = sA at cv1 hcmp
              generalize (⟨bs.toArray⟩ : ByteArray) = sB at cv2 hcmp
              have g0 := hA9.frozen 0
              have g1 := hA9.frozen 1
              have g2 := hA9.frozen 2
              have g3 := hA9.frozen 3
              have q0 := hA9.cell 0 rfl
              have q1 := hA9.cell 1 rfl
              have q2 := hA9.cell 2 rfl
              have q3 := hA9.cell 3 rfl
              have y0' := hM9.cell 0 rfl
              have y1' := hM9.cell 1 rfl
              have y2' := hM9.cell 2 rfl
              have y3' := hM9.cell 3 rfl
              obtain ⟨ba, bc, hbv⟩ := ownN_slice hby
              generalize (packM ⟨acc, va0, va1, va2⟩).length = BL at hbv
              subst hbv
              by_cases heq : packM ⟨acc, va0, va1, va2⟩ = bs
              · have hc1 : (sA.toList == sB.toList) = true := by rw [hcmp]; exact decide_eq_true heq
                have HIM : Hid (IsM bs ⟨acc, va0, va1, va2⟩) := hid ⟨HCK.out, heq⟩
                have HE0 := hid ((((hA9.set 0 (.slice sa' k sc')).set 1 (.int .i64 va0)).set 2 (.int .i64 va1)).set 3 (.int .i64 va2))
                have HF : Hid (PQ (.returned (.tuple #[.agg #[.slice sa' k sc', .int .i64 va0, .int .i64 va1, .int .i64 va2], .int .i64 0])) ((((w9.setCell ⟨w.heap.size, 0, none⟩ (.slice sa' k sc')).setCell ⟨w.heap.size, 1, none⟩ (.int .i64 va0)).setCell ⟨w.heap.size, 2, none⟩ (.int .i64 va1)).setCell ⟨w.heap.size, 3, none⟩ (.int .i64 va2))) := hid (by
                  rw [← HPQ.out]
                  refine ⟨kset4 _ _ _ _ _ _ HK9.out (Nat.le_refl _), .inl ⟨⟨acc, va0, va1, va2⟩, sa', sc', HIM.out, ?_, ?_⟩⟩
                  · unfold manV
                    rw [← HAK.out]
                  · show RfAt _ _ (.slice sa' acc.length sc') acc
                    rw [HAK.out]
                    have hw9 := ownN_stay HW9.out k9
                    exact ownN_base (kset4_row hw9 _ _ _ _ (fun q hq => by have := (ownN_lt hw9 hq).1; have := HZ1.out; omega)) (by have := HZ1.out; omega))
                clear hA9 hM9 k9 hck hby hcmp heq HPK
                go_wp2_with fail
                exact results_man_num rfl rfl HE0.out HF.out rfl
              · have hc1 : (sA.toList == sB.toList) = false := by rw [hcmp]; exact decide_eq_false heq
                have HNO : Hid (∀ m, ¬ IsM bs m) := hid (fun m hm => by
                  have e := HIS.out m hm
                  subst e
                  exact heq hm.2)
                have HE0 := hid ((((hA9.set 0 (.slice none 0 0)).set 1 (.int .i64 0)).set 2 (.int .i64 0)).set 3 (.int .i64 0))
                have HF : Hid (PQ (.returned (.tuple #[.agg #[.slice none 0 0, .int .i64 0, .int .i64 0, .int .i64 0], .int .i64 5])) ((((w9.setCell ⟨w.heap.size, 0, none⟩ (.slice none 0 0)).setCell ⟨w.heap.size, 1, none⟩ (.int .i64 0)).setCell ⟨w.heap.size, 2, none⟩ (.int .i64 0)).setCell ⟨w.heap.size, 3, none⟩ (.int .i64 0))) := hid (by
                  rw [← HPQ.out]
                  exact ⟨kset4 _ _ _ _ _ _ HK9.out (Nat.le_refl _), .inr ⟨HNO.out, rfl⟩⟩)
                clear hA9 hM9 k9 hck hby hcmp heq HPK
                go_wp2_with fail
                exact results_man_num rfl rfl HE0.out HF.out rfl
          · have d1 := decide_eq_false hd
            clear hd
            go_wp2_with fail
            refine HPK.out.mono ?_
            rintro e w9 ⟨k9, ⟨hck, rfl⟩ | ⟨hck, bv, rfl, hby⟩⟩
            · have hA9 := Only.blk k9 HA9.out (fun f => f)
              have HK9 := hid (HKR.out.trans k9 (fun _ _ f => f))
              have HNO : Hid (∀ m, ¬ IsM bs m) := hid (fun m hm => by
                have e := HIS.out m hm
                subst e
                exact hck hm.1)
              have g0 := hA9.frozen 0
              have g1 := hA9.frozen 1
              have g2 := hA9.frozen 2
              have g3 := hA9.frozen 3
              have q0 := hA9.cell 0 rfl
              have q1 := hA9.cell 1 rfl
              have q2 := hA9.cell 2 rfl
              have q3 := hA9.cell 3 rfl
              have HE0 := hid ((((hA9.set 0 (.slice none 0 0)).set 1 (.int .i64 0)).set 2 (.int .i64 0)).set 3 (.int .i64 0))
              have HF : Hid (PQ (.returned (.tuple #[.agg #[.slice none 0 0, .int .i64 0, .int .i64 0, .int .i64 0], .int .i64 5])) ((((w9.setCell ⟨w.heap.size, 0, none⟩ (.slice none 0 0)).setCell ⟨w.heap.size, 1, none⟩ (.int .i64 0)).setCell ⟨w.heap.size, 2, none⟩ (.int .i64 0)).setCell ⟨w.heap.size, 3, none⟩ (.int .i64 0))) := hid (by
                rw [← HPQ.out]
                exact ⟨kset4 _ _ _ _ _ _ HK9.out (Nat.le_refl _), .inr ⟨HNO.out, rfl⟩⟩)
              obtain ⟨X, hX⟩ : ∃ X, chkO ⟨acc, va0, va1, va2⟩ = X := ⟨_, rfl⟩
              have hX0 : (X != 0) = true := by rw [hX] at hck; simpa using hck
              rw [hX]
              clear hA9 k9 hck hX HPK
              go_wp2_with fail
              exact results_man_num rfl rfl HE0.out HF.out rfl
            · have hA9 := Only.blk k9 HA9.out (fun f => f)
              have hM9 := Only.blk k9 HM9.out (fun f => f)
              have HK9 := hid (HKR.out.trans k9 (fun _ _ f => f))
              have HCK := hid hck
              have cv1 := G.bytes_str (own_src hby)
              have cv2 := G.bytes_str (HS.out.1.stay HK9.out)
              have hcmp := G.str_eq (packM ⟨acc, va0, va1, va2⟩) bs
              generalize (⟨(packM ⟨acc, va0, va1, va2⟩).toArray⟩ : ByteArray) = sA at cv1 hcmp
              generalize (⟨bs.toArray⟩ : ByteArray) = sB at cv2 hcmp
              have g0 := hA9.frozen 0
              have g1 := hA9.frozen 1
              have g2 := hA9.frozen 2
              have g3 := hA9.frozen 3
              have q0 := hA9.cell 0 rfl
              have q1 := hA9.cell 1 rfl
              have q2 := hA9.cell 2 rfl
              have q3 := hA9.cell 3 rfl
              have y0' := hM9.cell 0 rfl
              have y1' := hM9.cell 1 rfl
              have y2' := hM9.cell 2 rfl
              have y3' := hM9.cell 3 rfl
              obtain ⟨ba, bc, hbv⟩ := ownN_slice hby
              generalize (packM ⟨acc, va0, va1, va2⟩).length = BL at hbv
              subst hbv
              by_cases heq : packM ⟨acc, va0, va1, va2⟩ = bs
              · have hc1 : (sA.toList == sB.toList) = true := by rw [hcmp]; exact decide_eq_true heq
                have HIM : Hid (IsM bs ⟨acc, va0, va1, va2⟩) := hid ⟨HCK.out, heq⟩
                have HE0 := hid ((((hA9.set 0 (.slice sa' k sc')).set 1 (.int .i64 va0)).set 2 (.int .i64 va1)).set 3 (.int .i64 va2))
                have HF : Hid (PQ (.returned (.tuple #[.agg #[.slice sa' k sc', .int .i64 va0, .int .i64 va1, .int .i64 va2], .int .i64 0])) ((((w9.setCell ⟨w.heap.size, 0, none⟩ (.slice sa' k sc')).setCell ⟨w.heap.size, 1, none⟩ (.int .i64 va0)).setCell ⟨w.heap.size, 2, none⟩ (.int .i64 va1)).setCell ⟨w.heap.size, 3, none⟩ (.int .i64 va2))) := hid (by
                  rw [← HPQ.out]
                  refine ⟨kset4 _ _ _ _ _ _ HK9.out (Nat.le_refl _), .inl ⟨⟨acc, va0, va1, va2⟩, sa', sc', HIM.out, ?_, ?_⟩⟩
                  · unfold manV
                    rw [← HAK.out]
                  · show RfAt _ _ (.slice sa' acc.length sc') acc
                    rw [HAK.out]
                    have hw9 := ownN_stay HW9.out k9
                    exact ownN_base (kset4_row hw9 _ _ _ _ (fun q hq => by have := (ownN_lt hw9 hq).1; have := HZ1.out; omega)) (by have := HZ1.out; omega))
                clear hA9 hM9 k9 hck hby hcmp heq HPK
                go_wp2_with fail
                exact results_man_num rfl rfl HE0.out HF.out rfl
              · have hc1 : (sA.toList == sB.toList) = false := by rw [hcmp]; exact decide_eq_false heq
                have HNO : Hid (∀ m, ¬ IsM bs m) := hid (fun m hm => by
                  have e := HIS.out m hm
                  subst e
                  exact heq hm.2)
                have HE0 := hid ((((hA9.set 0 (.slice none 0 0)).set 1 (.int .i64 0)).set 2 (.int .i64 0)).set 3 (.int .i64 0))
                have HF : Hid (PQ (.returned (.tuple #[.agg #[.slice none 0 0, .int .i64 0, .int .i64 0, .int .i64 0], .int .i64 5])) ((((w9.setCell ⟨w.heap.size, 0, none⟩ (.slice none 0 0)).setCell ⟨w.heap.size, 1, none⟩ (.int .i64 0)).setCell ⟨w.heap.size, 2, none⟩ (.int .i64 0)).setCell ⟨w.heap.size, 3, none⟩ (.int .i64 0))) := hid (by
                  rw [← HPQ.out]
                  exact ⟨kset4 _ _ _ _ _ _ HK9.out (Nat.le_refl _), .inr ⟨HNO.out, rfl⟩⟩)
                clear hA9 hM9 k9 hck hby hcmp heq HPK
                go_wp2_with fail
                exact results_man_num rfl rfl HE0.out HF.out rfl
  · have hne : (sa.toList == [76, 89, 83, 77]) = false := by
      rw [← hsa, ByteArray.toList_eq]
      simpa [markA] using hmk
    have HE0 := hid ((((hA1.set 0 (.slice none 0 0)).set 1 (.int .i64 0)).set 2 (.int .i64 0)).set 3 (.int .i64 0))
    have HF : Hid (PQ (.returned (.tuple #[.agg #[.slice none 0 0, .int .i64 0, .int .i64 0, .int .i64 0], .int .i64 5])) ((((w1.setCell ⟨w.heap.size, 0, none⟩ (.slice none 0 0)).setCell ⟨w.heap.size, 1, none⟩ (.int .i64 0)).setCell ⟨w.heap.size, 2, none⟩ (.int .i64 0)).setCell ⟨w.heap.size, 3, none⟩ (.int .i64 0))) := hid (by
      rw [← HPQ.out]
      exact ⟨kset4 _ _ _ _ _ _ k1 (Nat.le_refl _), .inr ⟨fun m hm => hmk (isM_mark hm).2, rfl⟩⟩)
    clear hl hPQ hw1 k1 hA1 hM1 HF0 b5 hsa hmk hs1 hcap
    go_enter Tryd.func13, Tryd.ntmps13
    go_wp2_with fail
    rw [HW1.out, cv]
    go_simp
    go_wp2_with fail
    exact results_man_num rfl rfl HE0.out HF.out rfl
end Go.Proofs.YtjifcgphlidimaaDoor.J
