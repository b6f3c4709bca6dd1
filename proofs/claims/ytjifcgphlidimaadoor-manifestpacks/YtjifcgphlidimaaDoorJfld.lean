/-
  Package manifest: the fields that are put behind one another.
-/
import Derived.Test.YtjifcgphlidimaaDoorJwr
namespace Go.Proofs.YtjifcgphlidimaaDoor.J
open Go Go.RowKit Go.Proofs.Lys
open Go.Proofs.YtjifcgphlidimaaDoor.U (zigN zigN_lt uN uN_lt)
set_option linter.unusedVariables false
set_option linter.unusedSimpArgs false

def plainV (P : Nat) : Value := .func (.func 20) #[.pointer (some ⟨P, 0, none⟩)] #[]
def signedV (P : Nat) : Value := .func (.func 21) #[.pointer (some ⟨P, 0, none⟩)] #[]
theorem put10 (x : Int) : (putN (uN x)).length ≤ 10 := putN_ten (uN_lt x)
theorem sgn10 {x : Int} (h : U.In64 x) : (putN (zigN x)).length ≤ 10 := putN_ten (zigN_lt h)
set_option maxRecDepth 100000 in
set_option maxHeartbeats 1600000 in
theorem own_fields (W : World) (P B mb : Nat) (v : Value) (bs : List UInt8) (sv : Value) (n g lo : Int) (hP : Blk W P [v] 48) (hR : ByA W B v bs) (hM : Blk W mb [sv, .int .i64 n, .int .i64 g, .int .i64 lo] 24) (hB : B ≤ W.heap.size) (hl : bs.length ≤ 90000) (hlo : U.In64 lo) :
    Calls Tryd.prog 19 #[.pointer (some ⟨mb, 0, none⟩), plainV P, signedV P] W (WrP W P B v (bs ++ putN (uN n) ++ putN (uN g) ++ putN (zigN lo))) := by
  obtain ⟨PQ, hPQ⟩ : ∃ PQ, WrP W P B v (bs ++ putN (uN n) ++ putN (uN g) ++ putN (zigN lo)) = PQ := ⟨_, rfl⟩
  rw [hPQ]
  have HPQ := hid hPQ
  have hmP : mb ≠ P := hM.typed.ne hP.typed (by decide)
  have HC1 := hid (wplain_any W P B v bs mb 1 n hP hR (hM.cell 1 rfl) ⟨_, by decide, hM.typed⟩)
  have HM := hid hM
  have hn := put10 n
  have hg := put10 g
  have HLN := hid (And.intro hn hg)
  unfold plainV signedV
  have hml := hM.lt
  clear hPQ hP hR hM hn hg
  go_enter Tryd.func19, Tryd.ntmps19
  go_wp2_with fail
  refine HC1.out.mono ?_
  rintro e w1 ⟨rfl, v1, hP1, hR1, ho1⟩
  have hM1 := tyO_blk ho1 HM.out hmP (by decide)
  have HC2 := hid (wplain_any w1 P B v1 _ mb 2 g hP1 (ByA.of hR1 (Nat.le_trans hB ho1.size) (by rw [List.length_append]; have := HLN.out; omega)) (hM1.cell 2 rfl) ⟨_, by decide, hM1.typed⟩)
  have HO1 := hid ho1
  have HM1 := hid hM1
  clear hP1 hR1 ho1 hM1 HC1
  go_wp2_with fail
  refine HC2.out.mono ?_
  rintro e w2 ⟨rfl, v2, hP2, hR2, ho2⟩
  have hO2 := tyO_trans HO1.out ho2
  have hM2 := tyO_blk ho2 HM1.out hmP (by decide)
  have HC3 := hid (wsigned_any w2 P B v2 _ mb 3 lo hP2 (ByA.of hR2 (Nat.le_trans hB hO2.size) (by rw [List.length_append, List.length_append]; have := HLN.out; omega)) (hM2.cell 3 rfl) ⟨_, by decide, hM2.typed⟩ hlo)
  have HO2 := hid hO2
  clear hP2 hR2 ho2 hM2 hO2 HC2
  go_wp2_with fail
  refine HC3.out.mono ?_
  rintro e w3 ⟨rfl, v3, hP3, hR3, ho3⟩
  have HF : Hid (PQ (.returned (.tuple #[])) w3) := hid (by
    rw [← HPQ.out]
    exact ⟨rfl, v3, hP3, hR3, tyO_trans HO2.out ho3⟩)
  clear hP3 hR3 ho3 HC3
  (try go_wp2)
  first | exact HF.out | (refine bodyPost_ret (results_none rfl _ _ _) rfl ?_; exact HF.out)
set_option maxRecDepth 100000 in
set_option maxHeartbeats 1600000 in
theorem block_fields (W : World) (P B xb : Nat) (v : Value) (bs : List UInt8) (x : Rf) (hP : Blk W P [v] 48) (hR : BytAt W B v bs) (hM : Blk W xb [.int .i64 x.1, .int .i64 x.2.1, .int .i64 x.2.2.1, .int .i64 x.2.2.2] 54) (hB : B ≤ W.heap.size) (hl : bs.length ≤ 90000) (hx : RfIn x) :
    Calls Tryd.prog 22 #[.pointer (some ⟨xb, 0, none⟩), plainV P, signedV P] W (WrP W P B v (bs ++ refB x)) := by
  obtain ⟨PQ, hPQ⟩ : ∃ PQ, WrP W P B v (bs ++ refB x) = PQ := ⟨_, rfl⟩
  rw [hPQ]
  obtain ⟨i, lv, f, t⟩ := x
  simp only at hM
  have HRB : Hid (bs ++ refB (i, lv, f, t) = bs ++ putN (uN i) ++ putN (uN lv) ++ putN (zigN f) ++ putN (zigN t)) := hid (by unfold refB; simp only [List.append_assoc])
  have HPQ := hid hPQ
  have hmP : xb ≠ P := hM.typed.ne hP.typed (by decide)
  have HC1 := hid (wplain_any W P B v bs xb 0 i hP (ByA.of hR hB (by omega)) (hM.cell 0 rfl) ⟨_, by decide, hM.typed⟩)
  have HM := hid hM
  have hn := put10 i
  have hg := put10 lv
  have hf := sgn10 hx.1
  simp only at hf
  have HLN := hid (And.intro hn (And.intro hg hf))
  have HXI := hid hx
  unfold plainV signedV
  have hml := hM.lt
  clear hPQ hP hR hM hn hg hf hx
  go_enter Tryd.func22, Tryd.ntmps22
  go_wp2_with fail
  refine HC1.out.mono ?_
  rintro e w1 ⟨rfl, v1, hP1, hR1, ho1⟩
  have hM1 := tyO_blk ho1 HM.out hmP (by decide)
  have HC2 := hid (wplain_any w1 P B v1 _ xb 1 lv hP1 (ByA.of hR1 (Nat.le_trans hB ho1.size) (by rw [List.length_append]; have := HLN.out; omega)) (hM1.cell 1 rfl) ⟨_, by decide, hM1.typed⟩)
  have HO1 := hid ho1
  have HM1 := hid hM1
  clear hP1 hR1 ho1 hM1 HC1
  go_wp2_with fail
  refine HC2.out.mono ?_
  rintro e w2 ⟨rfl, v2, hP2, hR2, ho2⟩
  have hO2 := tyO_trans HO1.out ho2
  have hM2 := tyO_blk ho2 HM1.out hmP (by decide)
  have HC3 := hid (wsigned_any w2 P B v2 _ xb 2 f hP2 (ByA.of hR2 (Nat.le_trans hB hO2.size) (by rw [List.length_append, List.length_append]; have := HLN.out; omega)) (hM2.cell 2 rfl) ⟨_, by decide, hM2.typed⟩ HXI.out.1)
  have HO2 := hid hO2
  have HM2 := hid hM2
  clear hP2 hR2 ho2 hM2 hO2 HC2
  go_wp2_with fail
  refine HC3.out.mono ?_
  rintro e w3 ⟨rfl, v3, hP3, hR3, ho3⟩
  have hO3 := tyO_trans HO2.out ho3
  have hM3 := tyO_blk ho3 HM2.out hmP (by decide)
  have HC4 := hid (wsigned_any w3 P B v3 _ xb 3 t hP3 (ByA.of hR3 (Nat.le_trans hB hO3.size) (by rw [List.length_append, List.length_append, List.length_append]; have := HLN.out; omega)) (hM3.cell 3 rfl) ⟨_, by decide, hM3.typed⟩ HXI.out.2)
  have HO3 := hid hO3
  clear hP3 hR3 ho3 hM3 hO3 HC3
  go_wp2_with fail
  refine HC4.out.mono ?_
  rintro e w4 ⟨rfl, v4, hP4, hR4, ho4⟩
  have HF : Hid (PQ (.returned (.tuple #[])) w4) := hid (by
    rw [← HPQ.out, HRB.out]
    exact ⟨rfl, v4, hP4, hR4, tyO_trans HO3.out ho4⟩)
  clear hP4 hR4 ho4 HC4
  (try go_wp2)
  first | exact HF.out | (refine bodyPost_ret (results_none rfl _ _ _) rfl ?_; exact HF.out)
end Go.Proofs.YtjifcgphlidimaaDoor.J
