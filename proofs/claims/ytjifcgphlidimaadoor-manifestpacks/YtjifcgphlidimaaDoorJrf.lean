/-
  Package manifest: the fields that are read, one behind the other.
-/
import Derived.Test.YtjifcgphlidimaaDoorJrd
namespace Go.Proofs.YtjifcgphlidimaaDoor.J
open Go Go.RowKit Go.Proofs.Lys
open Go.Proofs.YtjifcgphlidimaaDoor.U (zagI)
set_option linter.unusedVariables false
set_option linter.unusedSimpArgs false

def rplainV (P : Nat) : Value := .func (.func 43) #[.pointer (some ⟨P, 0, none⟩)] #[]
def rsignedV (P : Nat) : Value := .func (.func 44) #[.pointer (some ⟨P, 0, none⟩)] #[]
theorem numA_len {bs : List UInt8} {n : Int} {r : List UInt8} (h : numA bs = some (n, r)) : r.length ≤ bs.length := by
  rcases numA_cases bs with ⟨_, h1, _⟩ | ⟨u, k, _, _, hk, h1, _⟩
  · rw [h1] at h; cases h
  · rw [h1] at h
    injection h with h
    injection h with _ h
    rw [← h, List.length_drop]
    omega
theorem sgnA_len {bs : List UInt8} {n : Int} {r : List UInt8} (h : sgnA bs = some (n, r)) : r.length ≤ bs.length := by
  rcases numA_cases bs with ⟨_, _, h1⟩ | ⟨u, k, _, _, hk, _, h1⟩
  · rw [h1] at h; cases h
  · rw [h1] at h
    injection h with h
    injection h with _ h
    rw [← h, List.length_drop]
    omega
def OwnJ (w0 w : World) (R mb : Nat) (sv : Value) (o : Option ((Int × Int × Int) × List UInt8)) (e : Ending) (w' : World) : Prop :=
  (o = none ∧ e = gaveJ ∧ Kept w0 w') ∨ ∃ n g l r v', o = some ((n, g, l), r) ∧ e = .returned (.tuple #[]) ∧ RdJ w0 w' R v' r ∧ Blk w' mb [sv, .int .i64 n, .int .i64 g, .int .i64 l] 24 ∧ Only (fun j => j = R ∨ j = mb) w w'
set_option maxRecDepth 100000 in
set_option maxHeartbeats 1600000 in
theorem rown_fields (w0 w : World) (R : Nat) (v : Value) (bs : List UInt8) (mb : Nat) (sv a1 a2 a3 : Value) (h : RdJ w0 w R v bs) (hM : Blk w mb [sv, a1, a2, a3] 24) (hne : mb ≠ R) (hmb : w0.heap.size ≤ mb) (hl : bs.length ≤ 100000) :
    Calls Tryd.prog 19 #[.pointer (some ⟨mb, 0, none⟩), rplainV R, rsignedV R] w (OwnJ w0 w R mb sv (ownA bs)) := by
  obtain ⟨PQ, hPQ⟩ : ∃ PQ, OwnJ w0 w R mb sv (ownA bs) = PQ := ⟨_, rfl⟩
  rw [hPQ]
  have HPQ := hid hPQ
  have HC1 := hid (rplain_any w0 w R v bs mb 1 _ _ a1 h hM rfl hne hmb hl)
  have HLN := hid hl
  unfold rplainV rsignedV
  have hml := hM.lt
  clear hPQ h hM hl
  go_enter Tryd.func19, Tryd.ntmps19
  go_wp2_with fail
  refine HC1.out.mono ?_
  rintro e w1 (⟨ho, rfl, k1⟩ | ⟨n, r1, v1, ho, rfl, hR1, hM1, ho1⟩)
  · have HF : Hid (PQ gaveJ w1) := hid (by rw [← HPQ.out]; exact .inl ⟨by unfold ownA; rw [ho]; rfl, rfl, k1⟩)
    exact ⟨rfl, HF.out⟩
  have hM1' : Blk w1 mb [sv, .int .i64 n, a2, a3] 24 := hM1
  have HC2 := hid (rplain_any w0 w1 R v1 r1 mb 2 _ _ a2 hR1 hM1' rfl hne hmb (by have := numA_len ho; have := HLN.out; omega))
  have HO1 := hid ho1
  have HE1 := hid ho
  have hml1 := hM1.lt
  clear hR1 hM1 hM1' ho1 HC1 ho
  go_wp2_with fail
  refine HC2.out.mono ?_
  rintro e w2 (⟨ho, rfl, k1⟩ | ⟨g, r2, v2, ho, rfl, hR2, hM2, ho2⟩)
  · have HF : Hid (PQ gaveJ w2) := hid (by rw [← HPQ.out]; exact .inl ⟨by unfold ownA; rw [HE1.out]; simp only [Option.bind_some]; rw [ho]; rfl, rfl, k1⟩)
    exact ⟨rfl, HF.out⟩
  have hM2' : Blk w2 mb [sv, .int .i64 n, .int .i64 g, a3] 24 := hM2
  have HC3 := hid (rsigned_any w0 w2 R v2 r2 mb 3 _ _ a3 hR2 hM2' rfl hne hmb (by have := numA_len ho; have := numA_len HE1.out; have := HLN.out; omega))
  have HO2 := hid (HO1.out.trans ho2 (fun _ _ e => e))
  have HE2 := hid ho
  have hml2 := hM2.lt
  clear hR2 hM2 hM2' ho2 HC2 ho
  go_wp2_with fail
  refine HC3.out.mono ?_
  rintro e w3 (⟨ho, rfl, k1⟩ | ⟨l, r3, v3, ho, rfl, hR3, hM3, ho3⟩)
  · have HF : Hid (PQ gaveJ w3) := hid (by rw [← HPQ.out]; exact .inl ⟨by unfold ownA; rw [HE1.out]; simp only [Option.bind_some]; rw [HE2.out]; simp only [Option.bind_some]; rw [ho]; rfl, rfl, k1⟩)
    exact ⟨rfl, HF.out⟩
  have HF : Hid (PQ (.returned (.tuple #[])) w3) := hid (by
    rw [← HPQ.out]
    exact .inr ⟨n, g, l, r3, v3, by unfold ownA; rw [HE1.out]; simp only [Option.bind_some]; rw [HE2.out]; simp only [Option.bind_some]; rw [ho]; rfl, rfl, hR3, hM3, HO2.out.trans ho3 (fun _ _ e => e)⟩)
  clear hR3 hM3 ho3 HC3 ho
  (try go_wp2)
  first | exact HF.out | (refine bodyPost_ret (results_none rfl _ _ _) rfl ?_; exact HF.out)
def RefJ (w0 w : World) (R xb : Nat) (o : Option (Rf × List UInt8)) (e : Ending) (w' : World) : Prop :=
  (o = none ∧ e = gaveJ ∧ Kept w0 w') ∨ ∃ (x : Rf) (r : List UInt8) (v' : Value), o = some (x, r) ∧ e = .returned (.tuple #[]) ∧ RdJ w0 w' R v' r ∧ Blk w' xb [.int .i64 x.1, .int .i64 x.2.1, .int .i64 x.2.2.1, .int .i64 x.2.2.2] 54 ∧ Only (fun j => j = R ∨ j = xb) w w'
set_option maxRecDepth 100000 in
set_option maxHeartbeats 1600000 in
theorem rblock_fields (w0 w : World) (R : Nat) (v : Value) (bs : List UInt8) (xb : Nat) (a0 a1 a2 a3 : Value) (h : RdJ w0 w R v bs) (hM : Blk w xb [a0, a1, a2, a3] 54) (hne : xb ≠ R) (hxb : w0.heap.size ≤ xb) (hl : bs.length ≤ 100000) :
    Calls Tryd.prog 22 #[.pointer (some ⟨xb, 0, none⟩), rplainV R, rsignedV R] w (RefJ w0 w R xb (refA bs)) := by
  obtain ⟨PQ, hPQ⟩ : ∃ PQ, RefJ w0 w R xb (refA bs) = PQ := ⟨_, rfl⟩
  rw [hPQ]
  have HPQ := hid hPQ
  have HC1 := hid (rplain_any w0 w R v bs xb 0 _ _ a0 h hM rfl hne hxb hl)
  have HLN := hid hl
  unfold rplainV rsignedV
  have hml := hM.lt
  clear hPQ h hM hl
  go_enter Tryd.func22, Tryd.ntmps22
  go_wp2_with fail
  refine HC1.out.mono ?_
  rintro e w1 (⟨ho, rfl, k1⟩ | ⟨n, r1, v1, ho, rfl, hR1, hM1, ho1⟩)
  · have HF : Hid (PQ gaveJ w1) := hid (by rw [← HPQ.out]; exact .inl ⟨by unfold refA; rw [ho]; rfl, rfl, k1⟩)
    exact ⟨rfl, HF.out⟩
  have hM1' : Blk w1 xb [.int .i64 n, a1, a2, a3] 54 := hM1
  have HC2 := hid (rplain_any w0 w1 R v1 r1 xb 1 _ _ a1 hR1 hM1' rfl hne hxb (by have := numA_len ho; have := HLN.out; omega))
  have HO1 := hid ho1
  have HE1 := hid ho
  have hml1 := hM1.lt
  clear hR1 hM1 hM1' ho1 HC1 ho
  go_wp2_with fail
  refine HC2.out.mono ?_
  rintro e w2 (⟨ho, rfl, k1⟩ | ⟨g, r2, v2, ho, rfl, hR2, hM2, ho2⟩)
  · have HF : Hid (PQ gaveJ w2) := hid (by rw [← HPQ.out]; exact .inl ⟨by unfold refA; rw [HE1.out]; simp only [Option.bind_some]; rw [ho]; rfl, rfl, k1⟩)
    exact ⟨rfl, HF.out⟩
  have hM2' : Blk w2 xb [.int .i64 n, .int .i64 g, a2, a3] 54 := hM2
  have HC3 := hid (rsigned_any w0 w2 R v2 r2 xb 2 _ _ a2 hR2 hM2' rfl hne hxb (by have := numA_len ho; have := numA_len HE1.out; have := HLN.out; omega))
  have HO2 := hid (HO1.out.trans ho2 (fun _ _ e => e))
  have HE2 := hid ho
  have hml2 := hM2.lt
  clear hR2 hM2 hM2' ho2 HC2 ho
  go_wp2_with fail
  refine HC3.out.mono ?_
  rintro e w3 (⟨ho, rfl, k1⟩ | ⟨f, r3, v3, ho, rfl, hR3, hM3, ho3⟩)
  · have HF : Hid (PQ gaveJ w3) := hid (by rw [← HPQ.out]; exact .inl ⟨by unfold refA; rw [HE1.out]; simp only [Option.bind_some]; rw [HE2.out]; simp only [Option.bind_some]; rw [ho]; rfl, rfl, k1⟩)
    exact ⟨rfl, HF.out⟩
  have hM3' : Blk w3 xb [.int .i64 n, .int .i64 g, .int .i64 f, a3] 54 := hM3
  have HC4 := hid (rsigned_any w0 w3 R v3 r3 xb 3 _ _ a3 hR3 hM3' rfl hne hxb (by have := sgnA_len ho; have := numA_len HE2.out; have := numA_len HE1.out; have := HLN.out; omega))
  have HO3 := hid (HO2.out.trans ho3 (fun _ _ e => e))
  have HE3 := hid ho
  have hml3 := hM3.lt
  clear hR3 hM3 hM3' ho3 HC3 ho
  go_wp2_with fail
  refine HC4.out.mono ?_
  rintro e w4 (⟨ho, rfl, k1⟩ | ⟨t, r4, v4, ho, rfl, hR4, hM4, ho4⟩)
  · have HF : Hid (PQ gaveJ w4) := hid (by rw [← HPQ.out]; exact .inl ⟨by unfold refA; rw [HE1.out]; simp only [Option.bind_some]; rw [HE2.out]; simp only [Option.bind_some]; rw [HE3.out]; simp only [Option.bind_some]; rw [ho]; rfl, rfl, k1⟩)
    exact ⟨rfl, HF.out⟩
  have HF : Hid (PQ (.returned (.tuple #[])) w4) := hid (by
    rw [← HPQ.out]
    exact .inr ⟨(n, g, f, t), r4, v4, by unfold refA; rw [HE1.out]; simp only [Option.bind_some]; rw [HE2.out]; simp only [Option.bind_some]; rw [HE3.out]; simp only [Option.bind_some]; rw [ho]; rfl, rfl, hR4, hM4, HO3.out.trans ho4 (fun _ _ e => e)⟩)
  clear hR4 hM4 ho4 HC4 ho
  (try go_wp2)
  first | exact HF.out | (refine bodyPost_ret (results_none rfl _ _ _) rfl ?_; exact HF.out)
end Go.Proofs.YtjifcgphlidimaaDoor.J
