/-
  Package manifest, in plain words: what bytes are as a manifest.
-/
import Derived.Test.YtjifcgphlidimaaDoorJwire
import Derived.Test.YtjifcgphlidimaaDoorVlaw
namespace Go.Proofs.YtjifcgphlidimaaDoor.J
open Go.RowKit Go.Proofs.Lys
open Go.Proofs.YtjifcgphlidimaaDoor.U (zigN zigN_lt uN uN_lt zagI)
set_option linter.unusedVariables false

/-- The number at the beginning of bytes, and what is behind it. -/
def numA (bs : List UInt8) : Option (Int × List UInt8) := if (getA bs 0 0).2.2 = 0 then some (wrap64 ((getA bs 0 0).1 : Int), bs.drop (getA bs 0 0).2.1) else none
def sgnA (bs : List UInt8) : Option (Int × List UInt8) := if (getA bs 0 0).2.2 = 0 then some (zagI (getA bs 0 0).1, bs.drop (getA bs 0 0).2.1) else none
theorem numA_cases (bs : List UInt8) : (getA bs 0 0 = (0, 0, 5) ∧ numA bs = none ∧ sgnA bs = none) ∨
    ∃ u k, getA bs 0 0 = (u, k, 0) ∧ u < 18446744073709551616 ∧ k ≤ bs.length ∧ numA bs = some (wrap64 (u : Int), bs.drop k) ∧ sgnA bs = some (zagI u, bs.drop k) := by
  rcases U.getA_cases bs 0 0 (by decide) (by decide) with h | ⟨u, k, h, hu, hk⟩
  · refine .inl ⟨h, ?_, ?_⟩
    · unfold numA; rw [h]; rfl
    · unfold sgnA; rw [h]; rfl
  · refine .inr ⟨u, k, h, hu, by omega, ?_, ?_⟩
    · unfold numA; rw [h]; rfl
    · unfold sgnA; rw [h]; rfl
theorem numA_put {x : Int} (h : U.In64 x) (r : List UInt8) : numA (putN (uN x) ++ r) = some (x, r) := by
  unfold numA
  rw [get_put0 (uN_lt x) r]
  simp only [if_true]
  rw [U.uN_back h, List.drop_left]
theorem sgnA_put {x : Int} (h : U.In64 x) (r : List UInt8) : sgnA (putN (zigN x) ++ r) = some (x, r) := by
  unfold sgnA
  rw [get_put0 (zigN_lt h) r]
  simp only [if_true]
  rw [U.zag_zig h, List.drop_left]
/-- The three numbers ahead. -/
def ownA (bs : List UInt8) : Option ((Int × Int × Int) × List UInt8) :=
  (numA bs).bind fun x => (numA x.2).bind fun y => (sgnA y.2).bind fun z => some ((x.1, y.1, z.1), z.2)
def refA (bs : List UInt8) : Option (Rf × List UInt8) :=
  (numA bs).bind fun x => (numA x.2).bind fun y => (sgnA y.2).bind fun z => (sgnA z.2).bind fun t => some ((x.1, y.1, z.1, t.1), t.2)
def refsA : Nat → List UInt8 → Option (List Rf × List UInt8)
  | 0, bs => some ([], bs)
  | k + 1, bs => (refA bs).bind fun x => (refsA k x.2).bind fun y => some (x.1 :: y.1, y.2)
def markA : List UInt8 := [76, 89, 83, 77]
/-- What the program makes of bytes. -/
def readA (bs : List UInt8) : Option Man :=
  if bs.take 4 = markA then
    (ownA (bs.drop 4)).bind fun h => (numA h.2).bind fun n => if 200 < n.1 then none else (refsA n.1.toNat n.2).bind fun l => some ⟨l.1, h.1.1, h.1.2.1, h.1.2.2⟩
  else none
/-- What the document's own reader makes of the bytes behind the mark. -/
def readD (bs : List UInt8) : Option Man :=
  (ownA bs).bind fun h => (numA h.2).bind fun n => (refsA (min n.1.toNat 201) n.2).bind fun l => some ⟨l.1, h.1.1, h.1.2.1, h.1.2.2⟩
def RfIn2 (x : Rf) : Prop := U.In64 x.1 ∧ U.In64 x.2.1 ∧ U.In64 x.2.2.1 ∧ U.In64 x.2.2.2
theorem refA_put {x : Rf} (h : RfIn2 x) (r : List UInt8) : refA (refB x ++ r) = some (x, r) := by
  unfold refA refB
  rw [List.append_assoc, List.append_assoc, List.append_assoc, numA_put h.1]
  simp only [Option.bind_some]
  rw [numA_put h.2.1]
  simp only [Option.bind_some]
  rw [sgnA_put h.2.2.1]
  simp only [Option.bind_some]
  rw [sgnA_put h.2.2.2]
  rfl
theorem refsA_put : ∀ (l : List Rf) (r : List UInt8), (∀ x ∈ l, RfIn2 x) → refsA l.length (refsB l ++ r) = some (l, r) := by
  intro l
  induction l with
  | nil => intro r _; rfl
  | cons x t ih =>
    intro r h
    have e : refsB (x :: t) ++ r = refB x ++ (refsB t ++ r) := by unfold refsB; rw [List.map_cons, List.flatten_cons, List.append_assoc]
    rw [e, List.length_cons, refsA, refA_put (h x List.mem_cons_self)]
    simp only [Option.bind_some]
    rw [ih r (fun y hy => h y (List.mem_cons_of_mem _ hy))]
    rfl
theorem num_in : ∀ {l : List Rf} {a n : Int}, numO a n l = true → 0 ≤ a → n ≤ 1099511627776 → ∀ x ∈ l, U.In64 x.1 ∧ U.In64 x.2.1 := by
  intro l
  induction l with
  | nil => intro a n _ _ _ x hx; cases hx
  | cons y r ih =>
    intro a n h ha hn x hx
    rw [numO] at h
    simp only [Bool.and_eq_true, decide_eq_true_eq] at h
    rcases List.mem_cons.1 hx with rfl | hx
    · unfold U.In64
      omega
    · exact ih h.2 (by omega) hn x hx
theorem tim_in2 : ∀ {l : List Rf}, timO l = true → ∀ x ∈ l, U.In64 x.2.2.1 ∧ U.In64 x.2.2.2 := by
  intro l
  induction l with
  | nil => intro _ x hx; cases hx
  | cons y r ih =>
    intro h x hx
    rw [timO] at h
    simp only [Bool.and_eq_true, winO, decide_eq_true_eq] at h
    rcases List.mem_cons.1 hx with rfl | hx
    · unfold U.In64
      omega
    · exact ih h.2 x hx
theorem chk_in2 {m : Man} (h : chkO m = 0) : m.bl.length ≤ 200 ∧ U.In64 m.next ∧ U.In64 m.log ∧ U.In64 m.low ∧ ∀ x ∈ m.bl, RfIn2 x := by
  unfold chkO at h
  by_cases h1 : 200 < m.bl.length
  · rw [if_pos h1] at h; omega
  · rw [if_neg h1] at h
    by_cases h2 : (cntO m.next && cntO m.log && numO 0 m.next m.bl) = false
    · rw [if_pos h2] at h; omega
    · rw [if_neg h2] at h
      have h5 : (cntO m.next && cntO m.log && numO 0 m.next m.bl) = true := by cases hh : (cntO m.next && cntO m.log && numO 0 m.next m.bl) with
        | true => rfl
        | false => exact absurd hh h2
      by_cases h3 : (timO m.bl && winO m.low) = false
      · rw [if_pos h3] at h; omega
      · have h4 : (timO m.bl && winO m.low) = true := by simpa using h3
        simp only [Bool.and_eq_true, winO, cntO, decide_eq_true_eq] at h4 h5
        exact ⟨by omega, by unfold U.In64; omega, by unfold U.In64; omega, by unfold U.In64; omega, fun x hx => ⟨(num_in h5.2 (by omega) (by omega) x hx).1, (num_in h5.2 (by omega) (by omega) x hx).2, (tim_in2 h4.1 x hx).1, (tim_in2 h4.1 x hx).2⟩⟩
theorem readA_pack {m : Man} (h : chkO m = 0) : readA (packM m) = some m ∧ readD ((bodyM m).drop 4) = some m := by
  obtain ⟨h0, h1, h2, h3, h4⟩ := chk_in2 h
  have hn : U.In64 (m.bl.length : Int) := by unfold U.In64; omega
  have e : ∀ r, bodyM m ++ r = markA ++ (putN (uN m.next) ++ (putN (uN m.log) ++ (putN (zigN m.low) ++ (putN (uN (m.bl.length : Int)) ++ (refsB m.bl ++ r))))) := fun r => by
    unfold bodyM headM markA
    simp only [List.append_assoc]
  have ho : ∀ r, ownA (putN (uN m.next) ++ (putN (uN m.log) ++ (putN (zigN m.low) ++ r))) = some ((m.next, m.log, m.low), r) := fun r => by
    unfold ownA
    rw [numA_put h1]
    simp only [Option.bind_some]
    rw [numA_put h2]
    simp only [Option.bind_some]
    rw [sgnA_put h3]
    rfl
  constructor
  · unfold readA packM
    rw [e, show ∀ r : List UInt8, (markA ++ r).take 4 = markA from fun r => rfl, if_pos rfl, show ∀ r : List UInt8, (markA ++ r).drop 4 = r from fun r => rfl, ho]
    simp only [Option.bind_some]
    rw [numA_put hn]
    simp only [Option.bind_some]
    rw [if_neg (by omega), Int.toNat_natCast, refsA_put _ _ h4]
    rfl
  · have e2 := e []
    rw [List.append_nil] at e2
    unfold readD
    rw [e2, show ∀ r : List UInt8, (markA ++ r).drop 4 = r from fun r => rfl, ho]
    simp only [Option.bind_some]
    rw [numA_put hn]
    simp only [Option.bind_some]
    rw [Int.toNat_natCast, show min m.bl.length 201 = m.bl.length by omega, refsA_put _ _ h4]
    rfl
/-- The manifest of which bytes are the packing; the last four bytes hang on the rest. -/
def IsM (bs : List UInt8) (m : Man) : Prop := chkO m = 0 ∧ packM m = bs
theorem IsM.readA {bs : List UInt8} {m : Man} (h : IsM bs m) : readA bs = some m := by rw [← h.2]; exact (readA_pack h.1).1
theorem four_len (n : Nat) : (G.four n).length = 4 := rfl
theorem IsM.readD {bs : List UInt8} {m : Man} (h : IsM bs m) : readD ((bs.take (bs.length - 4)).drop 4) = some m := by
  rw [← h.2]
  have e : (packM m).take ((packM m).length - 4) = bodyM m := by
    unfold packM
    rw [List.length_append, four_len, Nat.add_sub_cancel, List.take_left]
  rw [e]
  exact (readA_pack h.1).2
theorem IsM.inj {bs : List UInt8} {m n : Man} (h : IsM bs m) (k : IsM bs n) : m = n := by
  have := h.readA.symm.trans k.readA
  injection this
theorem refsA_snoc {k : Nat} {bs r : List UInt8} {acc : List Rf} {x : Rf} {N : Nat} {b0 : List UInt8} (h : refsA N b0 = (refsA (k + 1) bs).bind fun y => some (acc ++ y.1, y.2)) (hx : refA bs = some (x, r)) :
    refsA N b0 = (refsA k r).bind fun y => some ((acc ++ [x]) ++ y.1, y.2) := by
  rw [h, refsA, hx]
  simp only [Option.bind_some]
  cases refsA k r with
  | none => rfl
  | some y => simp
end Go.Proofs.YtjifcgphlidimaaDoor.J
