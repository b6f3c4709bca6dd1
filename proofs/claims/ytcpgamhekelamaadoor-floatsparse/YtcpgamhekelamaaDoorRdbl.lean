/-
  Plain arithmetic of the document's own way to scale a fraction: its decimal digits are doubled, thirty-two times, and what is carried out are the bits.
-/
import Derived.Test.YtcpgamhekelamaaDoorRscan
namespace Go.Proofs.YtcpgamhekelamaaDoor
open Go.RowKit
set_option linter.unusedVariables false

def numZ (ds : List Int) : Int := ds.foldl (fun a d => a * 10 + d) 0
def smallZ (ds : List Int) : Prop := ∀ d ∈ ds, 0 ≤ d ∧ d ≤ 9
theorem numZ_from (l : List Int) (a : Int) : l.foldl (fun a d => a * 10 + d) a = a * 10 ^ l.length + numZ l := by
  induction l generalizing a with
  | nil => simp [numZ]
  | cons c l ih =>
    unfold numZ
    rw [List.foldl_cons, List.foldl_cons, ih, ih, List.length_cons, Int.pow_succ]
    grind
theorem numZ_cons (d : Int) (l : List Int) : numZ (d :: l) = d * 10 ^ l.length + numZ l := by
  rw [← numZ_from l d]
  unfold numZ
  rw [List.foldl_cons]
  simp
theorem numZ_bd {l : List Int} (h : smallZ l) : 0 ≤ numZ l ∧ numZ l < 10 ^ l.length := by
  induction l with
  | nil => simp [numZ]
  | cons d l ih =>
    obtain ⟨i1, i2⟩ := ih (fun x hx => h x (List.mem_cons_of_mem _ hx))
    obtain ⟨d1, d2⟩ := h d (List.mem_cons_self ..)
    have p := ten_pos l.length
    rw [numZ_cons, List.length_cons, Int.pow_succ]
    have m0 : 0 ≤ d * 10 ^ l.length := Int.mul_nonneg d1 (Int.le_of_lt p)
    have m1 : d * 10 ^ l.length ≤ 9 * 10 ^ l.length := Int.mul_le_mul_of_nonneg_right d2 (Int.le_of_lt p)
    omega
theorem numZ_zero {l : List Int} (h : smallZ l) : (l.any fun d => d != 0) = (numZ l != 0) := by
  induction l with
  | nil => rfl
  | cons d l ih =>
    have hs : smallZ l := fun x hx => h x (List.mem_cons_of_mem _ hx)
    obtain ⟨i1, i2⟩ := numZ_bd hs
    obtain ⟨d1, d2⟩ := h d (List.mem_cons_self ..)
    have p := ten_pos l.length
    rw [List.any_cons, ih hs, numZ_cons]
    have m0 : 0 ≤ d * 10 ^ l.length := Int.mul_nonneg d1 (Int.le_of_lt p)
    have z : d * 10 ^ l.length = 0 ↔ d = 0 := by
      constructor
      · intro h
        rcases Int.mul_eq_zero.mp h with h | h
        · exact h
        · omega
      · intro h; rw [h]; simp
    rw [Bool.eq_iff_iff]
    simp only [Bool.or_eq_true, bne_iff_ne, ne_eq]
    constructor
    · rintro (k | k) e
      · exact k (z.mp (by omega))
      · omega
    · intro e
      by_cases k : d = 0
      · right; intro k2; exact e (by rw [z.mpr k, k2]; rfl)
      · left; exact k
theorem numZ_map (F : List UInt8) : numZ (F.map digV) = numL F := by
  induction F with
  | nil => rfl
  | cons c F ih => rw [List.map_cons, numZ_cons, numL_cons, ih, List.length_map]

/- One digit doubled: what stood behind it (S) has become B with the carry c. -/
theorem dbl_step (a c : Int) (S B : List Int) (hl : B.length = S.length) (h : 2 * numZ S = c * 10 ^ S.length + numZ B) :
    2 * numZ (a :: S) = (2 * a + c) / 10 * 10 ^ (a :: S).length + numZ ((2 * a + c) % 10 :: B) := by
  rw [numZ_cons, numZ_cons, hl, List.length_cons, Int.pow_succ]
  have e := Int.mul_ediv_add_emod (2 * a + c) 10
  generalize (2 * a + c) / 10 = q at *
  generalize (2 * a + c) % 10 = r at *
  generalize (10 : Int) ^ S.length = p at *
  generalize numZ S = x at *
  generalize numZ B = y at *
  grind
/- One round: F stands for the fraction's digits, f for the bits that came out so far. -/
theorem dbl_round (F f c p : Int) (k : Nat) (x y : Int) (h : F * 2 ^ k = f * p + x) (hd : 2 * x = c * p + y) : F * 2 ^ (k + 1) = (2 * f + c) * p + y := by
  rw [Int.pow_succ, ← Int.mul_assoc, h]
  grind
theorem dbl_bits (F f p x : Int) (k : Nat) (hF : F < p) (hp : 0 < p) (hx : 0 ≤ x) (h : F * 2 ^ k = f * p + x) : f < 2 ^ k := by
  have q : (0 : Int) < 2 ^ k := Int.pow_pos (by decide)
  have l : F * 2 ^ k < p * 2 ^ k := Int.mul_lt_mul_of_pos_right hF q
  rcases Int.lt_or_le f (2 ^ k) with h2 | h2
  · exact h2
  · have : 2 ^ k * p ≤ f * p := Int.mul_le_mul_of_nonneg_right h2 (Int.le_of_lt hp)
    rw [Int.mul_comm p] at l
    omega
theorem dbl_end (F : List UInt8) (ds : List Int) (f : Int) (hs : smallZ ds) (hl : ds.length = F.length) (h : numL F * 2 ^ 32 = f * 10 ^ F.length + numZ ds) : f = partL F ∧ (ds.any fun d => d != 0) = leftL F := by
  have b := numZ_bd hs
  rw [hl] at b
  have u := (Int.ediv_emod_unique (ten_pos F.length) (a := numL F * 4294967296) (q := f) (r := numZ ds)).mpr ⟨by rw [show (4294967296 : Int) = 2 ^ 32 from rfl, h]; grind, b.1, b.2⟩
  refine ⟨u.1.symm, ?_⟩
  rw [numZ_zero hs]
  unfold leftL
  rw [u.2]
end Go.Proofs.YtcpgamhekelamaaDoor
