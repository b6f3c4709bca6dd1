/-
  Plain arithmetic of the laws FixedTurns, FixedCeils, FixedChains, FixedHalves.
-/
import Derived.Test.YtnagkbdnondklabPlain
namespace Go.Proofs.Ytnagkbdnondklab

theorem add_turn (a b : Int) : addZ a b = addZ b a := by unfold addZ; rw [Int.add_comm]
theorem mul_turn (a b : Int) : mulZ a b = mulZ b a := by unfold mulZ; rw [Int.mul_comm]
theorem mul_one {a : Int} (h0 : -9223372036854775808 ≤ a) (h1 : a ≤ 9223372036854775807) : mulZ a 4294967296 = a := by
  unfold mulZ; rw [cut_in (by omega) (by omega)]; omega
theorem div_one {a : Int} (h0 : -9223372036854775808 ≤ a) (h1 : a ≤ 9223372036854775807) : divZ a 4294967296 = a := by
  unfold divZ fq; simp only [if_neg (show ¬ (4294967296 : Int) = 0 by decide), if_pos (show (0 : Int) < 4294967296 by decide)]
  rw [cut_in (by omega) (by omega)]; omega
theorem mul_none (a : Int) : mulZ a 0 = 0 := by unfold mulZ; rw [Int.mul_zero]; decide

theorem floor_le {n d : Int} (hd : 0 < d) : n / d * d ≤ n ∧ n < n / d * d + d := by
  have e := Int.mul_ediv_add_emod n d
  have m0 := Int.emod_nonneg n (Int.ne_of_gt hd)
  have m1 := Int.emod_lt_of_pos n hd
  rw [Int.mul_comm] at e
  omega
theorem quo_near {n d : Int} (hd : 0 < d) : n / d ≤ -((-n) / d) ∧ -((-n) / d) ≤ n / d + 1 ∧ n ≤ -((-n) / d) * d ∧ -((-n) / d) * d < n + d := by
  obtain ⟨a1, a2⟩ := floor_le (n := n) hd
  obtain ⟨b1, b2⟩ := floor_le (n := -n) hd
  generalize n / d = q at *
  generalize -n / d = p at *
  refine ⟨?_, ?_, by rw [Int.neg_mul]; omega, by rw [Int.neg_mul]; omega⟩
  · rcases Int.lt_or_le (-p) q with h | h
    · exfalso
      have : (q + p) * d ≥ 1 * d := Int.mul_le_mul_of_nonneg_right (by omega) (by omega)
      rw [Int.add_mul, Int.one_mul] at this
      omega
    · exact h
  · rcases Int.lt_or_le (q + 1) (-p) with h | h
    · exfalso
      have : (q + p) * d ≤ (-2) * d := Int.mul_le_mul_of_nonneg_right (by omega) (by omega)
      rw [Int.add_mul] at this
      omega
    · exact h
theorem turns {a b : Int} (hb : 1048576 ≤ b) (ha : -1125899906842624 ≤ a) (ha' : a ≤ 1125899906842624) :
    mulZ (divZ a b) b ≤ a ∧ divZ a b ≤ cdivZ a b ∧ cdivZ a b ≤ divZ a b + 1 ∧ a - 1 ≤ mulZ (cdivZ a b) b ∧ -4611686018427387905 ≤ divZ a b ∧ divZ a b ≤ 4611686018427387905 := by
  have hd : 0 < b := by omega
  have hn : ¬ b = 0 := by omega
  obtain ⟨f1, f2⟩ := floor_le (n := a * 4294967296) hd
  obtain ⟨c1, c2, c3, c4⟩ := quo_near (n := a * 4294967296) hd
  unfold divZ cdivZ fq
  simp only [if_neg hn, if_pos hd]
  generalize a * 4294967296 / b = q at *
  generalize -(-(a * 4294967296) / b) = r at *
  have q0 : -4611686018427387905 ≤ q := by
    rcases Int.lt_or_le q (-4611686018427387905) with h | h
    · exfalso
      have : q * b ≤ (-4611686018427387906) * b := Int.mul_le_mul_of_nonneg_right (by omega) (by omega)
      omega
    · exact h
  have q1 : q ≤ 4611686018427387905 := by
    rcases Int.lt_or_le 4611686018427387905 q with h | h
    · exfalso
      have : 4611686018427387906 * b ≤ q * b := Int.mul_le_mul_of_nonneg_right (by omega) (by omega)
      omega
    · exact h
  rw [cut_in (x := q) (by omega) (by omega), cut_in (x := r) (by omega) (by omega)]
  unfold mulZ
  refine ⟨?_, c1, c2, ?_, q0, q1⟩
  · have := cut_mono (x := q * b / 4294967296) (y := a) (by omega)
    rw [cut_in (x := a) (by omega) (by omega)] at this
    exact this
  · have := cut_mono (x := a) (y := r * b / 4294967296) (by omega)
    rw [cut_in (x := a) (by omega) (by omega)] at this
    omega

theorem ceils {l p : Int} (h0 : 0 ≤ l) (h1 : 1 ≤ p) (hp : p ≤ 1099511627776) (hq : l / p ≤ 1048576) :
    0 ≤ ceilZ (cdivZ l p) ∧ l ≤ ceilZ (cdivZ l p) * p ∧ (ceilZ (cdivZ l p) - 1) * p < l ∧ ceilZ (cdivZ l p) ≤ 1048578 ∧ -9223372036854775808 ≤ (ceilZ (cdivZ l p) - 1) * p ∧ ceilZ (cdivZ l p) * p ≤ 9223372036854775807 := by
  have hd : 0 < p := by omega
  have hn : ¬ p = 0 := by omega
  obtain ⟨f1, f2⟩ := floor_le (n := l) hd
  obtain ⟨c1, c2, c3, c4⟩ := quo_near (n := l * 4294967296) hd
  obtain ⟨g1, g2⟩ := floor_le (n := l * 4294967296) hd
  have g0 : 0 ≤ l * 4294967296 / p := Int.ediv_nonneg (by omega) (by omega)
  unfold cdivZ fq
  simp only [if_neg hn, if_pos hd]
  generalize l * 4294967296 / p = q at *
  generalize -(-(l * 4294967296) / p) = r at *
  have lp : l / p * p ≤ 1048576 * p := Int.mul_le_mul_of_nonneg_right hq (by omega)
  have r1 : r ≤ 4503603922337793 := by
    rcases Int.lt_or_le 4503603922337793 r with h | h
    · exfalso
      have : 4503603922337794 * p ≤ r * p := Int.mul_le_mul_of_nonneg_right (by omega) (by omega)
      omega
    · exact h
  rw [cut_in (x := r) (by omega) (by omega)]
  unfold ceilZ
  obtain ⟨n, hn'⟩ : ∃ n, -(-r / 4294967296) = n := ⟨_, rfl⟩
  rw [hn']
  have n1 : r ≤ n * 4294967296 := by omega
  have n2 : (n - 1) * 4294967296 ≤ r - 1 := by omega
  have m1 : r * p ≤ n * 4294967296 * p := Int.mul_le_mul_of_nonneg_right n1 (by omega)
  have m2 : (n - 1) * 4294967296 * p ≤ (r - 1) * p := Int.mul_le_mul_of_nonneg_right n2 (by omega)
  have e1 : n * 4294967296 * p = n * p * 4294967296 := by rw [Int.mul_assoc, Int.mul_comm 4294967296 p, ← Int.mul_assoc]
  have e2 : (n - 1) * 4294967296 * p = (n - 1) * p * 4294967296 := by rw [Int.mul_assoc, Int.mul_comm 4294967296 p, ← Int.mul_assoc]
  have e3 : (r - 1) * p = r * p - p := by rw [Int.sub_mul, Int.one_mul]
  have e4 : (n - 1) * p = n * p - p := by rw [Int.sub_mul, Int.one_mul]
  have n0 : 0 ≤ n := by omega
  have n3 : n ≤ 1048578 := by omega
  have b1 : n * p ≤ 1048578 * p := Int.mul_le_mul_of_nonneg_right n3 (by omega)
  have b2 : 0 ≤ n * p := Int.mul_nonneg n0 (by omega)
  exact ⟨n0, by omega, by omega, n3, by omega, by omega⟩

theorem chain_up {s x : Int} (h0 : -9223372036854775808 ≤ s) (h1 : s ≤ 9223372036854775807) (hx : 0 < x) : s ≤ addZ s x := by
  have := cut_mono (x := s) (y := s + x) (by omega)
  rw [cut_in h0 h1] at this; exact this
theorem chain_down {s x : Int} (h0 : -9223372036854775808 ≤ s) (h1 : s ≤ 9223372036854775807) (hx : x < 0) : addZ s x ≤ s := by
  have := cut_mono (x := s + x) (y := s) (by omega)
  rw [cut_in h0 h1] at this; exact this
theorem chain_step {x : Int} {k : Nat} (hk : k < 1000) (h0 : -9007199254740992 ≤ x) (h1 : x ≤ 9007199254740991) : addZ ((k : Int) * x) x = ((k + 1 : Nat) : Int) * x := by
  have a1 : (k : Int) * x ≤ (k : Int) * 9007199254740991 := Int.mul_le_mul_of_nonneg_left h1 (by omega)
  have a2 : (k : Int) * (-9007199254740992) ≤ (k : Int) * x := Int.mul_le_mul_of_nonneg_left h0 (by omega)
  have e : ((k + 1 : Nat) : Int) * x = (k : Int) * x + x := by rw [Int.natCast_add, Int.add_mul]; simp
  unfold addZ
  rw [e, cut_in (by omega) (by omega)]
theorem chain_mul {x n : Int} (hn : 0 ≤ n) (hn' : n ≤ 1000) (h0 : -9007199254740992 ≤ x) (h1 : x ≤ 9007199254740991) : mulZ x (ofZ n) = n * x := by
  have a1 : n * x ≤ n * 9007199254740991 := Int.mul_le_mul_of_nonneg_left h1 hn
  have a2 : n * (-9007199254740992) ≤ n * x := Int.mul_le_mul_of_nonneg_left h0 hn
  unfold mulZ ofZ
  rw [cut_in (x := n * 4294967296) (by omega) (by omega), ← Int.mul_assoc, Int.mul_ediv_cancel _ (by decide), Int.mul_comm x n, cut_in (by omega) (by omega)]

theorem half_mul {x : Int} (h0 : -9223372036854775808 ≤ x) (h1 : x ≤ 9223372036854775807) : mulZ x 2147483648 = x / 2 := by
  unfold mulZ; rw [cut_in (by omega) (by omega)]; omega
theorem half_div {x : Int} (h0 : -9223372036854775808 ≤ x) (h1 : x ≤ 9223372036854775807) : divZ x 8589934592 = x / 2 := by
  unfold divZ fq; simp only [if_neg (show ¬ (8589934592 : Int) = 0 by decide), if_pos (show (0 : Int) < 8589934592 by decide)]
  rw [cut_in (by omega) (by omega)]; omega
theorem half_cdiv {x : Int} (h0 : -9223372036854775808 ≤ x) (h1 : x ≤ 9223372036854775807) : cdivZ x 8589934592 = x / 2 + x % 2 := by
  unfold cdivZ fq; simp only [if_neg (show ¬ (8589934592 : Int) = 0 by decide), if_pos (show (0 : Int) < 8589934592 by decide)]
  rw [cut_in (by omega) (by omega)]; omega
theorem half_sum {x : Int} (h0 : -9223372036854775808 ≤ x) (h1 : x ≤ 9223372036854775807) : addZ (x / 2) (x / 2 + x % 2) = x := by
  unfold addZ; rw [cut_in (by omega) (by omega)]; omega
end Go.Proofs.Ytnagkbdnondklab
