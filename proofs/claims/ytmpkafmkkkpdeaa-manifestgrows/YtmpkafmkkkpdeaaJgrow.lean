/-
  Blocks that are added one by one, and put together by fours: counts by level are digits by four.
-/
import Derived.Test.YtmpkafmkkkpdeaaJrswap
import Derived.Test.YtmpkafmkkkpdeaaJpick
namespace Go.Proofs.Ytmpkafmkkkpdeaa.J
open Go.RowKit Go.Proofs.Lys
set_option linter.unusedVariables false

def dig (n k : Nat) : Nat := n / 4 ^ k % 4
def cntK (k : Nat) (l : List Rf) : Nat := (lvl (k : Int) l).length
theorem lvl_app (k : Int) (l r : List Rf) : lvl k (l ++ r) = lvl k l ++ lvl k r := by
  unfold lvl
  rw [List.filter_append, List.map_append]
theorem cnt_app (k : Nat) (l : List Rf) (x : Rf) : cntK k (l ++ [x]) = cntK k l + if x.2.1 = (k : Int) then 1 else 0 := by
  unfold cntK
  rw [lvl_app, List.length_append]
  congr 1
  unfold lvl
  rw [List.length_map, List.filter_cons, List.filter_nil]
  by_cases h : x.2.1 = (k : Int)
  · rw [if_pos h, if_pos (by simpa using h)]; rfl
  · rw [if_neg h, if_neg (by simpa using h)]; rfl
theorem num_app {n : Int} {lv f t : Int} (h1 : 0 ≤ lv) (h2 : lv ≤ 20) : ∀ (l : List Rf) (a : Int), a < n → numO a n l = true → numO a (n + 1) (l ++ [(n, lv, f, t)]) = true := by
  intro l
  induction l with
  | nil =>
    intro a ha _
    rw [List.nil_append, num_cons]
    exact ⟨⟨ha, by show n < n + 1; omega, h1, h2⟩, rfl⟩
  | cons x r ih =>
    intro a ha h
    rw [num_cons] at h
    rw [List.cons_append, num_cons]
    exact ⟨⟨h.1.1, by omega, h.1.2.2.1, h.1.2.2.2⟩, ih x.1 h.1.2.1 h.2⟩
theorem tim_app {n lv f t : Int} (hf : winO f = true) (ht : winO t = true) (h : f < t) : ∀ (l : List Rf), timO l = true → timO (l ++ [(n, lv, f, t)]) = true := by
  intro l
  induction l with
  | nil =>
    intro _
    rw [List.nil_append, timO]
    simp only [hf, ht, h, decide_true, Bool.and_self, timO]
  | cons x r ih =>
    intro hl
    rw [timO, Bool.and_eq_true] at hl
    rw [List.cons_append, timO, Bool.and_eq_true]
    exact ⟨hl.1, ih hl.2⟩
theorem num_lt {n : Int} : ∀ (l : List Rf) (a : Int), numO a n l = true → ∀ x ∈ l, x.1 < n ∧ 0 ≤ x.2.1 ∧ x.2.1 ≤ 20 := by
  intro l
  induction l with
  | nil => intro a _ x hx; cases hx
  | cons y r ih =>
    intro a h x hx
    rw [num_cons] at h
    rcases List.mem_cons.1 hx with rfl | hx
    · exact h.1.2
    · exact ih y.1 h.2 x hx
theorem len_split (p q r : Rf → Bool) (h : ∀ x, p x = (q x || r x)) (hd : ∀ x, q x = true → r x = false) : ∀ l : List Rf, (l.filter p).length = (l.filter q).length + (l.filter r).length := by
  intro l
  induction l with
  | nil => rfl
  | cons x t ih =>
    rw [List.filter_cons, List.filter_cons, List.filter_cons, h x]
    cases hq : q x with
    | true =>
      rw [hd x hq]
      simp [ih]
      omega
    | false =>
      cases hr : r x with
      | true => simp [ih]; omega
      | false => simp [ih]
theorem len_bound (l : List Rf) (B : Nat) : ∀ m : Nat, (∀ k, k < m → cntK k l ≤ B) → (l.filter (fun x => decide (0 ≤ x.2.1 ∧ x.2.1 < (m : Int)))).length ≤ m * B := by
  intro m
  induction m with
  | zero =>
    intro _
    rw [List.filter_eq_nil_iff.2 (by intro x _; simp; try omega)]
    exact Nat.zero_le _
  | succ m ih =>
    intro h
    have h1 := ih (fun k hk => h k (by omega))
    have h2 := h m (by omega)
    have h3 := len_split (fun x : Rf => decide (0 ≤ x.2.1 ∧ x.2.1 < ((m + 1 : Nat) : Int))) (fun x => decide (0 ≤ x.2.1 ∧ x.2.1 < (m : Int))) (fun x => decide (x.2.1 = (m : Int)))
      (fun x => by
        rw [Bool.eq_iff_iff]
        simp only [Bool.or_eq_true, decide_eq_true_eq]
        omega) (fun x hx => by simp at hx ⊢; omega) l
    rw [h3, Nat.add_mul, Nat.one_mul]
    unfold cntK lvl at h2
    rw [List.length_map] at h2
    exact Nat.add_le_add h1 h2
theorem len_all {l : List Rf} {B : Nat} (hl : ∀ x ∈ l, 0 ≤ x.2.1 ∧ x.2.1 ≤ 20) (h : ∀ k, k < 21 → cntK k l ≤ B) : l.length ≤ 21 * B := by
  have h1 := len_bound l B 21 h
  rw [List.filter_eq_self.2 (by intro x hx; have := hl x hx; simp; omega)] at h1
  exact h1

/-- Between additions. -/
structure GrowI (n : Nat) (l : List Rf) (N : Int) : Prop where
  chk : chkO ⟨l, N, 1, 0⟩ = 0
  pot : 3 * N + l.length = 4 * n + 3
  dig : ∀ k, k < 21 → cntK k l = dig n k
  tim : ∀ x ∈ l, 0 ≤ x.2.2.1 ∧ x.2.2.1 < x.2.2.2 ∧ x.2.2.2 ≤ n
/-- While one is carried to level c. -/
structure MidI (n c : Nat) (l : List Rf) (N : Int) : Prop where
  chk : chkO ⟨l, N, 1, 0⟩ = 0
  pot : 3 * N + l.length = 4 * n + 3
  low : ∀ k, k < c → cntK k l = 0 ∧ dig n k = 0
  here : cntK c l = dig (n - 1) c + 1
  high : ∀ k, c < k → k < 21 → cntK k l = dig (n - 1) k
  dvd : 4 ^ c ∣ n
  tim : ∀ x ∈ l, 0 ≤ x.2.2.1 ∧ x.2.2.1 < x.2.2.2 ∧ x.2.2.2 ≤ n
theorem dig_lt (n k : Nat) : dig n k ≤ 3 := by
  unfold dig
  have := Nat.mod_lt (n / 4 ^ k) (show 4 > 0 by decide)
  omega
theorem dvd_small {n c : Nat} (h : 4 ^ c ∣ n) (h0 : 0 < n) (hn : n ≤ 300) : c ≤ 4 := by
  have h1 := Nat.le_of_dvd h0 h
  rcases Nat.lt_or_ge 4 c with h2 | h2
  · have h3 : (4 : Nat) ^ 5 ≤ 4 ^ c := Nat.pow_le_pow_right (by decide) h2
    have h4 : (4 : Nat) ^ 5 = 1024 := by decide
    omega
  · exact h2
theorem dig_zero (k : Nat) : dig 0 k = 0 := by simp [dig]
theorem grow_start : GrowI 0 [] 1 := ⟨by decide, by decide, fun k _ => by rw [dig_zero]; rfl, fun x hx => by cases hx⟩
theorem div_same {n d : Nat} (hd : 0 < d) (h0 : 0 < n) (h : ¬ d ∣ n) : n / d = (n - 1) / d := by
  obtain ⟨a, r, e, hr⟩ : ∃ a r, n - 1 = d * a + r ∧ r < d := ⟨(n - 1) / d, (n - 1) % d, (Nat.div_add_mod _ _).symm, Nat.mod_lt _ hd⟩
  have hn : n = d * a + (r + 1) := by omega
  have hne : r + 1 ≠ d := fun e2 => h ⟨a + 1, by rw [hn, e2, Nat.mul_add, Nat.mul_one]⟩
  rw [e, hn, Nat.mul_add_div hd, Nat.mul_add_div hd, Nat.div_eq_of_lt hr, Nat.div_eq_of_lt (by omega)]
theorem pred_div {d q : Nat} (hd : 0 < d) (hq : 0 < q) : (d * q - 1) / d = q - 1 := by
  have : d * q - 1 = d * (q - 1) + (d - 1) := by
    obtain ⟨p, rfl⟩ : ∃ p, q = p + 1 := ⟨q - 1, by omega⟩
    rw [Nat.mul_add, Nat.mul_one, Nat.add_sub_cancel]
    omega
  rw [this, Nat.mul_add_div hd, Nat.div_eq_of_lt (by omega)]
  rfl
/-- The digit at the carried place. -/
theorem dig_here {n c : Nat} (h : 4 ^ c ∣ n) (h0 : 0 < n) : (dig (n - 1) c = 3 → dig n c = 0 ∧ 4 ^ (c + 1) ∣ n) ∧ (dig (n - 1) c ≠ 3 → dig n c = dig (n - 1) c + 1 ∧ ¬ 4 ^ (c + 1) ∣ n) := by
  obtain ⟨q, rfl⟩ := h
  have hd : 0 < 4 ^ c := Nat.pow_pos (n := c) (show 0 < 4 by decide)
  have hq : 0 < q := by
    rcases Nat.eq_zero_or_pos q with e | e
    · subst e; simp at h0
    · exact e
  have e1 : dig (4 ^ c * q - 1) c = (q - 1) % 4 := by unfold dig; rw [pred_div hd hq]
  have e2 : dig (4 ^ c * q) c = q % 4 := by unfold dig; rw [Nat.mul_div_cancel_left _ hd]
  have e3 : 4 ^ (c + 1) ∣ 4 ^ c * q ↔ 4 ∣ q := by
    rw [Nat.pow_succ]
    exact Nat.mul_dvd_mul_iff_left hd
  rw [e1, e2, e3]
  constructor
  · intro h; exact ⟨by omega, Nat.dvd_of_mod_eq_zero (by omega)⟩
  · intro h
    refine ⟨by omega, fun hdv => ?_⟩
    have := Nat.mod_eq_zero_of_dvd hdv
    omega
theorem grow_add {n : Nat} {l : List Rf} {N : Int} (h : GrowI n l N) (hn : n < 300) :
    addQ ⟨l, N, 1, 0⟩ 0 (n : Int) ((n : Int) + 1) = (⟨l ++ [(N, 0, (n : Int), (n : Int) + 1)], N + 1, 1, 0⟩, N, 0) ∧ MidI (n + 1) 0 (l ++ [(N, 0, (n : Int), (n : Int) + 1)]) (N + 1) := by
  have hc := chk_iff.1 h.chk
  simp only at hc
  obtain ⟨c1, c2, c3, c4, c5, c6⟩ := hc
  have hb := cnt_bnd c2
  have hlv := num_lt l 0 c4
  have hlen := len_all (B := 3) (fun x hx => (hlv x hx).2) (fun k hk => by rw [h.dig k hk]; exact dig_lt n k)
  have hpot := h.pot
  have hnew : chkO ⟨l ++ [(N, 0, (n : Int), (n : Int) + 1)], N + 1, 1, 0⟩ = 0 := by
    rw [chk_iff]
    refine ⟨by simp; omega, ?_, c3, num_app (by decide) (by decide) l 0 (by omega) c4, tim_app ?_ ?_ (by omega) l c5, c6⟩
    · unfold cntO; simp; omega
    · unfold winO; simp; omega
    · unfold winO; simp; omega
  constructor
  · unfold addQ
    rw [if_pos h.chk]
    exact new_yes hnew
  · refine ⟨hnew, by rw [List.length_append]; simp; omega, fun k hk => by omega, ?_, fun k hk hk2 => ?_, ⟨n + 1, by simp⟩, fun x hx => ?_⟩
    · rw [cnt_app, h.dig 0 (by decide), if_pos (show (0 : Int) = ((0 : Nat) : Int) from rfl)]
      rfl
    · rw [cnt_app, h.dig k hk2, if_neg (by show ¬ (0 : Int) = (k : Int); omega)]
      rfl
    · rcases List.mem_append.1 hx with hx | hx
      · have := h.tim x hx
        omega
      · have : x = (N, 0, (n : Int), (n : Int) + 1) := by simpa using hx
        subst this
        show 0 ≤ (n : Int) ∧ (n : Int) < (n : Int) + 1 ∧ (n : Int) + 1 ≤ ((n + 1 : Nat) : Int)
        omega
theorem pick_at {l : List Rf} {c : Nat} (hlow : ∀ k, k < c → cntK k l < 4) (h4 : 4 ≤ cntK c l) : ∀ fuel n, n ≤ c → c < n + fuel → pickL l n fuel = (lvl (c : Int) l).take 4 := by
  intro fuel
  induction fuel with
  | zero => intro n h1 h2; omega
  | succ f ih =>
    intro n h1 h2
    rw [pickL]
    by_cases e : n = c
    · subst e
      exact if_pos h4
    · have := hlow n (by omega)
      unfold cntK at this
      rw [if_neg (by omega)]
      exact ih (n + 1) (by omega) (by omega)
theorem pick_none {l : List Rf} : ∀ fuel n, (∀ k, n ≤ k → k < n + fuel → cntK k l < 4) → pickL l n fuel = [] := by
  intro fuel
  induction fuel with
  | zero => intro n _; rfl
  | succ f ih =>
    intro n h
    have := h n (Nat.le_refl _) (by omega)
    unfold cntK at this
    rw [pickL, if_neg (by omega)]
    exact ih (n + 1) (fun k h1 h2 => h k (by omega) (by omega))
theorem mid_end {n c : Nat} {l : List Rf} {N : Int} (h : MidI n c l N) (h0 : 0 < n) (hn : n ≤ 300) (hc : cntK c l < 4) : pickO ⟨l, N, 1, 0⟩ = [] ∧ GrowI n l N := by
  have hc4 := dvd_small h.dvd h0 hn
  have hd := dig_here h.dvd h0
  have hh := h.here
  have hdl := dig_lt (n - 1) c
  have hne : dig (n - 1) c ≠ 3 := by omega
  have hall : ∀ k, k < 21 → cntK k l = dig n k := by
    intro k hk
    rcases Nat.lt_trichotomy k c with h1 | h1 | h1
    · rw [(h.low k h1).1, (h.low k h1).2]
    · subst h1
      rw [hh, (hd.2 hne).1]
    · rw [h.high k h1 hk]
      unfold dig
      rw [div_same (Nat.pow_pos (n := k) (show 0 < 4 by decide)) h0]
      intro hdv
      exact (hd.2 hne).2 (Nat.dvd_trans (Nat.pow_dvd_pow 4 h1) hdv)
  constructor
  · unfold pickO
    rw [if_pos h.chk]
    exact pick_none 21 0 (fun k _ hk => by rw [hall k (by omega)]; have := dig_lt n k; omega)
  · exact ⟨h.chk, h.pot, hall, h.tim⟩
/-- The ids that are picked. -/
theorem mid_pick {n c : Nat} {l : List Rf} {N : Int} (h : MidI n c l N) (h0 : 0 < n) (hn : n ≤ 300) (hc : ¬ cntK c l < 4) : pickO ⟨l, N, 1, 0⟩ = lvl (c : Int) l ∧ (lvl (c : Int) l).length = 4 ∧ c ≤ 4 ∧ l.length ≤ 84 := by
  have hc4 := dvd_small h.dvd h0 hn
  have hh := h.here
  have hdl := dig_lt (n - 1) c
  have h4 : (lvl (c : Int) l).length = 4 := by
    unfold cntK at hh hc
    omega
  have hlv := num_lt l 0 (chk_iff.1 h.chk).2.2.2.1
  refine ⟨?_, h4, hc4, len_all (B := 4) (fun x hx => (hlv x hx).2) (fun k hk => ?_)⟩
  · unfold pickO
    rw [if_pos h.chk]
    show pickL l 0 21 = _
    rw [pick_at (c := c) (fun k hk => by rw [(h.low k hk).1]; decide) (by unfold cntK; omega) 21 0 (Nat.zero_le _) (by omega), List.take_of_length_le (by omega)]
  · rcases Nat.lt_trichotomy k c with h1 | h1 | h1
    · rw [(h.low k h1).1]; decide
    · subst h1; unfold cntK; omega
    · rw [h.high k h1 hk]; have := dig_lt (n - 1) k; omega
theorem lvl_mem {c : Int} {l : List Rf} {id : Int} : id ∈ lvl c l ↔ ∃ x ∈ l, x.2.1 = c ∧ x.1 = id := by
  unfold lvl
  rw [List.mem_map]
  constructor
  · rintro ⟨x, hx, e⟩
    rw [List.mem_filter] at hx
    exact ⟨x, hx.1, by simpa using hx.2, e⟩
  · rintro ⟨x, h1, h2, e⟩
    exact ⟨x, List.mem_filter.2 ⟨h1, by simpa using h2⟩, e⟩
theorem lvl_own {l : List Rf} {N : Int} (h : chkO ⟨l, N, 1, 0⟩ = 0) {c : Int} {x : Rf} (hx : x ∈ l) : x.1 ∈ lvl c l ↔ x.2.1 = c := by
  rw [lvl_mem]
  constructor
  · rintro ⟨y, hy, h1, h2⟩
    obtain ⟨i, hi, rfl⟩ := List.getElem_of_mem hx
    obtain ⟨j, hj, rfl⟩ := List.getElem_of_mem hy
    have := chk_inj h j i hj hi h2
    subst this
    exact h1
  · intro e
    exact ⟨x, hx, e, rfl⟩
theorem lvl_nodup {l : List Rf} {N : Int} (h : chkO ⟨l, N, 1, 0⟩ = 0) (c : Int) : (lvl c l).Nodup := by
  have h1 := num_filter (fun x : Rf => decide (x.2.1 = c)) l 0 (chk_iff.1 h).2.2.2.1
  unfold lvl
  rw [List.Nodup, List.pairwise_iff_getElem]
  intro i j hi hj hij
  rw [List.getElem_map, List.getElem_map]
  have := num_rise _ 0 h1 i j hij (by simpa using hj)
  omega
theorem lvl_ids {l : List Rf} {N : Int} (h : chkO ⟨l, N, 1, 0⟩ = 0) {c : Int} (h4 : (lvl c l).length = 4) : idsE l (lvl c l) = 0 := by
  unfold idsE
  rw [if_neg, if_pos (lvl_nodup h c)]
  intro H
  rcases H with H | H
  · rw [H] at h4; cases h4
  · refine H (fun i hi => ?_)
    obtain ⟨x, hx, _, e⟩ := lvl_mem.1 hi
    exact List.mem_map.2 ⟨x, hx, e⟩
theorem lvl_kept {l : List Rf} {N : Int} (h : chkO ⟨l, N, 1, 0⟩ = 0) (c : Int) : keptL l (lvl c l) = l.filter (fun x => decide (x.2.1 ≠ c)) := by
  unfold keptL
  refine List.filter_congr (fun x hx => ?_)
  have := lvl_own h (c := c) hx
  by_cases e : x.2.1 = c
  · have h1 := this.2 e
    simp [h1, e]
  · have h1 : x.1 ∉ lvl c l := fun h2 => e (this.1 h2)
    simp [h1, e]
theorem mid_swap {n c : Nat} {l : List Rf} {N : Int} (h : MidI n c l N) (h0 : 0 < n) (hn : n ≤ 300) (hc : ¬ cntK c l < 4) {f t : Int} (hf : 0 ≤ f) (hft : f < t) (ht : t ≤ n) :
    ∃ l', swapQ ⟨l, N, 1, 0⟩ (lvl (c : Int) l) ((c : Int) + 1) f t = (⟨l', N + 1, 1, 0⟩, N, 0) ∧ MidI n (c + 1) l' (N + 1) ∧ l'.length + 3 = l.length := by
  obtain ⟨hp, h4, hc4, hlen⟩ := mid_pick h h0 hn hc
  have hcc := chk_iff.1 h.chk
  simp only at hcc
  obtain ⟨c1, c2, c3, c4, c5, c6⟩ := hcc
  have hb := cnt_bnd c2
  have hpot := h.pot
  have hk := lvl_kept h.chk (c : Int)
  have hlc : (l.filter (fun x => decide (x.2.1 ≠ (c : Int)))).length + 4 = l.length := by
    have h3 := len_split (fun _ : Rf => true) (fun x => decide (x.2.1 ≠ (c : Int))) (fun x => decide (x.2.1 = (c : Int))) (fun x => by by_cases e : x.2.1 = (c : Int) <;> simp [e]) (fun x hx => by simpa using hx) l
    rw [List.filter_eq_self.2 (by intro x _; rfl)] at h3
    unfold lvl at h4
    rw [List.length_map] at h4
    omega
  have hnew : chkO ⟨l.filter (fun x => decide (x.2.1 ≠ (c : Int))) ++ [(N, (c : Int) + 1, f, t)], N + 1, 1, 0⟩ = 0 := by
    rw [chk_iff]
    refine ⟨by simp only [List.length_append, List.length_cons, List.length_nil]; omega, ?_, c3, num_app (by omega) (by omega) _ 0 (by omega) (num_filter _ l 0 c4), tim_app ?_ ?_ hft _ (tim_filter _ l c5), c6⟩
    · unfold cntO; simp; omega
    · unfold winO; simp; omega
    · unfold winO; simp; omega
  have hd := dig_here h.dvd h0
  have hh := h.here
  have hdl := dig_lt (n - 1) c
  have h3 : dig (n - 1) c = 3 := by unfold cntK at hh; omega
  have hcf : ∀ k : Nat, cntK k (l.filter (fun x => decide (x.2.1 ≠ (c : Int)))) = if k = c then 0 else cntK k l := by
    intro k
    unfold cntK lvl
    rw [List.length_map, List.length_map, List.filter_filter]
    by_cases e : k = c
    · subst e
      rw [if_pos rfl, List.filter_eq_nil_iff.2 (by intro x _; simp)]
      rfl
    · rw [if_neg e]
      congr 1
      refine List.filter_congr (fun x _ => ?_)
      by_cases e2 : x.2.1 = (k : Int)
      · have : ¬ (k : Int) = (c : Int) := by omega
        simp [e2, this]
      · simp [e2]
  refine ⟨l.filter (fun x => decide (x.2.1 ≠ (c : Int))) ++ [(N, (c : Int) + 1, f, t)], ?_, ?_, by simp only [List.length_append, List.length_cons, List.length_nil]; omega⟩
  · rw [swap_yes h.chk (lvl_ids h.chk h4)]
    unfold keptM
    simp only
    rw [hk]
    exact new_yes hnew
  · refine ⟨hnew, by simp only [List.length_append, List.length_cons, List.length_nil]; omega, fun k hk1 => ?_, ?_, fun k hk1 hk2 => ?_, (hd.1 h3).2, fun x hx => ?_⟩
    · have hx : ¬ (((N, (c : Int) + 1, f, t) : Rf).2.1 = (k : Int)) := by show ¬ (c : Int) + 1 = (k : Int); omega
      rw [cnt_app, hcf]
      by_cases e : k = c
      · rw [if_pos e, if_neg hx]
        subst e
        exact ⟨rfl, (hd.1 h3).1⟩
      · rw [if_neg e, if_neg hx]
        exact h.low k (by omega)
    · have hx : ((N, (c : Int) + 1, f, t) : Rf).2.1 = ((c + 1 : Nat) : Int) := by show (c : Int) + 1 = ((c + 1 : Nat) : Int); omega
      rw [cnt_app, hcf, if_neg (show ¬ c + 1 = c by omega), if_pos hx, h.high (c + 1) (by omega) (by omega)]
    · have hx : ¬ (((N, (c : Int) + 1, f, t) : Rf).2.1 = (k : Int)) := by show ¬ (c : Int) + 1 = (k : Int); omega
      rw [cnt_app, hcf, if_neg (show ¬ k = c by omega), if_neg hx, h.high k (by omega) hk2]
      rfl
    · rcases List.mem_append.1 hx with hx | hx
      · exact h.tim x (List.mem_filter.1 hx).1
      · have : x = (N, (c : Int) + 1, f, t) := by simpa using hx
        subst this
        exact ⟨hf, hft, ht⟩

/-! ### The scan -/
/-- Among the first k blocks: the level, the least beginning and the greatest end of those of level c. -/
def ScanP (n c : Nat) (l : List Rf) (k : Nat) (lev fr to : Int) : Prop :=
  ((∀ x ∈ l.take k, x.2.1 ≠ (c : Int)) ∧ lev = 0 ∧ fr = 1099511627776 ∧ to = 0) ∨ ((∃ x ∈ l.take k, x.2.1 = (c : Int)) ∧ lev = c ∧ 0 ≤ fr ∧ fr < to ∧ to ≤ n)
/-- The same, with block k held against the first j ids. -/
def ScanJ (n c : Nat) (l : List Rf) (k j : Nat) (id : Int) (lev fr to : Int) : Prop :=
  (id ∉ (lvl (c : Int) l).take j ∧ ScanP n c l k lev fr to) ∨ (id ∈ (lvl (c : Int) l).take j ∧ ScanP n c l (k + 1) lev fr to)
theorem scan_start (n c : Nat) (l : List Rf) : ScanP n c l 0 0 1099511627776 0 := .inl ⟨by intro x hx; simp at hx, rfl, rfl, rfl⟩
theorem scanj_start {n c : Nat} {l : List Rf} {k : Nat} {id lev fr to : Int} (h : ScanP n c l k lev fr to) : ScanJ n c l k 0 id lev fr to := .inl ⟨by simp, h⟩
theorem scanj_no {n c : Nat} {l : List Rf} {k j : Nat} {id lev fr to : Int} (hj : j < (lvl (c : Int) l).length) (hne : id ≠ (lvl (c : Int) l)[j]) (h : ScanJ n c l k j id lev fr to) : ScanJ n c l k (j + 1) id lev fr to := by
  have hm : id ∈ (lvl (c : Int) l).take (j + 1) ↔ id ∈ (lvl (c : Int) l).take j := by
    rw [List.take_add_one, List.getElem?_eq_getElem hj, Option.toList_some, List.mem_append]
    simp [hne]
  unfold ScanJ
  rw [hm]
  exact h
theorem scanj_yes {n c : Nat} {l : List Rf} {N : Int} (hI : MidI n c l N) (hn : n ≤ 300) {k j : Nat} (hk : k < l.length) (hj : j < (lvl (c : Int) l).length) {lev fr to : Int} (he : l[k].1 = (lvl (c : Int) l)[j]) (h : ScanJ n c l k j l[k].1 lev fr to) :
    ScanJ n c l k (j + 1) l[k].1 l[k].2.1 (if l[k].2.2.1 < fr then l[k].2.2.1 else fr) (if to < l[k].2.2.2 then l[k].2.2.2 else to) := by
  have hlv : l[k].2.1 = (c : Int) := (lvl_own hI.chk (List.getElem_mem hk)).1 (by rw [he]; exact List.getElem_mem hj)
  have htm := hI.tim _ (List.getElem_mem hk)
  refine .inr ⟨?_, .inr ⟨⟨l[k], ?_, hlv⟩, hlv, ?_⟩⟩
  · rw [List.take_add_one, List.getElem?_eq_getElem hj, Option.toList_some, List.mem_append]
    exact .inr (by simpa using he)
  · rw [List.take_add_one, List.getElem?_eq_getElem hk, Option.toList_some]
    exact List.mem_append.2 (.inr (by simp))
  · have hst : (fr = 1099511627776 ∧ to = 0) ∨ (0 ≤ fr ∧ fr < to ∧ to ≤ n) := by
      rcases h with ⟨_, h | h⟩ | ⟨_, h | h⟩
      · exact .inl ⟨h.2.2.1, h.2.2.2⟩
      · exact .inr h.2.2
      · exact .inl ⟨h.2.2.1, h.2.2.2⟩
      · exact .inr h.2.2
    by_cases h1 : l[k].2.2.1 < fr
    · rw [if_pos h1]
      by_cases h2 : to < l[k].2.2.2
      · rw [if_pos h2]; omega
      · rw [if_neg h2]; omega
    · rw [if_neg h1]
      by_cases h2 : to < l[k].2.2.2
      · rw [if_pos h2]; omega
      · rw [if_neg h2]; omega
theorem scanj_end {n c : Nat} {l : List Rf} {N : Int} (hI : MidI n c l N) {k j : Nat} (hk : k < l.length) (hj : (lvl (c : Int) l).length ≤ j) {lev fr to : Int} (h : ScanJ n c l k j l[k].1 lev fr to) : ScanP n c l (k + 1) lev fr to := by
  rw [ScanJ, List.take_of_length_le hj, lvl_own hI.chk (List.getElem_mem hk)] at h
  rcases h with ⟨h1, h2⟩ | ⟨_, h2⟩
  · have htk : l.take (k + 1) = l.take k ++ [l[k]] := by rw [List.take_add_one, List.getElem?_eq_getElem hk, Option.toList_some]
    rcases h2 with ⟨h2, h3⟩ | ⟨⟨x, hx, hxc⟩, h3⟩
    · refine .inl ⟨fun x hx => ?_, h3⟩
      rw [htk] at hx
      rcases List.mem_append.1 hx with hx | hx
      · exact h2 x hx
      · have : x = l[k] := by simpa using hx
        rw [this]
        exact h1
    · exact .inr ⟨⟨x, by rw [htk]; exact List.mem_append.2 (.inl hx), hxc⟩, h3⟩
  · exact h2
theorem scan_end {n c : Nat} {l : List Rf} (h4 : (lvl (c : Int) l).length = 4) {k : Nat} (hk : l.length ≤ k) {lev fr to : Int} (h : ScanP n c l k lev fr to) : lev = c ∧ 0 ≤ fr ∧ fr < to ∧ to ≤ n := by
  rw [ScanP, List.take_of_length_le hk] at h
  rcases h with ⟨h1, _⟩ | ⟨_, h⟩
  · exfalso
    have : lvl (c : Int) l = [] := by
      unfold lvl
      rw [List.filter_eq_nil_iff.2 (by intro x hx; simpa using h1 x hx)]
      rfl
    rw [this] at h4
    cases h4
  · exact h
/-! ### The digits at the end -/
def cntT (k : Nat) (l : List Rf) (j : Nat) : Nat := cntK k (l.take j)
theorem cntT_step {k : Nat} {l : List Rf} {j : Nat} (hj : j < l.length) : cntT k l (j + 1) = cntT k l j + if l[j].2.1 = (k : Int) then 1 else 0 := by
  unfold cntT
  rw [List.take_add_one, List.getElem?_eq_getElem hj, Option.toList_some, cnt_app]
theorem dig_next (n k : Nat) : n / 4 ^ k / 4 = n / 4 ^ (k + 1) := by rw [Nat.pow_succ, Nat.div_div_eq_div_mul]
end Go.Proofs.Ytmpkafmkkkpdeaa.J
