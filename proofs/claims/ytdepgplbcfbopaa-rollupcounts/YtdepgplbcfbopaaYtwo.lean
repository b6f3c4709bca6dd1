/-
  Package rollup, in plain words: buckets of buckets are the buckets of the samples.
-/
import Derived.Test.YtdepgplbcfbopaaYplain
namespace Go.Proofs.Ytdepgplbcfbopaa.Ru
open Go
set_option linter.unusedVariables false

/-- How many there are in all. -/
def tot : Bks → Int
  | [] => 0
  | b :: r => b.c + tot r
theorem tot_app (a b : Bks) : tot (a ++ b) = tot a + tot b := by
  induction a with
  | nil => simp [tot]
  | cons x r ih => rw [List.cons_append, tot, ih, tot]; omega
theorem tot_push (a : Bks) (b : Bk) : tot (push a b) = tot a + b.c := by
  rcases List.eq_nil_or_concat a with rfl | ⟨t, x, e⟩
  · rw [push_nil]; simp [tot]
  · rw [List.concat_eq_append] at e
    subst e
    rw [push_snoc]
    split
    · rw [tot_app, tot_app]; simp [tot, joinB]; omega
    · rw [tot_app, tot_app]; simp [tot]; omega
theorem tot_gatA (w : Int) : ∀ (l acc : Bks), tot (gatA w acc l) = tot acc + tot l := by
  intro l
  induction l with
  | nil => intro acc; simp [gatA, tot]
  | cons b r ih =>
    intro acc
    have h := ih (push acc (mv w b))
    rw [tot_push] at h
    show tot (gatA w (push acc (mv w b)) r) = _
    rw [h, tot]
    simp only [mv]
    omega
theorem tot_gat (w : Int) (l : Bks) : tot (gat w l) = tot l := by
  have h := tot_gatA w l []
  rw [tot, Int.zero_add] at h
  exact h
/-- Small sums: so much for each that is counted. -/
structure Sm (b : Bk) : Prop where
  c : 1 ≤ b.c
  lo : -(b.c * 1125899906842624) ≤ b.s
  hi : b.s ≤ b.c * 1125899906842624
theorem addC_lo {a b x y : Int} (h1 : -x ≤ a) (h2 : -y ≤ b) (hx : 0 ≤ x) (hy : 0 ≤ y) : -(x + y) ≤ addC a b := by
  unfold addC
  split
  · omega
  · split <;> omega
theorem addC_hi {a b x y : Int} (h1 : a ≤ x) (h2 : b ≤ y) (hx : 0 ≤ x) (hy : 0 ≤ y) : addC a b ≤ x + y := by
  unfold addC
  split
  · omega
  · split <;> omega
theorem Sm.join {a b : Bk} (h : Sm a) (g : Sm b) : Sm (joinB a b) := by
  have h1 := h.c; have g1 := g.c
  have e : (a.c + b.c) * 1125899906842624 = a.c * 1125899906842624 + b.c * 1125899906842624 := by omega
  refine ⟨?_, ?_, ?_⟩
  · show 1 ≤ a.c + b.c
    omega
  · show -((a.c + b.c) * 1125899906842624) ≤ addC a.s b.s
    rw [e]
    exact addC_lo h.lo g.lo (by omega) (by omega)
  · show addC a.s b.s ≤ (a.c + b.c) * 1125899906842624
    rw [e]
    exact addC_hi h.hi g.hi (by omega) (by omega)
theorem Sm.mv {b : Bk} (h : Sm b) (w : Int) : Sm (mv w b) := ⟨h.c, h.lo, h.hi⟩
def Sml (l : Bks) : Prop := ∀ b ∈ l, Sm b
theorem sml_push {a : Bks} {b : Bk} (h : Sml a) (g : Sm b) : Sml (push a b) := by
  rcases List.eq_nil_or_concat a with rfl | ⟨t, y, e⟩
  · intro x hx
    rw [push_nil, List.mem_singleton] at hx
    subst hx
    exact g
  · rw [List.concat_eq_append] at e
    subst e
    rw [push_snoc]
    intro x hx
    split at hx
    · rcases List.mem_append.1 hx with hx | hx
      · exact h x (List.mem_append_left _ hx)
      · rw [List.mem_singleton] at hx
        subst hx
        exact (h y (by simp)).join g
    · rcases List.mem_append.1 hx with hx | hx
      · exact h x (List.mem_append_left _ hx)
      · rcases List.mem_cons.1 hx with rfl | hx
        · exact h x (by simp)
        · rw [List.mem_singleton] at hx
          subst hx
          exact g
theorem sml_gatA (w : Int) : ∀ (l acc : Bks), Sml acc → Sml l → Sml (gatA w acc l) := by
  intro l
  induction l with
  | nil => intro acc h _; exact h
  | cons b r ih =>
    intro acc h hl
    exact ih _ (sml_push h ((hl b List.mem_cons_self).mv w)) (fun x hx => hl x (List.mem_cons_of_mem _ hx))
theorem sml_gat (w : Int) (l : Bks) (h : Sml l) : Sml (gat w l) := sml_gatA w l [] (fun x hx => by cases hx) h
theorem tot_ge {l : Bks} (h : Sml l) : 0 ≤ tot l := by
  induction l with
  | nil => exact Int.le_refl _
  | cons x r ih =>
    have h1 := ih (fun y hy => h y (List.mem_cons_of_mem _ hy))
    have h2 := (h x List.mem_cons_self).c
    rw [tot]
    omega
/-- Sums that are not cut may be put together either way. -/
theorem join_assoc {a b c : Bk} (ha : Sm a) (hb : Sm b) (hc : Sm c) (h : a.c + b.c + c.c ≤ 4096) : joinB (joinB a b) c = joinB a (joinB b c) := by
  have a1 := ha.lo; have a2 := ha.hi; have b1 := hb.lo; have b2 := hb.hi; have c1 := hc.lo; have c2 := hc.hi
  have a0 := ha.c; have b0 := hb.c; have c0 := hc.c
  have e : ∀ x y : Int, -4611686018427387904 ≤ x + y → x + y ≤ 4611686018427387904 → addC x y = x + y := fun x y h1 h2 => by
    unfold addC
    rw [if_neg (by omega), if_neg (by omega)]
  unfold joinB
  simp only
  rw [e a.s b.s (by omega) (by omega), e b.s c.s (by omega) (by omega), e (a.s + b.s) c.s (by omega) (by omega), e a.s (b.s + c.s) (by omega) (by omega)]
  congr 1
  · omega
  · omega
  · omega
  · omega
theorem push_push {Y : Bks} {X B : Bk} (ht : X.t = B.t) (hY : Sml Y) (hX : Sm X) (hB : Sm B) (h : tot Y + X.c + B.c ≤ 4096) : push (push Y X) B = push Y (joinB X B) := by
  rcases List.eq_nil_or_concat Y with rfl | ⟨Z, y, e⟩
  · rw [push_nil, push_nil]
    show (if X.t = B.t then [joinB X B] else [X, B]) = _
    rw [if_pos ht]
  · rw [List.concat_eq_append] at e
    subst e
    have hy := hY y (by simp)
    have hZ : Sml Z := fun x hx => hY x (List.mem_append_left _ hx)
    have h0 := tot_ge hZ
    rw [tot_app] at h
    simp only [tot, Int.add_zero] at h
    rw [push_snoc, push_snoc]
    have hjt : (joinB X B).t = X.t := rfl
    rw [hjt]
    by_cases h1 : y.t = X.t
    · rw [if_pos h1, if_pos h1, push_snoc]
      have h2 : (joinB y X).t = B.t := by show y.t = B.t; omega
      rw [if_pos h2, join_assoc hy hX hB (by omega)]
    · rw [if_neg h1, if_neg h1, show Z ++ [y, X] = (Z ++ [y]) ++ [X] by simp, push_snoc, if_pos ht]
      simp
theorem gat_nil_iff (w : Int) (l : Bks) (h : gat w l = []) : l = [] := by
  rcases List.eq_nil_or_concat l with rfl | ⟨t, x, e⟩
  · rfl
  · rw [List.concat_eq_append] at e
    subst e
    rw [gat_snoc] at h
    have := (push_len (gat w t) (mv w x)).2
    rw [h] at this
    simp at this
/-- Each bucket's T is the multiple of a time. -/
theorem gat_times (w : Int) : ∀ (n : Nat) (l : Bks), l.length = n → ∀ x ∈ gat w l, ∃ b ∈ l, x.t = floorB b.t w := by
  intro n
  induction n with
  | zero =>
    intro l hl x hx
    have : l = [] := List.length_eq_zero_iff.1 hl
    subst this
    cases hx
  | succ n ih =>
    intro l hl x hx
    rcases List.eq_nil_or_concat l with rfl | ⟨t, b, e⟩
    · cases hx
    · rw [List.concat_eq_append] at e
      subst e
      have hI := ih t (by simpa using hl)
      rw [gat_snoc] at hx
      have back : ∀ y ∈ gat w t, ∃ b' ∈ t ++ [b], y.t = floorB b'.t w := fun y hy => by
        obtain ⟨b', h1, h2⟩ := hI y hy
        exact ⟨b', List.mem_append_left _ h1, h2⟩
      rcases List.eq_nil_or_concat (gat w t) with h0 | ⟨A, z, ez⟩
      · rw [h0, push_nil, List.mem_singleton] at hx
        subst hx
        exact ⟨b, by simp, rfl⟩
      · rw [List.concat_eq_append] at ez
        rw [ez] at hx back
        rw [push_snoc] at hx
        split at hx
        · rcases List.mem_append.1 hx with hx | hx
          · exact back x (List.mem_append_left _ hx)
          · rw [List.mem_singleton] at hx
            subst hx
            exact back z (by simp)
        · rcases List.mem_append.1 hx with hx | hx
          · exact back x (List.mem_append_left _ hx)
          · rcases List.mem_cons.1 hx with rfl | hx
            · exact back x (by simp)
            · rw [List.mem_singleton] at hx
              subst hx
              exact ⟨b, by simp, rfl⟩
theorem gat_gat (w W : Int) : ∀ (n : Nat) (l : Bks), l.length = n → (∀ b ∈ l, floorB (floorB b.t w) W = floorB b.t W) → Sml l → tot l ≤ 4096 → gat W (gat w l) = gat W l := by
  intro n
  induction n with
  | zero =>
    intro l hl _ _ _
    have : l = [] := List.length_eq_zero_iff.1 hl
    subst this
    rfl
  | succ n ih =>
    intro l hl hf hs ht
    rcases List.eq_nil_or_concat l with rfl | ⟨t, b, e⟩
    · rfl
    · rw [List.concat_eq_append] at e
      subst e
      have hst : Sml t := fun x hx => hs x (List.mem_append_left _ hx)
      have hsb : Sm b := hs b (by simp)
      have hfb := hf b (by simp)
      rw [tot_app] at ht
      simp only [tot, Int.add_zero] at ht
      have hI := ih t (by simpa using hl) (fun x hx => hf x (List.mem_append_left _ hx)) hst (by have := hsb.c; omega)
      have hmm : mv W (mv w b) = mv W b := by
        unfold mv
        simp only
        rw [hfb]
      rw [gat_snoc w, gat_snoc W]
      rcases List.eq_nil_or_concat (gat w t) with h0 | ⟨A, x, ex⟩
      · have := gat_nil_iff w t h0
        subst this
        rw [h0, push_nil]
        show push [] (mv W (mv w b)) = push [] (mv W b)
        rw [hmm]
      · rw [List.concat_eq_append] at ex
        have hsg := sml_gat w t hst
        have htg := tot_gat w t
        rw [ex] at hI hsg htg ⊢
        rw [push_snoc]
        by_cases h1 : x.t = (mv w b).t
        · rw [if_pos h1, gat_snoc, ← hI, gat_snoc]
          have hx := hsg x (by simp)
          have hA : Sml A := fun y hy => hsg y (List.mem_append_left _ hy)
          have e1 : (mv W x).t = (mv W b).t := by
            show floorB x.t W = floorB b.t W
            rw [h1]
            exact hfb
          have htA := tot_gat W A
          rw [tot_app] at htg
          simp only [tot, Int.add_zero] at htg
          rw [push_push e1 (sml_gat W A hA) (hx.mv W) (hsb.mv W) (by rw [htA]; show tot A + x.c + b.c ≤ 4096; omega)]
          congr 1
        · rw [if_neg h1, show A ++ [x, mv w b] = (A ++ [x]) ++ [mv w b] by simp, gat_snoc, hI, hmm]
/-- A multiple of a multiple. -/
theorem floor_floor {t w k : Int} (hw : 1 ≤ w) (hk : 1 ≤ k) (ht : -9007199254740992 ≤ t) (ht' : t ≤ 9007199254740992) (hw2 : w ≤ 1048576) (hk2 : k ≤ 1048576) : floorB (floorB t w) (w * k) = floorB t (w * k) := by
  have hW1 : 1 ≤ w * k := by
    have := Int.mul_le_mul hw hk (by omega) (by omega)
    simpa using this
  have hW2 : w * k ≤ 1099511627776 := by
    have := Int.mul_le_mul hw2 hk2 (by omega) (by omega)
    simpa using this
  have r1 : 0 ≤ t % w := Int.emod_nonneg _ (by omega)
  have r2 : t % w < w := Int.emod_lt_of_pos _ (by omega)
  rw [floorB_eq hw ht (by omega), floorB_eq hW1 ht (by omega)]
  have e1 : t = w * (t / w) + t % w := (Int.mul_ediv_add_emod t w).symm
  have e2 : t / w = k * (t / w / k) + t / w % k := (Int.mul_ediv_add_emod (t / w) k).symm
  generalize t / w = q at e1 e2
  have s1 : 0 ≤ q % k := Int.emod_nonneg _ (by omega)
  have s2 : q % k < k := Int.emod_lt_of_pos _ (by omega)
  generalize q / k = p at e2
  obtain ⟨r, hr⟩ : ∃ r, t % w = r := ⟨_, rfl⟩
  obtain ⟨s, hs⟩ : ∃ s, q % k = s := ⟨_, rfl⟩
  rw [hr] at e1 r1 r2 ⊢
  rw [hs] at e2 s1 s2
  have b1 : 0 ≤ w * s := Int.mul_nonneg (by omega) s1
  have b2 : w * s ≤ w * (k - 1) := Int.mul_le_mul_of_nonneg_left (by omega) (by omega)
  have b3 : w * (k - 1) = w * k - w := by rw [Int.mul_sub, Int.mul_one]
  have e3 : w * q = w * k * p + w * s := by rw [e2, Int.mul_add, Int.mul_assoc]
  have m1 : t % (w * k) = w * s + r := by
    rw [e1, e3, Int.add_assoc, Int.add_comm (w * k * p), Int.add_mul_emod_self_left]
    exact Int.emod_eq_of_lt (by omega) (by omega)
  have m2 : (w * q) % (w * k) = w * s := by
    rw [e3, Int.add_comm, Int.add_mul_emod_self_left]
    exact Int.emod_eq_of_lt b1 (by omega)
  have e4 : t - r = w * q := by omega
  rw [e4, m1]
  unfold floorB
  rw [if_neg (by omega), m2, if_neg (by omega)]
  omega
end Go.Proofs.Ytdepgplbcfbopaa.Ru
