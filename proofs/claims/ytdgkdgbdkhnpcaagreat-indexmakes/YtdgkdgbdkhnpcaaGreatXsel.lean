/-
  Which series a matcher fits: rising numbers, and what is in them.
-/
import Derived.Test.YtdgkdgbdkhnpcaaGreatXplain
import Derived.Test.YtdgkdgbdkhnpcaaGreatMplain
namespace Go.Proofs.YtdgkdgbdkhnpcaaGreat.X
open Go.Proofs.YtdgkdgbdkhnpcaaGreat.N Go.Proofs.YtdgkdgbdkhnpcaaGreat.Po
set_option linter.unusedVariables false

def allN (n : Nat) : List Int := (List.range n).map Int.ofNat
theorem allN_succ (n : Nat) : allN (n + 1) = allN n ++ [(n : Int)] := by
  unfold allN
  rw [List.range_succ, List.map_append]
  rfl
theorem allN_len (n : Nat) : (allN n).length = n := by simp [allN]
theorem allN_mem (n i : Nat) : (i : Int) ∈ allN n ↔ i < n := by
  unfold allN
  rw [List.mem_map]
  constructor
  · rintro ⟨a, h1, h2⟩
    have h3 := List.mem_range.1 h1
    have : a = i := Int.ofNat.inj h2
    omega
  · intro h
    exact ⟨i, List.mem_range.2 h, rfl⟩
theorem allN_up (n : Nat) (hn : n < 1000000) : upB (-1) (allN n) = true := by
  induction n with
  | zero => rfl
  | succ n ih =>
    rw [allN_succ]
    refine up_snoc (ih (by omega)) (fun v hv => ?_) (by omega) (by omega)
    have h1 := (up_mem (ih (by omega)) hv).1
    obtain ⟨m, rfl⟩ : ∃ m : Nat, v = (m : Int) := ⟨v.toNat, by omega⟩
    have := (allN_mem n m).1 hv
    omega
/-- Numbers that rise, with just these in them. -/
structure Sel (l : List Int) (T : Nat → Prop) : Prop where
  up : upB (-1) l = true
  iff : ∀ i : Nat, (i : Int) ∈ l ↔ T i
theorem Sel.ext {l m : List Int} {T U : Nat → Prop} (h : Sel l T) (k : Sel m U) (e : ∀ i, T i ↔ U i) : l = m := by
  refine up_ext h.up k.up (fun x => ?_)
  constructor
  · intro hx
    obtain ⟨n, rfl⟩ : ∃ n : Nat, x = (n : Int) := ⟨x.toNat, by have := (up_mem h.up hx).1; omega⟩
    exact (k.iff n).2 ((e n).1 ((h.iff n).1 hx))
  · intro hx
    obtain ⟨n, rfl⟩ : ∃ n : Nat, x = (n : Int) := ⟨x.toNat, by have := (up_mem k.up hx).1; omega⟩
    exact (h.iff n).2 ((e n).2 ((k.iff n).1 hx))
theorem Sel.and {l m : List Int} {T U : Nat → Prop} (h : Sel l T) (k : Sel m U) : Sel (setL 0 l m) (fun i => T i ∧ U i) :=
  ⟨set_up _ _ _, fun i => by rw [set_mem h.up k.up, ← h.iff, ← k.iff]; simp [fW]⟩
theorem Sel.sub {l m : List Int} {T U : Nat → Prop} (h : Sel l T) (k : Sel m U) : Sel (setL 2 l m) (fun i => T i ∧ ¬ U i) :=
  ⟨set_up _ _ _, fun i => by rw [set_mem h.up k.up, ← h.iff, ← k.iff]; simp [fW]⟩
theorem Sel.all (n : Nat) (hn : n < 1000000) : Sel (allN n) (fun i => i < n) := ⟨allN_up n hn, allN_mem n⟩
theorem Sel.mono {l : List Int} {T U : Nat → Prop} (h : Sel l T) (e : ∀ i, T i ↔ U i) : Sel l U := ⟨h.up, fun i => (h.iff i).trans (e i)⟩
theorem Sel.len {l : List Int} {T : Nat → Prop} (h : Sel l T) {n : Nat} (hT : ∀ i, T i → i < n) (hn : n < 1000000) : l.length ≤ n := by
  have h1 : l = setL 0 (allN n) l := Sel.ext h ((Sel.all n hn).and h) (fun i => ⟨fun e => ⟨hT i e, e⟩, fun e => e.2⟩)
  have h2 : setL 0 (allN n) l = pickL (fW 0) (allN n) l := set_yes (allN_up n hn) h.up
  have h3 : ∀ a b : List Int, (pickL (fW 0) a b).length ≤ a.length := two_ind (by simp [pick_nn]) (fun a as ih => by rw [pick_an]; simpa [tk, fW] using Nat.le_succ_of_le ih) (fun b bs ih => by rw [pick_nb]; simpa [tk, fW] using ih)
    (fun a as b bs hlt ih => by rw [pick_lt hlt]; simp [tk, fW]; omega) (fun a as b bs hgt ih => by rw [pick_gt hgt]; simpa [tk, fW] using ih) (fun a as bs ih => by rw [pick_eq]; simp [tk, fW]; omega)
  have h4 := h3 (allN n) l
  rw [allN_len, ← h2, ← h1] at h4
  exact h4
theorem up_sorted : ∀ {l : List Int} {last : Int}, l.Pairwise (· ≤ ·) → l.Nodup → (∀ x ∈ l, last < x ∧ x < 1099511627776) → upB last l = true
  | [], _, _, _, _ => rfl
  | a :: t, last, hs, hn, hr => by
    have h1 := List.pairwise_cons.1 hs
    have h2 := List.nodup_cons.1 hn
    have h3 := hr a (List.mem_cons_self ..)
    refine up_cons.2 ⟨h3.1, h3.2, up_sorted h1.2 h2.2 (fun x hx => ⟨?_, (hr x (List.mem_cons_of_mem _ hx)).2⟩)⟩
    have h4 := h1.1 x hx
    have h5 : a ≠ x := fun e => h2.1 (by rw [e]; exact hx)
    omega
theorem up_nodup : ∀ {l : List Int} {last : Int}, upB last l = true → l.Nodup
  | [], _, _ => List.nodup_nil
  | a :: t, last, h => by
    have hz := up_cons.1 h
    refine List.nodup_cons.2 ⟨fun ha => ?_, up_nodup hz.2.2⟩
    have := (up_mem hz.2.2 ha).1
    omega
theorem rise_name {l : Labs} (h : Rise l) {n v u : ByteArray} (h1 : (n, v) ∈ l) (h2 : (n, u) ∈ l) : v = u := by
  induction l with
  | nil => cases h1
  | cons x t ih =>
    have hz := List.pairwise_cons.1 h
    have hself := cmpB_good.self n
    rcases List.mem_cons.1 h1 with e1 | e1
    · rcases List.mem_cons.1 h2 with e2 | e2
      · rw [← e1] at e2
        cases e2
        rfl
      · have := hz.1 _ e2
        rw [← e1] at this
        simp only at this
        omega
    · rcases List.mem_cons.1 h2 with e2 | e2
      · have := hz.1 _ e1
        rw [← e2] at this
        simp only at this
        omega
      · exact ih hz.2 e1 e2
def partH (P : Posts) (n : ByteArray) (q : ByteArray → Bool) : List Int := (P.filter (fun e => decide (e.1.1 = n) && q e.1.2)).flatMap (·.2)
def HasQ (L : List Labs) (n : ByteArray) (q : ByteArray → Bool) (i : Nat) : Prop := ∃ l v, L[i]? = some l ∧ (n, v) ∈ l ∧ q v = true
theorem hav_sel {L : List Labs} {P : Posts} {N : Nat} (T : Tells P N (HasL L)) (hR : ∀ l ∈ L, Rise l) (n : ByteArray) (q : ByteArray → Bool) {acc : List Int} (hp : acc.Perm (partH P n q)) : Sel (acc.mergeSort fun x y => decide (x ≤ y)) (HasQ L n q) := by
  have hpm : (acc.mergeSort fun x y => decide (x ≤ y)).Perm (partH P n q) := (List.mergeSort_perm _ _).trans hp
  have hlook : ∀ p ∈ P, ∀ v : Int, v ∈ p.2 → v ∈ lookP P p.1 := fun p hp v hv => by
    rw [look_sorted T.sort (x := p.1) (l := p.2) hp]
    exact hv
  have hnat : ∀ p ∈ P, ∀ v : Int, v ∈ p.2 → ∃ i : Nat, v = (i : Int) ∧ HasL L p.1 i := fun p hp v hv => by
    have h1 := (up_mem (T.up p hp) hv).1
    refine ⟨v.toNat, by omega, ?_⟩
    rw [← T.iff]
    have := hlook p hp v hv
    rwa [show ((v.toNat : Nat) : Int) = v by omega]
  have hmem : ∀ v : Int, v ∈ partH P n q ↔ ∃ p ∈ P, p.1.1 = n ∧ q p.1.2 = true ∧ v ∈ p.2 := fun v => by
    unfold partH
    rw [List.mem_flatMap]
    constructor
    · rintro ⟨p, h1, h2⟩
      have h3 := List.mem_filter.1 h1
      simp only [Bool.and_eq_true, decide_eq_true_eq] at h3
      exact ⟨p, h3.1, h3.2.1, h3.2.2, h2⟩
    · rintro ⟨p, h1, h2, h3, h4⟩
      exact ⟨p, List.mem_filter.2 ⟨h1, by simp [h2, h3]⟩, h4⟩
  have hnd : (partH P n q).Nodup := by
    unfold partH List.Nodup
    rw [List.pairwise_flatMap]
    refine ⟨fun p hp => up_nodup (T.up p (List.mem_filter.1 hp).1), ?_⟩
    have hs : (P.filter (fun e => decide (e.1.1 = n) && q e.1.2)).Pairwise (fun a b => labC a.1 b.1 = -1) := T.sort.filter _
    refine List.Pairwise.imp_of_mem ?_ hs
    intro a b ha hb hab x hx y hy e
    subst e
    have h1 := List.mem_filter.1 ha
    have h2 := List.mem_filter.1 hb
    simp only [Bool.and_eq_true, decide_eq_true_eq] at h1 h2
    obtain ⟨i, e1, l1, e2, e3⟩ := hnat a h1.1 x hx
    obtain ⟨j, f1, l2, f2, f3⟩ := hnat b h2.1 x hy
    have hij : i = j := by omega
    subst hij
    rw [e2] at f2
    cases f2
    have hl : l1 ∈ L := List.mem_of_getElem? e2
    have hv := rise_name (hR l1 hl) (n := n) (v := a.1.2) (u := b.1.2) (by rw [← h1.2.1]; exact e3) (by rw [← h2.2.1]; exact f3)
    have : a.1 = b.1 := Prod.ext (by rw [h1.2.1, h2.2.1]) hv
    rw [this] at hab
    exact labC_irr _ hab
  have hle : (acc.mergeSort fun x y => decide (x ≤ y)).Pairwise (· ≤ ·) := by
    have := List.pairwise_mergeSort (le := fun x y : Int => decide (x ≤ y)) (fun a b c h1 h2 => by simp at *; omega) (fun a b => by simp; omega) acc
    refine this.imp (fun {a b} h => by simpa using h)
  refine ⟨up_sorted hle (hpm.nodup_iff.2 hnd) (fun x hx => ?_), fun i => ?_⟩
  · obtain ⟨p, h1, _, _, h4⟩ := (hmem x).1 (hpm.mem_iff.1 hx)
    exact up_mem (T.up p h1) h4
  · rw [hpm.mem_iff, hmem]
    constructor
    · rintro ⟨p, h1, h2, h3, h4⟩
      obtain ⟨j, e1, l, e2, e3⟩ := hnat p h1 _ h4
      have : i = j := by omega
      subst this
      exact ⟨l, p.1.2, e2, by rw [← h2]; exact e3, h3⟩
    · rintro ⟨l, v, e1, e2, e3⟩
      have h1 := (T.iff (n, v) i).2 ⟨l, e1, e2⟩
      obtain ⟨p, hp, h2, h3⟩ := look_mem h1
      rw [h3] at h1
      exact ⟨p, hp, by rw [h2], by rw [h2]; exact e3, h1⟩
end Go.Proofs.YtdgkdgbdkhnpcaaGreat.X
