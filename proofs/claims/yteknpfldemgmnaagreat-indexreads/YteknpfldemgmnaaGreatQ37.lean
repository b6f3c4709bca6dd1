/-
  Xfit, Xlaw.
-/
import Derived.Test.YteknpfldemgmnaaGreatQ06
import Derived.Test.YteknpfldemgmnaaGreatQ29
import Derived.Test.YteknpfldemgmnaaGreatQ36

/-
  Which series the matchers fit, by posts.
-/
namespace Go.Proofs.YteknpfldemgmnaaGreat.X
open Go.Proofs.YteknpfldemgmnaaGreat.N Go.Proofs.YteknpfldemgmnaaGreat.Po
set_option linter.unusedVariables false

theorem found_in {l : Labs} (h : Rise l) {n v : ByteArray} (hm : (n, v) ∈ l) : foundV l n = (v, true) := by
  unfold foundV
  cases e : l.find? (fun x => decide (x.1 = n)) with
  | none =>
    have := List.find?_eq_none.1 e _ hm
    simp at this
  | some x =>
    have h1 := List.mem_of_find?_eq_some e
    have h2 : x.1 = n := by simpa using List.find?_some e
    obtain ⟨a, b⟩ := x
    simp only at h2
    subst h2
    simp only
    rw [rise_name h h1 hm]
theorem found_not {l : Labs} {n : ByteArray} (hm : ∀ v, (n, v) ∉ l) : foundV l n = (⟨#[]⟩, false) := by
  unfold foundV
  cases e : l.find? (fun x => decide (x.1 = n)) with
  | none => rfl
  | some x =>
    have h1 := List.mem_of_find?_eq_some e
    have h2 : x.1 = n := by simpa using List.find?_some e
    obtain ⟨a, b⟩ := x
    simp only at h2
    subst h2
    exact absurd h1 (hm b)
theorem found_or {l : Labs} (h : Rise l) (n : ByteArray) : (∃ v, (n, v) ∈ l ∧ foundV l n = (v, true)) ∨ ((∀ v, (n, v) ∉ l) ∧ foundV l n = (⟨#[]⟩, false)) := by
  by_cases e : ∃ v, (n, v) ∈ l
  · obtain ⟨v, hv⟩ := e
    exact .inl ⟨v, hv, found_in h hv⟩
  · have : ∀ v, (n, v) ∉ l := fun v hv => e ⟨v, hv⟩
    exact .inr ⟨this, found_not this⟩
theorem made_val {l : Labs} (h : Made l) {n v : ByteArray} (hm : (n, v) ∈ l) : v.size ≠ 0 := by
  have := h.ok _ hm
  unfold labOk valOk at this
  simp only [Bool.and_eq_true, decide_eq_true_eq] at this
  omega
/-- A series that is there, and fits. -/
def FitI (L : List Labs) (m : Mat) (i : Nat) : Prop := ∃ l, L[i]? = some l ∧ fitB l m = true
theorem FitI.lt {L : List Labs} {m : Mat} {i : Nat} (h : FitI L m i) : i < L.length := by
  obtain ⟨l, e, _⟩ := h
  exact (List.getElem?_eq_some_iff.1 e).1
section
variable {L : List Labs}
theorem get_made (hM : ∀ l ∈ L, Made l) {i : Nat} {l : Labs} (e : L[i]? = some l) : Made l := hM l (List.mem_of_getElem? e)
theorem fit_has (hM : ∀ l ∈ L, Made l) (n v : ByteArray) (k : Int) (h1 : k ≠ 1) (h2 : k ≠ 2) (h3 : k ≠ 3) (i : Nat) : HasQ L n (fun _ => true) i ↔ FitI L (k, n, v) i := by
  constructor
  · rintro ⟨l, u, e1, e2, _⟩
    refine ⟨l, e1, ?_⟩
    unfold fitB
    rw [found_in (get_made hM e1).rise e2]
    simp [fitV, h1, h2, h3]
  · rintro ⟨l, e1, e2⟩
    unfold fitB at e2
    rcases found_or (get_made hM e1).rise n with ⟨u, hu, e⟩ | ⟨_, e⟩
    · exact ⟨l, u, e1, hu, rfl⟩
    · rw [e] at e2
      simp [fitV, h1, h2, h3] at e2
theorem fit_equal (hM : ∀ l ∈ L, Made l) (n v : ByteArray) (hv : v.size ≠ 0) (i : Nat) : HasL L (n, v) i ↔ FitI L (1, n, v) i := by
  constructor
  · rintro ⟨l, e1, e2⟩
    refine ⟨l, e1, ?_⟩
    unfold fitB
    rw [found_in (get_made hM e1).rise e2]
    simp [fitV]
  · rintro ⟨l, e1, e2⟩
    unfold fitB at e2
    rcases found_or (get_made hM e1).rise n with ⟨u, hu, e⟩ | ⟨_, e⟩
    · rw [e] at e2
      simp [fitV] at e2
      subst e2
      exact ⟨l, e1, hu⟩
    · rw [e] at e2
      simp [fitV] at e2
      subst e2
      exact absurd rfl hv
theorem fit_empty (hM : ∀ l ∈ L, Made l) (n v : ByteArray) (hv : v.size = 0) (i : Nat) : (i < L.length ∧ ¬ HasQ L n (fun _ => true) i) ↔ FitI L (1, n, v) i := by
  have hv0 : v = ⟨#[]⟩ := by
    apply bytes_inj
    have : v.data.toList.length = 0 := by rw [← hv]; rfl
    rw [List.length_eq_zero_iff.1 this]
  subst hv0
  constructor
  · rintro ⟨h1, h2⟩
    refine ⟨L[i], List.getElem?_eq_getElem h1, ?_⟩
    unfold fitB
    rcases found_or (hM L[i] (List.getElem_mem h1)).rise n with ⟨u, hu, e⟩ | ⟨_, e⟩
    · exact absurd ⟨L[i], u, List.getElem?_eq_getElem h1, hu, rfl⟩ h2
    · rw [e]
      simp [fitV]
  · rintro ⟨l, e1, e2⟩
    refine ⟨(List.getElem?_eq_some_iff.1 e1).1, ?_⟩
    rintro ⟨l', u, f1, f2, _⟩
    rw [e1] at f1
    cases f1
    unfold fitB at e2
    rw [found_in (get_made hM e1).rise f2] at e2
    simp [fitV] at e2
    have := made_val (get_made hM e1) f2
    rw [e2] at this
    exact this rfl
theorem fit_prefix (hM : ∀ l ∈ L, Made l) (n v : ByteArray) (hv : v.size ≠ 0) (i : Nat) : HasQ L n (fun u => Lib.hasPrefix u.data.toList v.data.toList) i ↔ FitI L (3, n, v) i := by
  constructor
  · rintro ⟨l, u, e1, e2, e3⟩
    refine ⟨l, e1, ?_⟩
    unfold fitB
    rw [found_in (get_made hM e1).rise e2]
    simp [fitV]
    exact e3
  · rintro ⟨l, e1, e2⟩
    unfold fitB at e2
    rcases found_or (get_made hM e1).rise n with ⟨u, hu, e⟩ | ⟨_, e⟩
    · rw [e] at e2
      simp [fitV] at e2
      exact ⟨l, u, e1, hu, e2⟩
    · rw [e] at e2
      simp [fitV] at e2
      exfalso
      cases hd : v.data.toList with
      | nil =>
        apply hv
        have : v.data.toList.length = 0 := by rw [hd]; rfl
        exact this
      | cons a t =>
        rw [hd] at e2
        cases e2
end
theorem fit_any {L : List Labs} (n v : ByteArray) (hv : v.size = 0) (i : Nat) : i < L.length ↔ FitI L (3, n, v) i := by
  have hv0 : v = ⟨#[]⟩ := by
    apply bytes_inj
    have : v.data.toList.length = 0 := by rw [← hv]; rfl
    rw [List.length_eq_zero_iff.1 this]
  subst hv0
  constructor
  · intro h
    refine ⟨L[i], List.getElem?_eq_getElem h, ?_⟩
    unfold fitB
    simp [fitV]
    cases (foundV L[i] n).fst.data.toList <;> rfl
  · exact fun h => h.lt
theorem fit_not {L : List Labs} (n v : ByteArray) (i : Nat) : (i < L.length ∧ ¬ FitI L (1, n, v) i) ↔ FitI L (2, n, v) i := by
  constructor
  · rintro ⟨h1, h2⟩
    refine ⟨L[i], List.getElem?_eq_getElem h1, ?_⟩
    have : ¬ fitB L[i] (1, n, v) = true := fun e => h2 ⟨L[i], List.getElem?_eq_getElem h1, e⟩
    unfold fitB fitV at this ⊢
    simp at this ⊢
    exact this
  · rintro ⟨l, e1, e2⟩
    refine ⟨(List.getElem?_eq_some_iff.1 e1).1, ?_⟩
    rintro ⟨l', f1, f2⟩
    rw [e1] at f1
    cases f1
    unfold fitB fitV at e2 f2
    simp at e2 f2
    exact e2 f2
theorem add_sum (x : Lab) (i : Int) (P : Posts) : ((addP x i P).flatMap (·.2)).length = (P.flatMap (·.2)).length + 1 := by
  induction P with
  | nil => rfl
  | cons p r ih =>
    rw [addP]
    split
    · simp only [List.flatMap_cons, List.length_append, List.length_singleton]
      omega
    · split
      · simp only [List.flatMap_cons, List.length_append, List.length_singleton]
        omega
      · simp only [List.flatMap_cons, List.length_append, ih]
        omega
theorem addS_sum (i : Int) : ∀ (l : Labs) (P : Posts), ((addS P i l).flatMap (·.2)).length = (P.flatMap (·.2)).length + l.length
  | [], P => rfl
  | x :: t, P => by
    show ((addS (addP x i P) i t).flatMap (·.2)).length = _
    rw [addS_sum i t, add_sum, List.length_cons]
    omega
theorem posts_sum : ∀ (L : List Labs), (∀ l ∈ L, l.length ≤ 16) → ∀ (P : Posts) (i : Nat), ((addF P i L).flatMap (·.2)).length ≤ (P.flatMap (·.2)).length + 16 * L.length
  | [], _, P, i => Nat.le_refl _
  | l :: r, h, P, i => by
    rw [addF]
    have h1 := posts_sum r (fun l hl => h l (List.mem_cons_of_mem _ hl)) (addS P (i : Int) l) (i + 1)
    rw [addS_sum] at h1
    have h2 := h l (List.mem_cons_self ..)
    rw [List.length_cons]
    omega
/-- An index of these series. -/
structure IxL (w : World) (x : IxC) (O : Nat → Prop) (L : List Labs) : Prop where
  at_ : IxAt w x O
  is : Is x (postsOf L)
  n : x.n = L.length
  made : ∀ l ∈ L, Made l
  len : L.length ≤ 1000
theorem IxL.only {w w' : World} {x : IxC} {O O' : Nat → Prop} {L : List Labs} (h : IxL w x O L) (k : Lys.Only O' w w') (hO : ∀ j, O j → ¬ O' j) : IxL w' x O L := ⟨h.at_.only k hO, h.is, h.n, h.made, h.len⟩
theorem IxL.stay {w w' : World} {x : IxC} {O : Nat → Prop} {L : List Labs} (h : IxL w x O L) (k : Lys.Kept w w') : IxL w' x O L := h.only k (fun _ _ f => f)
theorem IxL.tells {w : World} {x : IxC} {O : Nat → Prop} {L : List Labs} (h : IxL w x O L) : X.Tells (postsOf L) L.length (HasL L) := posts_tells L (fun l hl => (h.made l hl).rise) (by have := h.len; omega)
theorem IxL.sum {w : World} {x : IxC} {O : Nat → Prop} {L : List Labs} (h : IxL w x O L) : ((postsOf L).flatMap (·.2)).length ≤ 100000 := by
  have h1 := posts_sum L (fun l hl => (h.made l hl).len16) [] 0
  have h2 := h.len
  simp only [List.flatMap_nil, List.length_nil] at h1
  unfold postsOf
  omega
theorem IxL.look {w : World} {x : IxC} {O : Nat → Prop} {L : List Labs} (h : IxL w x O L) (y : Lab) : Sel (lookP (postsOf L) y) (HasL L y) := by
  have T := h.tells
  refine ⟨?_, fun i => T.iff y i⟩
  rcases look_or (postsOf L) y with e | ⟨p, hp, _, e⟩
  · rw [e]; rfl
  · rw [e]; exact T.up p hp
end Go.Proofs.YteknpfldemgmnaaGreat.X

/-
  The law's own small ones: how much labels are, and what of them can be had.
-/
namespace Go.Proofs.YteknpfldemgmnaaGreat.X
open Go.RowKit Go.Proofs.Lys Go.Maps Go.Proofs.YteknpfldemgmnaaGreat.N
set_option linter.unusedVariables false
set_option linter.unusedSimpArgs false

theorem num15_any (w : World) (n : Int) : Calls Tryz.prog 12 #[.int .i64 n] w fun e w' => e = .returned (.int .i64 n) ∧ w' = w := by
  go_enter Tryz.func12, Tryz.ntmps12
  go_wp2
  go_ret
  exact ⟨rfl, rfl⟩
def sumN : List Labs → Nat
  | [] => 0
  | l :: r => l.length + sumN r
theorem sumN_app (L : List Labs) (l : Labs) : sumN (L ++ [l]) = sumN L + l.length := by
  induction L with
  | nil => simp [sumN]
  | cons a r ih => simp only [List.cons_append, sumN, ih]; omega
/-- Labels that are not too much. -/
structure Few (L : List Labs) : Prop where
  len : L.length ≤ 300
  each : ∀ l ∈ L, bigN l ≤ 4000
  sum : sumN L ≤ 1500
theorem Few.ok {L : List Labs} (h : Few L) : OkS L := fun l hl => ⟨by have := (bigN_small (h.each l hl)).2; omega, (bigN_small (h.each l hl)).1⟩
def BigX (w : World) (L : List Labs) (e : Ending) (w' : World) : Prop := ∃ b, e = .returned (.bool b) ∧ (b = false → Few L) ∧ Kept w w'

set_option maxRecDepth 100000 in
set_option maxHeartbeats 1600000 in
theorem bigx_any (w : World) (v : Value) (L : List Labs) (hs : LIn w v L) : Calls Tryz.prog 6 #[v] w (BigX w L) := by
  have HC := hid hs.came
  have hl := hs.len
  have hs := hs.src
  obtain ⟨av, c, rfl⟩ := hs.len
  obtain ⟨N, hN⟩ : ∃ N, L.length = N := ⟨_, rfl⟩
  rw [hN] at hl hs ⊢
  have HN := hid hN
  have HS := hid hs
  have HY : Hid (∀ w', Kept w w' → BigX w L (.returned (.bool true)) w') := fun w' k => ⟨true, rfl, fun h => (by cases h), k⟩
  clear hs hN
  by_cases h1 : 300 < N
  · have d1 : decide ((300 : Int) < (N : Int)) = true := decide_eq_true (by omega)
    go_enter Tryz.func6, Tryz.ntmps6
    go_wp2
    go_ret
    exact HY.out _ (Only.refl _ _)
  · have d1 : decide ((300 : Int) < (N : Int)) = false := decide_eq_false (by omega)
    go_enter Tryz.func6, Tryz.ntmps6
    go_wp2
    go_loopw [3, 4] (fun s3 s4 wr => ∃ (k n : Nat), k ≤ N ∧ s4 = .int .i64 (k : Int) ∧ s3 = .int .i64 (n : Int) ∧ n = sumN (L.take k) ∧ n ≤ 4000 * k ∧ Hid (∀ i (hi : i < L.length), i < k → bigN L[i] ≤ 4000) ∧ Kept w wr) (fun _ s4 _ => N - (intOf s4).toNat)
    case atStart => exact ⟨0, 0, by omega, rfl, rfl, rfl, by omega, hid (fun i _ h => by omega), Only.refl _ _⟩
    case round =>
      obtain ⟨k, n, hk, rfl, rfl, hn, hn2, hall, kr⟩ := hrel
      have HSUM := hid hn
      have HK := hid kr
      clear hn
      by_cases hlt : k < N
      · have hkL : k < L.length := by have := HN.out; omega
        obtain ⟨b, o, a', c', rfl, x0, hls⟩ := (HS.out.stay kr).cell HN.out k hlt
        have hc := HC.out L[k] (List.getElem_mem hkL)
        have HB := hid (big_any wr _ L[k] hls (by omega) hc.1)
        have hll := bigN_len L[k]
        have hc2 := hc.2
        have HT : Hid (sumN (L.take (k + 1)) = n + L[k].length) := by
          show sumN (L.take (k + 1)) = n + L[k].length
          rw [← List.take_append_getElem hkL, sumN_app, HSUM.out]
        have X0 := hid (fun W (kW : Kept wr W) => kept_cell kW x0)
        clear kr hls hc
        by_cases hb : 4000 < bigN L[k]
        · rw [decide_eq_true hb] at HB
          generalize L[k].length = NL at *
          go_wp2_with fail
          refine HB.out.mono ?_
          rintro e w1 ⟨rfl, k1⟩
          have HF := hid (HY.out w1 (HK.out.trans k1 (fun _ _ f => f)))
          clear k1
          go_wp2
          go_ret
          exact HF.out
        · rw [decide_eq_false hb] at HB
          have HA : Hid (∀ i (hi : i < L.length), i < k + 1 → bigN L[i] ≤ 4000) := fun i hi hik => by
            by_cases e : i = k
            · subst e
              omega
            · exact hall.out i hi (by omega)
          have hb2 : L[k].length ≤ 4000 := by omega
          clear hb hll hall
          generalize L[k].length = NL at *
          go_wp2_with fail
          refine HB.out.mono ?_
          rintro e w1 ⟨rfl, k1⟩
          have x1 := X0.out w1 k1
          have HK1 := hid (HK.out.trans k1 (fun _ _ f => f))
          clear k1
          have e1 : IntKind.i64.wrap ((n : Int) + (NL : Int)) = (n : Int) + (NL : Int) := by rw [IntKind.wrap_i64]; omega
          go_wp2_with fail
          go_roundw
          case rel => exact ⟨k + 1, n + NL, by omega, by go_num, by (try rw [e1]); go_num, HT.out.symm, by omega, HA, HK1.out⟩
          case measure => simp [intOf]; omega
      · have e : k = N := by omega
        subst e
        have HF : Hid (BigX w L (.returned (.bool (decide ((1500 : Int) < (n : Int))))) wr) := by
          refine ⟨_, rfl, fun h => ⟨by have := HN.out; omega, fun l hl => ?_, ?_⟩, HK.out⟩
          · obtain ⟨i, hi, rfl⟩ := List.getElem_of_mem hl
            exact hall.out i hi (by have := HN.out; omega)
          · have h2 := of_decide_eq_false h
            have h3 := HSUM.out
            rw [List.take_of_length_le (by have := HN.out; omega)] at h3
            omega
        clear hall
        go_wp2
        go_ret
        exact HF.out
theorem Made_.ixl {w w' : World} {L : List Labs} {x : IxC} (h : Made_ w L x w') (hc : checkI L = 0) : IxL w' x (fun k => w.heap.size ≤ k ∧ k < w'.heap.size) L :=
  ⟨h.at_, h.is, h.n, (check_zero.1 hc).2.1, (check_zero.1 hc).1⟩
theorem make_ok {w w' : World} {L : List Labs} {e : Ending} (h : MakeP w L e w') (hc : checkI L = 0) : ∃ x, e = .returned (.tuple #[.pointer (some ⟨x.xb, 0, none⟩), .int .i64 0]) ∧ Made_ w L x w' ∧ Kept w w' := by
  obtain ⟨h1 | h1, k⟩ := h
  · obtain ⟨x, h2, h3⟩ := h1.2
    exact ⟨x, h2, h3, k⟩
  · exact absurd hc h1.1
theorem make_no {w w' : World} {L : List Labs} {e : Ending} (h : MakeP w L e w') (hc : checkI L ≠ 0) : e = .returned (.tuple #[.pointer none, .int .i64 (checkI L)]) ∧ Kept w w' := by
  obtain ⟨h1 | h1, k⟩ := h
  · exact absurd h1.1 hc
  · exact ⟨h1.2, k⟩
end Go.Proofs.YteknpfldemgmnaaGreat.X
