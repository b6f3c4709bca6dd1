/-
  Xfit, Xsort, Xhav, Xfind, Xfind2, Xopen, Xlaw, Xalive.
-/
import Derived.Test.YtdgkdgbdkhnpcaaGreatXsel
import Derived.Test.YtdgkdgbdkhnpcaaGreatXmake
import Derived.Test.YtdgkdgbdkhnpcaaGreatXst
import Derived.Test.YtdgkdgbdkhnpcaaGreatSorti
import Derived.Test.YtdgkdgbdkhnpcaaGreatXput
import Derived.Maps.RangeWalk
import Derived.Test.YtdgkdgbdkhnpcaaGreatOpick
import Derived.Test.YtdgkdgbdkhnpcaaGreatMcheck
import Derived.Deep.WholeRow
import Derived.Test.YtdgkdgbdkhnpcaaGreatXlook
import Derived.Test.YtdgkdgbdkhnpcaaGreatNopen

/-
  Which series the matchers fit, by posts.
-/
namespace Go.Proofs.YtdgkdgbdkhnpcaaGreat.X
open Go.Proofs.YtdgkdgbdkhnpcaaGreat.N Go.Proofs.YtdgkdgbdkhnpcaaGreat.Po
set_option linter.unusedVariables false

theorem found_in {l : Labs} (h : Rise l) {n v : ByteArray} (hm : (n, v) ∈ l) : foundV l n = (v, true) := by
  unfold foundV
  cases e : l.find? (fun x => decide (x.1 = n)) with
  | none =>
    have := List.find?_eq_none.1 e _ hm
    simp at this
  | some x =>
    have h1 := List.mem_of_find?_eq_some e
    have h2 : x.1 = n := by simpa using List.find?_some e
    obtain ⟨a, b⟩ := x
    simp only at h2
    subst h2
    simp only
    rw [rise_name h h1 hm]
theorem found_not {l : Labs} {n : ByteArray} (hm : ∀ v, (n, v) ∉ l) : foundV l n = (⟨#[]⟩, false) := by
  unfold foundV
  cases e : l.find? (fun x => decide (x.1 = n)) with
  | none => rfl
  | some x =>
    have h1 := List.mem_of_find?_eq_some e
    have h2 : x.1 = n := by simpa using List.find?_some e
    obtain ⟨a, b⟩ := x
    simp only at h2
    subst h2
    exact absurd h1 (hm b)
theorem found_or {l : Labs} (h : Rise l) (n : ByteArray) : (∃ v, (n, v) ∈ l ∧ foundV l n = (v, true)) ∨ ((∀ v, (n, v) ∉ l) ∧ foundV l n = (⟨#[]⟩, false)) := by
  by_cases e : ∃ v, (n, v) ∈ l
  · obtain ⟨v, hv⟩ := e
    exact .inl ⟨v, hv, found_in h hv⟩
  · have : ∀ v, (n, v) ∉ l := fun v hv => e ⟨v, hv⟩
    exact .inr ⟨this, found_not this⟩
theorem made_val {l : Labs} (h : Made l) {n v : ByteArray} (hm : (n, v) ∈ l) : v.size ≠ 0 := by
  have := h.ok _ hm
  unfold labOk valOk at this
  simp only [Bool.and_eq_true, decide_eq_true_eq] at this
  omega
/-- A series that is there, and fits. -/
def FitI (L : List Labs) (m : Mat) (i : Nat) : Prop := ∃ l, L[i]? = some l ∧ fitB l m = true
theorem FitI.lt {L : List Labs} {m : Mat} {i : Nat} (h : FitI L m i) : i < L.length := by
  obtain ⟨l, e, _⟩ := h
  exact (List.getElem?_eq_some_iff.1 e).1
section
variable {L : List Labs}
theorem get_made (hM : ∀ l ∈ L, Made l) {i : Nat} {l : Labs} (e : L[i]? = some l) : Made l := hM l (List.mem_of_getElem? e)
theorem fit_has (hM : ∀ l ∈ L, Made l) (n v : ByteArray) (k : Int) (h1 : k ≠ 1) (h2 : k ≠ 2) (h3 : k ≠ 3) (i : Nat) : HasQ L n (fun _ => true) i ↔ FitI L (k, n, v) i := by
  constructor
  · rintro ⟨l, u, e1, e2, _⟩
    refine ⟨l, e1, ?_⟩
    unfold fitB
    rw [found_in (get_made hM e1).rise e2]
    simp [fitV, h1, h2, h3]
  · rintro ⟨l, e1, e2⟩
    unfold fitB at e2
    rcases found_or (get_made hM e1).rise n with ⟨u, hu, e⟩ | ⟨_, e⟩
    · exact ⟨l, u, e1, hu, rfl⟩
    · rw [e] at e2
      simp [fitV, h1, h2, h3] at e2
theorem fit_equal (hM : ∀ l ∈ L, Made l) (n v : ByteArray) (hv : v.size ≠ 0) (i : Nat) : HasL L (n, v) i ↔ FitI L (1, n, v) i := by
  constructor
  · rintro ⟨l, e1, e2⟩
    refine ⟨l, e1, ?_⟩
    unfold fitB
    rw [found_in (get_made hM e1).rise e2]
    simp [fitV]
  · rintro ⟨l, e1, e2⟩
    unfold fitB at e2
    rcases found_or (get_made hM e1).rise n with ⟨u, hu, e⟩ | ⟨_, e⟩
    · rw [e] at e2
      simp [fitV] at e2
      subst e2
      exact ⟨l, e1, hu⟩
    · rw [e] at e2
      simp [fitV] at e2
      subst e2
      exact absurd rfl hv
theorem fit_empty (hM : ∀ l ∈ L, Made l) (n v : ByteArray) (hv : v.size = 0) (i : Nat) : (i < L.length ∧ ¬ HasQ L n (fun _ => true) i) ↔ FitI L (1, n, v) i := by
  have hv0 : v = ⟨#[]⟩ := by
    apply bytes_inj
    have : v.data.toList.length = 0 := by rw [← hv]; rfl
    rw [List.length_eq_zero_iff.1 this]
  subst hv0
  constructor
  · rintro ⟨h1, h2⟩
    refine ⟨L[i], List.getElem?_eq_getElem h1, ?_⟩
    unfold fitB
    rcases found_or (hM L[i] (List.getElem_mem h1)).rise n with ⟨u, hu, e⟩ | ⟨_, e⟩
    · exact absurd ⟨L[i], u, List.getElem?_eq_getElem h1, hu, rfl⟩ h2
    · rw [e]
      simp [fitV]
  · rintro ⟨l, e1, e2⟩
    refine ⟨(List.getElem?_eq_some_iff.1 e1).1, ?_⟩
    rintro ⟨l', u, f1, f2, _⟩
    rw [e1] at f1
    cases f1
    unfold fitB at e2
    rw [found_in (get_made hM e1).rise f2] at e2
    simp [fitV] at e2
    have := made_val (get_made hM e1) f2
    rw [e2] at this
    exact this rfl
theorem fit_prefix (hM : ∀ l ∈ L, Made l) (n v : ByteArray) (hv : v.size ≠ 0) (i : Nat) : HasQ L n (fun u => Lib.hasPrefix u.data.toList v.data.toList) i ↔ FitI L (3, n, v) i := by
  constructor
  · rintro ⟨l, u, e1, e2, e3⟩
    refine ⟨l, e1, ?_⟩
    unfold fitB
    rw [found_in (get_made hM e1).rise e2]
    simp [fitV]
    exact e3
  · rintro ⟨l, e1, e2⟩
    unfold fitB at e2
    rcases found_or (get_made hM e1).rise n with ⟨u, hu, e⟩ | ⟨_, e⟩
    · rw [e] at e2
      simp [fitV] at e2
      exact ⟨l, u, e1, hu, e2⟩
    · rw [e] at e2
      simp [fitV] at e2
      exfalso
      cases hd : v.data.toList with
      | nil =>
        apply hv
        have : v.data.toList.length = 0 := by rw [hd]; rfl
        exact this
      | cons a t =>
        rw [hd] at e2
        cases e2
end
theorem fit_any {L : List Labs} (n v : ByteArray) (hv : v.size = 0) (i : Nat) : i < L.length ↔ FitI L (3, n, v) i := by
  have hv0 : v = ⟨#[]⟩ := by
    apply bytes_inj
    have : v.data.toList.length = 0 := by rw [← hv]; rfl
    rw [List.length_eq_zero_iff.1 this]
  subst hv0
  constructor
  · intro h
    refine ⟨L[i], List.getElem?_eq_getElem h, ?_⟩
    unfold fitB
    simp [fitV]
    cases (foundV L[i] n).fst.data.toList <;> rfl
  · exact fun h => h.lt
theorem fit_not {L : List Labs} (n v : ByteArray) (i : Nat) : (i < L.length ∧ ¬ FitI L (1, n, v) i) ↔ FitI L (2, n, v) i := by
  constructor
  · rintro ⟨h1, h2⟩
    refine ⟨L[i], List.getElem?_eq_getElem h1, ?_⟩
    have : ¬ fitB L[i] (1, n, v) = true := fun e => h2 ⟨L[i], List.getElem?_eq_getElem h1, e⟩
    unfold fitB fitV at this ⊢
    simp at this ⊢
    exact this
  · rintro ⟨l, e1, e2⟩
    refine ⟨(List.getElem?_eq_some_iff.1 e1).1, ?_⟩
    rintro ⟨l', f1, f2⟩
    rw [e1] at f1
    cases f1
    unfold fitB fitV at e2 f2
    simp at e2 f2
    exact e2 f2
theorem add_sum (x : Lab) (i : Int) (P : Posts) : ((addP x i P).flatMap (·.2)).length = (P.flatMap (·.2)).length + 1 := by
  induction P with
  | nil => rfl
  | cons p r ih =>
    rw [addP]
    split
    · simp only [List.flatMap_cons, List.length_append, List.length_singleton]
      omega
    · split
      · simp only [List.flatMap_cons, List.length_append, List.length_singleton]
        omega
      · simp only [List.flatMap_cons, List.length_append, ih]
        omega
theorem addS_sum (i : Int) : ∀ (l : Labs) (P : Posts), ((addS P i l).flatMap (·.2)).length = (P.flatMap (·.2)).length + l.length
  | [], P => rfl
  | x :: t, P => by
    show ((addS (addP x i P) i t).flatMap (·.2)).length = _
    rw [addS_sum i t, add_sum, List.length_cons]
    omega
theorem posts_sum : ∀ (L : List Labs), (∀ l ∈ L, l.length ≤ 16) → ∀ (P : Posts) (i : Nat), ((addF P i L).flatMap (·.2)).length ≤ (P.flatMap (·.2)).length + 16 * L.length
  | [], _, P, i => Nat.le_refl _
  | l :: r, h, P, i => by
    rw [addF]
    have h1 := posts_sum r (fun l hl => h l (List.mem_cons_of_mem _ hl)) (addS P (i : Int) l) (i + 1)
    rw [addS_sum] at h1
    have h2 := h l (List.mem_cons_self ..)
    rw [List.length_cons]
    omega
/-- An index of these series. -/
structure IxL (w : World) (x : IxC) (O : Nat → Prop) (L : List Labs) : Prop where
  at_ : IxAt w x O
  is : Is x (postsOf L)
  n : x.n = L.length
  made : ∀ l ∈ L, Made l
  len : L.length ≤ 1000
theorem IxL.only {w w' : World} {x : IxC} {O O' : Nat → Prop} {L : List Labs} (h : IxL w x O L) (k : Lys.Only O' w w') (hO : ∀ j, O j → ¬ O' j) : IxL w' x O L := ⟨h.at_.only k hO, h.is, h.n, h.made, h.len⟩
theorem IxL.stay {w w' : World} {x : IxC} {O : Nat → Prop} {L : List Labs} (h : IxL w x O L) (k : Lys.Kept w w') : IxL w' x O L := h.only k (fun _ _ f => f)
theorem IxL.tells {w : World} {x : IxC} {O : Nat → Prop} {L : List Labs} (h : IxL w x O L) : X.Tells (postsOf L) L.length (HasL L) := posts_tells L (fun l hl => (h.made l hl).rise) (by have := h.len; omega)
theorem IxL.sum {w : World} {x : IxC} {O : Nat → Prop} {L : List Labs} (h : IxL w x O L) : ((postsOf L).flatMap (·.2)).length ≤ 100000 := by
  have h1 := posts_sum L (fun l hl => (h.made l hl).len16) [] 0
  have h2 := h.len
  simp only [List.flatMap_nil, List.length_nil] at h1
  unfold postsOf
  omega
theorem IxL.look {w : World} {x : IxC} {O : Nat → Prop} {L : List Labs} (h : IxL w x O L) (y : Lab) : Sel (lookP (postsOf L) y) (HasL L y) := by
  have T := h.tells
  refine ⟨?_, fun i => T.iff y i⟩
  rcases look_or (postsOf L) y with e | ⟨p, hp, _, e⟩
  · rw [e]; rfl
  · rw [e]; exact T.up p hp
end Go.Proofs.YtdgkdgbdkhnpcaaGreat.X

/-
  Numbers, sorted.
-/
namespace Go.Proofs.YtdgkdgbdkhnpcaaGreat.X
open Go.RowKit Go.Proofs.Lys Go.Sort Go.Shelf Go.Proofs.YtdgkdgbdkhnpcaaGreat.N
set_option linter.unusedVariables false
set_option linter.unusedSimpArgs false

abbrev sortN (l : List Int) : List Int := l.mergeSort fun x y => decide (x ≤ y)
theorem only_sortI (w : World) (blk off m : Nat) (d : Array Int) (os : Array Obj) : Only (fun j => j = blk) w (grow (putRow (Value.int .i64) (Go.Sort.ahead w m) blk off d) os) := by
  refine ⟨rfl, rfl, rfl, ?_, fun j hj hn => ?_⟩
  · rw [size_grow]
    show _ ≤ ((Go.Sort.ahead w m).heap.modify blk _).size + _
    rw [Array.size_modify]
    exact Nat.le_add_right _ _
  · rw [heap_grow_old _ _ (by show _ < ((Go.Sort.ahead w m).heap.modify blk _).size; rw [Array.size_modify]; exact hj)]
    show ((Go.Sort.ahead w m).heap.modify blk _)[j]? = _
    rw [Array.getElem?_modify, if_neg (fun e => hn e.symm)]
    rfl
theorem sortI_any (w : World) (B : Nat) (v : Value) (l : List Int) (h : NumAt w B v l) (hlen : l.length ≤ 1000000) :
    Calls Tryz.prog 112 #[v] w fun e w' => e = .returned (.tuple #[]) ∧ Only (fun k => v.ownBlock = some k) w w' ∧ NumAt w' B v (sortN l) := by
  have hsl : (sortN l).length = l.length := List.length_mergeSort _
  rcases h.2 with ⟨rfl, h0⟩ | ⟨g, cap, cur, rfl, hb, hg, hnc, hcm, hcs, htake⟩
  · have hx0 : l = [] := List.length_eq_zero_iff.1 h0
    subst hx0
    refine (AnyM.slices_Sort_int_none Tryz.sortI none 0 w).mono ?_
    rintro e w' ⟨rfl, rfl⟩
    exact ⟨rfl, Only.refl _ _, by simpa [sortN] using h⟩
  · by_cases hx0 : l.length = 0
    · have hx1 : l = [] := List.length_eq_zero_iff.1 hx0
      subst hx1
      refine (AnyM.slices_Sort_int_none Tryz.sortI (some ⟨g, 0, none⟩) cap w).mono ?_
      rintro e w' ⟨rfl, rfl⟩
      exact ⟨rfl, Only.refl _ _, by simpa [sortN] using h⟩
    have hglt := (Array.getElem?_eq_some_iff.1 hg).1
    have hH : Holds (Value.int .i64) w g 0 l.toArray := by
      intro t ht
      have ht' : t < l.length := by simpa using ht
      refine ⟨?_, by simp [World.frozen?, hg]⟩
      have hj : cur.toList[t]? = some (Value.int .i64 l[t]) := by
        have h1 : (l.map (Value.int .i64))[t]? = some (Value.int .i64 l[t]) := by rw [List.getElem?_map, List.getElem?_eq_getElem ht']; rfl
        rw [← htake, List.getElem?_take, if_pos (by omega)] at h1
        exact h1
      simp only [World.cell?, hg, Nat.zero_add]
      rw [getElem!_pos _ _ (by simpa using ht')]
      simpa using hj
    refine (AnyM.slices_Sort_int Tryz.sortI g 0 cap l w hH hglt (by omega)).mono ?_
    rintro e w' ⟨rfl, n, os, rfl⟩
    have ko := only_sortI w g 0 n (sortN l).toArray os
    refine ⟨rfl, ko.mono (fun k _ e => by rw [e]; rfl), ?_⟩
    have hblk : (grow (putRow (Value.int .i64) (Go.Sort.ahead w n) g 0 (sortN l).toArray) os).heap[g]? = some (.cells (putCells (Value.int .i64) 0 (sortN l).toArray cur) 3 (0, 0)) := by
      rw [heap_grow_old _ _ (by show _ < ((Go.Sort.ahead w n).heap.modify g _).size; rw [Array.size_modify]; exact hglt)]
      show ((Go.Sort.ahead w n).heap.modify g _)[g]? = _
      rw [Array.getElem?_modify, if_pos rfl]
      show Option.map _ (w.heap[g]?) = _
      rw [hg]
      rfl
    refine ⟨by simp, .inr ⟨g, cap, _, by rw [hsl], hb, hblk, by rw [hsl]; exact hnc, hcm, by simp only [putCells, Array.size_mapIdx]; exact hcs, ?_⟩⟩
    refine List.ext_getElem? (fun j => ?_)
    rw [hsl]
    by_cases hj : j < l.length
    · rw [List.getElem?_take, if_pos (by omega), Array.getElem?_toList]
      simp only [putCells, Array.getElem?_mapIdx]
      rw [Array.getElem?_eq_getElem (by omega)]
      simp only [Option.map_some]
      rw [if_pos ⟨by omega, by simp; omega⟩, show j - 0 = j by omega, getElem!_pos _ _ (by simpa using hj), List.getElem?_map, List.getElem?_eq_getElem (show j < (sortN l).length by rw [hsl]; exact hj)]
      rfl
    · rw [List.getElem?_take, if_neg (by omega), List.getElem?_eq_none (by rw [List.length_map, hsl]; omega)]
end Go.Proofs.YtdgkdgbdkhnpcaaGreat.X

/-
  all, having: numbers of series.
-/
namespace Go.Proofs.YtdgkdgbdkhnpcaaGreat.X
open Go.RowKit Go.Proofs.Lys Go.Maps Go.Proofs.YtdgkdgbdkhnpcaaGreat.N
set_option linter.unusedVariables false
set_option linter.unusedSimpArgs false

set_option maxRecDepth 100000 in
set_option maxHeartbeats 1600000 in
theorem all_ix {w : World} {x : IxC} {O : Nat → Prop} (h : IxAt w x O) (hn : x.n ≤ 100000) :
    Calls Tryz.prog 47 #[.pointer (some ⟨x.xb, 0, none⟩)] w fun e w' => ∃ v, e = .returned v ∧ NumAt w' w.heap.size v (allN x.n) ∧ Kept w w' := by
  have c0 := h.blk.cell 0 rfl
  clear h
  generalize x.n = N at *
  generalize x.xb = XB at *
  go_enter Tryz.func47, Tryz.ntmps47
  go_wp2_with fail
  go_loopw [3, 9] (fun s3 s9 wr => ∃ (k : Nat) (a : Option Addr) (c : Nat), k ≤ N ∧ s9 = .int .i64 (k : Int) ∧ s3 = .slice a k c ∧ NumAt wr w.heap.size (.slice a k c) (allN k) ∧ Kept w wr) (fun s3 s9 _ => N - (intOf s9).toNat)
  case atStart => exact ⟨0, none, 0, by omega, rfl, rfl, World.ownsRow_nil _ _ _ _, Only.refl _ _⟩
  case round =>
    obtain ⟨k, a, c, hk, rfl, rfl, hat, kr⟩ := hrel
    by_cases hlt : k < N
    · obtain ⟨g, cap, w1, hr, ho, hon⟩ := Po.own_num hat kr.size (by rw [allN_len]; omega) (k : Int)
      have HO := hid (show NumAt w1 w.heap.size (.slice (some ⟨g, 0, none⟩) (k + 1) cap) (allN (k + 1)) from by
        rw [allN_len] at ho
        rw [allN_succ]
        exact ho)
      have HK := hid (kr.trans hon (fun j hj e => by have := (ownN_lt hat e).1; omega))
      rw [allN_len] at hr
      clear ho hon hat kr
      go_wp2_with (at_builtin; refine wpList_append_run rfl _ _ _ rfl rfl rfl hr ?_)
      go_roundw
      case rel => exact ⟨k + 1, _, _, by omega, by go_num, rfl, HO.out, HK.out⟩
      case measure => simp [intOf]; omega
    · obtain rfl : k = N := by omega
      have HO := hid hat
      have HK := hid kr
      clear hat kr
      go_wp2
      go_ret
      exact ⟨_, rfl, HO.out, HK.out⟩

def keyL (e : EntC) : Lit := .string (keyB e.lab)
def doneE (es : List EntC) (left : Lit → Bool) : List EntC := es.filter (fun e => !left (keyL e))
theorem key_self (a : EntC) : (keyL a).sameKey (keyL a) = true := by
  unfold keyL
  rw [sameKey_string]
  simp
theorem key_ne {w : World} {x : IxC} {O : Nat → Prop} (h : IxAt w x O) {a b : EntC} (ha : a ∈ x.es) (hb : b ∈ x.es) (e : a ≠ b) : (keyL a).sameKey (keyL b) = false := by
  unfold keyL
  rw [sameKey_string]
  simp only [beq_eq_false_iff_ne, ne_eq]
  intro e2
  exact e (pw_inj h.labs ha hb (keyB_inj (small_max (h.small a ha)) (small_max (h.small b hb)) e2))
theorem es_nodup {w : World} {x : IxC} {O : Nat → Prop} (h : IxAt w x O) : x.es.Nodup := h.labs.imp (fun {a b} hne e => hne (by rw [e]))
/-- One entry more has come. -/
theorem done_step {w : World} {x : IxC} {O : Nat → Prop} (h : IxAt w x O) {s : EntC} (hs : s ∈ x.es) {left : Lit → Bool} (hl : left (keyL s) = true) : (doneE x.es (fun z => left z && !z.sameKey (keyL s))).Perm (s :: doneE x.es left) := by
  have hnd := es_nodup h
  unfold doneE
  have hin : ∀ es : List EntC, (∀ e ∈ es, e ∈ x.es) → es.Nodup → s ∈ es → (es.filter (fun e => !(left (keyL e) && !(keyL e).sameKey (keyL s)))).Perm (s :: es.filter (fun e => !left (keyL e))) := fun es => by
    induction es with
    | nil => intro _ _ h; cases h
    | cons a r ih =>
      intro hsub hn hm
      have hn' := List.nodup_cons.1 hn
      by_cases e : a = s
      · subst e
        rw [List.filter_cons, if_pos (by rw [key_self]; simp), List.filter_cons, if_neg (by rw [hl]; simp)]
        refine List.Perm.cons _ ?_
        rw [List.filter_congr (fun y hy => ?_)]
        have hne : y ≠ a := fun e2 => hn'.1 (by rw [← e2]; exact hy)
        rw [key_ne h (hsub y (List.mem_cons_of_mem _ hy)) hs hne]
        simp
      · have hm' : s ∈ r := by
          rcases List.mem_cons.1 hm with e2 | e2
          · exact absurd e2.symm e
          · exact e2
        have hih := ih (fun y hy => hsub y (List.mem_cons_of_mem _ hy)) hn'.2 hm'
        have e1 : (!(left (keyL a) && !(keyL a).sameKey (keyL s))) = !left (keyL a) := by
          rw [key_ne h (hsub a (List.mem_cons_self ..)) hs e]
          simp
        rw [List.filter_cons, List.filter_cons, e1]
        split
        · exact (hih.cons a).trans (.swap _ _ _)
        · exact hih
  exact hin x.es (fun _ h => h) hnd hs
theorem key_came {w : World} {x : IxC} {O : Nat → Prop} {P : Posts} (hA : IxAt w x O) (hI : Is x P) {y : Lab} {c : Sl} {kl : Lit} {z : DataW Unit × List MemPlace} (hkey : keyOf Tryz.prog 27 (labV y) = some kl) (hv : slE (slV c) = some z) (hat : ∀ zd, (kvD x.kv).atKey kl zd = z.1) :
    ∃ s ∈ x.es, kl = keyL s ∧ y = s.lab ∧ c = s.c := by
  obtain ⟨y', e, rfl⟩ := key_inv _ _ hkey
  have ey : y = y' := by
    simp only [labV, Value.agg.injEq, Array.mk.injEq, List.cons.injEq, Value.string.injEq, and_true] at e
    exact Prod.ext e.1 e.2
  subst ey
  simp only [at_kvD] at hat
  rw [slE_mk] at hv
  cases hv
  cases hg : kvGet x.kv (keyB y) with
  | none =>
    rw [hg] at hat
    have h1 := hat (.lit (.int .i64 0))
    have h2 := hat (.lit (.int .i64 1))
    rw [← h2] at h1
    simp at h1
  | some d =>
    rw [hg] at hat
    have h1 := hat .nil
    simp only at h1
    have h2 := slD_inj h1
    subst h2
    have hm := hA.perm.mem_iff.1 ((get_some (kv_apart hA.map)).1 hg)
    obtain ⟨s, hs, hk⟩ := List.mem_map.1 hm
    unfold keyC at hk
    have e1 := congrArg Prod.fst hk
    have e2 := congrArg Prod.snd hk
    simp only at e1 e2
    refine ⟨s, hs, by unfold keyL; rw [e1], ?_, e2.symm⟩
    have h3 := key_mk (small_max (hA.small s hs)).1 (small_max (hA.small s hs)).2
    rw [e1] at h3
    have h4 := law.inj hkey h3
    simp only [labV, Value.agg.injEq, Array.mk.injEq, List.cons.injEq, Value.string.injEq, and_true] at h4
    exact Prod.ext h4.1 h4.2
theorem ranges_block {H : Type} {P : Program} {k : TypeId} {R : Value → Option (DataW H × List MemPlace)} {b r n : Nat} {D : DataW H} {left : Lit → Bool} {cnt : Nat} {w w' : World} (h : w.ranges P k R b r n D left cnt) (hb : w'.heap[b]? = w.heap[b]?) (hr : w'.heap[r]? = w.heap[r]?) : w'.ranges P k R b r n D left cnt := by
  obtain ⟨es, clock, since, seen, c0, h1, h2, h3, h4, h5, h6⟩ := h
  exact ⟨es, clock, since, seen, c0, hb.trans h1, h2, h3, h4, hr.trans h5, h6⟩
theorem done_start {w : World} {x : IxC} {O : Nat → Prop} (h : IxAt w x O) : doneE x.es (Maps.has (kvD x.kv)) = [] := by
  unfold doneE
  rw [List.filter_eq_nil_iff]
  intro e he
  have : Maps.has (kvD x.kv) (keyL e) = true := by
    unfold keyL
    rw [has_kvD, (get_some (kv_apart h.map)).2 (h.perm.mem_iff.2 (List.mem_map.2 ⟨e, he, rfl⟩))]
    rfl
  simp [this]
theorem done_end {es : List EntC} {left : Lit → Bool} (h : ∀ k, left k = false) : doneE es left = es := by
  unfold doneE
  rw [List.filter_eq_self]
  intro e _
  simp [h]
theorem part_perm {P Q : Posts} (h : P.Perm Q) (n : ByteArray) (q : ByteArray → Bool) : (partH P n q).Perm (partH Q n q) := (h.filter _).flatMap_right _
theorem part_cons (p : Post) (P : Posts) (n : ByteArray) (q : ByteArray → Bool) : partH (p :: P) n q = (if decide (p.1.1 = n) && q p.1.2 then p.2 else []) ++ partH P n q := by
  unfold partH
  rw [List.filter_cons]
  split
  · rfl
  · rfl
theorem part_len_perm {P Q : Posts} (h : P.Perm Q) : (P.flatMap (·.2)).length = (Q.flatMap (·.2)).length := (h.flatMap_right (·.2)).length_eq
theorem part_le (P : Posts) (n : ByteArray) (q : ByteArray → Bool) : (partH P n q).length ≤ (P.flatMap (·.2)).length := by
  induction P with
  | nil => exact Nat.le_refl _
  | cons p r ih =>
    rw [part_cons, List.length_append, List.flatMap_cons, List.length_append]
    split
    · omega
    · simp only [List.length_nil]
      omega
theorem done_le (es : List EntC) (left : Lit → Bool) : (((doneE es left).map postC).flatMap (·.2)).length ≤ ((es.map postC).flatMap (·.2)).length := by
  unfold doneE
  induction es with
  | nil => exact Nat.le_refl _
  | cons e r ih =>
    rw [List.filter_cons]
    split
    · rw [List.map_cons, List.flatMap_cons, List.length_append, List.map_cons, List.flatMap_cons, List.length_append]
      omega
    · rw [List.map_cons (l := r), List.flatMap_cons, List.length_append]
      omega

/-- A function value that tells of a value whether it is taken. -/
def Takes (w : World) (F : Nat) (cb : Array Value) (q : ByteArray → Bool) : Prop :=
  (∀ args w, (callFunc F args).run Tryz.prog w = .ok (.enter F args) w) ∧ ∀ W, Kept w W → ∀ v : ByteArray, v.size ≤ 100000 → Calls Tryz.prog F (#[.string v] ++ cb) W fun e w' => e = .returned (.bool (q v)) ∧ w' = W

set_option maxRecDepth 100000 in
set_option maxHeartbeats 4000000 in
theorem having_any {w : World} {x : IxC} {O : Nat → Prop} {P : Posts} (hA : IxAt w x O) (hI : Is x P) (hl : (P.flatMap (·.2)).length ≤ 100000) (n : ByteArray) (F : Nat) (cb : Array Value) (q : ByteArray → Bool) (hF : Takes w F cb q) :
    Calls Tryz.prog 94 #[.pointer (some ⟨x.xb, 0, none⟩), .string n, .func (.func F) #[] cb] w fun e w' => ∃ v acc, e = .returned v ∧ NumAt w' w.heap.size v (sortN acc) ∧ acc.Perm (partH P n q) ∧ Kept w w' := by
  have m1 := hA.blk.cell 1 rfl
  have HA := hid hA
  have HI := hid hI
  have hm := hA.map
  have hbl := hA.blk.lt
  have hmbl := hA.lt x.mb (hA.own x.mb (.inr (.inl rfl)))
  have eg := hF.1
  have HF := hid hF.2
  have HL := hid (show ((x.es.map postC).flatMap (·.2)).length ≤ 100000 from by rw [part_len_perm hI.perm]; exact hl)
  clear hA hI hF hl
  generalize hxb : x.xb = XB at *
  clear hxb
  go_enter Tryz.func94, Tryz.ntmps94
  go_wp2_with (first | (at_range; refine wpList_range_own _ rfl _ 57 rfl 27 36 law Tryz.underlying57 _ x.mb x.kv.length (kvD x.kv) rfl hm ?_; intro w0 hrg0 hg0 hs0) | go_in)
  go_frame
  have HR0 := hid hrg0
  have HK0 := hid (show Kept w w0 from (Only.refl _ w).grown hg0 (fun k e => by cases e))
  clear hrg0 hg0
  go_loopw [7] (fun s7 wr => ∃ (left : Lit → Bool) (cnt : Nat) (acc : List Int) (a : Option Addr) (na c : Nat), s7 = .slice a na c ∧ na = acc.length ∧ NumAt wr (w.heap.size + 1) (.slice a na c) acc ∧ Hid (acc.Perm (partH ((doneE x.es left).map postC) n q)) ∧ wr.ranges Tryz.prog 27 slE x.mb w.heap.size x.kv.length (kvD x.kv) left cnt ∧ Kept w wr ∧ w.heap.size + 1 ≤ wr.heap.size) (fun _ wr => wr.rangeLeft x.mb w.heap.size)
  case atStart =>
    refine ⟨_, _, [], none, 0, 0, rfl, rfl, World.ownsRow_nil _ _ _ _, hid ?_, HR0.out, HK0.out, by omega⟩
    rw [done_start HA.out]
    exact .refl _
  case round =>
    obtain ⟨left, cnt, acc, a7, n7, c7, rfl, hn7, hacc, hperm, hrg, kr, hszr⟩ := hrel
    have HACC := hid hacc
    have HK := hid kr
    have HN7 := hid hn7
    clear kr hacc hn7
    go_wp2_with (first | (at_next; refine wpList_next_ranges _ rfl _ rfl 27 law slE labV slV (fun key kl hk => (key_inv key kl hk).imp (fun x hx => hx.1)) slE_inv x.mb w.heap.size x.kv.length _ _ _ rfl hrg ?_ ?_) | go_in)
    · intro _ hl0
      have HP0 := hid (show acc.Perm (partH P n q) from by
        have h1 := hperm.out
        rw [done_end hl0] at h1
        exact h1.trans (part_perm HI.out.perm n q))
      have hal : acc.length ≤ 100000 := by
        have h1 := hperm.out.length_eq
        have h2 := part_le ((doneE x.es left).map postC) n q
        have h3 := done_le x.es left
        have h4 := HL.out
        omega
      have hacc : NumAt wr (w.heap.size + 1) (.slice a7 n7 c7) acc := HACC.out
      have HS := hid (sortI_any wr (w.heap.size + 1) _ acc hacc (by omega))
      clear hl0 hal hacc
      go_wp2_with fail
      refine HS.out.mono ?_
      rintro e w2 ⟨rfl, k2, hnum⟩
      have HNUM := hid (ownN_base hnum (b' := w.heap.size) (by omega))
      have HKK := hid (show Kept w w2 from HK.out.trans k2 (fun j hj e => by have := (ownN_lt HACC.out e).1; omega))
      clear k2 hnum HS
      go_wp2
      go_ret
      exact ⟨_, acc, rfl, HNUM.out, HP0.out, HKK.out⟩
    · intro y1 y2 c kl yd yp w1 cnt1 hkey hlx hv hat hrg1 hlt hg1 hs1 hen
      obtain ⟨s, hs, rfl, hy, rfl⟩ := key_came (y := (y1, y2)) (c := c) HA.out HI.out hkey hv hat
      have k1 : Only (fun k => k = w.heap.size) wr w1 := (Only.refl _ wr).grown hg1 (fun k e _ => by cases e; rfl)
      have hK1 : Kept w w1 := HK.out.trans k1 (fun j hj e => by omega)
      have kA : Kept w1 (w1.alloc (.cells #[.string y1, .string y2] 27)) := (Only.refl _ w1).alloc _
      have HKA := hid (show Kept w (w1.alloc (.cells #[.string y1, .string y2] 27)) from hK1.trans kA (fun _ _ f => f))
      have HST := hid (done_step HA.out hs hlx)
      have HACC1 := hid (show NumAt (w1.alloc (.cells #[.string y1, .string y2] 27)) (w.heap.size + 1) (.slice a7 n7 c7) acc from ownN_stay (ownN_only HACC.out k1 (fun j hj e => by have := (ownN_lt HACC.out hj).1; omega)) kA)
      have hrgA : (w1.alloc (.cells #[.string y1, .string y2] 27)).ranges Tryz.prog 27 slE x.mb w.heap.size x.kv.length (kvD x.kv) (fun z => left z && !z.sameKey (keyL s)) cnt1 := by
        refine ranges_block hrg1 (kA.block _ (by omega) (fun f => f)) (kA.block _ (by omega) (fun f => f))
      have HRA := hid hrgA
      have HLT := hid hlt
      have HRG := hid hrg
      have HS := hid hs
      have HY := hid hy
      have hsz1 : w.heap.size + 1 ≤ (w1.alloc (.cells #[.string y1, .string y2] 27)).heap.size := by simp; omega
      have hysm := (HA.out.small s hs).2
      rw [← hy] at hysm
      have hrow := HA.out.each s hs
      obtain ⟨a8, c8, e8⟩ := ownN_slice hrow
      have HROW := hid hrow
      rw [e8] at hen ⊢
      have HE8 := hid e8
      have HFC := hid (HF.out _ HKA.out y2 hysm)
      have HPC := hid (part_perm (HST.out.map postC) n q)
      clear hrg1 hrgA k1 hK1 kA hlt hrg hs hy hrow e8 hysm hkey hv hat hlx hg1
      by_cases hnm : y1 = n
      · have hq1 : (y1.toList == n.toList) = true := by rw [hnm]; simp
        cases hq : q y2
        · rw [hq] at HFC
          have HP1 : Hid (acc.Perm (partH ((doneE x.es (fun z => left z && !z.sameKey (keyL s))).map postC) n q)) := hid (by
            refine hperm.out.trans (List.Perm.trans ?_ HPC.out.symm)
            rw [List.map_cons, part_cons, if_neg]
            · exact .refl _
            · show ¬ (decide (s.lab.1 = n) && q s.lab.2) = true
              rw [← HY.out, hq]
              simp)
          clear hq hnm
          go_wp2_with fail
          refine HFC.out.mono ?_
          rintro e w2 ⟨rfl, hw⟩
          replace hw := hw.symm
          subst hw
          go_wp2_with fail
          refine ⟨⟨_, cnt1, acc, a7, n7, c7, rfl, HN7.out, HACC1.out, HP1, HRA.out, HKA.out, hsz1⟩, ?_⟩
          rw [HRA.out.left_eq, HRG.out.left_eq]
          exact HLT.out
        · rw [hq] at HFC
          have hal : acc.length + s.l.length ≤ 100000 := by
            have h1 := hperm.out.length_eq
            have h2 := HPC.out.length_eq
            rw [List.map_cons, part_cons, if_pos (by show (decide (s.lab.1 = n) && q s.lab.2) = true; rw [← HY.out, hq]; simp [hnm]), List.length_append] at h2
            have h3 := part_le ((doneE x.es (fun z => left z && !z.sameKey (keyL s))).map postC) n q
            have h4 := done_le x.es (fun z => left z && !z.sameKey (keyL s))
            have h5 := HL.out
            have h6 : (postC s).2 = s.l := rfl
            rw [h6] at h2
            omega
          have HP1 : Hid ((acc ++ s.l).Perm (partH ((doneE x.es (fun z => left z && !z.sameKey (keyL s))).map postC) n q)) := hid (by
            refine List.Perm.trans ?_ HPC.out.symm
            rw [List.map_cons, part_cons, if_pos]
            · exact List.perm_append_comm.trans (List.Perm.append_left _ hperm.out)
            · show (decide (s.lab.1 = n) && q s.lab.2) = true
              rw [← HY.out, hq]
              simp [hnm])
          have hsrc : SrcOf (w1.alloc (.cells #[.string y1, .string y2] 27)) (.slice a8 s.l.length c8) (s.l.map (Value.int .i64)) := by
            rw [← HE8.out]
            exact own_src (ownN_stay HROW.out HKA.out)
          have hacc1 := HACC1.out
          rw [HN7.out] at hacc1
          obtain ⟨v', w2, hr2, ho2, hg2, hloc⟩ := append_src (P := Tryz.prog) (base := w.heap.size + 1) Tryz.underlying36 Po.infoI6 rfl (by decide) hacc1 hsrc (Po.ints_one _) (by rw [List.length_map]; omega) hsz1
          rw [List.length_map, ← List.map_append, ← List.length_append] at ho2
          rw [← HN7.out] at hr2
          obtain ⟨a9, c9, rfl⟩ := own_slice ho2
          have k2 : Only (fun j => (Value.slice a7 acc.length c7).ownBlock = some j) (w1.alloc (.cells #[.string y1, .string y2] 27)) w2 := (Only.refl _ _).grown hg2 (fun j e _ => e)
          have hblo : ∀ j, (Value.slice a7 acc.length c7).ownBlock = some j → w.heap.size + 1 ≤ j := fun j e => (ownN_lt hacc1 e).1
          have HK2 := hid (show Kept w w2 from HKA.out.trans k2 (fun j hj e => by have := hblo j e; omega))
          have HR2 := hid (ranges_block HRA.out (k2.block x.mb (by omega) (fun e => by have := hblo _ e; omega)) (k2.block w.heap.size (by omega) (fun e => by have := hblo _ e; omega)))
          have hsz2 := k2.size
          have HO2 := hid ho2
          have HRUN := hid hr2
          generalize hn9 : (acc ++ s.l).length = n9 at HO2 HRUN
          clear hq hnm hsrc hacc1 hr2 ho2 hg2 hloc k2 hblo
          go_wp2_with fail
          refine HFC.out.mono ?_
          rintro e w3 ⟨rfl, hw⟩
          replace hw := hw.symm
          subst hw
          go_wp2_with (at_builtin; refine wpList_append_run rfl _ _ _ rfl rfl rfl HRUN ?_)
          refine ⟨⟨_, cnt1, acc ++ s.l, a9, n9, c9, rfl, hn9.symm, ?_, HP1, HR2.out, HK2.out, by omega⟩, ?_⟩
          · show w2.ownsRow _ _ _ _ (acc ++ s.l).length _
            rw [hn9]
            exact HO2.out
          rw [HR2.out.left_eq, HRG.out.left_eq]
          exact HLT.out
      · have hq1 : (y1.toList == n.toList) = false := by
          simp only [beq_eq_false_iff_ne, ne_eq]
          intro e
          rw [ByteArray.toList_eq, ByteArray.toList_eq] at e
          exact hnm (bytes_inj e)
        have hq2 : ¬ y1.toList = n.toList := by simpa using hq1
        have HP1 : Hid (acc.Perm (partH ((doneE x.es (fun z => left z && !z.sameKey (keyL s))).map postC) n q)) := hid (by
          refine hperm.out.trans (List.Perm.trans ?_ HPC.out.symm)
          rw [List.map_cons, part_cons, if_neg]
          · exact .refl _
          · show ¬ (decide (s.lab.1 = n) && q s.lab.2) = true
            rw [← HY.out, decide_eq_false hnm]
            simp)
        clear hnm
        go_wp2_with fail
        refine ⟨⟨_, cnt1, acc, a7, n7, c7, rfl, HN7.out, HACC1.out, HP1, HRA.out, HKA.out, hsz1⟩, ?_⟩
        rw [HRA.out.left_eq, HRG.out.left_eq]
        exact HLT.out
end Go.Proofs.YtdgkdgbdkhnpcaaGreat.X

/-
  Find.
-/
namespace Go.Proofs.YtdgkdgbdkhnpcaaGreat.X
open Go.RowKit Go.Proofs.Lys Go.Maps Go.Proofs.YtdgkdgbdkhnpcaaGreat.N
set_option linter.unusedVariables false
set_option linter.unusedSimpArgs false

theorem is_empty {s : ByteArray} (h0 : s.size = 0) : s.toList.isEmpty = true := by
  rw [ByteArray.toList_eq]
  have : s.data.toList.length = 0 := by rw [← h0]; rfl
  rw [List.length_eq_zero_iff.1 this]
  rfl
/-- Numbers that are told. -/
def SelP (w : World) (N : Nat) (T : Nat → Prop) (e : Ending) (w' : World) : Prop := ∃ u l, e = .returned u ∧ Po.ISrc w' u l ∧ Sel l T ∧ l.length ≤ N ∧ Kept w w'
theorem selP_num {w w' : World} {N : Nat} {T : Nat → Prop} {v : Value} {l : List Int} (h : NumAt w' w.heap.size v l) (hs : Sel l T) (hl : l.length ≤ N) (k : Kept w w') : SelP w N T (.returned v) w' := ⟨v, l, rfl, Po.own_isrc h, hs, hl, k⟩
theorem takes_has (w : World) : Takes w 97 #[] (fun _ => true) := by
  refine ⟨enters_of Tryz.func97 (by kernel_rfl) rfl, fun W _ v _ => ?_⟩
  show Calls Tryz.prog 97 #[.string v] W _
  go_enter Tryz.func97, Tryz.ntmps97
  go_wp2
  go_ret
  exact ⟨rfl, rfl⟩
abbrev matV (k : Int) (n v : ByteArray) : Value := .agg #[.int .i64 k, .string n, .string v]
theorem takes_prefix (w : World) (b : Nat) (k : Int) (n v : ByteArray) (hb : Blk w b [.int .i64 k, .string n, .string v] 52) : Takes w 95 #[.pointer (some ⟨b, 0, none⟩)] (fun u => Lib.hasPrefix u.data.toList v.data.toList) := by
  refine ⟨enters_of Tryz.func95 (by kernel_rfl) rfl, fun W kW u _ => ?_⟩
  have c2 := (kW.blk hb (fun f => f)).cell 2 rfl
  have HP := hid (Tryz.strings_HasPrefix u v W)
  clear hb kW
  show Calls Tryz.prog 95 #[.string u, .pointer (some ⟨b, 0, none⟩)] W (fun e w' => e = .returned (.bool (Lib.hasPrefix u.data.toList v.data.toList)) ∧ w' = W)
  generalize Lib.hasPrefix u.data.toList v.data.toList = B at *
  show Calls Tryz.prog 95 #[.string u, .pointer (some ⟨b, 0, none⟩)] W _
  go_enter Tryz.func95, Tryz.ntmps95
  go_wp2_with fail
  refine HP.out.mono ?_
  rintro e w1 ⟨rfl, hw⟩
  replace hw := hw.symm
  subst hw
  go_wp2
  go_ret
  exact ⟨rfl, rfl⟩
section
variable {w : World} {x : IxC} {O : Nat → Prop} {L : List Labs}
theorem has_any (h : IxL w x O L) (k : Int) (n v : ByteArray) :
    Calls Tryz.prog 73 #[.pointer (some ⟨x.xb, 0, none⟩), matV k n v] w (SelP w L.length (HasQ L n (fun _ => true))) := by
  have k0 : Kept w (w.alloc (.cells #[.int .i64 k, .string n, .string v] 52)) := (Only.refl _ w).alloc _
  have h0 := h.stay k0
  have HH := hid (having_any h0.at_ h0.is h0.sum n 97 #[] (fun _ => true) (takes_has _))
  have HK := hid k0
  have HT := hid (fun acc hp => hav_sel (acc := acc) h.tells (fun l hl => (h.made l hl).rise) n (fun _ => true) hp)
  have HN := hid h.len
  clear h h0 k0
  generalize x.xb = XB at *
  go_enter Tryz.func73, Tryz.ntmps73
  go_wp2_with fail
  refine HH.out.mono ?_
  rintro e w1 ⟨u, acc, rfl, hat, hp, k1⟩
  have hs : Sel (sortN acc) _ := HT.out acc hp
  generalize sortN acc = SL at hat hs
  obtain ⟨a, c, e⟩ := ownN_slice hat
  have HS := hid hs
  have HA := hid (show NumAt w1 w.heap.size u SL from ownN_base hat (by simp))
  have K1 := hid (HK.out.trans k1 (fun _ _ f => f))
  clear hat hp k1 HH hs
  generalize hSL : SL.length = NS at e
  subst e
  go_wp2
  go_ret
  exact selP_num HA.out HS.out (HS.out.len (fun i hi => by obtain ⟨l, v, e, _⟩ := hi; exact (List.getElem?_eq_some_iff.1 e).1) (by have := HN.out; omega)) K1.out

set_option maxRecDepth 100000 in
set_option maxHeartbeats 3200000 in
theorem equal_ix (h : IxL w x O L) (k : Int) (n v : ByteArray) (hn : n.size ≤ 100000) (hv : v.size ≤ 100000) :
    Calls Tryz.prog 70 #[.pointer (some ⟨x.xb, 0, none⟩), matV k n v] w (SelP w L.length (FitI L (1, n, v))) := by
  have k0 : Kept w (w.alloc (.cells #[.int .i64 k, .string n, .string v] 52)) := (Only.refl _ w).alloc _
  have hb0 := Blk.new w [.int .i64 k, .string n, .string v] 52
  by_cases hv0 : v.size = 0
  · have hvs : v.toList.isEmpty = true := is_empty hv0
    have HALL := hid (fun W (kW : Kept (w.alloc (.cells #[.int .i64 k, .string n, .string v] 52)) W) => all_ix ((h.stay k0).stay kW).at_ (by rw [h.n]; have := h.len; omega))
    have HHAS := hid (fun W (kW : Kept (w.alloc (.cells #[.int .i64 k, .string n, .string v] 52)) W) => has_any ((h.stay k0).stay kW) k n v)
    have S0 := hid (fun W (kW : Kept (w.alloc (.cells #[.int .i64 k, .string n, .string v] 52)) W) => (show W.cell? ⟨w.heap.size, 0, none⟩ = some (.int .i64 k) ∧ W.cell? ⟨w.heap.size, 1, none⟩ = some (.string n) ∧ W.cell? ⟨w.heap.size, 2, none⟩ = some (.string v) from ⟨(kW.blk hb0 (fun f => f)).cell 0 rfl, (kW.blk hb0 (fun f => f)).cell 1 rfl, (kW.blk hb0 (fun f => f)).cell 2 rfl⟩))
    have HFIN := hid (fun l2 (hs : Sel l2 (HasQ L n (fun _ => true))) => ((Sel.all L.length (by have := h.len; omega)).sub hs).mono (fit_empty h.made n v hv0))
    have HLT := hid (fun i (hi : FitI L (1, n, v) i) => hi.lt)
    have HK := hid k0
    have c2 := hb0.cell 2 rfl
    have hlen := h.len
    rw [h.n] at HALL
    clear h hb0 k0 hv0
    generalize x.xb = XB at *
    generalize hLN : L.length = LN at *
    go_enter Tryz.func70, Tryz.ntmps70
    go_wp2_with fail
    generalize w.alloc (.cells #[.int .i64 k, .string n, .string v] 52) = w0 at HALL HHAS S0 HK c2 ⊢
    refine wp_region_noPanic ?_
    refine wp_region_last (L := 1000) (S := fun w' => Kept w0 w') (by kernel_rfl) ?_
    have K0 := hid (show Kept w0 w0.drew from (Only.refl _ _).drew)
    refine wpAnyN_take (i := 0) (v := .pointer (some ⟨XB, 0, none⟩)) rfl (by kernel_rfl) (by kernel_rfl) (by kernel_rfl) (by decide) (by kernel_rfl) (fun _ _ _ h => h) (Or.inl ⟨by rfl, ?_⟩) K0.out ?_
    · (intro w' hSw; obtain ⟨s0, s1, s2⟩ := S0.out w' hSw; clear hSw; go_simp)
    (try simp only [List.getElem_toArray, List.getElem_cons_succ, List.getElem_cons_zero])
    go_frame
    refine wpAnyN_take (i := 2) (v := .pointer (some ⟨XB, 0, none⟩)) rfl (by kernel_rfl) (by kernel_rfl) (by kernel_rfl) (by decide) (by kernel_rfl) (fun _ _ _ h => h) (Or.inl ⟨by rfl, ?_⟩) K0.out ?_
    · (intro w' hSw; obtain ⟨s0, s1, s2⟩ := S0.out w' hSw; clear hSw; go_simp)
    (try simp only [List.getElem_toArray, List.getElem_cons_succ, List.getElem_cons_zero])
    go_frame
    refine wpAnyN_take (i := 3) (v := .agg #[.int .i64 k, .string n, .string v]) rfl (by kernel_rfl) (by kernel_rfl) (by kernel_rfl) (by decide) (by kernel_rfl) (fun _ _ _ h => h) (Or.inl ⟨by rfl, ?_⟩) K0.out ?_
    · (intro w' hSw; obtain ⟨s0, s1, s2⟩ := S0.out w' hSw; clear hSw; go_simp)
    (try simp only [List.getElem_toArray, List.getElem_cons_succ, List.getElem_cons_zero])
    go_frame
    refine wpAnyL_one (i := 1) (by kernel_rfl) rfl rfl ?_
    go_simp
    refine (HALL.out _ K0.out).mono ?_
    rintro e w1 ⟨u1, rfl, hat1, k1⟩
    have K1 := hid (show Kept w0 w1 from K0.out.trans k1 (fun _ _ f => f))
    have HAT1 := hid (Po.own_isrc hat1)
    clear hat1 k1
    refine ⟨K1.out, ?_⟩
    (try go_frame)
    refine wpAnyL_one (i := 4) (by kernel_rfl) rfl rfl ?_
    go_simp
    refine (HHAS.out _ K1.out).mono ?_
    rintro e w2 ⟨u2, l2, rfl, hs2, hsel2, hl2, k2⟩
    have K2 := hid (show Kept w0 w2 from K1.out.trans k2 (fun _ _ f => f))
    have HSEL2 := hid hsel2
    have HSUB := hid (Po.sub_any w2 u1 u2 (allN LN) l2 (HAT1.out.stay k2) hs2 (by rw [allN_len]; omega) (by omega))
    clear hs2 hsel2 k2
    refine ⟨K2.out, ?_⟩
    (try go_frame)
    refine wpAnyL_one (i := 5) (by kernel_rfl) rfl rfl ?_
    go_simp
    refine HSUB.out.mono ?_
    rintro e w3 ⟨u3, rfl, hat3, k3⟩
    obtain ⟨a3, c3, e3⟩ := ownN_slice hat3
    have K3 := hid (show Kept w0 w3 from K2.out.trans k3 (fun _ _ f => f))
    have HIS := hid (Po.own_isrc hat3)
    clear hat3 k3
    refine ⟨K3.out, ?_⟩
    (try go_frame)
    generalize hL3 : Po.setL 2 (allN LN) l2 = L3 at HIS e3
    have HL3 := hid hL3
    clear hL3
    generalize hN3 : L3.length = N3 at e3
    subst e3
    refine wpAnyL_one (i := 6) (by kernel_rfl) rfl rfl ?_
    go_simp
    refine ⟨K3.out, ?_⟩
    (try go_frame)
    refine wpAnyN_done (by kernel_rfl) ?_
    refine NoPanic.normal ?_
    go_wp2_with fail
    go_ret
    have hsel := HFIN.out _ HSEL2.out
    rw [HL3.out] at hsel
    exact ⟨_, L3, rfl, HIS.out, hsel, hsel.len HLT.out (by omega), HK.out.trans K3.out (fun _ _ f => f)⟩
  · have hvs : v.toList.isEmpty = false := not_empty hv0
    have h0 := h.stay k0
    obtain ⟨hs1, _⟩ := h0.at_.slice h0.is (n, v) ⟨hn, hv⟩
    have hlk := look_sl (x := (n, v)) h0.at_.map (small_max (x := (n, v)) ⟨hn, hv⟩).1 (small_max (x := (n, v)) ⟨hn, hv⟩).2
    have hsel := (h.look (n, v)).mono (fit_equal h.made n v hv0)
    have HP := hid (show SelP w L.length (FitI L (1, n, v)) (.returned (slV (slOf x (n, v)))) (w.alloc (.cells #[.int .i64 k, .string n, .string v] 52)) from
      ⟨_, _, rfl, Po.own_isrc hs1, hsel, hsel.len (fun i hi => hi.lt) (by have := h.len; omega), k0⟩)
    have HQ := hid (fun (W : World) (kd : Kept (w.alloc (.cells #[.int .i64 k, .string n, .string v] 52)) W) => (show SelP w L.length (FitI L (1, n, v)) (.returned (slV (slOf x (n, v)))) W from
      ⟨_, _, rfl, (Po.own_isrc hs1).stay kd, hsel, hsel.len (fun i hi => hi.lt) (by have := h.len; omega), k0.trans kd (fun _ _ f => f)⟩))
    have c0 := hb0.cell 0 rfl
    have c1 := hb0.cell 1 rfl
    have c2 := hb0.cell 2 rfl
    have m1 := h0.at_.blk.cell 1 rfl
    have hsv : ∃ a n0 c, slV (slOf x (n, v)) = .slice a n0 c := by
      cases slOf x (n, v) with
      | none => exact ⟨_, _, _, rfl⟩
      | some q => exact ⟨_, _, _, rfl⟩
    have hlk2 : ∀ m, (Instr.lookup 57 (.map (some x.mb)) (labV (n, v)) false).run Tryz.prog ((w.alloc (.cells #[.int .i64 k, .string n, .string v] 52)).drewN m) = .ok (slV (slOf x (n, v))) ((w.alloc (.cells #[.int .i64 k, .string n, .string v] 52)).drewN m) := fun m => by
      have := h0.stay (show Kept (w.alloc (.cells #[.int .i64 k, .string n, .string v] 52)) ((w.alloc (.cells #[.int .i64 k, .string n, .string v] 52)).drewN m) from ⟨rfl, rfl, rfl, Nat.le_refl _, fun _ _ _ => rfl⟩)
      exact look_sl (x := (n, v)) this.at_.map (small_max (x := (n, v)) ⟨hn, hv⟩).1 (small_max (x := (n, v)) ⟨hn, hv⟩).2
    clear h h0 hs1 hsel hb0 k0 HP hlk hv0
    generalize slV (slOf x (n, v)) = SV at *
    obtain ⟨sa, sn, sc, rfl⟩ := hsv
    generalize x.xb = XB at *
    generalize x.mb = MB at *
    go_enter Tryz.func70, Tryz.ntmps70
    go_wp2_with fail
    generalize w.alloc (.cells #[.int .i64 k, .string n, .string v] 52) = w0 at *
    go_quiet (fail)
    go_wp2
    go_ret
    exact HQ.out _ ⟨rfl, rfl, rfl, Nat.le_refl _, fun _ _ _ => rfl⟩

set_option maxRecDepth 100000 in
set_option maxHeartbeats 3200000 in
theorem not_ix (h : IxL w x O L) (k : Int) (n v : ByteArray) (hn : n.size ≤ 100000) (hv : v.size ≤ 100000) :
    Calls Tryz.prog 71 #[.pointer (some ⟨x.xb, 0, none⟩), matV k n v] w (SelP w L.length (FitI L (2, n, v))) := by
  have k0 : Kept w (w.alloc (.cells #[.int .i64 k, .string n, .string v] 52)) := (Only.refl _ w).alloc _
  have hb0 := Blk.new w [.int .i64 k, .string n, .string v] 52
  have HALL := hid (fun W (kW : Kept (w.alloc (.cells #[.int .i64 k, .string n, .string v] 52)) W) => all_ix ((h.stay k0).stay kW).at_ (by rw [h.n]; have := h.len; omega))
  have HEQ := hid (fun W (kW : Kept (w.alloc (.cells #[.int .i64 k, .string n, .string v] 52)) W) => equal_ix ((h.stay k0).stay kW) k n v hn hv)
  have S0 := hid (fun W (kW : Kept (w.alloc (.cells #[.int .i64 k, .string n, .string v] 52)) W) => (show W.cell? ⟨w.heap.size, 0, none⟩ = some (.int .i64 k) ∧ W.cell? ⟨w.heap.size, 1, none⟩ = some (.string n) ∧ W.cell? ⟨w.heap.size, 2, none⟩ = some (.string v) from ⟨(kW.blk hb0 (fun f => f)).cell 0 rfl, (kW.blk hb0 (fun f => f)).cell 1 rfl, (kW.blk hb0 (fun f => f)).cell 2 rfl⟩))
  have HFIN := hid (fun l2 (hs : Sel l2 (FitI L (1, n, v))) => ((Sel.all L.length (by have := h.len; omega)).sub hs).mono (fit_not n v))
  have HLT := hid (fun i (hi : FitI L (2, n, v) i) => hi.lt)
  have HK := hid k0
  have hlen := h.len
  rw [h.n] at HALL
  clear h hb0 k0
  generalize x.xb = XB at *
  generalize hLN : L.length = LN at *
  go_enter Tryz.func71, Tryz.ntmps71
  go_wp2_with fail
  generalize w.alloc (.cells #[.int .i64 k, .string n, .string v] 52) = w0 at HALL HEQ S0 HK ⊢
  refine wp_region_noPanic ?_
  refine wp_region_last (L := 1000) (S := fun w' => Kept w0 w') (by kernel_rfl) ?_
  have K0 := hid (show Kept w0 w0.drew from (Only.refl _ _).drew)
  refine wpAnyN_take (i := 0) (v := .pointer (some ⟨XB, 0, none⟩)) rfl (by kernel_rfl) (by kernel_rfl) (by kernel_rfl) (by decide) (by kernel_rfl) (fun _ _ _ h => h) (Or.inl ⟨by rfl, ?_⟩) K0.out ?_
  · (intro w' hSw; obtain ⟨s0, s1, s2⟩ := S0.out w' hSw; clear hSw; go_simp)
  (try simp only [List.getElem_toArray, List.getElem_cons_succ, List.getElem_cons_zero])
  go_frame
  refine wpAnyN_take (i := 2) (v := .pointer (some ⟨XB, 0, none⟩)) rfl (by kernel_rfl) (by kernel_rfl) (by kernel_rfl) (by decide) (by kernel_rfl) (fun _ _ _ h => h) (Or.inl ⟨by rfl, ?_⟩) K0.out ?_
  · (intro w' hSw; obtain ⟨s0, s1, s2⟩ := S0.out w' hSw; clear hSw; go_simp)
  (try simp only [List.getElem_toArray, List.getElem_cons_succ, List.getElem_cons_zero])
  go_frame
  refine wpAnyN_take (i := 3) (v := .agg #[.int .i64 k, .string n, .string v]) rfl (by kernel_rfl) (by kernel_rfl) (by kernel_rfl) (by decide) (by kernel_rfl) (fun _ _ _ h => h) (Or.inl ⟨by rfl, ?_⟩) K0.out ?_
  · (intro w' hSw; obtain ⟨s0, s1, s2⟩ := S0.out w' hSw; clear hSw; go_simp)
  (try simp only [List.getElem_toArray, List.getElem_cons_succ, List.getElem_cons_zero])
  go_frame
  refine wpAnyL_one (i := 1) (by kernel_rfl) rfl rfl ?_
  go_simp
  refine (HALL.out _ K0.out).mono ?_
  rintro e w1 ⟨u1, rfl, hat1, k1⟩
  have K1 := hid (show Kept w0 w1 from K0.out.trans k1 (fun _ _ f => f))
  have HAT1 := hid (Po.own_isrc hat1)
  clear hat1 k1
  refine ⟨K1.out, ?_⟩
  (try go_frame)
  refine wpAnyL_one (i := 4) (by kernel_rfl) rfl rfl ?_
  go_simp
  refine (HEQ.out _ K1.out).mono ?_
  rintro e w2 ⟨u2, l2, rfl, hs2, hsel2, hl2, k2⟩
  have K2 := hid (show Kept w0 w2 from K1.out.trans k2 (fun _ _ f => f))
  have HSEL2 := hid hsel2
  have HSUB := hid (Po.sub_any w2 u1 u2 (allN LN) l2 (HAT1.out.stay k2) hs2 (by rw [allN_len]; omega) (by omega))
  clear hs2 hsel2 k2
  refine ⟨K2.out, ?_⟩
  (try go_frame)
  refine wpAnyL_one (i := 5) (by kernel_rfl) rfl rfl ?_
  go_simp
  refine HSUB.out.mono ?_
  rintro e w3 ⟨u3, rfl, hat3, k3⟩
  obtain ⟨a3, c3, e3⟩ := ownN_slice hat3
  have K3 := hid (show Kept w0 w3 from K2.out.trans k3 (fun _ _ f => f))
  have HIS := hid (Po.own_isrc hat3)
  clear hat3 k3
  refine ⟨K3.out, ?_⟩
  (try go_frame)
  generalize hL3 : Po.setL 2 (allN LN) l2 = L3 at HIS e3
  have HL3 := hid hL3
  clear hL3
  generalize hN3 : L3.length = N3 at e3
  subst e3
  refine wpAnyL_one (i := 6) (by kernel_rfl) rfl rfl ?_
  go_simp
  refine ⟨K3.out, ?_⟩
  (try go_frame)
  refine wpAnyN_done (by kernel_rfl) ?_
  refine NoPanic.normal ?_
  go_wp2_with fail
  go_ret
  have hsel := HFIN.out _ HSEL2.out
  rw [HL3.out] at hsel
  exact ⟨_, L3, rfl, HIS.out, hsel, hsel.len HLT.out (by omega), HK.out.trans K3.out (fun _ _ f => f)⟩

set_option maxHeartbeats 800000 in
theorem prefix_ix (h : IxL w x O L) (k : Int) (n v : ByteArray) :
    Calls Tryz.prog 72 #[.pointer (some ⟨x.xb, 0, none⟩), matV k n v] w (SelP w L.length (FitI L (3, n, v))) := by
  have k0 : Kept w (w.alloc (.cells #[.int .i64 k, .string n, .string v] 52)) := (Only.refl _ w).alloc _
  have hb0 := Blk.new w [.int .i64 k, .string n, .string v] 52
  have h0 := h.stay k0
  have HK := hid k0
  have HN := hid h.len
  have hmf : ∀ (fn : Fn) (first cap : Array Value) (w : World), (Instr.makeFunc fn first cap).run Tryz.prog w = .ok (.func fn first cap) w := fun _ _ _ _ => rfl
  by_cases hv0 : v.size = 0
  · have hvs : v.toList.isEmpty = true := is_empty hv0
    have HALL := hid (all_ix h0.at_ (by rw [h.n]; have := h.len; omega))
    have HSEL := hid ((Sel.all L.length (by have := h.len; omega)).mono (fit_any (L := L) n v hv0))
    rw [h.n] at HALL
    have c2 := hb0.cell 2 rfl
    clear h h0 hb0 k0 hv0
    generalize x.xb = XB at *
    go_enter Tryz.func72, Tryz.ntmps72
    go_wp2_with fail
    generalize w.alloc (.cells #[.int .i64 k, .string n, .string v] 52) = w0 at HALL HK c2 ⊢
    refine HALL.out.mono ?_
    rintro e w1 ⟨u, rfl, hat, k1⟩
    obtain ⟨a, c, e⟩ := ownN_slice hat
    rw [allN_len] at e
    have HIS := hid (Po.own_isrc hat)
    have K1 := hid (HK.out.trans k1 (fun _ _ f => f))
    clear hat k1 HALL
    subst e
    go_wp2
    go_ret
    exact ⟨_, _, rfl, HIS.out, HSEL.out, by rw [allN_len]; omega, K1.out⟩
  · have hvs : v.toList.isEmpty = false := not_empty hv0
    have HH := hid (having_any h0.at_ h0.is h0.sum n 95 #[.pointer (some ⟨w.heap.size, 0, none⟩)] _ (takes_prefix _ w.heap.size k n v hb0))
    have HT := hid (fun acc hp => (hav_sel (acc := acc) h.tells (fun l hl => (h.made l hl).rise) n (fun u => Lib.hasPrefix u.data.toList v.data.toList) hp).mono (fit_prefix h.made n v hv0))
    have c1 := hb0.cell 1 rfl
    have c2 := hb0.cell 2 rfl
    clear h h0 hb0 k0 hv0
    generalize x.xb = XB at *
    go_enter Tryz.func72, Tryz.ntmps72
    go_wp2_with fail
    refine HH.out.mono ?_
    rintro e w1 ⟨u, acc, rfl, hat, hp, k1⟩
    have hs : Sel (sortN acc) _ := HT.out acc hp
    generalize sortN acc = SL at hat hs
    obtain ⟨a, c, e⟩ := ownN_slice hat
    have HS := hid hs
    have HA := hid (show NumAt w1 w.heap.size u SL from ownN_base hat (by simp))
    have K1 := hid (HK.out.trans k1 (fun _ _ f => f))
    clear hat hp k1 HH hs
    generalize hSL : SL.length = NS at e
    subst e
    go_wp2
    go_ret
    exact selP_num HA.out HS.out (HS.out.len (fun i hi => hi.lt) (by have := HN.out; omega)) K1.out
end
end Go.Proofs.YtdgkdgbdkhnpcaaGreat.X

/-
  Find: the table of kinds, and the matchers one behind the other.
-/
namespace Go.Proofs.YtdgkdgbdkhnpcaaGreat.X
open Go.RowKit Go.Proofs.Lys Go.Maps Go.Proofs.YtdgkdgbdkhnpcaaGreat.N
set_option linter.unusedVariables false
set_option linter.unusedSimpArgs false

abbrev xEq : Value := .func (.func 70) #[] #[]
abbrev xNot : Value := .func (.func 71) #[] #[]
abbrev xPre : Value := .func (.func 72) #[] #[]
abbrev xHas : Value := .func (.func 73) #[] #[]
/-- The table, as a value. -/
def tabX : Array Value := #[.nilFunc, xEq, xNot, xPre, xHas]
theorem tabX_size : (Tryz.prog.info? 88).map (fun i => i.size) = some tabX.size := by kernel_rfl
theorem tabX_one : tabX.all (fun x => x.oneCell') = true := by decide +kernel

set_option maxRecDepth 100000 in
theorem kinds_ix (w : World) : Calls Tryz.prog 46 #[] w fun e w' => e = .returned (.agg tabX) ∧ Kept w w' := by
  go_enter Tryz.func46, Tryz.ntmps46
  go_wp2_with (refine wpList_store_row rfl 88 _ _ rfl w.heap.size tabX rfl rfl 88 _ (heap_alloc_last w _) tabX_size rfl tabX_one ?_)
  rw [World.setRow_alloc_new]
  exact bodyPost_ret (v := .agg tabX) (results_cell_row rfl _ _ w.heap.size 88 tabX (0, 0) _ rfl (heap_alloc_last w _) Tryz.underlying88 rfl tabX_size) rfl ⟨rfl, (Only.refl _ w).alloc _⟩

theorem has_ix {w : World} {x : IxC} {O : Nat → Prop} {L : List Labs} (h : IxL w x O L) (k : Int) (n v : ByteArray) (h1 : k ≠ 1) (h2 : k ≠ 2) (h3 : k ≠ 3) :
    Calls Tryz.prog 73 #[.pointer (some ⟨x.xb, 0, none⟩), matV k n v] w (SelP w L.length (FitI L (k, n, v))) := by
  refine (has_any h k n v).mono ?_
  rintro e w' ⟨u, l, he, hs, hsel, hl, kk⟩
  exact ⟨u, l, he, hs, hsel.mono (fit_has h.made n v k h1 h2 h3), hl, kk⟩

/-- What Find answers. -/
def FindP (w : World) (L : List Labs) (m : Mats) (e : Ending) (w' : World) : Prop :=
  ∃ u l, e = .returned (.tuple #[u, .int .i64 (checkM m)]) ∧ Po.ISrc w' u l ∧ (checkM m ≠ 0 → l = []) ∧ (checkM m = 0 → Sel l (fun i => i < L.length ∧ ∀ q ∈ m, FitI L q i)) ∧ l.length ≤ L.length ∧ Kept w w'
/-- The series that the first matchers fit. -/
def FitU (L : List Labs) (m : Mats) (k i : Nat) : Prop := i < L.length ∧ ∀ j (hj : j < m.length), j < k → FitI L m[j] i
theorem fitU_step {L : List Labs} {m : Mats} {k : Nat} (hk : k < m.length) (i : Nat) : (FitU L m k i ∧ FitI L m[k] i) ↔ FitU L m (k + 1) i := by
  constructor
  · rintro ⟨⟨h1, h2⟩, h3⟩
    refine ⟨h1, fun j hj hlt => ?_⟩
    by_cases e : j = k
    · subst e
      exact h3
    · exact h2 j hj (by omega)
  · rintro ⟨h1, h2⟩
    exact ⟨⟨h1, fun j hj hlt => h2 j hj (by omega)⟩, h2 k hk (by omega)⟩
theorem fitU_end {L : List Labs} {m : Mats} (i : Nat) : FitU L m m.length i ↔ (i < L.length ∧ ∀ q ∈ m, FitI L q i) := by
  constructor
  · rintro ⟨h1, h2⟩
    refine ⟨h1, fun q hq => ?_⟩
    obtain ⟨j, hj, rfl⟩ := List.getElem_of_mem hq
    exact h2 j hj hj
  · rintro ⟨h1, h2⟩
    exact ⟨h1, fun j hj _ => h2 _ (List.getElem_mem hj)⟩

set_option maxRecDepth 100000 in
set_option maxHeartbeats 6400000 in
theorem find_ix {w : World} {x : IxC} {O : Nat → Prop} {L : List Labs} (h : IxL w x O L) (v : Value) (m : Mats) (hs : MatSrc w v m) (hl : m.length ≤ 100000) (hB : SmallM m) :
    Calls Tryz.prog 19 #[.pointer (some ⟨x.xb, 0, none⟩), v] w (FindP w L m) := by
  have HC := hid (mcheck_any w v m hs hl hB)
  obtain ⟨a1, c1, rfl⟩ := hs.len
  by_cases hck : checkM m = 0
  · have hck8 := (checkM_zero.1 hck).1
    have HOK := hid (checkM_zero.1 hck).2
    have HFIN : Hid (∀ u l w', Po.ISrc w' u l → Sel l (FitU L m m.length) → l.length ≤ L.length → Kept w w' → FindP w L m (.returned (.tuple #[u, .int .i64 0])) w') := fun u l w' h1 h2 h3 h4 =>
      ⟨u, l, by rw [hck], h1, fun e => absurd hck e, fun _ => h2.mono fitU_end, h3, h4⟩
    rw [hck] at HC
    obtain ⟨M, hM⟩ : ∃ M, m.length = M := ⟨_, rfl⟩
    have HS := hid hs
    have HM := hid hM
    rw [hM] at HS HC hl hck8 HFIN ⊢
    have HSM := hid hB
    have hxn := h.n
    have hLl := h.len
    have HST : Hid (∀ W, Kept w W → IxL W x O L) := fun W k => h.stay k
    clear hs hM hck hB h
    go_enter Tryz.func19, Tryz.ntmps19
    go_wp2_with fail
    refine HC.out.mono ?_
    rintro e w1 ⟨rfl, k1⟩
    have HK1 := hid k1
    clear k1 HC
    go_wp2_with fail
    refine (kinds_ix w1).mono ?_
    rintro e w2 ⟨rfl, k2⟩
    have HK2 := hid (HK1.out.trans k2 (fun _ _ f => f))
    clear k2
    have hbT : Blk (w2.alloc (.cells tabX 88)) w2.heap.size tabX.toList 88 := Blk.new w2 tabX.toList 88
    have HBT := hid hbT
    have HK3 := hid (HK2.out.alloc (.cells tabX 88))
    clear hbT HK1 HK2
    go_wp2_with (refine wpList_store_row rfl 88 _ _ rfl w2.heap.size tabX rfl rfl 88 _ (heap_alloc_last w2 _) tabX_size rfl tabX_one ?_; rw [World.setRow_alloc_new]; generalize w2.alloc (.cells tabX 88) = w3 at HBT HK3 ⊢)
    generalize w2.heap.size = T at HBT ⊢
    have HALL := hid (all_ix (HST.out w3 HK3.out).at_ (by omega))
    rw [hxn] at HALL
    generalize hXB : x.xb = XB at *
    have HXB := hid hXB
    clear hXB
    refine HALL.out.mono ?_
    rintro e w4 ⟨u4, rfl, hat4, k4⟩
    have HK4 := hid (HK3.out.trans k4 (fun _ _ f => f))
    have HB4 := hid (Only.blk k4 HBT.out (fun f => f))
    have HAT4 := hid (Po.own_isrc hat4)
    have HSEL4 := hid (show Sel (allN L.length) (FitU L m 0) from (Sel.all L.length (by omega)).mono (fun i => ⟨fun h => ⟨h, fun _ _ h => by omega⟩, fun h => h.1⟩))
    obtain ⟨a4, c4, e4⟩ := ownN_slice hat4
    rw [allN_len] at e4
    subst e4
    clear hat4 k4 HALL HBT HK3
    generalize hLN : L.length = LN at *
    have HLN := hid hLN
    go_wp2_with fail
    go_loopw [8, 21] (fun s8 s21 wr => ∃ (k : Nat) (acc : List Int) (a : Option Addr) (na c : Nat), k ≤ M ∧ s21 = .int .i64 (k : Int) ∧ s8 = .slice a na c ∧ Po.ISrc wr (.slice a na c) acc ∧ Hid (Sel acc (FitU L m k)) ∧ acc.length ≤ LN ∧ Kept w4 wr) (fun _ s21 _ => M - (intOf s21).toNat)
    case atStart => exact ⟨0, allN LN, a4, LN, c4, by omega, rfl, rfl, HAT4.out, hid HSEL4.out, by rw [allN_len]; omega, Only.refl _ _⟩
    case round =>
      obtain ⟨k, acc, a8, n8, c8, hk, rfl, rfl, his, hsel, hal, kr⟩ := hrel
      have HIS := hid his
      have HK := hid kr
      have HKW := hid (HK4.out.trans kr (fun _ _ f => f))
      by_cases hlt : k < M
      · have hkm : k < m.length := by have := HM.out; omega
        obtain ⟨b1, o1, rfl, x1, y1, z1⟩ := (HS.out.stay HKW.out).cell HM.out k hlt
        have hmo := matOk_parts (HOK.out _ (List.getElem_mem hkm))
        have HSTEP := hid (fun i => fitU_step (L := L) hkm i)
        have HBr := hid (Only.blk kr HB4.out (fun f => f))
        have hsz : (m[k]'hkm).2.1.size ≤ 100000 ∧ (m[k]'hkm).2.2.size ≤ 100000 := HSM.out _ (List.getElem_mem hkm)
        clear his kr
        generalize m[k]'hkm = q at x1 y1 z1 HSTEP hmo hsz
        obtain ⟨N, X, Y⟩ := q
        simp only at x1 y1 z1 hmo hsz
        have hN : N = 1 ∨ N = 2 ∨ N = 3 ∨ N = 4 := by omega
        have hsX := hsz.1
        have hsY := hsz.2
        have hbm := Blk.new wr [.int .i64 N, .string X, .string Y] 52
        have ka : Kept wr (wr.alloc (.cells #[.int .i64 N, .string X, .string Y] 52)) := (Only.refl _ wr).alloc _
        have hbt := Only.blk ka HBr.out (fun f => f)
        have HISw := hid (HIS.out.stay ka)
        have HKw := hid (HK.out.trans ka (fun _ _ f => f))
        have HXw := hid (HST.out _ (HKW.out.trans ka (fun _ _ f => f)))
        clear hmo hsz ka
        rcases hN with rfl | rfl | rfl | rfl
        · have HQ := hid (fun W (kW : Kept (wr.alloc (.cells #[.int .i64 1, .string X, .string Y] 52)) W) => equal_ix (HXw.out.stay kW) 1 X Y hsX hsY)
          rw [HXB.out, HLN.out] at HQ
          have S0 := hid (fun W (kW : Kept (wr.alloc (.cells #[.int .i64 1, .string X, .string Y] 52)) W) => (show W.cell? ⟨wr.heap.size, 0, none⟩ = some (.int .i64 1) ∧ W.cell? ⟨wr.heap.size, 1, none⟩ = some (.string X) ∧ W.cell? ⟨wr.heap.size, 2, none⟩ = some (.string Y) ∧ W.cell? ⟨T, 1, none⟩ = some (.func (.func 70) #[] #[]) from ⟨(kW.blk hbm (fun f => f)).cell 0 rfl, (kW.blk hbm (fun f => f)).cell 1 rfl, (kW.blk hbm (fun f => f)).cell 2 rfl, (kW.blk hbt (fun f => f)).cell 1 rfl⟩))
          have eg : ∀ args w, (callFunc 70 args).run Tryz.prog w = .ok (.enter 70 args) w := enters_of Tryz.func70 (by kernel_rfl) rfl
          clear hbm hbt
          go_wp2_with fail
          generalize wr.alloc (.cells #[.int .i64 1, .string X, .string Y] 52) = w5 at HQ S0 HISw HKw ⊢
          generalize wr.heap.size = B5 at S0 ⊢
          refine wp_region_noPanic ?_
          refine wp_region_last (L := 1000) (S := fun w' => Kept w5 w') (by kernel_rfl) ?_
          have K0 := hid (show Kept w5 w5.drew from (Only.refl _ _).drew)
          refine wpAnyN_take (i := 0) (v := .slice a8 n8 c8) rfl (by kernel_rfl) (by kernel_rfl) (by kernel_rfl) (by decide) (by kernel_rfl) (fun _ _ _ h => h) (Or.inl ⟨by rfl, ?_⟩) K0.out ?_
          · (intro w' hSw; obtain ⟨s0, s1, s2, s3⟩ := S0.out w' hSw; clear hSw; go_simp)
          (try simp only [List.getElem_toArray, List.getElem_cons_succ, List.getElem_cons_zero])
          go_frame
          refine wpAnyN_take (i := 1) (v := .pointer (some ⟨B5, 0, none⟩)) rfl (by kernel_rfl) (by kernel_rfl) (by kernel_rfl) (by decide) (by kernel_rfl) (fun _ _ _ h => h) (Or.inl ⟨by rfl, ?_⟩) K0.out ?_
          · (intro w' hSw; obtain ⟨s0, s1, s2, s3⟩ := S0.out w' hSw; clear hSw; go_simp)
          (try simp only [List.getElem_toArray, List.getElem_cons_succ, List.getElem_cons_zero])
          go_frame
          refine wpAnyN_take (i := 2) (v := .int .i64 1) rfl (by kernel_rfl) (by kernel_rfl) (by kernel_rfl) (by decide) (by kernel_rfl) (fun _ _ _ h => h) (Or.inl ⟨by rfl, ?_⟩) K0.out ?_
          · (intro w' hSw; obtain ⟨s0, s1, s2, s3⟩ := S0.out w' hSw; clear hSw; go_simp)
          (try simp only [List.getElem_toArray, List.getElem_cons_succ, List.getElem_cons_zero])
          go_frame
          refine wpAnyN_take (i := 3) (v := .pointer (some ⟨T, 1, none⟩)) rfl (by kernel_rfl) (by kernel_rfl) (by kernel_rfl) (by decide) (by kernel_rfl) (fun _ _ _ h => h) (Or.inl ⟨by rfl, ?_⟩) K0.out ?_
          · (intro w' hSw; obtain ⟨s0, s1, s2, s3⟩ := S0.out w' hSw; clear hSw; go_simp)
          (try simp only [List.getElem_toArray, List.getElem_cons_succ, List.getElem_cons_zero])
          go_frame
          refine wpAnyN_take (i := 4) (v := .func (.func 70) #[] #[]) rfl (by kernel_rfl) (by kernel_rfl) (by kernel_rfl) (by decide) (by kernel_rfl) (fun _ _ _ h => h) (Or.inl ⟨by rfl, ?_⟩) K0.out ?_
          · (intro w' hSw; obtain ⟨s0, s1, s2, s3⟩ := S0.out w' hSw; clear hSw; go_simp)
          (try simp only [List.getElem_toArray, List.getElem_cons_succ, List.getElem_cons_zero])
          go_frame
          refine wpAnyN_take (i := 5) (v := .pointer (some ⟨XB, 0, none⟩)) rfl (by kernel_rfl) (by kernel_rfl) (by kernel_rfl) (by decide) (by kernel_rfl) (fun _ _ _ h => h) (Or.inl ⟨by rfl, ?_⟩) K0.out ?_
          · (intro w' hSw; obtain ⟨s0, s1, s2, s3⟩ := S0.out w' hSw; clear hSw; go_simp)
          (try simp only [List.getElem_toArray, List.getElem_cons_succ, List.getElem_cons_zero])
          go_frame
          refine wpAnyN_take (i := 6) (v := .agg #[.int .i64 1, .string X, .string Y]) rfl (by kernel_rfl) (by kernel_rfl) (by kernel_rfl) (by decide) (by kernel_rfl) (fun _ _ _ h => h) (Or.inl ⟨by rfl, ?_⟩) K0.out ?_
          · (intro w' hSw; obtain ⟨s0, s1, s2, s3⟩ := S0.out w' hSw; clear hSw; go_simp)
          (try simp only [List.getElem_toArray, List.getElem_cons_succ, List.getElem_cons_zero])
          go_frame
          refine wpAnyL_one (i := 7) (by kernel_rfl) rfl rfl ?_
          go_simp
          refine (HQ.out _ K0.out).mono ?_
          rintro e w6 ⟨u6, l6, rfl, hs6, hsel6, hl6, k6⟩
          have K6 := hid (show Kept w5 w6 from K0.out.trans k6 (fun _ _ f => f))
          have HSEL6 := hid hsel6
          have HAND := hid (Po.and_any w6 (.slice a8 n8 c8) u6 acc l6 ((HISw.out.stay K0.out).stay k6) hs6 (by omega) (by omega))
          clear hs6 hsel6 k6
          refine ⟨K6.out, ?_⟩
          (try go_frame)
          refine wpAnyL_one (i := 8) (by kernel_rfl) rfl rfl ?_
          go_simp
          refine HAND.out.mono ?_
          rintro e w7 ⟨u7, rfl, hat7, k7⟩
          obtain ⟨a7, c7, e7⟩ := ownN_slice hat7
          have K7 := hid (show Kept w5 w7 from K6.out.trans k7 (fun _ _ f => f))
          have HIS7 := hid (Po.own_isrc hat7)
          have HS7 := hid (((Sel.and hsel.out HSEL6.out).mono HSTEP.out))
          have HL7 := hid (HS7.out.len (n := LN) (fun i hi => by have := hi.1; have := HLN.out; omega) (by omega))
          clear hat7 k7
          refine ⟨K7.out, ?_⟩
          (try go_frame)
          generalize Po.setL 0 acc l6 = L7 at HIS7 e7 HS7 HL7
          generalize hN7 : L7.length = N7 at e7
          subst e7
          refine wpAnyL_one (i := 9) (by kernel_rfl) rfl rfl ?_
          go_simp
          refine ⟨K7.out, ?_⟩
          (try go_frame)
          refine wpAnyN_done (by kernel_rfl) ?_
          refine NoPanic.normal ?_
          go_wp2_with fail
          go_roundw
          case rel => exact ⟨k + 1, L7, a7, N7, c7, by omega, by go_num, rfl, HIS7.out, hid HS7.out, HL7.out, HKw.out.trans K7.out (fun _ _ f => f)⟩
          case measure => simp [intOf]; omega
        · have HQ := hid (fun W (kW : Kept (wr.alloc (.cells #[.int .i64 2, .string X, .string Y] 52)) W) => not_ix (HXw.out.stay kW) 2 X Y hsX hsY)
          rw [HXB.out, HLN.out] at HQ
          have S0 := hid (fun W (kW : Kept (wr.alloc (.cells #[.int .i64 2, .string X, .string Y] 52)) W) => (show W.cell? ⟨wr.heap.size, 0, none⟩ = some (.int .i64 2) ∧ W.cell? ⟨wr.heap.size, 1, none⟩ = some (.string X) ∧ W.cell? ⟨wr.heap.size, 2, none⟩ = some (.string Y) ∧ W.cell? ⟨T, 2, none⟩ = some (.func (.func 71) #[] #[]) from ⟨(kW.blk hbm (fun f => f)).cell 0 rfl, (kW.blk hbm (fun f => f)).cell 1 rfl, (kW.blk hbm (fun f => f)).cell 2 rfl, (kW.blk hbt (fun f => f)).cell 2 rfl⟩))
          have eg : ∀ args w, (callFunc 71 args).run Tryz.prog w = .ok (.enter 71 args) w := enters_of Tryz.func71 (by kernel_rfl) rfl
          clear hbm hbt
          go_wp2_with fail
          generalize wr.alloc (.cells #[.int .i64 2, .string X, .string Y] 52) = w5 at HQ S0 HISw HKw ⊢
          generalize wr.heap.size = B5 at S0 ⊢
          refine wp_region_noPanic ?_
          refine wp_region_last (L := 1000) (S := fun w' => Kept w5 w') (by kernel_rfl) ?_
          have K0 := hid (show Kept w5 w5.drew from (Only.refl _ _).drew)
          refine wpAnyN_take (i := 0) (v := .slice a8 n8 c8) rfl (by kernel_rfl) (by kernel_rfl) (by kernel_rfl) (by decide) (by kernel_rfl) (fun _ _ _ h => h) (Or.inl ⟨by rfl, ?_⟩) K0.out ?_
          · (intro w' hSw; obtain ⟨s0, s1, s2, s3⟩ := S0.out w' hSw; clear hSw; go_simp)
          (try simp only [List.getElem_toArray, List.getElem_cons_succ, List.getElem_cons_zero])
          go_frame
          refine wpAnyN_take (i := 1) (v := .pointer (some ⟨B5, 0, none⟩)) rfl (by kernel_rfl) (by kernel_rfl) (by kernel_rfl) (by decide) (by kernel_rfl) (fun _ _ _ h => h) (Or.inl ⟨by rfl, ?_⟩) K0.out ?_
          · (intro w' hSw; obtain ⟨s0, s1, s2, s3⟩ := S0.out w' hSw; clear hSw; go_simp)
          (try simp only [List.getElem_toArray, List.getElem_cons_succ, List.getElem_cons_zero])
          go_frame
          refine wpAnyN_take (i := 2) (v := .int .i64 2) rfl (by kernel_rfl) (by kernel_rfl) (by kernel_rfl) (by decide) (by kernel_rfl) (fun _ _ _ h => h) (Or.inl ⟨by rfl, ?_⟩) K0.out ?_
          · (intro w' hSw; obtain ⟨s0, s1, s2, s3⟩ := S0.out w' hSw; clear hSw; go_simp)
          (try simp only [List.getElem_toArray, List.getElem_cons_succ, List.getElem_cons_zero])
          go_frame
          refine wpAnyN_take (i := 3) (v := .pointer (some ⟨T, 2, none⟩)) rfl (by kernel_rfl) (by kernel_rfl) (by kernel_rfl) (by decide) (by kernel_rfl) (fun _ _ _ h => h) (Or.inl ⟨by rfl, ?_⟩) K0.out ?_
          · (intro w' hSw; obtain ⟨s0, s1, s2, s3⟩ := S0.out w' hSw; clear hSw; go_simp)
          (try simp only [List.getElem_toArray, List.getElem_cons_succ, List.getElem_cons_zero])
          go_frame
          refine wpAnyN_take (i := 4) (v := .func (.func 71) #[] #[]) rfl (by kernel_rfl) (by kernel_rfl) (by kernel_rfl) (by decide) (by kernel_rfl) (fun _ _ _ h => h) (Or.inl ⟨by rfl, ?_⟩) K0.out ?_
          · (intro w' hSw; obtain ⟨s0, s1, s2, s3⟩ := S0.out w' hSw; clear hSw; go_simp)
          (try simp only [List.getElem_toArray, List.getElem_cons_succ, List.getElem_cons_zero])
          go_frame
          refine wpAnyN_take (i := 5) (v := .pointer (some ⟨XB, 0, none⟩)) rfl (by kernel_rfl) (by kernel_rfl) (by kernel_rfl) (by decide) (by kernel_rfl) (fun _ _ _ h => h) (Or.inl ⟨by rfl, ?_⟩) K0.out ?_
          · (intro w' hSw; obtain ⟨s0, s1, s2, s3⟩ := S0.out w' hSw; clear hSw; go_simp)
          (try simp only [List.getElem_toArray, List.getElem_cons_succ, List.getElem_cons_zero])
          go_frame
          refine wpAnyN_take (i := 6) (v := .agg #[.int .i64 2, .string X, .string Y]) rfl (by kernel_rfl) (by kernel_rfl) (by kernel_rfl) (by decide) (by kernel_rfl) (fun _ _ _ h => h) (Or.inl ⟨by rfl, ?_⟩) K0.out ?_
          · (intro w' hSw; obtain ⟨s0, s1, s2, s3⟩ := S0.out w' hSw; clear hSw; go_simp)
          (try simp only [List.getElem_toArray, List.getElem_cons_succ, List.getElem_cons_zero])
          go_frame
          refine wpAnyL_one (i := 7) (by kernel_rfl) rfl rfl ?_
          go_simp
          refine (HQ.out _ K0.out).mono ?_
          rintro e w6 ⟨u6, l6, rfl, hs6, hsel6, hl6, k6⟩
          have K6 := hid (show Kept w5 w6 from K0.out.trans k6 (fun _ _ f => f))
          have HSEL6 := hid hsel6
          have HAND := hid (Po.and_any w6 (.slice a8 n8 c8) u6 acc l6 ((HISw.out.stay K0.out).stay k6) hs6 (by omega) (by omega))
          clear hs6 hsel6 k6
          refine ⟨K6.out, ?_⟩
          (try go_frame)
          refine wpAnyL_one (i := 8) (by kernel_rfl) rfl rfl ?_
          go_simp
          refine HAND.out.mono ?_
          rintro e w7 ⟨u7, rfl, hat7, k7⟩
          obtain ⟨a7, c7, e7⟩ := ownN_slice hat7
          have K7 := hid (show Kept w5 w7 from K6.out.trans k7 (fun _ _ f => f))
          have HIS7 := hid (Po.own_isrc hat7)
          have HS7 := hid (((Sel.and hsel.out HSEL6.out).mono HSTEP.out))
          have HL7 := hid (HS7.out.len (n := LN) (fun i hi => by have := hi.1; have := HLN.out; omega) (by omega))
          clear hat7 k7
          refine ⟨K7.out, ?_⟩
          (try go_frame)
          generalize Po.setL 0 acc l6 = L7 at HIS7 e7 HS7 HL7
          generalize hN7 : L7.length = N7 at e7
          subst e7
          refine wpAnyL_one (i := 9) (by kernel_rfl) rfl rfl ?_
          go_simp
          refine ⟨K7.out, ?_⟩
          (try go_frame)
          refine wpAnyN_done (by kernel_rfl) ?_
          refine NoPanic.normal ?_
          go_wp2_with fail
          go_roundw
          case rel => exact ⟨k + 1, L7, a7, N7, c7, by omega, by go_num, rfl, HIS7.out, hid HS7.out, HL7.out, HKw.out.trans K7.out (fun _ _ f => f)⟩
          case measure => simp [intOf]; omega
        · have HQ := hid (fun W (kW : Kept (wr.alloc (.cells #[.int .i64 3, .string X, .string Y] 52)) W) => prefix_ix (HXw.out.stay kW) 3 X Y)
          rw [HXB.out, HLN.out] at HQ
          have S0 := hid (fun W (kW : Kept (wr.alloc (.cells #[.int .i64 3, .string X, .string Y] 52)) W) => (show W.cell? ⟨wr.heap.size, 0, none⟩ = some (.int .i64 3) ∧ W.cell? ⟨wr.heap.size, 1, none⟩ = some (.string X) ∧ W.cell? ⟨wr.heap.size, 2, none⟩ = some (.string Y) ∧ W.cell? ⟨T, 3, none⟩ = some (.func (.func 72) #[] #[]) from ⟨(kW.blk hbm (fun f => f)).cell 0 rfl, (kW.blk hbm (fun f => f)).cell 1 rfl, (kW.blk hbm (fun f => f)).cell 2 rfl, (kW.blk hbt (fun f => f)).cell 3 rfl⟩))
          have eg : ∀ args w, (callFunc 72 args).run Tryz.prog w = .ok (.enter 72 args) w := enters_of Tryz.func72 (by kernel_rfl) rfl
          clear hbm hbt
          go_wp2_with fail
          generalize wr.alloc (.cells #[.int .i64 3, .string X, .string Y] 52) = w5 at HQ S0 HISw HKw ⊢
          generalize wr.heap.size = B5 at S0 ⊢
          refine wp_region_noPanic ?_
          refine wp_region_last (L := 1000) (S := fun w' => Kept w5 w') (by kernel_rfl) ?_
          have K0 := hid (show Kept w5 w5.drew from (Only.refl _ _).drew)
          refine wpAnyN_take (i := 0) (v := .slice a8 n8 c8) rfl (by kernel_rfl) (by kernel_rfl) (by kernel_rfl) (by decide) (by kernel_rfl) (fun _ _ _ h => h) (Or.inl ⟨by rfl, ?_⟩) K0.out ?_
          · (intro w' hSw; obtain ⟨s0, s1, s2, s3⟩ := S0.out w' hSw; clear hSw; go_simp)
          (try simp only [List.getElem_toArray, List.getElem_cons_succ, List.getElem_cons_zero])
          go_frame
          refine wpAnyN_take (i := 1) (v := .pointer (some ⟨B5, 0, none⟩)) rfl (by kernel_rfl) (by kernel_rfl) (by kernel_rfl) (by decide) (by kernel_rfl) (fun _ _ _ h => h) (Or.inl ⟨by rfl, ?_⟩) K0.out ?_
          · (intro w' hSw; obtain ⟨s0, s1, s2, s3⟩ := S0.out w' hSw; clear hSw; go_simp)
          (try simp only [List.getElem_toArray, List.getElem_cons_succ, List.getElem_cons_zero])
          go_frame
          refine wpAnyN_take (i := 2) (v := .int .i64 3) rfl (by kernel_rfl) (by kernel_rfl) (by kernel_rfl) (by decide) (by kernel_rfl) (fun _ _ _ h => h) (Or.inl ⟨by rfl, ?_⟩) K0.out ?_
          · (intro w' hSw; obtain ⟨s0, s1, s2, s3⟩ := S0.out w' hSw; clear hSw; go_simp)
          (try simp only [List.getElem_toArray, List.getElem_cons_succ, List.getElem_cons_zero])
          go_frame
          refine wpAnyN_take (i := 3) (v := .pointer (some ⟨T, 3, none⟩)) rfl (by kernel_rfl) (by kernel_rfl) (by kernel_rfl) (by decide) (by kernel_rfl) (fun _ _ _ h => h) (Or.inl ⟨by rfl, ?_⟩) K0.out ?_
          · (intro w' hSw; obtain ⟨s0, s1, s2, s3⟩ := S0.out w' hSw; clear hSw; go_simp)
          (try simp only [List.getElem_toArray, List.getElem_cons_succ, List.getElem_cons_zero])
          go_frame
          refine wpAnyN_take (i := 4) (v := .func (.func 72) #[] #[]) rfl (by kernel_rfl) (by kernel_rfl) (by kernel_rfl) (by decide) (by kernel_rfl) (fun _ _ _ h => h) (Or.inl ⟨by rfl, ?_⟩) K0.out ?_
          · (intro w' hSw; obtain ⟨s0, s1, s2, s3⟩ := S0.out w' hSw; clear hSw; go_simp)
          (try simp only [List.getElem_toArray, List.getElem_cons_succ, List.getElem_cons_zero])
          go_frame
          refine wpAnyN_take (i := 5) (v := .pointer (some ⟨XB, 0, none⟩)) rfl (by kernel_rfl) (by kernel_rfl) (by kernel_rfl) (by decide) (by kernel_rfl) (fun _ _ _ h => h) (Or.inl ⟨by rfl, ?_⟩) K0.out ?_
          · (intro w' hSw; obtain ⟨s0, s1, s2, s3⟩ := S0.out w' hSw; clear hSw; go_simp)
          (try simp only [List.getElem_toArray, List.getElem_cons_succ, List.getElem_cons_zero])
          go_frame
          refine wpAnyN_take (i := 6) (v := .agg #[.int .i64 3, .string X, .string Y]) rfl (by kernel_rfl) (by kernel_rfl) (by kernel_rfl) (by decide) (by kernel_rfl) (fun _ _ _ h => h) (Or.inl ⟨by rfl, ?_⟩) K0.out ?_
          · (intro w' hSw; obtain ⟨s0, s1, s2, s3⟩ := S0.out w' hSw; clear hSw; go_simp)
          (try simp only [List.getElem_toArray, List.getElem_cons_succ, List.getElem_cons_zero])
          go_frame
          refine wpAnyL_one (i := 7) (by kernel_rfl) rfl rfl ?_
          go_simp
          refine (HQ.out _ K0.out).mono ?_
          rintro e w6 ⟨u6, l6, rfl, hs6, hsel6, hl6, k6⟩
          have K6 := hid (show Kept w5 w6 from K0.out.trans k6 (fun _ _ f => f))
          have HSEL6 := hid hsel6
          have HAND := hid (Po.and_any w6 (.slice a8 n8 c8) u6 acc l6 ((HISw.out.stay K0.out).stay k6) hs6 (by omega) (by omega))
          clear hs6 hsel6 k6
          refine ⟨K6.out, ?_⟩
          (try go_frame)
          refine wpAnyL_one (i := 8) (by kernel_rfl) rfl rfl ?_
          go_simp
          refine HAND.out.mono ?_
          rintro e w7 ⟨u7, rfl, hat7, k7⟩
          obtain ⟨a7, c7, e7⟩ := ownN_slice hat7
          have K7 := hid (show Kept w5 w7 from K6.out.trans k7 (fun _ _ f => f))
          have HIS7 := hid (Po.own_isrc hat7)
          have HS7 := hid (((Sel.and hsel.out HSEL6.out).mono HSTEP.out))
          have HL7 := hid (HS7.out.len (n := LN) (fun i hi => by have := hi.1; have := HLN.out; omega) (by omega))
          clear hat7 k7
          refine ⟨K7.out, ?_⟩
          (try go_frame)
          generalize Po.setL 0 acc l6 = L7 at HIS7 e7 HS7 HL7
          generalize hN7 : L7.length = N7 at e7
          subst e7
          refine wpAnyL_one (i := 9) (by kernel_rfl) rfl rfl ?_
          go_simp
          refine ⟨K7.out, ?_⟩
          (try go_frame)
          refine wpAnyN_done (by kernel_rfl) ?_
          refine NoPanic.normal ?_
          go_wp2_with fail
          go_roundw
          case rel => exact ⟨k + 1, L7, a7, N7, c7, by omega, by go_num, rfl, HIS7.out, hid HS7.out, HL7.out, HKw.out.trans K7.out (fun _ _ f => f)⟩
          case measure => simp [intOf]; omega
        · have HQ := hid (fun W (kW : Kept (wr.alloc (.cells #[.int .i64 4, .string X, .string Y] 52)) W) => has_ix (HXw.out.stay kW) 4 X Y (by decide) (by decide) (by decide))
          rw [HXB.out, HLN.out] at HQ
          have S0 := hid (fun W (kW : Kept (wr.alloc (.cells #[.int .i64 4, .string X, .string Y] 52)) W) => (show W.cell? ⟨wr.heap.size, 0, none⟩ = some (.int .i64 4) ∧ W.cell? ⟨wr.heap.size, 1, none⟩ = some (.string X) ∧ W.cell? ⟨wr.heap.size, 2, none⟩ = some (.string Y) ∧ W.cell? ⟨T, 4, none⟩ = some (.func (.func 73) #[] #[]) from ⟨(kW.blk hbm (fun f => f)).cell 0 rfl, (kW.blk hbm (fun f => f)).cell 1 rfl, (kW.blk hbm (fun f => f)).cell 2 rfl, (kW.blk hbt (fun f => f)).cell 4 rfl⟩))
          have eg : ∀ args w, (callFunc 73 args).run Tryz.prog w = .ok (.enter 73 args) w := enters_of Tryz.func73 (by kernel_rfl) rfl
          clear hbm hbt
          go_wp2_with fail
          generalize wr.alloc (.cells #[.int .i64 4, .string X, .string Y] 52) = w5 at HQ S0 HISw HKw ⊢
          generalize wr.heap.size = B5 at S0 ⊢
          refine wp_region_noPanic ?_
          refine wp_region_last (L := 1000) (S := fun w' => Kept w5 w') (by kernel_rfl) ?_
          have K0 := hid (show Kept w5 w5.drew from (Only.refl _ _).drew)
          refine wpAnyN_take (i := 0) (v := .slice a8 n8 c8) rfl (by kernel_rfl) (by kernel_rfl) (by kernel_rfl) (by decide) (by kernel_rfl) (fun _ _ _ h => h) (Or.inl ⟨by rfl, ?_⟩) K0.out ?_
          · (intro w' hSw; obtain ⟨s0, s1, s2, s3⟩ := S0.out w' hSw; clear hSw; go_simp)
          (try simp only [List.getElem_toArray, List.getElem_cons_succ, List.getElem_cons_zero])
          go_frame
          refine wpAnyN_take (i := 1) (v := .pointer (some ⟨B5, 0, none⟩)) rfl (by kernel_rfl) (by kernel_rfl) (by kernel_rfl) (by decide) (by kernel_rfl) (fun _ _ _ h => h) (Or.inl ⟨by rfl, ?_⟩) K0.out ?_
          · (intro w' hSw; obtain ⟨s0, s1, s2, s3⟩ := S0.out w' hSw; clear hSw; go_simp)
          (try simp only [List.getElem_toArray, List.getElem_cons_succ, List.getElem_cons_zero])
          go_frame
          refine wpAnyN_take (i := 2) (v := .int .i64 4) rfl (by kernel_rfl) (by kernel_rfl) (by kernel_rfl) (by decide) (by kernel_rfl) (fun _ _ _ h => h) (Or.inl ⟨by rfl, ?_⟩) K0.out ?_
          · (intro w' hSw; obtain ⟨s0, s1, s2, s3⟩ := S0.out w' hSw; clear hSw; go_simp)
          (try simp only [List.getElem_toArray, List.getElem_cons_succ, List.getElem_cons_zero])
          go_frame
          refine wpAnyN_take (i := 3) (v := .pointer (some ⟨T, 4, none⟩)) rfl (by kernel_rfl) (by kernel_rfl) (by kernel_rfl) (by decide) (by kernel_rfl) (fun _ _ _ h => h) (Or.inl ⟨by rfl, ?_⟩) K0.out ?_
          · (intro w' hSw; obtain ⟨s0, s1, s2, s3⟩ := S0.out w' hSw; clear hSw; go_simp)
          (try simp only [List.getElem_toArray, List.getElem_cons_succ, List.getElem_cons_zero])
          go_frame
          refine wpAnyN_take (i := 4) (v := .func (.func 73) #[] #[]) rfl (by kernel_rfl) (by kernel_rfl) (by kernel_rfl) (by decide) (by kernel_rfl) (fun _ _ _ h => h) (Or.inl ⟨by rfl, ?_⟩) K0.out ?_
          · (intro w' hSw; obtain ⟨s0, s1, s2, s3⟩ := S0.out w' hSw; clear hSw; go_simp)
          (try simp only [List.getElem_toArray, List.getElem_cons_succ, List.getElem_cons_zero])
          go_frame
          refine wpAnyN_take (i := 5) (v := .pointer (some ⟨XB, 0, none⟩)) rfl (by kernel_rfl) (by kernel_rfl) (by kernel_rfl) (by decide) (by kernel_rfl) (fun _ _ _ h => h) (Or.inl ⟨by rfl, ?_⟩) K0.out ?_
          · (intro w' hSw; obtain ⟨s0, s1, s2, s3⟩ := S0.out w' hSw; clear hSw; go_simp)
          (try simp only [List.getElem_toArray, List.getElem_cons_succ, List.getElem_cons_zero])
          go_frame
          refine wpAnyN_take (i := 6) (v := .agg #[.int .i64 4, .string X, .string Y]) rfl (by kernel_rfl) (by kernel_rfl) (by kernel_rfl) (by decide) (by kernel_rfl) (fun _ _ _ h => h) (Or.inl ⟨by rfl, ?_⟩) K0.out ?_
          · (intro w' hSw; obtain ⟨s0, s1, s2, s3⟩ := S0.out w' hSw; clear hSw; go_simp)
          (try simp only [List.getElem_toArray, List.getElem_cons_succ, List.getElem_cons_zero])
          go_frame
          refine wpAnyL_one (i := 7) (by kernel_rfl) rfl rfl ?_
          go_simp
          refine (HQ.out _ K0.out).mono ?_
          rintro e w6 ⟨u6, l6, rfl, hs6, hsel6, hl6, k6⟩
          have K6 := hid (show Kept w5 w6 from K0.out.trans k6 (fun _ _ f => f))
          have HSEL6 := hid hsel6
          have HAND := hid (Po.and_any w6 (.slice a8 n8 c8) u6 acc l6 ((HISw.out.stay K0.out).stay k6) hs6 (by omega) (by omega))
          clear hs6 hsel6 k6
          refine ⟨K6.out, ?_⟩
          (try go_frame)
          refine wpAnyL_one (i := 8) (by kernel_rfl) rfl rfl ?_
          go_simp
          refine HAND.out.mono ?_
          rintro e w7 ⟨u7, rfl, hat7, k7⟩
          obtain ⟨a7, c7, e7⟩ := ownN_slice hat7
          have K7 := hid (show Kept w5 w7 from K6.out.trans k7 (fun _ _ f => f))
          have HIS7 := hid (Po.own_isrc hat7)
          have HS7 := hid (((Sel.and hsel.out HSEL6.out).mono HSTEP.out))
          have HL7 := hid (HS7.out.len (n := LN) (fun i hi => by have := hi.1; have := HLN.out; omega) (by omega))
          clear hat7 k7
          refine ⟨K7.out, ?_⟩
          (try go_frame)
          generalize Po.setL 0 acc l6 = L7 at HIS7 e7 HS7 HL7
          generalize hN7 : L7.length = N7 at e7
          subst e7
          refine wpAnyL_one (i := 9) (by kernel_rfl) rfl rfl ?_
          go_simp
          refine ⟨K7.out, ?_⟩
          (try go_frame)
          refine wpAnyN_done (by kernel_rfl) ?_
          refine NoPanic.normal ?_
          go_wp2_with fail
          go_roundw
          case rel => exact ⟨k + 1, L7, a7, N7, c7, by omega, by go_num, rfl, HIS7.out, hid HS7.out, HL7.out, HKw.out.trans K7.out (fun _ _ f => f)⟩
          case measure => simp [intOf]; omega
      · have e : k = M := by omega
        subst e
        have HF := hid (HFIN.out (.slice a8 n8 c8) acc wr HIS.out hsel.out hal HKW.out)
        go_wp2
        go_ret2
        exact HF.out
  · have HFIN : Hid (∀ w', Kept w w' → FindP w L m (.returned (.tuple #[.slice none 0 0, .int .i64 (checkM m)])) w') := fun w' k =>
      ⟨.slice none 0 0, [], rfl, Po.own_isrc (base := 0) (World.ownsRow_nil _ _ _ _), fun _ => rfl, fun e => absurd e hck, Nat.zero_le _, k⟩
    generalize checkM m = C at HC hck HFIN
    have hC : (C != 0) = true := by simpa using hck
    go_enter Tryz.func19, Tryz.ntmps19
    go_wp2_with fail
    refine HC.out.mono ?_
    rintro e w1 ⟨rfl, k1⟩
    have HF := hid (HFIN.out w1 k1)
    clear k1
    go_wp2
    go_ret2
    exact HF.out
end Go.Proofs.YtdgkdgbdkhnpcaaGreat.X

/-
  Labels of many series that came in.
-/
namespace Go.Proofs.YtdgkdgbdkhnpcaaGreat.X
open Go.RowKit Go.Proofs.Lys Go.Maps Go.Proofs.YtdgkdgbdkhnpcaaGreat.N
set_option linter.unusedVariables false
set_option linter.unusedSimpArgs false
/-- Labels of many series that came in. -/
structure LIn (w : World) (v : Value) (L : List Labs) : Prop where
  in_ : ∃ vs : List Value, SrcOf w v vs ∧ vs.length = L.length ∧ ∀ i (h : i < vs.length) (h2 : i < L.length), In w vs[i] L[i]
  len : L.length ≤ 1000000000000000
theorem LIn.src {w : World} {v : Value} {L : List Labs} (h : LIn w v L) : LSrc w v L := by
  obtain ⟨vs, h1, h2, h3⟩ := h.in_
  exact ⟨vs, h1, h2, fun i a b => (h3 i a b).src⟩
theorem LIn.came {w : World} {v : Value} {L : List Labs} (h : LIn w v L) : ∀ l ∈ L, Came l ∧ l.length ≤ 1000000000000000 := by
  intro l hl
  obtain ⟨vs, h1, h2, h3⟩ := h.in_
  obtain ⟨i, hi, rfl⟩ := List.getElem_of_mem hl
  exact ⟨(h3 i (by omega) hi).came, (h3 i (by omega) hi).len⟩
section
variable {H : Type} {enc : TypeId × Value → H} {w : World} {spare : Nat → Bool} {held : Bool} {base fuel : Nat}
theorem Tryz.cellsLabsX : Tryz.prog.cellsOf 25 = 1 := by kernel_rfl
theorem Tryz.byteLabsX : 1 ≤ Tryz.prog.bytesOf 25 := by decide +kernel
theorem open_cellR {cs : List Value} {x : DataW H × List MemPlace} (h : DataW.trod enc Tryz.prog w base spare held fuel 25 cs = some x) (hz : ∀ n ∈ x.1.weights Tryz.prog 25, n ≤ reachBytes) : ∃ q : Value × Labs, cs = [q.1] ∧ In w q.1 q.2 := by
  rcases Deep.open_slice Tryz.underlying25 h with ⟨hcs, _⟩ | ⟨a, len, cap, m, n, D, Pl, hcs, _⟩
  · subst hcs
    obtain ⟨l, hl⟩ := open_labs (a0 := none) (len0 := 0) (cap0 := 0) ⟨fuel, by simpa [Value.cells] using h⟩ hz
    exact ⟨(_, l), rfl, hl⟩
  · subst hcs
    obtain ⟨l, hl⟩ := open_labs (a0 := some a) (len0 := len) (cap0 := cap) ⟨fuel, by simpa [Value.cells] using h⟩ hz
    exact ⟨(_, l), rfl, hl⟩
theorem open_labss {a0 : Option Addr} {len0 cap0 : Nat} {x : DataW H × List MemPlace}
    (h : ∃ m, DataW.trod enc Tryz.prog w base spare held m 22 (Value.slice a0 len0 cap0).cells.toList = some x) (hz : ∀ n ∈ x.1.weights Tryz.prog 22, n ≤ reachBytes) : ∃ l : List Labs, LIn w (.slice a0 len0 cap0) l := by
  obtain ⟨fuel, hf⟩ := h
  rcases Deep.open_slice Tryz.underlying22 hf with ⟨hcs, _⟩ | ⟨a, len, cap, m, n, D, Pl, hcs, _, hl, hm, hmm, rfl, hx⟩
  · simp [Value.cells] at hcs
    obtain ⟨rfl, rfl, rfl⟩ := hcs
    exact ⟨[], ⟨[], .inl ⟨rfl, rfl⟩, rfl, fun i h => absurd h (by simp)⟩, by simp⟩
  · simp [Value.cells] at hcs
    obtain ⟨rfl, rfl, rfl⟩ := hcs
    have hlm : len0 ≤ m := by rw [hmm]; split <;> omega
    have hr := reachBytes_lt
    have hlen : len0 ≤ reachBytes := by
      have h1 := hz ((len0 + (m - len0)) * Tryz.prog.bytesOf 25) (by simp [DataW.weights, Tryz.underlying22])
      have h2 : (len0 + (m - len0)) * 1 ≤ (len0 + (m - len0)) * Tryz.prog.bytesOf 25 := Nat.mul_le_mul_left _ Tryz.byteLabsX
      omega
    have hzi : ∀ i, i < len0 → ∀ n ∈ (D i).weights Tryz.prog 25, n ≤ reachBytes := fun i hi n hn => by
      refine hz n ?_
      simp only [DataW.weights, Tryz.underlying22]
      refine List.mem_cons_of_mem _ (List.mem_append_left _ (weights_all (List.mem_map.2 ⟨i, List.mem_range.2 hi, rfl⟩) n hn))
    have each : ∀ i, i < len0 → ∃ q : Value × Labs, w.cell? (a.add i) = some q.1 ∧ In w q.1 q.2 := by
      intro i hi
      obtain ⟨cs', h1, h2⟩ := hx i (by omega)
      rw [Tryz.cellsLabsX] at h1
      obtain ⟨_, hlen, hcell⟩ := World.cells?_some h1
      obtain ⟨q, rfl, hq⟩ := open_cellR h2 (hzi i hi)
      have c0 := hcell 0 (by simp)
      rw [Deep.add_add] at c0
      exact ⟨q, by simpa using c0, hq⟩
    have hinh : Inhabited (Value × Labs) := ⟨(.slice none 0 0, [])⟩
    obtain ⟨q, hq⟩ := Deep.choose_lt each
    refine ⟨(List.range len0).map (fun i => (q i).2), ⟨(List.range len0).map (fun i => (q i).1), .inr ⟨a, cap0, by simp, fun j u hu => ?_⟩, by simp, fun i h1 h2 => ?_⟩, by simp; omega⟩
    · have hj : j < len0 := by
        have := (List.getElem?_eq_some_iff.1 hu).1
        simpa using this
      have hu2 : (q j).1 = u := by
        rw [List.getElem?_map, List.getElem?_range hj] at hu
        simpa using hu
      rw [← hu2]
      exact (hq j hj).1
    · have hi : i < len0 := by simpa using h1
      simpa using (hq i hi).2
end
end Go.Proofs.YtdgkdgbdkhnpcaaGreat.X

/-
  The law's own small ones: how much labels are, and what of them can be had.
-/
namespace Go.Proofs.YtdgkdgbdkhnpcaaGreat.X
open Go.RowKit Go.Proofs.Lys Go.Maps Go.Proofs.YtdgkdgbdkhnpcaaGreat.N
set_option linter.unusedVariables false
set_option linter.unusedSimpArgs false

theorem num15_any (w : World) (n : Int) : Calls Tryz.prog 10 #[.int .i64 n] w fun e w' => e = .returned (.int .i64 n) ∧ w' = w := by
  go_enter Tryz.func10, Tryz.ntmps10
  go_wp2
  go_ret
  exact ⟨rfl, rfl⟩
def sumN : List Labs → Nat
  | [] => 0
  | l :: r => l.length + sumN r
theorem sumN_app (L : List Labs) (l : Labs) : sumN (L ++ [l]) = sumN L + l.length := by
  induction L with
  | nil => simp [sumN]
  | cons a r ih => simp only [List.cons_append, sumN, ih]; omega
/-- Labels that are not too much. -/
structure Few (L : List Labs) : Prop where
  len : L.length ≤ 300
  each : ∀ l ∈ L, bigN l ≤ 4000
  sum : sumN L ≤ 1500
theorem Few.ok {L : List Labs} (h : Few L) : OkS L := fun l hl => ⟨by have := (bigN_small (h.each l hl)).2; omega, (bigN_small (h.each l hl)).1⟩
def BigX (w : World) (L : List Labs) (e : Ending) (w' : World) : Prop := ∃ b, e = .returned (.bool b) ∧ (b = false → Few L) ∧ Kept w w'

set_option maxRecDepth 100000 in
set_option maxHeartbeats 1600000 in
theorem bigx_any (w : World) (v : Value) (L : List Labs) (hs : LIn w v L) : Calls Tryz.prog 7 #[v] w (BigX w L) := by
  have HC := hid hs.came
  have hl := hs.len
  have hs := hs.src
  obtain ⟨av, c, rfl⟩ := hs.len
  obtain ⟨N, hN⟩ : ∃ N, L.length = N := ⟨_, rfl⟩
  rw [hN] at hl hs ⊢
  have HN := hid hN
  have HS := hid hs
  have HY : Hid (∀ w', Kept w w' → BigX w L (.returned (.bool true)) w') := fun w' k => ⟨true, rfl, fun h => (by cases h), k⟩
  clear hs hN
  by_cases h1 : 300 < N
  · have d1 : decide ((300 : Int) < (N : Int)) = true := decide_eq_true (by omega)
    go_enter Tryz.func7, Tryz.ntmps7
    go_wp2
    go_ret
    exact HY.out _ (Only.refl _ _)
  · have d1 : decide ((300 : Int) < (N : Int)) = false := decide_eq_false (by omega)
    go_enter Tryz.func7, Tryz.ntmps7
    go_wp2
    go_loopw [3, 4] (fun s3 s4 wr => ∃ (k n : Nat), k ≤ N ∧ s4 = .int .i64 (k : Int) ∧ s3 = .int .i64 (n : Int) ∧ n = sumN (L.take k) ∧ n ≤ 4000 * k ∧ Hid (∀ i (hi : i < L.length), i < k → bigN L[i] ≤ 4000) ∧ Kept w wr) (fun _ s4 _ => N - (intOf s4).toNat)
    case atStart => exact ⟨0, 0, by omega, rfl, rfl, rfl, by omega, hid (fun i _ h => by omega), Only.refl _ _⟩
    case round =>
      obtain ⟨k, n, hk, rfl, rfl, hn, hn2, hall, kr⟩ := hrel
      have HSUM := hid hn
      have HK := hid kr
      clear hn
      by_cases hlt : k < N
      · have hkL : k < L.length := by have := HN.out; omega
        obtain ⟨b, o, a', c', rfl, x0, hls⟩ := (HS.out.stay kr).cell HN.out k hlt
        have hc := HC.out L[k] (List.getElem_mem hkL)
        have HB := hid (big_any wr _ L[k] hls (by omega) hc.1)
        have hll := bigN_len L[k]
        have hc2 := hc.2
        have HT : Hid (sumN (L.take (k + 1)) = n + L[k].length) := by
          show sumN (L.take (k + 1)) = n + L[k].length
          rw [← List.take_append_getElem hkL, sumN_app, HSUM.out]
        have X0 := hid (fun W (kW : Kept wr W) => kept_cell kW x0)
        clear kr hls hc
        by_cases hb : 4000 < bigN L[k]
        · rw [decide_eq_true hb] at HB
          generalize L[k].length = NL at *
          go_wp2_with fail
          refine HB.out.mono ?_
          rintro e w1 ⟨rfl, k1⟩
          have HF := hid (HY.out w1 (HK.out.trans k1 (fun _ _ f => f)))
          clear k1
          go_wp2
          go_ret
          exact HF.out
        · rw [decide_eq_false hb] at HB
          have HA : Hid (∀ i (hi : i < L.length), i < k + 1 → bigN L[i] ≤ 4000) := fun i hi hik => by
            by_cases e : i = k
            · subst e
              omega
            · exact hall.out i hi (by omega)
          have hb2 : L[k].length ≤ 4000 := by omega
          clear hb hll hall
          generalize L[k].length = NL at *
          go_wp2_with fail
          refine HB.out.mono ?_
          rintro e w1 ⟨rfl, k1⟩
          have x1 := X0.out w1 k1
          have HK1 := hid (HK.out.trans k1 (fun _ _ f => f))
          clear k1
          have e1 : IntKind.i64.wrap ((n : Int) + (NL : Int)) = (n : Int) + (NL : Int) := by rw [IntKind.wrap_i64]; omega
          go_wp2_with fail
          go_roundw
          case rel => exact ⟨k + 1, n + NL, by omega, by go_num, by (try rw [e1]); go_num, HT.out.symm, by omega, HA, HK1.out⟩
          case measure => simp [intOf]; omega
      · have e : k = N := by omega
        subst e
        have HF : Hid (BigX w L (.returned (.bool (decide ((1500 : Int) < (n : Int))))) wr) := by
          refine ⟨_, rfl, fun h => ⟨by have := HN.out; omega, fun l hl => ?_, ?_⟩, HK.out⟩
          · obtain ⟨i, hi, rfl⟩ := List.getElem_of_mem hl
            exact hall.out i hi (by have := HN.out; omega)
          · have h2 := of_decide_eq_false h
            have h3 := HSUM.out
            rw [List.take_of_length_le (by have := HN.out; omega)] at h3
            omega
        clear hall
        go_wp2
        go_ret
        exact HF.out
theorem Made_.ixl {w w' : World} {L : List Labs} {x : IxC} (h : Made_ w L x w') (hc : checkI L = 0) : IxL w' x (fun k => w.heap.size ≤ k ∧ k < w'.heap.size) L :=
  ⟨h.at_, h.is, h.n, (check_zero.1 hc).2.1, (check_zero.1 hc).1⟩
theorem make_ok {w w' : World} {L : List Labs} {e : Ending} (h : MakeP w L e w') (hc : checkI L = 0) : ∃ x, e = .returned (.tuple #[.pointer (some ⟨x.xb, 0, none⟩), .int .i64 0]) ∧ Made_ w L x w' ∧ Kept w w' := by
  obtain ⟨h1 | h1, k⟩ := h
  · obtain ⟨x, h2, h3⟩ := h1.2
    exact ⟨x, h2, h3, k⟩
  · exact absurd hc h1.1
theorem make_no {w w' : World} {L : List Labs} {e : Ending} (h : MakeP w L e w') (hc : checkI L ≠ 0) : e = .returned (.tuple #[.pointer none, .int .i64 (checkI L)]) ∧ Kept w w' := by
  obtain ⟨h1 | h1, k⟩ := h
  · exact absurd h1.1 hc
  · exact ⟨h1.2, k⟩
end Go.Proofs.YtdgkdgbdkhnpcaaGreat.X

/-
  The example of the document.
-/
namespace Go.Proofs.YtdgkdgbdkhnpcaaGreat.X
open Go.RowKit Go.Proofs.Lys Go.Maps Go.Proofs.YtdgkdgbdkhnpcaaGreat.N
set_option linter.unusedVariables false
set_option linter.unusedSimpArgs false

abbrev exL : List Labs := [[(⟨#[97]⟩, ⟨#[49]⟩)], [(⟨#[97]⟩, ⟨#[49]⟩), (⟨#[98]⟩, ⟨#[50]⟩)]]
abbrev exM1 : Mats := [(1, ⟨#[97]⟩, ⟨#[49]⟩)]
abbrev exM2 : Mats := [(2, ⟨#[98]⟩, ⟨#[50]⟩)]
theorem exL_ok : checkI exL = 0 := by decide +kernel
theorem exM1_ok : checkM exM1 = 0 := by decide +kernel
theorem exM2_ok : checkM exM2 = 0 := by decide +kernel
theorem exL_small : OkS exL := by
  intro l hl
  have : l = [(⟨#[97]⟩, ⟨#[49]⟩)] ∨ l = [(⟨#[97]⟩, ⟨#[49]⟩), (⟨#[98]⟩, ⟨#[50]⟩)] := by simpa using hl
  have sm : ∀ x : Lab, x ∈ ([(⟨#[97]⟩, ⟨#[49]⟩), (⟨#[98]⟩, ⟨#[50]⟩)] : Labs) → x.1.size ≤ 100000 ∧ x.2.size ≤ 100000 := by
    intro x hx
    have : x = (⟨#[97]⟩, ⟨#[49]⟩) ∨ x = (⟨#[98]⟩, ⟨#[50]⟩) := by simpa using hx
    rcases this with rfl | rfl <;> decide
  rcases this with rfl | rfl
  · exact ⟨by decide, fun x hx => sm x (by rw [List.mem_singleton.1 hx]; exact List.mem_cons_self ..)⟩
  · exact ⟨by decide, sm⟩
theorem exM1_small : SmallM exM1 := by
  intro x hx
  rw [List.mem_singleton.1 hx]
  decide
theorem exM2_small : SmallM exM2 := by
  intro x hx
  rw [List.mem_singleton.1 hx]
  decide
theorem ex1_sel : Sel [0, 1] (fun i => i < exL.length ∧ ∀ q ∈ exM1, FitI exL q i) := by
  refine ⟨by decide, fun i => ?_⟩
  match i with
  | 0 => exact ⟨fun _ => ⟨by decide, fun q hq => by rw [List.mem_singleton.1 hq]; exact ⟨_, rfl, by decide +kernel⟩⟩, fun _ => by simp⟩
  | 1 => exact ⟨fun _ => ⟨by decide, fun q hq => by rw [List.mem_singleton.1 hq]; exact ⟨_, rfl, by decide +kernel⟩⟩, fun _ => by simp⟩
  | n + 2 => exact ⟨fun h => by simp at h; omega, fun h => by have := h.1; simp at this; omega⟩
theorem ex2_sel : Sel [0] (fun i => i < exL.length ∧ ∀ q ∈ exM2, FitI exL q i) := by
  refine ⟨by decide, fun i => ?_⟩
  match i with
  | 0 => exact ⟨fun _ => ⟨by decide, fun q hq => by rw [List.mem_singleton.1 hq]; exact ⟨_, rfl, by decide +kernel⟩⟩, fun _ => by simp⟩
  | 1 =>
    refine ⟨fun h => by simp at h, fun h => ?_⟩
    obtain ⟨l, e, h2⟩ := h.2 _ (List.mem_singleton.2 rfl)
    cases e
    exact absurd h2 (by decide +kernel)
  | n + 2 => exact ⟨fun h => by simp at h; omega, fun h => by have := h.1; simp at this; omega⟩
theorem exL_src (w : World) : LSrc (((w.alloc (.cells #[.string ⟨#[97]⟩, .string ⟨#[49]⟩] 27)).alloc (.cells #[.string ⟨#[97]⟩, .string ⟨#[49]⟩, .string ⟨#[98]⟩, .string ⟨#[50]⟩] 27)).alloc (.cells #[.slice (some ⟨w.heap.size, 0, none⟩) 1 1, .slice (some ⟨w.heap.size + 1, 0, none⟩) 2 2] 25)) (.slice (some ⟨w.heap.size + 2, 0, none⟩) 2 2) exL := by
  have b1 := Blk.new w [.string ⟨#[97]⟩, .string ⟨#[49]⟩] 27
  have b2 := Blk.new (w.alloc (.cells #[.string ⟨#[97]⟩, .string ⟨#[49]⟩] 27)) [.string ⟨#[97]⟩, .string ⟨#[49]⟩, .string ⟨#[98]⟩, .string ⟨#[50]⟩] 27
  have b3 := Blk.new ((w.alloc (.cells #[.string ⟨#[97]⟩, .string ⟨#[49]⟩] 27)).alloc (.cells #[.string ⟨#[97]⟩, .string ⟨#[49]⟩, .string ⟨#[98]⟩, .string ⟨#[50]⟩] 27)) [.slice (some ⟨w.heap.size, 0, none⟩) 1 1, .slice (some ⟨w.heap.size + 1, 0, none⟩) 2 2] 25
  have s1 : (w.alloc (.cells #[.string ⟨#[97]⟩, .string ⟨#[49]⟩] 27)).heap.size = w.heap.size + 1 := by simp
  have s2 : ((w.alloc (.cells #[.string ⟨#[97]⟩, .string ⟨#[49]⟩] 27)).alloc (.cells #[.string ⟨#[97]⟩, .string ⟨#[49]⟩, .string ⟨#[98]⟩, .string ⟨#[50]⟩] 27)).heap.size = w.heap.size + 2 := by simp
  rw [s1] at b2
  rw [s2] at b3
  have c1 := (b1.alloc (.cells #[.string ⟨#[97]⟩, .string ⟨#[49]⟩, .string ⟨#[98]⟩, .string ⟨#[50]⟩] 27)).alloc (.cells #[.slice (some ⟨w.heap.size, 0, none⟩) 1 1, .slice (some ⟨w.heap.size + 1, 0, none⟩) 2 2] 25)
  have c2 := b2.alloc (.cells #[.slice (some ⟨w.heap.size, 0, none⟩) 1 1, .slice (some ⟨w.heap.size + 1, 0, none⟩) 2 2] 25)
  refine ⟨[.slice (some ⟨w.heap.size, 0, none⟩) 1 1, .slice (some ⟨w.heap.size + 1, 0, none⟩) 2 2], .inr ⟨⟨w.heap.size + 2, 0, none⟩, 2, rfl, fun j u hu => ?_⟩, rfl, fun i h1 h2 => ?_⟩
  · have : j = 0 ∨ j = 1 := by have := (List.getElem?_eq_some_iff.1 hu).1; simp at this; omega
    rcases this with rfl | rfl
    · cases hu
      exact b3.cell 0 rfl
    · cases hu
      exact b3.cell 1 rfl
  · have : i = 0 ∨ i = 1 := by simp at h1; omega
    rcases this with rfl | rfl
    · refine .inr ⟨Nat.zero_lt_succ _, w.heap.size, 0, 1, rfl, fun i hi => ?_⟩
      have : i = 0 := by simp at hi; omega
      subst this
      exact ⟨c1.cell 0 rfl, c1.cell 1 rfl⟩
    · refine .inr ⟨Nat.zero_lt_succ _, w.heap.size + 1, 0, 2, rfl, fun i hi => ?_⟩
      have : i = 0 ∨ i = 1 := by simp at hi; omega
      rcases this with rfl | rfl
      · exact ⟨c2.cell 0 rfl, c2.cell 1 rfl⟩
      · exact ⟨c2.cell 2 rfl, c2.cell 3 rfl⟩
theorem ints_lit2 (w : World) : SrcOf (w.alloc (.cells #[.int .i64 0, .int .i64 1] 3)) (.slice (some ⟨w.heap.size, 0, none⟩) 2 2) (([0, 1] : List Int).map (Value.int .i64)) := by
  have hb := Blk.new w [.int .i64 0, .int .i64 1] 3
  refine .inr ⟨⟨w.heap.size, 0, none⟩, 2, rfl, fun j u hu => ?_⟩
  have : j = 0 ∨ j = 1 := by have := (List.getElem?_eq_some_iff.1 hu).1; simp at this; omega
  rcases this with rfl | rfl
  · cases hu
    exact hb.cell 0 rfl
  · cases hu
    exact hb.cell 1 rfl
theorem ints_lit1 (w : World) : SrcOf (w.alloc (.cells #[.int .i64 0] 3)) (.slice (some ⟨w.heap.size, 0, none⟩) 1 1) (([0] : List Int).map (Value.int .i64)) := by
  have hb := Blk.new w [.int .i64 0] 3
  refine .inr ⟨⟨w.heap.size, 0, none⟩, 1, rfl, fun j u hu => ?_⟩
  have : j = 0 := by have := (List.getElem?_eq_some_iff.1 hu).1; simp at this; omega
  subst this
  cases hu
  exact hb.cell 0 rfl
theorem find_one {w w' : World} {L : List Labs} {m : Mats} {e : Ending} {l : List Int} (h : FindP w L m e w') (hc : checkM m = 0) (hs : Sel l (fun i => i < L.length ∧ ∀ q ∈ m, FitI L q i)) : ∃ u, e = .returned (.tuple #[u, .int .i64 0]) ∧ Po.ISrc w' u l ∧ Kept w w' := by
  obtain ⟨u, l', rfl, h1, _, h3, _, k⟩ := h
  rw [hc]
  have : l' = l := Sel.ext (h3 hc) hs (fun i => Iff.rfl)
  subst this
  exact ⟨u, rfl, h1, k⟩

set_option maxRecDepth 100000 in
set_option maxHeartbeats 3200000 in
theorem xalive_any (w : World) : Calls Tryz.prog 6 #[] w fun e w' => e = .returned (.bool true) ∧ Kept w w' := by
  have HM := hid (make_ix _ _ exL (exL_src w) (by decide) exL_small)
  have HK0 := hid (show Kept w (((w.alloc (.cells #[.string ⟨#[97]⟩, .string ⟨#[49]⟩] 27)).alloc (.cells #[.string ⟨#[97]⟩, .string ⟨#[49]⟩, .string ⟨#[98]⟩, .string ⟨#[50]⟩] 27)).alloc (.cells #[.slice (some ⟨w.heap.size, 0, none⟩) 1 1, .slice (some ⟨w.heap.size + 1, 0, none⟩) 2 2] 25)) from (((Only.refl (fun _ => False) w).alloc _).alloc _).alloc _)
  have HN := hid num15_any
  go_enter Tryz.func6, Tryz.ntmps6
  go_wp2_with fail
  generalize (((w.alloc (.cells #[.string ⟨#[97]⟩, .string ⟨#[49]⟩] 27)).alloc (.cells #[.string ⟨#[97]⟩, .string ⟨#[49]⟩, .string ⟨#[98]⟩, .string ⟨#[50]⟩] 27)).alloc (.cells #[.slice (some ⟨w.heap.size, 0, none⟩) 1 1, .slice (some ⟨w.heap.size + 1, 0, none⟩) 2 2] 25)) = w0 at HM HK0 ⊢
  refine HM.out.mono ?_
  intro e w1 h1
  obtain ⟨x, rfl, hmd, k1⟩ := make_ok h1 exL_ok
  have HX := hid (hmd.ixl exL_ok)
  have HK1 := hid (HK0.out.trans k1 (fun _ _ f => f))
  clear hmd k1 HM HK0 h1
  have HF1 := hid (find_ix (HX.out.stay ((Only.refl (fun _ => False) w1).alloc (.cells #[.int .i64 1, .string ⟨#[97]⟩, .string ⟨#[49]⟩] 52))) _ exM1 (mat_lit w1 (1, ⟨#[97]⟩, ⟨#[49]⟩)) (by decide) exM1_small)
  have HK2 := hid (HK1.out.alloc (.cells #[.int .i64 1, .string ⟨#[97]⟩, .string ⟨#[49]⟩] 52))
  have HX2 := hid (HX.out.stay ((Only.refl (fun _ => False) w1).alloc (.cells #[.int .i64 1, .string ⟨#[97]⟩, .string ⟨#[49]⟩] 52)))
  clear HX HK1
  generalize hXB : x.xb = XB at *
  have HXB := hid hXB
  clear hXB
  go_wp2_with fail
  refine (HN.out _ _).mono ?_
  rintro e w' ⟨rfl, hw⟩
  replace hw := hw.symm
  subst hw
  go_wp2_with fail
  generalize w1.alloc (.cells #[.int .i64 1, .string ⟨#[97]⟩, .string ⟨#[49]⟩] 52) = w2 at HF1 HK2 HX2 ⊢
  refine HF1.out.mono ?_
  intro e w3 h3
  obtain ⟨u3, rfl, hs3, k3⟩ := find_one h3 exM1_ok ex1_sel
  have HK3 := hid (HK2.out.trans k3 (fun _ _ f => f))
  have HX3 := hid (HX2.out.stay k3)
  obtain ⟨a3, c3, e3, _⟩ := hs3.2
  have e3' : u3 = .slice a3 2 c3 := e3
  clear e3
  subst e3'
  have HS3 := hid hs3
  clear h3 hs3 k3 HF1 HK2 HX2
  have HF2 := hid (find_ix (HX3.out.stay ((Only.refl (fun _ => False) w3).alloc (.cells #[.int .i64 2, .string ⟨#[98]⟩, .string ⟨#[50]⟩] 52))) _ exM2 (mat_lit w3 (2, ⟨#[98]⟩, ⟨#[50]⟩)) (by decide) exM2_small)
  rw [HXB.out] at HF2
  have HK4 := hid (HK3.out.alloc (.cells #[.int .i64 2, .string ⟨#[98]⟩, .string ⟨#[50]⟩] 52))
  have HS4 := hid (HS3.out.stay ((Only.refl (fun _ => False) w3).alloc (.cells #[.int .i64 2, .string ⟨#[98]⟩, .string ⟨#[50]⟩] 52)))
  clear HX3 HK3 HS3
  go_wp2_with fail
  generalize w3.alloc (.cells #[.int .i64 2, .string ⟨#[98]⟩, .string ⟨#[50]⟩] 52) = w4 at HF2 HK4 HS4 ⊢
  refine HF2.out.mono ?_
  intro e w5 h5
  obtain ⟨u5, rfl, hs5, k5⟩ := find_one h5 exM2_ok ex2_sel
  have HK5 := hid (HK4.out.trans k5 (fun _ _ f => f))
  have HS3 := hid (HS4.out.stay k5)
  obtain ⟨a5, c5, e5, _⟩ := hs5.2
  have e5' : u5 = .slice a5 1 c5 := e5
  clear e5
  subst e5'
  have HS5 := hid hs5
  clear h5 hs5 k5 HF2 HK4 HS4
  go_wp2_with fail
  refine (HN.out _ _).mono ?_
  rintro e w' ⟨rfl, hw⟩
  replace hw := hw.symm
  subst hw
  go_wp2_with fail
  refine (HN.out _ _).mono ?_
  rintro e w' ⟨rfl, hw⟩
  replace hw := hw.symm
  subst hw
  have HQ1 := hid (Po.same_any _ _ _ [0, 1] ((HS3.out.stay ((Only.refl (fun _ => False) w5).alloc (.cells #[.int .i64 0, .int .i64 1] 3))).1) (ints_lit2 w5) (by decide))
  have HK6 := hid (HK5.out.alloc (.cells #[.int .i64 0, .int .i64 1] 3))
  have HS6 := hid (HS5.out.stay ((Only.refl (fun _ => False) w5).alloc (.cells #[.int .i64 0, .int .i64 1] 3)))
  clear HS3 HS5 HK5
  go_wp2_with fail
  generalize w5.alloc (.cells #[.int .i64 0, .int .i64 1] 3) = w6 at HQ1 HK6 HS6 ⊢
  refine HQ1.out.mono ?_
  rintro e w7 ⟨rfl, k7⟩
  have HK7 := hid (HK6.out.trans k7 (fun _ _ f => f))
  have HQ2 := hid (Po.same_any _ _ _ [0] (((HS6.out.stay k7).stay ((Only.refl (fun _ => False) w7).alloc (.cells #[.int .i64 0] 3))).1) (ints_lit1 w7) (by decide))
  have HK8 := hid (HK7.out.alloc (.cells #[.int .i64 0] 3))
  clear k7 HQ1 HK6 HK7 HS6
  go_wp2_with fail
  generalize w7.alloc (.cells #[.int .i64 0] 3) = w8 at HQ2 HK8 ⊢
  refine HQ2.out.mono ?_
  rintro e w9 ⟨rfl, k9⟩
  have HK9 := hid (HK8.out.trans k9 (fun _ _ f => f))
  clear k9
  go_wp2
  go_ret
  exact ⟨rfl, HK9.out⟩
end Go.Proofs.YtdgkdgbdkhnpcaaGreat.X
