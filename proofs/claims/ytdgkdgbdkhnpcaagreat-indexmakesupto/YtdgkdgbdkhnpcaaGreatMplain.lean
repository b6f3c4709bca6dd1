/-
  Matchers in plain words: which are taken, which labels they fit, their text, what a text is read as. No program is named here.
-/
import Derived.Test.YtdgkdgbdkhnpcaaGreatNtext
import Derived.Lib.IndexAny
namespace Go.Proofs.YtdgkdgbdkhnpcaaGreat.N
open Go Go.RowKit Go.Proofs.Lys
set_option linter.unusedVariables false
set_option linter.unusedSimpArgs false

abbrev Mat := Int × ByteArray × ByteArray
abbrev Mats := List Mat

/-! ### Check, Fits -/
def roomN (k : Int) : Nat := if k = 4 then 0 else 64
def kindOk (k : Int) : Bool := decide (1 ≤ k) && decide (k ≤ 4)
def matOk (m : Mat) : Bool := kindOk m.1 && nameOk m.2.1 && decide (m.2.2.size ≤ roomN m.1)
def checkM (l : Mats) : Int := if 8 < l.length then 2 else if l.all matOk then 0 else 20
def foundV (of_ : Labs) (n : ByteArray) : ByteArray × Bool := match of_.find? (fun x => decide (x.1 = n)) with
  | some x => (x.2, true)
  | none => (⟨#[]⟩, false)
def fitV (k : Int) (f : ByteArray × Bool) (v : ByteArray) : Bool :=
  if k = 1 then decide (f.1 = v) else if k = 2 then !decide (f.1 = v) else if k = 3 then Lib.hasPrefix f.1.data.toList v.data.toList else f.2
def fitB (of_ : Labs) (m : Mat) : Bool := fitV m.1 (foundV of_ m.2.1) m.2.2
def fitsB (l : Mats) (of_ : Labs) : Bool := decide (checkM l = 0) && l.all (fitB of_)

theorem checkM_zero {l : Mats} : checkM l = 0 ↔ l.length ≤ 8 ∧ ∀ m ∈ l, matOk m = true := by
  unfold checkM
  constructor
  · intro h
    split at h
    · cases h
    · split at h
      · rename_i h1 h2
        exact ⟨by omega, List.all_eq_true.1 h2⟩
      · cases h
  · rintro ⟨h1, h2⟩
    rw [if_neg (by omega), if_pos (List.all_eq_true.2 h2)]
theorem checkM_vals (l : Mats) : checkM l = 0 ∨ checkM l = 2 ∨ checkM l = 20 := by
  unfold checkM
  split
  · exact .inr (.inl rfl)
  · split
    · exact .inl rfl
    · exact .inr (.inr rfl)
theorem matOk_parts {m : Mat} (h : matOk m = true) : 1 ≤ m.1 ∧ m.1 ≤ 4 ∧ nameOk m.2.1 = true ∧ m.2.2.size ≤ roomN m.1 := by
  simp only [matOk, kindOk, Bool.and_eq_true, decide_eq_true_eq] at h
  exact ⟨h.1.1.1, h.1.1.2, h.1.2, h.2⟩

/-! ### Texts -/
def markB (k : Int) : List UInt8 := if k = 1 then [61] else if k = 2 then [33, 61] else if k = 3 then [94, 61] else []
def valT (k : Int) (v : ByteArray) : List UInt8 := if k < 4 then markB k ++ (34 :: (quoteL v.data.toList ++ [34])) else []
def matT (m : Mat) : List UInt8 := m.2.1.data.toList ++ valT m.1 m.2.2
def restM (l : Mats) : List UInt8 := l.flatMap (fun m => 44 :: matT m)
def matsT : Mats → List UInt8
  | [] => []
  | m :: r => matT m ++ restM r
def mtxtL (l : Mats) : List UInt8 := if checkM l = 0 then (if l = [] then [42] else matsT l) else []
theorem matsT_snoc (l : Mats) (m : Mat) : matsT (l ++ [m]) = matsT l ++ ((if l = [] then [] else [44]) ++ matT m) := by
  cases l with
  | nil => simp [matsT, restM]
  | cons y r => simp [matsT, restM]
theorem matsT_more (m : Mat) (m2 : Mat) (r : Mats) : matsT (m :: m2 :: r) = matT m ++ (44 :: matsT (m2 :: r)) := by
  simp [matsT, restM]

/-! ### What a text is read as, by the program -/
def stopB (c : UInt8) : Bool := ([44, 61, 33, 94] : List UInt8).contains c
def unqM (s : List UInt8) : Option (List UInt8) :=
  if s = [] then some [] else match parseL ([123, 118, 61, 34] ++ s ++ [34, 125]) with
    | some [x] => some x.2.data.toList
    | _ => none
def markR (s : List UInt8) : Option (Int × List UInt8) :=
  if Lib.hasPrefix s [61, 34] then some (1, Lib.trimPrefix s [61, 34])
  else if Lib.hasPrefix s [33, 61, 34] then some (2, Lib.trimPrefix s [33, 61, 34])
  else if Lib.hasPrefix s [94, 61, 34] then some (3, Lib.trimPrefix s [94, 61, 34])
  else none
def valM (n : List UInt8) (r : List UInt8) : Option (Mat × List UInt8) := match markR r with
  | none => none
  | some (k, t) => if (Lib.cut t [34]).2.2 then (unqM (Lib.cut t [34]).1).map (fun v => ((k, mkB n, mkB v), (Lib.cut t [34]).2.1)) else none
def matR (s : List UInt8) : Option (Mat × List UInt8) :=
  if s.dropWhile (!stopB ·) = [] ∨ (s.dropWhile (!stopB ·)).head? = some 44 then some ((4, mkB (s.takeWhile (!stopB ·)), mkB []), s.dropWhile (!stopB ·))
  else valM (s.takeWhile (!stopB ·)) (s.dropWhile (!stopB ·))
def mread : Nat → Mats → List UInt8 → Option Mats
  | 0, _, _ => none
  | f + 1, acc, s => match matR s with
    | none => none
    | some (m, r) => if r = [] ∧ checkM (acc ++ [m]) = 0 then some (acc ++ [m]) else match r with
      | [] => none
      | c :: r' => if c = 44 then mread f (acc ++ [m]) r' else none
def parseM (s : List UInt8) : Option Mats := if s = [42] then some [] else mread 8 [] s

theorem quoteL_nil {l : List UInt8} (h : quoteL l = []) : l = [] := by
  cases l with
  | nil => rfl
  | cons c r =>
    exfalso
    unfold quoteL at h
    rw [List.flatMap_cons] at h
    have h1 := (List.append_eq_nil_iff.1 h).1
    unfold quoteB at h1
    split at h1
    · cases h1
    · cases h1
theorem unqM_iff {s v : List UInt8} : unqM s = some v ↔ quoteL v = s ∧ v.length ≤ 64 := by
  constructor
  · intro h
    unfold unqM at h
    split at h
    · rename_i e
      cases h
      subst e
      exact ⟨rfl, by simp⟩
    · split at h
      · rename_i x hp
        cases h
        obtain ⟨hm, ht⟩ := parse_iff.1 hp
        have hok := hm.ok x (List.mem_singleton.2 rfl)
        have hpl := name_plain hok
        have e1 : textL [x] = 123 :: (x.1.data.toList ++ 61 :: (34 :: (quoteL x.2.data.toList ++ [34, 125]))) := by simp [textL, accT, restT, labT]
        have e2 : ([123, 118, 61, 34] ++ s ++ [34, 125] : List UInt8) = 123 :: ([118] ++ 61 :: (34 :: (s ++ [34, 125]))) := by simp
        rw [e1, e2] at ht
        have ht := (List.cons.inj ht).2
        have t1 := take_plain (t := 34 :: (quoteL x.2.data.toList ++ [34, 125])) hpl (show plainB 61 = false by decide)
        have t2 := take_plain (a := [118]) (t := 34 :: (s ++ [34, 125])) (fun c hc => by rw [List.mem_singleton.1 hc]; decide) (show plainB 61 = false by decide)
        have hd := t1.2
        rw [ht, t2.2] at hd
        have hd := (List.cons.inj (List.cons.inj hd).2).2
        have hq := List.append_cancel_right hd
        refine ⟨hq.symm, ?_⟩
        simp only [labOk, valOk, Bool.and_eq_true, decide_eq_true_eq] at hok
        have := hok.2.2
        rw [Lib.size_eq] at this
        exact this
      · cases h
  · rintro ⟨h1, h2⟩
    unfold unqM
    by_cases h0 : s = []
    · rw [if_pos h0]
      rw [h0] at h1
      rw [quoteL_nil h1]
    · rw [if_neg h0]
      have hv : v ≠ [] := fun e => h0 (by rw [← h1, e]; rfl)
      have hvl : 0 < v.length := List.length_pos_iff.2 hv
      have hok : labOk (mkB [118], mkB v) = true := by
        have a1 : nameOk (mkB [118]) = true := by decide
        have a2 : valOk (mkB v) = true := by
          simp only [valOk, Bool.and_eq_true, decide_eq_true_eq]
          rw [Lib.size_eq]
          exact ⟨hvl, h2⟩
        unfold labOk
        rw [a1, a2]
        rfl
      have hm : Made [(mkB [118], mkB v)] := ⟨by simp, by simp, fun x hx => by rw [List.mem_singleton.1 hx]; exact hok, by simp [Rise]⟩
      have ht : textL [(mkB [118], mkB v)] = [123, 118, 61, 34] ++ s ++ [34, 125] := by
        simp [textL, accT, restT, labT, h1]
      rw [parse_iff.2 ⟨hm, ht⟩]

theorem cut_eq {t q r : List UInt8} (h : Lib.cut t [34] = (q, r, true)) : t = q ++ 34 :: r := by
  unfold Lib.cut at h
  split at h
  · rename_i h0
    rcases Lib.index_spec t [34] with ⟨e, _⟩ | ⟨i, e, hi, ho, _⟩
    · omega
    · rw [e] at h
      simp only [Int.toNat_natCast, List.length_singleton, Prod.mk.injEq, and_true] at h
      obtain ⟨rfl, rfl⟩ := h
      unfold Lib.occAt at ho
      obtain ⟨u, hu⟩ := List.isPrefixOf_iff_prefix.1 ho
      have : t = t.take i ++ t.drop i := (List.take_append_drop i t).symm
      rw [← hu] at this
      have hd : t.drop (i + 1) = u := by
        rw [← List.drop_drop, ← hu]
        rfl
      rw [hd]
      exact this
  · cases h
theorem prefix_trim {s p : List UInt8} (h : Lib.hasPrefix s p = true) : s = p ++ Lib.trimPrefix s p := by
  unfold Lib.trimPrefix
  rw [if_pos h]
  obtain ⟨u, rfl⟩ := List.isPrefixOf_iff_prefix.1 h
  simp
theorem markR_some {s t : List UInt8} {k : Int} (h : markR s = some (k, t)) : 1 ≤ k ∧ k ≤ 3 ∧ s = markB k ++ 34 :: t := by
  unfold markR at h
  split at h
  · rename_i h1
    cases h
    exact ⟨by omega, by omega, prefix_trim h1⟩
  · split at h
    · rename_i h1
      cases h
      exact ⟨by omega, by omega, prefix_trim h1⟩
    · split at h
      · rename_i h1
        cases h
        exact ⟨by omega, by omega, prefix_trim h1⟩
      · cases h
theorem valM_some {n s r : List UInt8} {m : Mat} (h : valM n s = some (m, r)) : 1 ≤ m.1 ∧ m.1 ≤ 3 ∧ m.2.1 = mkB n ∧ n ++ s = matT m ++ r := by
  unfold valM at h
  split at h
  · cases h
  · rename_i k t hk
    split at h
    · rename_i hc
      obtain ⟨v, hv, e⟩ := Option.map_eq_some_iff.1 h
      obtain ⟨h1, h3, hs⟩ := markR_some hk
      have ht : t = (Lib.cut t [34]).1 ++ 34 :: (Lib.cut t [34]).2.1 := cut_eq (by rw [← hc])
      cases e
      obtain ⟨hq, _⟩ := unqM_iff.1 hv
      refine ⟨h1, h3, rfl, ?_⟩
      unfold matT valT
      rw [if_pos (show k < 4 by omega), hs]
      show n ++ (markB k ++ 34 :: t) = (n ++ (markB k ++ 34 :: (quoteL v ++ [34]))) ++ (Lib.cut t [34]).2.1
      rw [hq]
      conv => lhs; rw [ht]
      simp
    · cases h
theorem matR_some {s r : List UInt8} {m : Mat} (h : matR s = some (m, r)) : s = matT m ++ r := by
  have hs : s = s.takeWhile (!stopB ·) ++ s.dropWhile (!stopB ·) := List.takeWhile_append_dropWhile.symm
  unfold matR at h
  split at h
  · cases h
    have : matT (4, mkB (s.takeWhile (!stopB ·)), mkB []) = s.takeWhile (!stopB ·) := by
      unfold matT valT
      rw [if_neg (show ¬ (4 : Int) < 4 by decide)]
      simp
    rw [this]
    exact hs
  · have := (valM_some h).2.2.2
    rw [← hs] at this
    exact this

theorem plain_stop {c : UInt8} (h : plainB c = true) : stopB c = false := by
  cases e : stopB c with
  | false => rfl
  | true =>
    simp only [stopB, List.contains_cons, List.contains_nil, Bool.or_eq_true, beq_iff_eq, Bool.or_false] at e
    rcases e with e | e | e | e <;> (subst e; revert h; decide)
theorem take_stop {a : List UInt8} {t : List UInt8} (h : ∀ x ∈ a, plainB x = true) (ht : t = [] ∨ ∃ c r, t = c :: r ∧ stopB c = true) : (a ++ t).takeWhile (!stopB ·) = a ∧ (a ++ t).dropWhile (!stopB ·) = t := by
  induction a with
  | nil =>
    rcases ht with rfl | ⟨c, r, rfl, hc⟩
    · exact ⟨rfl, rfl⟩
    · simp [hc]
  | cons x a ih =>
    have h1 := plain_stop (h x (List.mem_cons_self ..))
    have h2 := ih (fun y hy => h y (List.mem_cons_of_mem _ hy))
    simp only [List.cons_append, List.takeWhile_cons, List.dropWhile_cons, h1, Bool.not_false, if_true, h2.1, h2.2, and_self]
theorem name_chars {n : ByteArray} (h : nameOk n = true) : ∀ c ∈ n.data.toList, plainB c = true := by
  simp only [nameOk, Bool.and_eq_true, decide_eq_true_eq] at h
  exact List.all_eq_true.1 h.1.2
theorem markR_text {k : Int} (h1 : 1 ≤ k) (h3 : k ≤ 3) (t : List UInt8) : markR (markB k ++ 34 :: t) = some (k, t) := by
  have : k = 1 ∨ k = 2 ∨ k = 3 := by omega
  rcases this with rfl | rfl | rfl
  · show markR (61 :: 34 :: t) = _
    simp [markR, Lib.hasPrefix, Lib.trimPrefix, List.isPrefixOf]
  · show markR (33 :: 61 :: 34 :: t) = _
    simp [markR, Lib.hasPrefix, Lib.trimPrefix, List.isPrefixOf]
  · show markR (94 :: 61 :: 34 :: t) = _
    simp [markR, Lib.hasPrefix, Lib.trimPrefix, List.isPrefixOf]
/-- What may stand behind a matcher of a kind. -/
def Behind (k : Int) (r : List UInt8) : Prop := k = 4 → r = [] ∨ ∃ r', r = 44 :: r'
theorem mark_head {k : Int} (h1 : 1 ≤ k) (h3 : k ≤ 3) (t : List UInt8) : ∃ c r, markB k ++ t = c :: r ∧ stopB c = true ∧ c ≠ 44 := by
  have : k = 1 ∨ k = 2 ∨ k = 3 := by omega
  rcases this with rfl | rfl | rfl
  · exact ⟨61, t, rfl, by decide, by decide⟩
  · exact ⟨33, 61 :: t, rfl, by decide, by decide⟩
  · exact ⟨94, 61 :: t, rfl, by decide, by decide⟩
theorem matR_text {m : Mat} (h : matOk m = true) {r : List UInt8} (hr : Behind m.1 r) : matR (matT m ++ r) = some (m, r) := by
  obtain ⟨h1, h4, hn, hv⟩ := matOk_parts h
  have hp := name_chars hn
  obtain ⟨k, n, v⟩ := m
  simp only at h1 h4 hn hv hp hr
  by_cases h3 : k ≤ 3
  · have e : matT (k, n, v) ++ r = n.data.toList ++ (markB k ++ 34 :: (quoteL v.data.toList ++ (34 :: r))) := by
      unfold matT valT
      rw [if_pos (show k < 4 by omega)]
      simp
    obtain ⟨c, u, hc, hs, h44⟩ := mark_head h1 h3 (34 :: (quoteL v.data.toList ++ (34 :: r)))
    obtain ⟨g1, g2⟩ := take_stop (t := markB k ++ 34 :: (quoteL v.data.toList ++ (34 :: r))) hp (.inr ⟨c, u, hc, hs⟩)
    unfold matR
    rw [e, g1, g2, if_neg (by
      rintro (e | e)
      · rw [hc] at e; cases e
      · rw [hc] at e; simp at e; exact h44 e)]
    unfold valM
    have c2 : Lib.cut (quoteL v.data.toList ++ 34 :: r) [34] = (quoteL v.data.toList, r, true) :=
      cut_first (sep := [34]) (by simp) (fun j hj => cut_none_at rfl (fun hm => (quote_range _ _ hm).2.2 rfl) j hj)
    have hu : unqM (quoteL v.data.toList) = some v.data.toList := unqM_iff.2 ⟨rfl, by
      unfold roomN at hv
      rw [← Lib.size_eq]
      split at hv <;> omega⟩
    rw [markR_text h1 h3]
    simp only [c2, if_true, hu]
    rfl
  · have h4 : k = 4 := by omega
    subst h4
    have e : matT (4, n, v) ++ r = n.data.toList ++ r := by
      unfold matT valT
      rw [if_neg (show ¬ (4 : Int) < 4 by decide)]
      simp
    have hr2 := hr rfl
    obtain ⟨g1, g2⟩ := take_stop (t := r) hp (by
      rcases hr2 with e | ⟨r', e⟩
      · exact .inl e
      · exact .inr ⟨44, r', e, by decide⟩)
    have hv0 : v = mkB [] := by
      have : v.size = 0 := by
        unfold roomN at hv
        rw [if_pos rfl] at hv
        omega
      exact bytes_inj (List.length_eq_zero_iff.1 (by rw [← Lib.size_eq]; exact this))
    unfold matR
    rw [e, g1, g2, if_pos (by
      rcases hr2 with e | ⟨r', e⟩
      · exact .inl e
      · rw [e]; exact .inr rfl), hv0]

theorem mread_some (f : Nat) : ∀ (acc : Mats) (s : List UInt8) (l : Mats), mread f acc s = some l → ∃ l', l = acc ++ l' ∧ l' ≠ [] ∧ matsT l' = s ∧ checkM l = 0 := by
  induction f with
  | zero => intro acc s l h; cases h
  | succ f ih =>
    intro acc s l h
    unfold mread at h
    cases hm : matR s with
    | none => rw [hm] at h; cases h
    | some p =>
      obtain ⟨m, r⟩ := p
      rw [hm] at h
      simp only at h
      have hs := matR_some hm
      split at h
      · rename_i hc
        cases h
        refine ⟨[m], rfl, by simp, ?_, hc.2⟩
        rw [hs, hc.1]
        simp [matsT, restM]
      · split at h
        · cases h
        · rename_i c r' _
          split at h
          · rename_i e
            subst e
            obtain ⟨l', rfl, hne, ht, hk⟩ := ih _ _ _ h
            refine ⟨m :: l', by simp, by simp, ?_, hk⟩
            cases l' with
            | nil => exact absurd rfl hne
            | cons m2 q =>
              rw [matsT_more, ht, hs]
          · cases h
theorem mread_text (f : Nat) : ∀ (acc l : Mats), l ≠ [] → l.length ≤ f → checkM (acc ++ l) = 0 → mread f acc (matsT l) = some (acc ++ l) := by
  induction f with
  | zero =>
    intro acc l hl hf
    cases l with
    | nil => exact absurd rfl hl
    | cons m r => simp at hf
  | succ f ih =>
    intro acc l hl hf hk
    have hall := (checkM_zero.1 hk).2
    cases l with
    | nil => exact absurd rfl hl
    | cons m r =>
      have hok := hall m (by simp)
      cases r with
      | nil =>
        have e : matsT [m] = matT m ++ [] := by simp [matsT, restM]
        unfold mread
        rw [e, matR_text hok (fun _ => .inl rfl)]
        simp only
        rw [if_pos ⟨trivial, hk⟩]
      | cons m2 q =>
        rw [matsT_more]
        unfold mread
        rw [matR_text hok (fun _ => .inr ⟨_, rfl⟩)]
        simp only
        rw [if_neg (by rintro ⟨e, _⟩; cases e), if_pos trivial, ih (acc ++ [m]) (m2 :: q) (by simp) (by simp at hf ⊢; omega) (by simpa using hk)]
        simp
theorem mats_star {l : Mats} (h : checkM l = 0) (hl : l ≠ []) : ∃ c r, matsT l = c :: r ∧ plainB c = true := by
  cases l with
  | nil => exact absurd rfl hl
  | cons m r =>
    have hn := (matOk_parts ((checkM_zero.1 h).2 m (by simp))).2.2.1
    have hp := name_chars hn
    cases hd : m.2.1.data.toList with
    | nil =>
      exfalso
      simp only [nameOk, Bool.and_eq_true, decide_eq_true_eq] at hn
      have := hn.1.1.1
      rw [Lib.size_eq, hd] at this
      simp at this
    | cons c t =>
      rw [hd] at hp
      refine ⟨c, t ++ (valT m.1 m.2.2 ++ restM r), ?_, hp c (by simp)⟩
      simp [matsT, matT, hd]
theorem parseM_iff {s : List UInt8} {l : Mats} : parseM s = some l ↔ checkM l = 0 ∧ mtxtL l = s := by
  unfold parseM
  constructor
  · intro h
    split at h
    · rename_i e
      cases h
      exact ⟨rfl, e.symm⟩
    · obtain ⟨l', rfl, hne, ht, hk⟩ := mread_some _ _ _ _ h
      refine ⟨hk, ?_⟩
      unfold mtxtL
      rw [if_pos hk, if_neg hne, ht]
  · rintro ⟨hk, ht⟩
    unfold mtxtL at ht
    rw [if_pos hk] at ht
    split at ht
    · rename_i e
      subst e
      rw [if_pos ht.symm]
    · rename_i hne
      obtain ⟨c, r, hc, hp⟩ := mats_star hk hne
      rw [if_neg (by
        intro e
        rw [e, hc] at ht
        have := (List.cons.inj ht).1
        rw [this] at hp
        revert hp
        decide), ← ht]
      have := mread_text 8 [] l hne (checkM_zero.1 hk).1 (by simpa using hk)
      simpa using this

/-! ### The document's own reader -/
def valQ (s : List UInt8) : Option (List UInt8 × List UInt8) := match s with
  | c :: r => if c.toNat = 34 then valR r else none
  | [] => none
/-- The mark at the beginning, and how long it is. -/
def rmark : List UInt8 → Int × Nat
  | [] => (4, 0)
  | [a] => if a.toNat = 61 then (1, 1) else (4, 0)
  | a :: b :: _ => if a.toNat = 61 then (1, 1) else if b.toNat = 61 ∧ a.toNat = 33 then (2, 2) else if b.toNat = 61 ∧ a.toNat = 94 then (3, 2) else (4, 0)
def rvalM (n r : List UInt8) : Option (Mat × List UInt8) :=
  if (rmark r).2 = 0 then some ((4, mkB n, mkB []), r) else (valQ (r.drop (rmark r).2)).map (fun p => (((rmark r).1, mkB n, mkB p.1), p.2))
def rmatR (s : List UInt8) : Option (Mat × List UInt8) := rvalM (s.takeWhile plainB) (s.dropWhile plainB)
def rmread : Nat → Mats → List UInt8 → Option Mats
  | 0, acc, _ => some acc
  | f + 1, acc, s => match rmatR s with
    | none => none
    | some (m, r) => match r with
      | [] => some (acc ++ [m])
      | c :: r' => if c.toNat = 44 then rmread f (acc ++ [m]) r' else some (acc ++ [m])
def rparseM (s : List UInt8) : Option Mats := if s = [42] then some [] else (rmread 9 [] s).bind (fun l => if mtxtL l = s ∧ s ≠ [] then some l else none)

theorem rmark_text {k : Int} (h1 : 1 ≤ k) (h3 : k ≤ 3) (t : List UInt8) : (rmark (markB k ++ 34 :: t)).1 = k ∧ (rmark (markB k ++ 34 :: t)).2 = (markB k).length ∧ 0 < (markB k).length := by
  have : k = 1 ∨ k = 2 ∨ k = 3 := by omega
  rcases this with rfl | rfl | rfl
  · exact ⟨rfl, rfl, by decide⟩
  · exact ⟨rfl, rfl, by decide⟩
  · exact ⟨rfl, rfl, by decide⟩
theorem take_plain2 {a : List UInt8} {t : List UInt8} (h : ∀ x ∈ a, plainB x = true) (ht : t = [] ∨ ∃ c r, t = c :: r ∧ plainB c = false) : (a ++ t).takeWhile plainB = a ∧ (a ++ t).dropWhile plainB = t := by
  rcases ht with rfl | ⟨c, r, rfl, hc⟩
  · induction a with
    | nil => exact ⟨rfl, rfl⟩
    | cons x a ih =>
      have h1 := h x (List.mem_cons_self ..)
      have h2 := ih (fun y hy => h y (List.mem_cons_of_mem _ hy))
      simp only [List.cons_append, List.takeWhile_cons, List.dropWhile_cons, h1, if_true, h2.1, h2.2, and_self]
  · exact take_plain h hc
theorem rmatR_text {m : Mat} (h : matOk m = true) {r : List UInt8} (hr : Behind m.1 r) : rmatR (matT m ++ r) = some (m, r) := by
  obtain ⟨h1, h4, hn, hv⟩ := matOk_parts h
  have hp := name_chars hn
  obtain ⟨k, n, v⟩ := m
  simp only at h1 h4 hn hv hp hr
  by_cases h3 : k ≤ 3
  · have e : matT (k, n, v) ++ r = n.data.toList ++ (markB k ++ 34 :: (quoteL v.data.toList ++ (34 :: r))) := by
      unfold matT valT
      rw [if_pos (show k < 4 by omega)]
      simp
    obtain ⟨c, u, hc, hs, h44⟩ := mark_head h1 h3 (34 :: (quoteL v.data.toList ++ (34 :: r)))
    have hcp : plainB c = false := by
      cases e : plainB c with
      | false => rfl
      | true => rw [plain_stop e] at hs; cases hs
    obtain ⟨g1, g2⟩ := take_plain2 (t := markB k ++ 34 :: (quoteL v.data.toList ++ (34 :: r))) hp (.inr ⟨c, u, hc, hcp⟩)
    obtain ⟨q1, q2, q3⟩ := rmark_text h1 h3 (quoteL v.data.toList ++ (34 :: r))
    unfold rmatR
    rw [e, g1, g2]
    unfold rvalM
    rw [q1, q2, if_neg (by omega), List.drop_left]
    show ((if (34 : UInt8).toNat = 34 then valR (quoteL v.data.toList ++ (34 :: r)) else none)).map _ = _
    rw [if_pos (by decide), valR_quote]
    rfl
  · have h4 : k = 4 := by omega
    subst h4
    have e : matT (4, n, v) ++ r = n.data.toList ++ r := by
      unfold matT valT
      rw [if_neg (show ¬ (4 : Int) < 4 by decide)]
      simp
    have hr2 := hr rfl
    obtain ⟨g1, g2⟩ := take_plain2 (t := r) hp (by
      rcases hr2 with e | ⟨r', e⟩
      · exact .inl e
      · exact .inr ⟨44, r', e, by decide⟩)
    have hv0 : v = mkB [] := by
      have : v.size = 0 := by
        unfold roomN at hv
        rw [if_pos rfl] at hv
        omega
      exact bytes_inj (List.length_eq_zero_iff.1 (by rw [← Lib.size_eq]; exact this))
    unfold rmatR
    rw [e, g1, g2, hv0]
    unfold rvalM
    rw [if_pos]
    rcases hr2 with rfl | ⟨r', rfl⟩
    · rfl
    · cases r' with
      | nil => rfl
      | cons d r'' => simp [rmark]
theorem rmread_text (f : Nat) : ∀ (acc l : Mats), l ≠ [] → l.length ≤ f → (∀ m ∈ l, matOk m = true) → rmread f acc (matsT l) = some (acc ++ l) := by
  induction f with
  | zero =>
    intro acc l hl hf
    cases l with
    | nil => exact absurd rfl hl
    | cons m r => simp at hf
  | succ f ih =>
    intro acc l hl hf hall
    cases l with
    | nil => exact absurd rfl hl
    | cons m r =>
      have hok := hall m (by simp)
      cases r with
      | nil =>
        have e : matsT [m] = matT m ++ [] := by simp [matsT, restM]
        unfold rmread
        rw [e, rmatR_text hok (fun _ => .inl rfl)]
      | cons m2 q =>
        rw [matsT_more]
        unfold rmread
        rw [rmatR_text hok (fun _ => .inr ⟨_, rfl⟩)]
        simp only
        rw [if_pos (by decide), ih (acc ++ [m]) (m2 :: q) (by simp) (by simp at hf ⊢; omega) (fun x hx => hall x (List.mem_cons_of_mem _ hx))]
        simp
theorem rparseM_iff {s : List UInt8} {l : Mats} : rparseM s = some l ↔ checkM l = 0 ∧ mtxtL l = s := by
  unfold rparseM
  constructor
  · intro h
    split at h
    · rename_i e
      cases h
      exact ⟨rfl, e.symm⟩
    · obtain ⟨k, hk, h⟩ := Option.bind_eq_some_iff.1 h
      split at h
      · rename_i hc
        cases h
        refine ⟨?_, hc.1⟩
        have h1 := hc.1
        unfold mtxtL at h1
        split at h1
        · assumption
        · exact absurd h1.symm hc.2
      · cases h
  · rintro ⟨hk, ht⟩
    have htt := ht
    unfold mtxtL at ht
    rw [if_pos hk] at ht
    split at ht
    · rename_i e
      subst e
      rw [if_pos ht.symm]
    · rename_i hne
      obtain ⟨c, r, hc, hp⟩ := mats_star hk hne
      rw [if_neg (by
        intro e
        rw [e, hc] at ht
        have := (List.cons.inj ht).1
        rw [this] at hp
        revert hp
        decide)]
      have := rmread_text 9 [] l hne (by have := (checkM_zero.1 hk).1; omega) (checkM_zero.1 hk).2
      rw [List.nil_append, ht] at this
      rw [this]
      show (if mtxtL l = s ∧ s ≠ [] then some l else none) = _
      rw [if_pos ⟨htt, by rw [← ht, hc]; simp⟩]
theorem parseM_same (s : List UInt8) : rparseM s = parseM s := by
  cases h : parseM s with
  | none =>
    cases h2 : rparseM s with
    | none => rfl
    | some m => rw [parseM_iff.2 (rparseM_iff.1 h2)] at h; cases h
  | some m => exact rparseM_iff.2 (parseM_iff.1 h)
end Go.Proofs.YtdgkdgbdkhnpcaaGreat.N
