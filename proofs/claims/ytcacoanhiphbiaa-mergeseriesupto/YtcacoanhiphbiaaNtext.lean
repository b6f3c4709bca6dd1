/-
  The text of labels, and what a text is read as, in plain words. No program is named here.
-/
import Derived.Test.YtcacoanhiphbiaaNplain
namespace Go.Proofs.Ytcacoanhiphbiaa.N
open Go Go.RowKit Go.Proofs.Lys
set_option linter.unusedVariables false

def shownB (c : UInt8) : Bool := decide (32 ≤ c.toNat) && decide (c.toNat ≤ 126) && decide (c.toNat ≠ 34) && decide (c.toNat ≠ 92)
def hexD (n : Nat) : UInt8 := if n < 10 then UInt8.ofNat (48 + n) else UInt8.ofNat (87 + n)
def hexV (c : UInt8) : Option Nat := if 48 ≤ c.toNat ∧ c.toNat ≤ 57 then some (c.toNat - 48) else if 97 ≤ c.toNat ∧ c.toNat ≤ 102 then some (c.toNat - 87) else none
def hideB (c : UInt8) : List UInt8 := [92, hexD (c.toNat / 16), hexD (c.toNat % 16)]
def quoteB (c : UInt8) : List UInt8 := if shownB c then [c] else hideB c
def quoteL (l : List UInt8) : List UInt8 := l.flatMap quoteB
def labT (x : Lab) : List UInt8 := x.1.data.toList ++ ([61, 34] ++ (quoteL x.2.data.toList ++ [34]))
def restT (l : Labs) : List UInt8 := l.flatMap (fun x => 44 :: labT x)
def accT : Labs → List UInt8
  | [] => []
  | x :: r => 123 :: (labT x ++ restT r)
def textL (l : Labs) : List UInt8 := accT l ++ [125]

theorem accT_snoc (l : Labs) (x : Lab) : accT (l ++ [x]) = accT l ++ ((if l = [] then 123 else 44) :: labT x) := by
  cases l with
  | nil => simp [accT, restT]
  | cons y r => simp [accT, restT]
theorem quoteL_app (a b : List UInt8) : quoteL (a ++ b) = quoteL a ++ quoteL b := by simp [quoteL]

theorem hexV_hexD : ∀ n : Nat, n < 16 → hexV (hexD n) = some n := by decide
theorem hexD_plain : ∀ n : Nat, n < 16 → 48 ≤ (hexD n).toNat ∧ (hexD n).toNat ≤ 102 := by decide
theorem hexV_lt {c : UInt8} {n : Nat} (h : hexV c = some n) : n < 16 ∧ c.toNat < 128 := by
  unfold hexV at h
  split at h
  · cases h; omega
  · split at h
    · cases h; omega
    · cases h

/-- The byte that two digits are. -/
def hex2 : List UInt8 → Option UInt8
  | h :: l :: _ => match hexV h, hexV l with
    | some a, some b => some (UInt8.ofNat (16 * a + b))
    | _, _ => none
  | _ => none
theorem hex2_hide (c : UInt8) (r : List UInt8) : hex2 (hexD (c.toNat / 16) :: hexD (c.toNat % 16) :: r) = some c := by
  have hc := c.toNat_lt
  simp only [hex2, hexV_hexD (c.toNat / 16) (by omega), hexV_hexD (c.toNat % 16) (by omega)]
  have : UInt8.ofNat (16 * (c.toNat / 16) + c.toNat % 16) = c := by
    rw [Nat.div_add_mod]
    simp
  rw [this]
theorem hex2_two {r : List UInt8} {v : UInt8} (h : hex2 r = some v) : ∃ a b r', r = a :: b :: r' ∧ a.toNat < 128 ∧ b.toNat < 128 := by
  match r, h with
  | a :: b :: r', h =>
    simp only [hex2] at h
    split at h
    · rename_i ha hb
      exact ⟨a, b, r', rfl, (hexV_lt ha).2, (hexV_lt hb).2⟩
    · cases h
/-- What stands between the quotes, read; the number is more than the reader goes. -/
def unqF : Nat → List UInt8 → Option (List UInt8)
  | 0, _ => some []
  | _ + 1, [] => some []
  | n + 1, c :: r =>
    if shownB c then (unqF n r).map (c :: ·)
    else if c.toNat = 92 then
      match hex2 r with
      | some v => (unqF n (r.drop 2)).map (v :: ·)
      | none => none
    else none
theorem unqF_any (n : Nat) : ∀ (m : Nat) (l : List UInt8), l.length ≤ n → l.length ≤ m → unqF n l = unqF m l := by
  induction n with
  | zero =>
    intro m l h _
    cases l with
    | nil => cases m <;> rfl
    | cons c r => simp at h
  | succ n ih =>
    intro m l h h'
    cases l with
    | nil => cases m <;> rfl
    | cons c r =>
      cases m with
      | zero => simp at h'
      | succ m =>
        simp only [List.length_cons] at h h'
        have e1 := ih m r (by omega) (by omega)
        have e2 := ih m (r.drop 2) (by rw [List.length_drop]; omega) (by rw [List.length_drop]; omega)
        simp only [unqF]
        rw [e1, e2]
def unqL (l : List UInt8) : Option (List UInt8) := unqF l.length l
theorem unqL_nil : unqL [] = some [] := rfl
theorem unqL_cons (c : UInt8) (r : List UInt8) : unqL (c :: r) = if shownB c then (unqL r).map (c :: ·)
    else if c.toNat = 92 then
      match hex2 r with
      | some v => (unqL (r.drop 2)).map (v :: ·)
      | none => none
    else none := by
  have e := unqF_any r.length (r.drop 2).length (r.drop 2) (by rw [List.length_drop]; omega) (Nat.le_refl _)
  unfold unqL
  rw [List.length_cons]
  simp only [unqF]
  rw [e]

theorem unqL_shown {c : UInt8} (r : List UInt8) (h : shownB c = true) : unqL (c :: r) = (unqL r).map (c :: ·) := by
  rw [unqL_cons, if_pos h]
theorem unqL_hide (c : UInt8) (r : List UInt8) : unqL (hideB c ++ r) = (unqL r).map (c :: ·) := by
  show unqL (92 :: hexD (c.toNat / 16) :: hexD (c.toNat % 16) :: r) = _
  rw [unqL_cons, if_neg (by decide), if_pos (by decide), hex2_hide]
  rfl
theorem unqL_quote (l r : List UInt8) : unqL (quoteL l ++ r) = (unqL r).map (l ++ ·) := by
  induction l with
  | nil => simp [quoteL]
  | cons c l ih =>
    have e : quoteL (c :: l) ++ r = quoteB c ++ (quoteL l ++ r) := by simp [quoteL]
    rw [e]
    unfold quoteB
    split
    · rename_i h
      show unqL (c :: (quoteL l ++ r)) = _
      rw [unqL_shown _ h, ih]
      cases unqL r <;> simp
    · rw [unqL_hide, ih]
      cases unqL r <;> simp
theorem unqL_quote0 (l : List UInt8) : unqL (quoteL l) = some l := by
  have := unqL_quote l []
  rw [List.append_nil] at this
  rw [this, unqL_nil]
  simp
theorem hide_range (c : UInt8) : ∀ x ∈ hideB c, 32 ≤ x.toNat ∧ x.toNat ≤ 126 ∧ x.toNat ≠ 34 := by
  have hc := c.toNat_lt
  have h1 := hexD_plain (c.toNat / 16) (by omega)
  have h2 := hexD_plain (c.toNat % 16) (by omega)
  intro x hx
  simp only [hideB, List.mem_cons, List.not_mem_nil, or_false] at hx
  rcases hx with rfl | rfl | rfl
  · decide
  · omega
  · omega
theorem quote_range (l : List UInt8) : ∀ x ∈ quoteL l, 32 ≤ x.toNat ∧ x.toNat ≤ 126 ∧ x.toNat ≠ 34 := by
  intro x hx
  obtain ⟨c, hc, hx⟩ := List.mem_flatMap.1 hx
  unfold quoteB at hx
  split at hx
  · rename_i h
    have := List.mem_singleton.1 hx
    subst this
    simp only [shownB, Bool.and_eq_true, decide_eq_true_eq] at h
    omega
  · exact hide_range c x hx

/-- The label at the beginning of a text, and what stands behind it. -/
def labR (s : List UInt8) : Option ((List UInt8 × List UInt8) × List UInt8) :=
  if (Lib.cut s [61, 34]).2.2 then
    if (Lib.cut (Lib.cut s [61, 34]).2.1 [34]).2.2 then
      (unqL (Lib.cut (Lib.cut s [61, 34]).2.1 [34]).1).map (fun v => (((Lib.cut s [61, 34]).1, v), (Lib.cut (Lib.cut s [61, 34]).2.1 [34]).2.1))
    else none
  else none
abbrev mkB (l : List UInt8) : ByteArray := ⟨l.toArray⟩
def mkLab (p : List UInt8 × List UInt8) : Lab := (mkB p.1, mkB p.2)
def readR : Nat → List UInt8 → Option Labs
  | 0, _ => none
  | f + 1, s => match labR s with
    | none => none
    | some (x, r) => if r = [125] then some [mkLab x] else match r with
      | c :: r' => if c.toNat = 44 then (readR f r').map (mkLab x :: ·) else none
      | [] => none
def readL : List UInt8 → Option Labs
  | [] => none
  | c :: r => if c.toNat = 123 then readR 17 r else none
def parseL (s : List UInt8) : Option Labs := (readL s).bind (fun l => (makeL l).bind (fun m => if textL m = s then some m else none))

theorem cut_first {a b sep : List UInt8} (hs : sep ≠ []) (h : ∀ j, j < a.length → sep.isPrefixOf ((a ++ (sep ++ b)).drop j) = false) : Lib.cut (a ++ (sep ++ b)) sep = (a, b, true) := by
  have hi : Lib.index (a ++ (sep ++ b)) sep = (a.length : Int) := by
    refine Lib.index_first (by simp) ?_ (fun j hj => h j hj)
    unfold Lib.occAt
    rw [List.drop_left]
    exact List.isPrefixOf_iff_prefix.2 ⟨b, rfl⟩
  unfold Lib.cut
  rw [hi, if_pos (by omega)]
  simp
theorem cut_none_at {a t sep : List UInt8} {c : UInt8} {r : List UInt8} (hsep : sep = c :: r) (ha : c ∉ a) (j : Nat) (hj : j < a.length) : sep.isPrefixOf ((a ++ t).drop j) = false := by
  subst hsep
  rw [List.drop_append_of_le_length (by omega), List.drop_eq_getElem_cons hj]
  simp only [List.cons_append, List.isPrefixOf, Bool.and_eq_false_iff]
  left
  simp only [beq_eq_false_iff_ne]
  exact fun e => ha (e ▸ List.getElem_mem hj)

theorem plain_ne {c : UInt8} (h : plainB c = true) : c.toNat ≠ 61 ∧ c.toNat ≠ 34 ∧ 32 ≤ c.toNat ∧ c.toNat ≤ 126 := by
  simp only [plainB, digitB, Bool.or_eq_true, Bool.and_eq_true, decide_eq_true_eq] at h
  omega
theorem name_plain {x : Lab} (h : labOk x = true) : ∀ c ∈ x.1.data.toList, plainB c = true := by
  simp only [labOk, nameOk, Bool.and_eq_true, decide_eq_true_eq] at h
  exact List.all_eq_true.1 h.1.1.2
theorem labR_text {x : Lab} (h : labOk x = true) (t : List UInt8) : labR (labT x ++ t) = some ((x.1.data.toList, x.2.data.toList), t) := by
  have hp := name_plain h
  have e : labT x ++ t = x.1.data.toList ++ ([61, 34] ++ (quoteL x.2.data.toList ++ ([34] ++ t))) := by simp [labT]
  have c1 : Lib.cut (labT x ++ t) [61, 34] = (x.1.data.toList, quoteL x.2.data.toList ++ ([34] ++ t), true) := by
    rw [e]
    exact cut_first (by simp) (fun j hj => cut_none_at rfl (fun hm => (plain_ne (hp _ hm)).1 rfl) j hj)
  have c2 : Lib.cut (quoteL x.2.data.toList ++ ([34] ++ t)) [34] = (quoteL x.2.data.toList, t, true) :=
    cut_first (by simp) (fun j hj => cut_none_at rfl (fun hm => (quote_range _ _ hm).2.2 rfl) j hj)
  unfold labR
  rw [c1]
  simp only [c2, if_true, unqL_quote0]
  rfl
theorem mkLab_eq (x : Lab) : mkLab (x.1.data.toList, x.2.data.toList) = x := rfl
theorem readR_text (m : Labs) : ∀ (x : Lab) (f : Nat), (∀ y ∈ x :: m, labOk y = true) → m.length < f → readR f (labT x ++ (restT m ++ [125])) = some (x :: m) := by
  induction m with
  | nil =>
    intro x f h hf
    obtain ⟨g, rfl⟩ : ∃ g, f = g + 1 := ⟨f - 1, by simp at hf; omega⟩
    unfold readR
    rw [labR_text (h x (List.mem_cons_self ..))]
    simp [restT, mkLab_eq]
  | cons y r ih =>
    intro x f h hf
    obtain ⟨g, rfl⟩ : ∃ g, f = g + 1 := ⟨f - 1, by simp at hf; omega⟩
    have e : restT (y :: r) ++ [125] = 44 :: (labT y ++ (restT r ++ [125])) := by simp [restT]
    unfold readR
    rw [labR_text (h x (List.mem_cons_self ..)), e]
    simp only [List.cons.injEq]
    rw [if_neg (by rintro ⟨e, _⟩; exact absurd e (by decide)), if_pos (by decide), ih y g (fun z hz => h z (List.mem_cons_of_mem _ hz)) (by simp at hf; omega), mkLab_eq]
    rfl
theorem read_text {m : Labs} (h : Made m) : readL (textL m) = some m := by
  cases m with
  | nil => have := h.len; simp at this
  | cons x r =>
    have e : textL (x :: r) = 123 :: (labT x ++ (restT r ++ [125])) := by simp [textL, accT]
    rw [e]
    show (if (123 : UInt8).toNat = 123 then readR 17 (labT x ++ (restT r ++ [125])) else none) = _
    rw [if_pos (by decide)]
    exact readR_text r x 17 h.ok (by have := h.len16; simp at this; omega)
theorem parse_iff {s : List UInt8} {m : Labs} : parseL s = some m ↔ Made m ∧ textL m = s := by
  constructor
  · intro h
    obtain ⟨l, _, h⟩ := Option.bind_eq_some_iff.1 h
    obtain ⟨k, hk, h⟩ := Option.bind_eq_some_iff.1 h
    split at h
    · rename_i e
      cases h
      exact ⟨makeL_made hk, e⟩
    · cases h
  · rintro ⟨h, rfl⟩
    unfold parseL
    rw [read_text h]
    show (makeL m).bind _ = _
    rw [h.make]
    simp
theorem lab_range {x : Lab} (h : labOk x = true) : ∀ c ∈ labT x, 32 ≤ c.toNat ∧ c.toNat ≤ 126 := by
  intro c hc
  simp only [labT, List.mem_append] at hc
  rcases hc with hc | hc | hc | hc
  · have := plain_ne (name_plain h c hc); omega
  · simp at hc
    rcases hc with rfl | rfl <;> decide
  · have := quote_range _ c hc; omega
  · simp at hc; subst hc; decide
theorem text_range {m : Labs} (h : Made m) : ∀ c ∈ textL m, 32 ≤ c.toNat ∧ c.toNat ≤ 126 := by
  intro c hc
  cases m with
  | nil => have := h.len; simp at this
  | cons x r =>
    simp only [textL, accT, List.cons_append, List.mem_cons, List.mem_append] at hc
    rcases hc with rfl | (hc | hc) | hc
    · decide
    · exact lab_range (h.ok x (List.mem_cons_self ..)) c hc
    · obtain ⟨y, hy, hc⟩ := List.mem_flatMap.1 hc
      rcases List.mem_cons.1 hc with rfl | hc
      · decide
      · exact lab_range (h.ok y (List.mem_cons_of_mem _ hy)) c hc
    · simp at hc; subst hc; decide

/-! ### The document's own reader -/
/-- What is read behind an opening quote, and what stands behind the closing one; the number is more than the reader goes. -/
def valF : Nat → List UInt8 → Option (List UInt8 × List UInt8)
  | 0, _ => none
  | _ + 1, [] => none
  | n + 1, c :: r =>
    if c.toNat = 34 then some ([], r)
    else if c.toNat = 92 then
      match hex2 r with
      | some v => (valF n (r.drop 2)).map (fun p => (v :: p.1, p.2))
      | none => none
    else (valF n r).map (fun p => (c :: p.1, p.2))
theorem valF_any (n : Nat) : ∀ (m : Nat) (l : List UInt8), l.length ≤ n → l.length ≤ m → valF n l = valF m l := by
  induction n with
  | zero =>
    intro m l h _
    cases l with
    | nil => cases m <;> rfl
    | cons c r => simp at h
  | succ n ih =>
    intro m l h h'
    cases l with
    | nil => cases m <;> rfl
    | cons c r =>
      cases m with
      | zero => simp at h'
      | succ m =>
        simp only [List.length_cons] at h h'
        have e1 := ih m r (by omega) (by omega)
        have e2 := ih m (r.drop 2) (by rw [List.length_drop]; omega) (by rw [List.length_drop]; omega)
        simp only [valF]
        rw [e1, e2]
def valR (l : List UInt8) : Option (List UInt8 × List UInt8) := valF l.length l
theorem valR_nil : valR [] = none := rfl
theorem valR_cons (c : UInt8) (r : List UInt8) : valR (c :: r) = if c.toNat = 34 then some ([], r)
    else if c.toNat = 92 then
      match hex2 r with
      | some v => (valR (r.drop 2)).map (fun p => (v :: p.1, p.2))
      | none => none
    else (valR r).map (fun p => (c :: p.1, p.2)) := by
  have e := valF_any r.length (r.drop 2).length (r.drop 2) (by rw [List.length_drop]; omega) (Nat.le_refl _)
  unfold valR
  rw [List.length_cons]
  simp only [valF]
  rw [e]
def rlabR (s : List UInt8) : Option ((List UInt8 × List UInt8) × List UInt8) :=
  match s.dropWhile plainB with
  | a :: b :: r => if a.toNat = 61 ∧ b.toNat = 34 then (valR r).map (fun p => ((s.takeWhile plainB, p.1), p.2)) else none
  | _ => none
def rreadR : Nat → List UInt8 → Option Labs
  | 0, _ => none
  | f + 1, s => match rlabR s with
    | none => none
    | some (x, r) => match r with
      | c :: r' => if c.toNat = 44 then (rreadR f r').map (mkLab x :: ·) else some [mkLab x]
      | [] => some [mkLab x]
def rreadL : List UInt8 → Option Labs
  | [] => none
  | c :: r => if c.toNat = 123 then rreadR 17 r else none
def rparseL (s : List UInt8) : Option Labs := (rreadL s).bind (fun l => (makeL l).bind (fun m => if textL m = s then some l else none))

theorem valR_hide (c : UInt8) (r : List UInt8) : valR (hideB c ++ r) = (valR r).map (fun p => (c :: p.1, p.2)) := by
  show valR (92 :: hexD (c.toNat / 16) :: hexD (c.toNat % 16) :: r) = _
  rw [valR_cons, if_neg (by decide), if_pos (by decide), hex2_hide]
  rfl
theorem valR_quote (l t : List UInt8) : valR (quoteL l ++ (34 :: t)) = some (l, t) := by
  induction l with
  | nil => simp only [quoteL, List.flatMap_nil, List.nil_append]; rw [valR_cons, if_pos (by decide)]
  | cons c l ih =>
    have e : quoteL (c :: l) ++ (34 :: t) = quoteB c ++ (quoteL l ++ (34 :: t)) := by simp [quoteL]
    rw [e]
    unfold quoteB
    split
    · rename_i h
      simp only [shownB, Bool.and_eq_true, decide_eq_true_eq] at h
      show valR (c :: (quoteL l ++ (34 :: t))) = _
      rw [valR_cons, if_neg (by omega), if_neg (by omega), ih]
      rfl
    · rw [valR_hide, ih]
      rfl
theorem take_plain {a : List UInt8} {c : UInt8} {t : List UInt8} (h : ∀ x ∈ a, plainB x = true) (hc : plainB c = false) : (a ++ c :: t).takeWhile plainB = a ∧ (a ++ c :: t).dropWhile plainB = c :: t := by
  induction a with
  | nil => simp [hc]
  | cons x a ih =>
    have h1 := h x (List.mem_cons_self ..)
    have h2 := ih (fun y hy => h y (List.mem_cons_of_mem _ hy))
    simp only [List.cons_append, List.takeWhile_cons, List.dropWhile_cons, h1, if_true, h2.1, h2.2, and_self]
theorem rlabR_text {x : Lab} (h : labOk x = true) (t : List UInt8) : rlabR (labT x ++ t) = some ((x.1.data.toList, x.2.data.toList), t) := by
  have e : labT x ++ t = x.1.data.toList ++ 61 :: 34 :: (quoteL x.2.data.toList ++ (34 :: t)) := by simp [labT]
  obtain ⟨h1, h2⟩ := take_plain (t := 34 :: (quoteL x.2.data.toList ++ (34 :: t))) (name_plain h) (show plainB 61 = false by decide)
  unfold rlabR
  rw [e, h1, h2]
  show (if (61 : UInt8).toNat = 61 ∧ (34 : UInt8).toNat = 34 then _ else none) = _
  rw [if_pos (by decide), valR_quote]
  rfl
theorem rreadR_text (m : Labs) : ∀ (x : Lab) (f : Nat), (∀ y ∈ x :: m, labOk y = true) → m.length < f → rreadR f (labT x ++ (restT m ++ [125])) = some (x :: m) := by
  induction m with
  | nil =>
    intro x f h hf
    obtain ⟨g, rfl⟩ : ∃ g, f = g + 1 := ⟨f - 1, by simp at hf; omega⟩
    unfold rreadR
    rw [rlabR_text (h x (List.mem_cons_self ..))]
    show (if (125 : UInt8).toNat = 44 then _ else some [mkLab (x.1.data.toList, x.2.data.toList)]) = _
    rw [if_neg (by decide), mkLab_eq]
  | cons y r ih =>
    intro x f h hf
    obtain ⟨g, rfl⟩ : ∃ g, f = g + 1 := ⟨f - 1, by simp at hf; omega⟩
    have e : restT (y :: r) ++ [125] = 44 :: (labT y ++ (restT r ++ [125])) := by simp [restT]
    unfold rreadR
    rw [rlabR_text (h x (List.mem_cons_self ..)), e]
    show (if (44 : UInt8).toNat = 44 then _ else _) = _
    rw [if_pos (by decide), ih y g (fun z hz => h z (List.mem_cons_of_mem _ hz)) (by simp at hf; omega), mkLab_eq]
    rfl
theorem rread_text {m : Labs} (h : Made m) : rreadL (textL m) = some m := by
  cases m with
  | nil => have := h.len; simp at this
  | cons x r =>
    have e : textL (x :: r) = 123 :: (labT x ++ (restT r ++ [125])) := by simp [textL, accT]
    rw [e]
    show (if (123 : UInt8).toNat = 123 then rreadR 17 (labT x ++ (restT r ++ [125])) else none) = _
    rw [if_pos (by decide)]
    exact rreadR_text r x 17 h.ok (by have := h.len16; simp at this; omega)
theorem rparse_iff {s : List UInt8} {m : Labs} : rparseL s = some m ↔ Made m ∧ textL m = s := by
  constructor
  · intro h
    obtain ⟨l, hl, h⟩ := Option.bind_eq_some_iff.1 h
    obtain ⟨k, hk, h⟩ := Option.bind_eq_some_iff.1 h
    split at h
    · rename_i e
      cases h
      have hm := makeL_made hk
      rw [← e, rread_text hm] at hl
      cases hl
      exact ⟨hm, e⟩
    · cases h
  · rintro ⟨h, rfl⟩
    unfold rparseL
    rw [rread_text h]
    show (makeL m).bind _ = _
    rw [h.make]
    simp
theorem parse_same (s : List UInt8) : rparseL s = parseL s := by
  cases h : parseL s with
  | none =>
    cases h2 : rparseL s with
    | none => rfl
    | some m => rw [parse_iff.2 (rparse_iff.1 h2)] at h; cases h
  | some m => exact rparse_iff.2 (parse_iff.1 h)

/-! ### Runes of several bytes -/
theorem decode_wide (s : ByteArray) (pos : Nat) (h : pos < s.size) (ha : 128 ≤ (s[pos]'h).toNat) :
    pos + (Utf8.decode s pos).2 ≤ s.size ∧ ∀ j, j < (Utf8.decode s pos).2 → 128 ≤ (s.get! (pos + j)).toNat := by
  have e0 := get_at s pos h
  have hn : ¬ (s[pos]'h).toNat < 128 := by omega
  have one : pos + 1 ≤ s.size ∧ ∀ j, j < 1 → 128 ≤ (s.get! (pos + j)).toNat := by
    refine ⟨h, fun j hj => ?_⟩
    have : j = 0 := by omega
    subst this
    rw [e0]; exact ha
  simp only [Utf8.decode, e0, hn, if_false]
  repeat' split
  all_goals try exact one
  all_goals
    rename_i hc _
    simp only [Bool.and_eq_true, decide_eq_true_eq, beq_iff_eq] at hc
    refine ⟨by omega, fun j hj => ?_⟩
    have : j = 0 ∨ j = 1 ∨ j = 2 ∨ j = 3 := by omega
    rcases this with rfl | rfl | rfl | rfl
    all_goals first | omega | (rw [e0]; exact ha)
end Go.Proofs.Ytcacoanhiphbiaa.N
