/-
  Nplain, Ntext.
-/
import Derived.Test.YtllfanlhgnkcfaaGreatDoorQ02
import Derived.Lib.IndexMore
import GoSem.Op.String
namespace Go.Proofs.YtllfanlhgnkcfaaGreatDoor.N
open Go Go.RowKit Go.Proofs.Lys
set_option linter.unusedVariables false
abbrev Lab := ByteArray × ByteArray
abbrev Labs := List Lab
structure Good {α : Type} (f : α → α → Int) : Prop where
 rng : ∀ x y, f x y = -1 ∨ f x y = 0 ∨ f x y = 1
 anti : ∀ x y, f y x = - f x y
 zero : ∀ x y, f x y = 0 → x = y
 trans : ∀ x y z, f x y = -1 → f y z = -1 → f x z = -1
theorem Good.self {α : Type} {f : α → α → Int} (h : Good f) (x : α) : f x x = 0 := by
 have := h.anti x x
 omega
def lexC {α : Type} (f : α → α → Int) : List α → List α → Int
 | [], [] => 0
 | [], _ :: _ => -1
 | _ :: _, [] => 1
 | x :: a, y :: b => if f x y ≠ 0 then f x y else lexC f a b
theorem Good.lex {α : Type} {f : α → α → Int} (h : Good f) : Good (lexC f) := by
 refine ⟨fun x => ?_, fun x => ?_, fun x => ?_, fun x => ?_⟩
 ·induction x with
  | nil => intro y; cases y <;> simp [lexC]
  | cons a x ih =>
   intro y
   cases y with
   | nil => simp [lexC]
   | cons b y =>
    unfold lexC
    split
    ·exact h.rng a b
    ·exact ih y
 ·induction x with
  | nil => intro y; cases y <;> simp [lexC]
  | cons a x ih =>
   intro y
   cases y with
   | nil => simp [lexC]
   | cons b y =>
    have e := h.anti a b
    unfold lexC
    rw [e]
    by_cases h0 : f a b = 0
    ·rw [if_neg (by omega), if_neg (by omega)]
     exact ih y
    ·rw [if_pos (by omega), if_pos h0]
 ·induction x with
  | nil => intro y; cases y <;> simp [lexC]
  | cons a x ih =>
   intro y
   cases y with
   | nil => simp [lexC]
   | cons b y =>
    unfold lexC
    split
    ·intro e; contradiction
    ·rename_i h0
     intro e
     have h1 := h.zero a b (by omega)
     have h2 := ih y e
     subst h1 h2
     rfl
 ·induction x with
  | nil => intro y z; cases y <;> cases z <;> simp [lexC]
  | cons a x ih =>
   intro y z
   cases y with
   | nil => simp [lexC]
   | cons b y =>
    cases z with
    | nil => simp [lexC]
    | cons c z =>
     unfold lexC
     intro h1 h2
     by_cases e1 : f a b = 0
     ·have := h.zero a b e1
      subst this
      rw [if_neg (by omega)] at h1
      by_cases e2 : f a c = 0
      ·rw [if_neg (by omega)] at h2
       rw [if_neg (by omega)]
       exact ih y z h1 h2
      ·rw [if_pos e2] at h2 ⊢
       exact h2
     ·rw [if_pos e1] at h1
      by_cases e2 : f b c = 0
      ·have := h.zero b c e2
       subst this
       rw [if_pos e1]
       exact h1
      ·rw [if_pos e2] at h2
       have := h.trans a b c h1 h2
       rw [if_pos (by omega)]
       exact this
def byteC (a b : UInt8) : Int := if a < b then -1 else if b < a then 1 else 0
theorem byteC_good : Good byteC := by
 have key : ∀ a b : UInt8, (a < b ↔ a.toNat < b.toNat) := fun a b => UInt8.lt_iff_toNat_lt
 refine ⟨fun x y => ?_, fun x y => ?_, fun x y => ?_, fun x y z => ?_⟩
 ·unfold byteC; split
  ·exact .inl rfl
  ·split
   ·exact .inr (.inr rfl)
   ·exact .inr (.inl rfl)
 ·unfold byteC
  simp only [key]
  by_cases h1 : x.toNat < y.toNat
  ·rw [if_neg (by omega), if_pos h1, if_pos h1]; rfl
  ·by_cases h2 : y.toNat < x.toNat
   ·rw [if_pos h2, if_neg h1, if_pos h2]
   ·rw [if_neg h2, if_neg h1, if_neg h1, if_neg h2]; rfl
 ·unfold byteC
  simp only [key]
  intro h
  split at h
  ·cases h
  ·split at h
   ·cases h
   ·exact UInt8.toNat_inj.1 (by omega)
 ·unfold byteC
  simp only [key]
  intro h1 h2
  split at h1
  ·split at h2
   ·rw [if_pos (by omega)]
   ·split at h2 <;> cases h2
  ·split at h1 <;> cases h1
theorem compare_lex : ∀ a b : List UInt8, Lib.compareBytes a b = lexC byteC a b
 | [], [] => rfl
 | [], _ :: _ => rfl
 | _ :: _, [] => rfl
 | x :: a, y :: b => by
  unfold Lib.compareBytes lexC byteC
  rw [compare_lex a b]
  by_cases h1 : x < y
  ·simp [h1]
  ·by_cases h2 : y < x
   ·simp [h1, h2]
   ·simp [h1, h2]
    rfl
theorem compare_good : Good Lib.compareBytes := by
 have : Lib.compareBytes = lexC byteC := by funext a b; exact compare_lex a b
 rw [this]
 exact byteC_good.lex
def cmpB (a b : ByteArray) : Int := Lib.compareBytes a.data.toList b.data.toList
theorem bytes_inj {a b : ByteArray} (h : a.data.toList = b.data.toList) : a = b := by
 obtain ⟨⟨x⟩⟩ := a
 obtain ⟨⟨y⟩⟩ := b
 simp at h
 subst h
 rfl
theorem cmpB_good : Good cmpB :=
 ⟨fun x y => compare_good.rng _ _, fun x y => compare_good.anti _ _, fun x y h => bytes_inj (compare_good.zero _ _ h), fun x y z => compare_good.trans _ _ _⟩
def labC (x y : Lab) : Int := if cmpB x.1 y.1 ≠ 0 then cmpB x.1 y.1 else cmpB x.2 y.2
theorem labC_good : Good labC := by
 have h := cmpB_good
 refine ⟨fun x y => ?_, fun x y => ?_, fun x y => ?_, fun x y z => ?_⟩
 ·unfold labC; split
  ·exact h.rng _ _
  ·exact h.rng _ _
 ·unfold labC
  rw [h.anti x.1 y.1, h.anti x.2 y.2]
  by_cases e : cmpB x.1 y.1 = 0
  ·rw [if_neg (by omega), if_neg (by omega)]
  ·rw [if_pos (by omega), if_pos e]
 ·unfold labC
  split
  ·intro e; contradiction
  ·rename_i h0
   intro e
   exact Prod.ext (h.zero _ _ (by omega)) (h.zero _ _ e)
 ·unfold labC
  intro h1 h2
  by_cases e1 : cmpB x.1 y.1 = 0
  ·rw [if_neg (by omega)] at h1
   rw [h.zero _ _ e1]
   by_cases e2 : cmpB y.1 z.1 = 0
   ·rw [if_neg (by omega)] at h2 ⊢
    exact h.trans _ _ _ h1 h2
   ·rw [if_pos e2] at h2 ⊢
    exact h2
  ·rw [if_pos e1] at h1
   by_cases e2 : cmpB y.1 z.1 = 0
   ·rw [← h.zero _ _ e2, if_pos e1]
    exact h1
   ·rw [if_pos e2] at h2
    have := h.trans _ _ _ h1 h2
    rw [if_pos (by omega)]
    exact this
def cmpL : Labs → Labs → Int := lexC labC
theorem cmpL_good : Good cmpL := labC_good.lex
theorem less_cmp : ∀ a b : List UInt8, Op.bytesLess a b = decide (Lib.compareBytes a b = -1)
 | [], [] => rfl
 | _ :: _, [] => rfl
 | [], _ :: _ => rfl
 | x :: a, y :: b => by
  unfold Op.bytesLess Lib.compareBytes
  rw [less_cmp a b]
  by_cases h1 : x < y
  ·simp [h1]
  ·by_cases h2 : y < x
   ·have : x ≠ y := fun e => by subst e; exact h1 h2
    simp [h1, h2, this]
   ·have : x = y := UInt8.le_antisymm (UInt8.not_lt.1 h2) (UInt8.not_lt.1 h1)
    simp [this]
def digitB (c : UInt8) : Bool := decide (48 ≤ c.toNat) && decide (c.toNat ≤ 57)
def plainB (c : UInt8) : Bool := (decide (97 ≤ c.toNat) && decide (c.toNat ≤ 122)) || (decide (65 ≤ c.toNat) && decide (c.toNat ≤ 90)) || decide (c.toNat = 95) || digitB c
def nameOk (s : ByteArray) : Bool := decide (0 < s.size) && decide (s.size ≤ 64) && s.data.toList.all plainB && !digitB (s.data.toList.headD 0)
def valOk (s : ByteArray) : Bool := decide (0 < s.size) && decide (s.size ≤ 64)
def labOk (x : Lab) : Bool := nameOk x.1 && valOk x.2
def ins (x : Lab) : Labs → Option Labs
 | [] => some [x]
 | y :: r => if cmpB x.1 y.1 = 0 then none else if cmpB x.1 y.1 = -1 then some (x :: y :: r) else (ins x r).map (y :: ·)
def insAll (acc : Labs) : Labs → Option Labs
 | [] => some acc
 | x :: r => (ins x acc).bind (fun a => insAll a r)
def makeL (l : Labs) : Option Labs := if l.length = 0 ∨ 16 < l.length then none else if l.all labOk then insAll [] l else none
theorem ins_len {x : Lab} {l m : Labs} (h : ins x l = some m) : m.length = l.length + 1 := by
 induction l generalizing m with
 | nil => simp [ins] at h; subst h; rfl
 | cons y r ih =>
  unfold ins at h
  split at h
  ·cases h
  ·split at h
   ·cases h; rfl
   ·obtain ⟨k, hk, rfl⟩ := Option.map_eq_some_iff.1 h
    simp [ih hk]
theorem insAll_len {a l m : Labs} (h : insAll a l = some m) : m.length = a.length + l.length := by
 induction l generalizing a with
 | nil => simp [insAll] at h; subst h; rfl
 | cons x r ih =>
  unfold insAll at h
  obtain ⟨k, hk, h2⟩ := Option.bind_eq_some_iff.1 h
  rw [ih h2, ins_len hk, List.length_cons]; omega
theorem ins_mem {x : Lab} {l m : Labs} (h : ins x l = some m) : ∀ y, y ∈ m ↔ y = x ∨ y ∈ l := by
 induction l generalizing m with
 | nil => simp [ins] at h; subst h; simp
 | cons z r ih =>
  unfold ins at h
  split at h
  ·cases h
  ·split at h
   ·cases h; intro y; simp
   ·obtain ⟨k, hk, rfl⟩ := Option.map_eq_some_iff.1 h
    intro y
    simp only [List.mem_cons, ih hk y]
    constructor
    ·rintro (h | h | h)
     ·exact .inr (.inl h)
     ·exact .inl h
     ·exact .inr (.inr h)
    ·rintro (h | h | h)
     ·exact .inr (.inl h)
     ·exact .inl h
     ·exact .inr (.inr h)
theorem insAll_mem {a l m : Labs} (h : insAll a l = some m) : ∀ y, y ∈ m ↔ y ∈ a ∨ y ∈ l := by
 induction l generalizing a with
 | nil => simp [insAll] at h; subst h; simp
 | cons x r ih =>
  unfold insAll at h
  obtain ⟨k, hk, h2⟩ := Option.bind_eq_some_iff.1 h
  intro y
  rw [ih h2 y, ins_mem hk y]
  simp only [List.mem_cons]
  constructor
  ·rintro ((h | h) | h)
   ·exact .inr (.inl h)
   ·exact .inl h
   ·exact .inr (.inr h)
  ·rintro (h | h | h)
   ·exact .inl (.inr h)
   ·exact .inl (.inl h)
   ·exact .inr h
def Rise (l : Labs) : Prop := l.Pairwise (fun x y => cmpB x.1 y.1 = -1)
theorem ins_rise {x : Lab} {l m : Labs} (hl : Rise l) (h : ins x l = some m) : Rise m := by
 induction l generalizing m with
 | nil => simp [ins] at h; subst h; simp [Rise]
 | cons y r ih =>
  unfold ins at h
  have hl' := List.pairwise_cons.1 hl
  split at h
  ·cases h
  ·split at h
   ·rename_i h1 h2
    cases h
    refine List.pairwise_cons.2 ⟨fun z hz => ?_, hl⟩
    rcases List.mem_cons.1 hz with rfl | hz
    ·exact h2
    ·exact cmpB_good.trans _ _ _ h2 (hl'.1 z hz)
   ·rename_i h1 h2
    obtain ⟨k, hk, rfl⟩ := Option.map_eq_some_iff.1 h
    refine List.pairwise_cons.2 ⟨fun z hz => ?_, ih hl'.2 hk⟩
    rcases (ins_mem hk z).1 hz with rfl | hz
    ·have := cmpB_good.anti z.1 y.1
     have := cmpB_good.rng z.1 y.1
     omega
    ·exact hl'.1 z hz
theorem insAll_rise {a l m : Labs} (ha : Rise a) (h : insAll a l = some m) : Rise m := by
 induction l generalizing a with
 | nil => simp [insAll] at h; subst h; exact ha
 | cons x r ih =>
  unfold insAll at h
  obtain ⟨k, hk, h2⟩ := Option.bind_eq_some_iff.1 h
  exact ih (ins_rise ha hk) h2
theorem ins_end {x : Lab} {l : Labs} (h : ∀ y ∈ l, cmpB y.1 x.1 = -1) : ins x l = some (l ++ [x]) := by
 induction l with
 | nil => rfl
 | cons y r ih =>
  have h1 := h y (List.mem_cons_self ..)
  have h2 := cmpB_good.anti y.1 x.1
  unfold ins
  rw [if_neg (by omega), if_neg (by omega), ih (fun z hz => h z (List.mem_cons_of_mem _ hz))]
  rfl
theorem insAll_rising {a l : Labs} (h : Rise (a ++ l)) : insAll a l = some (a ++ l) := by
 induction l generalizing a with
 | nil => simp [insAll]
 | cons x r ih =>
  have h1 := List.pairwise_append.1 h
  unfold insAll
  rw [ins_end (fun y hy => h1.2.2 y hy x (List.mem_cons_self ..))]
  show insAll (a ++ [x]) r = _
  rw [ih (by rw [List.append_assoc]; exact h), List.append_assoc]
  rfl
structure Made (m : Labs) : Prop where
 len : 0 < m.length
 len16 : m.length ≤ 16
 ok : ∀ x ∈ m, labOk x = true
 rise : Rise m
theorem makeL_made {l m : Labs} (h : makeL l = some m) : Made m := by
 unfold makeL at h
 split at h
 ·cases h
 ·split at h
  ·rename_i h1 h2
   have e := insAll_len h
   simp at e
   refine ⟨by omega, by omega, fun x hx => ?_, insAll_rise (by simp [Rise]) h⟩
   rcases (insAll_mem h x).1 hx with hx | hx
   ·cases hx
   ·exact List.all_eq_true.1 h2 x hx
  ·cases h
theorem Made.make {m : Labs} (h : Made m) : makeL m = some m := by
 unfold makeL
 rw [if_neg (by have := h.len; have := h.len16; omega), if_pos (List.all_eq_true.2 h.ok)]
 exact insAll_rising (a := []) h.rise
end Go.Proofs.YtllfanlhgnkcfaaGreatDoor.N
namespace Go.Proofs.YtllfanlhgnkcfaaGreatDoor.N
open Go Go.RowKit Go.Proofs.Lys
set_option linter.unusedVariables false
def shownB (c : UInt8) : Bool := decide (32 ≤ c.toNat) && decide (c.toNat ≤ 126) && decide (c.toNat ≠ 34) && decide (c.toNat ≠ 92)
def hexD (n : Nat) : UInt8 := if n < 10 then UInt8.ofNat (48 + n) else UInt8.ofNat (87 + n)
def hexV (c : UInt8) : Option Nat := if 48 ≤ c.toNat ∧ c.toNat ≤ 57 then some (c.toNat - 48) else if 97 ≤ c.toNat ∧ c.toNat ≤ 102 then some (c.toNat - 87) else none
def hideB (c : UInt8) : List UInt8 := [92, hexD (c.toNat / 16), hexD (c.toNat % 16)]
def quoteB (c : UInt8) : List UInt8 := if shownB c then [c] else hideB c
def quoteL (l : List UInt8) : List UInt8 := l.flatMap quoteB
def labT (x : Lab) : List UInt8 := x.1.data.toList ++ ([61, 34] ++ (quoteL x.2.data.toList ++ [34]))
def restT (l : Labs) : List UInt8 := l.flatMap (fun x => 44 :: labT x)
def accT : Labs → List UInt8
 | [] => []
 | x :: r => 123 :: (labT x ++ restT r)
def textL (l : Labs) : List UInt8 := accT l ++ [125]
theorem accT_snoc (l : Labs) (x : Lab) : accT (l ++ [x]) = accT l ++ ((if l = [] then 123 else 44) :: labT x) := by
 cases l with
 | nil => simp [accT, restT]
 | cons y r => simp [accT, restT]
theorem quoteL_app (a b : List UInt8) : quoteL (a ++ b) = quoteL a ++ quoteL b := by simp [quoteL]
theorem hexV_hexD : ∀ n : Nat, n < 16 → hexV (hexD n) = some n := by decide
theorem hexD_plain : ∀ n : Nat, n < 16 → 48 ≤ (hexD n).toNat ∧ (hexD n).toNat ≤ 102 := by decide
theorem hexV_lt {c : UInt8} {n : Nat} (h : hexV c = some n) : n < 16 ∧ c.toNat < 128 := by
 unfold hexV at h
 split at h
 ·cases h; omega
 ·split at h
  ·cases h; omega
  ·cases h
def hex2 : List UInt8 → Option UInt8
 | h :: l :: _ => match hexV h, hexV l with
  | some a, some b => some (UInt8.ofNat (16 * a + b))
  | _, _ => none
 | _ => none
theorem hex2_hide (c : UInt8) (r : List UInt8) : hex2 (hexD (c.toNat / 16) :: hexD (c.toNat % 16) :: r) = some c := by
 have hc := c.toNat_lt
 simp only [hex2, hexV_hexD (c.toNat / 16) (by omega), hexV_hexD (c.toNat % 16) (by omega)]
 have : UInt8.ofNat (16 * (c.toNat / 16) + c.toNat % 16) = c := by
  rw [Nat.div_add_mod]
  simp
 rw [this]
theorem hex2_two {r : List UInt8} {v : UInt8} (h : hex2 r = some v) : ∃ a b r', r = a :: b :: r' ∧ a.toNat < 128 ∧ b.toNat < 128 := by
 match r, h with
 | a :: b :: r', h =>
  simp only [hex2] at h
  split at h
  ·rename_i ha hb
   exact ⟨a, b, r', rfl, (hexV_lt ha).2, (hexV_lt hb).2⟩
  ·cases h
def unqF : Nat → List UInt8 → Option (List UInt8)
 | 0, _ => some []
 | _ + 1, [] => some []
 | n + 1, c :: r =>
  if shownB c then (unqF n r).map (c :: ·)
  else if c.toNat = 92 then
   match hex2 r with
   | some v => (unqF n (r.drop 2)).map (v :: ·)
   | none => none
  else none
theorem unqF_any (n : Nat) : ∀ (m : Nat) (l : List UInt8), l.length ≤ n → l.length ≤ m → unqF n l = unqF m l := by
 induction n with
 | zero =>
  intro m l h _
  cases l with
  | nil => cases m <;> rfl
  | cons c r => simp at h
 | succ n ih =>
  intro m l h h'
  cases l with
  | nil => cases m <;> rfl
  | cons c r =>
   cases m with
   | zero => simp at h'
   | succ m =>
    simp only [List.length_cons] at h h'
    have e1 := ih m r (by omega) (by omega)
    have e2 := ih m (r.drop 2) (by rw [List.length_drop]; omega) (by rw [List.length_drop]; omega)
    simp only [unqF]
    rw [e1, e2]
def unqL (l : List UInt8) : Option (List UInt8) := unqF l.length l
theorem unqL_nil : unqL [] = some [] := rfl
theorem unqL_cons (c : UInt8) (r : List UInt8) : unqL (c :: r) = if shownB c then (unqL r).map (c :: ·)
  else if c.toNat = 92 then
   match hex2 r with
   | some v => (unqL (r.drop 2)).map (v :: ·)
   | none => none
  else none := by
 have e := unqF_any r.length (r.drop 2).length (r.drop 2) (by rw [List.length_drop]; omega) (Nat.le_refl _)
 unfold unqL
 rw [List.length_cons]
 simp only [unqF]
 rw [e]
theorem unqL_shown {c : UInt8} (r : List UInt8) (h : shownB c = true) : unqL (c :: r) = (unqL r).map (c :: ·) := by
 rw [unqL_cons, if_pos h]
theorem unqL_hide (c : UInt8) (r : List UInt8) : unqL (hideB c ++ r) = (unqL r).map (c :: ·) := by
 show unqL (92 :: hexD (c.toNat / 16) :: hexD (c.toNat % 16) :: r) = _
 rw [unqL_cons, if_neg (by decide), if_pos (by decide), hex2_hide]
 rfl
theorem unqL_quote (l r : List UInt8) : unqL (quoteL l ++ r) = (unqL r).map (l ++ ·) := by
 induction l with
 | nil => simp [quoteL]
 | cons c l ih =>
  have e : quoteL (c :: l) ++ r = quoteB c ++ (quoteL l ++ r) := by simp [quoteL]
  rw [e]
  unfold quoteB
  split
  ·rename_i h
   show unqL (c :: (quoteL l ++ r)) = _
   rw [unqL_shown _ h, ih]
   cases unqL r <;> simp
  ·rw [unqL_hide, ih]
   cases unqL r <;> simp
theorem unqL_quote0 (l : List UInt8) : unqL (quoteL l) = some l := by
 have := unqL_quote l []
 rw [List.append_nil] at this
 rw [this, unqL_nil]
 simp
theorem hide_range (c : UInt8) : ∀ x ∈ hideB c, 32 ≤ x.toNat ∧ x.toNat ≤ 126 ∧ x.toNat ≠ 34 := by
 have hc := c.toNat_lt
 have h1 := hexD_plain (c.toNat / 16) (by omega)
 have h2 := hexD_plain (c.toNat % 16) (by omega)
 intro x hx
 simp only [hideB, List.mem_cons, List.not_mem_nil, or_false] at hx
 rcases hx with rfl | rfl | rfl
 ·decide
 ·omega
 ·omega
theorem quote_range (l : List UInt8) : ∀ x ∈ quoteL l, 32 ≤ x.toNat ∧ x.toNat ≤ 126 ∧ x.toNat ≠ 34 := by
 intro x hx
 obtain ⟨c, hc, hx⟩ := List.mem_flatMap.1 hx
 unfold quoteB at hx
 split at hx
 ·rename_i h
  have := List.mem_singleton.1 hx
  subst this
  simp only [shownB, Bool.and_eq_true, decide_eq_true_eq] at h
  omega
 ·exact hide_range c x hx
def labR (s : List UInt8) : Option ((List UInt8 × List UInt8) × List UInt8) :=
 if (Lib.cut s [61, 34]).2.2 then
  if (Lib.cut (Lib.cut s [61, 34]).2.1 [34]).2.2 then
   (unqL (Lib.cut (Lib.cut s [61, 34]).2.1 [34]).1).map (fun v => (((Lib.cut s [61, 34]).1, v), (Lib.cut (Lib.cut s [61, 34]).2.1 [34]).2.1))
  else none
 else none
abbrev mkB (l : List UInt8) : ByteArray := ⟨l.toArray⟩
def mkLab (p : List UInt8 × List UInt8) : Lab := (mkB p.1, mkB p.2)
def readR : Nat → List UInt8 → Option Labs
 | 0, _ => none
 | f + 1, s => match labR s with
  | none => none
  | some (x, r) => if r = [125] then some [mkLab x] else match r with
   | c :: r' => if c.toNat = 44 then (readR f r').map (mkLab x :: ·) else none
   | [] => none
def readL : List UInt8 → Option Labs
 | [] => none
 | c :: r => if c.toNat = 123 then readR 17 r else none
def parseL (s : List UInt8) : Option Labs := (readL s).bind (fun l => (makeL l).bind (fun m => if textL m = s then some m else none))
theorem cut_first {a b sep : List UInt8} (hs : sep ≠ []) (h : ∀ j, j < a.length → sep.isPrefixOf ((a ++ (sep ++ b)).drop j) = false) : Lib.cut (a ++ (sep ++ b)) sep = (a, b, true) := by
 have hi : Lib.index (a ++ (sep ++ b)) sep = (a.length : Int) := by
  refine Lib.index_first (by simp) ?_ (fun j hj => h j hj)
  unfold Lib.occAt
  rw [List.drop_left]
  exact List.isPrefixOf_iff_prefix.2 ⟨b, rfl⟩
 unfold Lib.cut
 rw [hi, if_pos (by omega)]
 simp
theorem cut_none_at {a t sep : List UInt8} {c : UInt8} {r : List UInt8} (hsep : sep = c :: r) (ha : c ∉ a) (j : Nat) (hj : j < a.length) : sep.isPrefixOf ((a ++ t).drop j) = false := by
 subst hsep
 rw [List.drop_append_of_le_length (by omega), List.drop_eq_getElem_cons hj]
 simp only [List.cons_append, List.isPrefixOf, Bool.and_eq_false_iff]
 left
 simp only [beq_eq_false_iff_ne]
 exact fun e => ha (e ▸ List.getElem_mem hj)
theorem plain_ne {c : UInt8} (h : plainB c = true) : c.toNat ≠ 61 ∧ c.toNat ≠ 34 ∧ 32 ≤ c.toNat ∧ c.toNat ≤ 126 := by
 simp only [plainB, digitB, Bool.or_eq_true, Bool.and_eq_true, decide_eq_true_eq] at h
 omega
theorem name_plain {x : Lab} (h : labOk x = true) : ∀ c ∈ x.1.data.toList, plainB c = true := by
 simp only [labOk, nameOk, Bool.and_eq_true, decide_eq_true_eq] at h
 exact List.all_eq_true.1 h.1.1.2
theorem labR_text {x : Lab} (h : labOk x = true) (t : List UInt8) : labR (labT x ++ t) = some ((x.1.data.toList, x.2.data.toList), t) := by
 have hp := name_plain h
 have e : labT x ++ t = x.1.data.toList ++ ([61, 34] ++ (quoteL x.2.data.toList ++ ([34] ++ t))) := by simp [labT]
 have c1 : Lib.cut (labT x ++ t) [61, 34] = (x.1.data.toList, quoteL x.2.data.toList ++ ([34] ++ t), true) := by
  rw [e]
  exact cut_first (by simp) (fun j hj => cut_none_at rfl (fun hm => (plain_ne (hp _ hm)).1 rfl) j hj)
 have c2 : Lib.cut (quoteL x.2.data.toList ++ ([34] ++ t)) [34] = (quoteL x.2.data.toList, t, true) :=
  cut_first (by simp) (fun j hj => cut_none_at rfl (fun hm => (quote_range _ _ hm).2.2 rfl) j hj)
 unfold labR
 rw [c1]
 simp only [c2, if_true, unqL_quote0]
 rfl
theorem mkLab_eq (x : Lab) : mkLab (x.1.data.toList, x.2.data.toList) = x := rfl
theorem readR_text (m : Labs) : ∀ (x : Lab) (f : Nat), (∀ y ∈ x :: m, labOk y = true) → m.length < f → readR f (labT x ++ (restT m ++ [125])) = some (x :: m) := by
 induction m with
 | nil =>
  intro x f h hf
  obtain ⟨g, rfl⟩ : ∃ g, f = g + 1 := ⟨f - 1, by simp at hf; omega⟩
  unfold readR
  rw [labR_text (h x (List.mem_cons_self ..))]
  simp [restT, mkLab_eq]
 | cons y r ih =>
  intro x f h hf
  obtain ⟨g, rfl⟩ : ∃ g, f = g + 1 := ⟨f - 1, by simp at hf; omega⟩
  have e : restT (y :: r) ++ [125] = 44 :: (labT y ++ (restT r ++ [125])) := by simp [restT]
  unfold readR
  rw [labR_text (h x (List.mem_cons_self ..)), e]
  simp only [List.cons.injEq]
  rw [if_neg (by rintro ⟨e, _⟩; exact absurd e (by decide)), if_pos (by decide), ih y g (fun z hz => h z (List.mem_cons_of_mem _ hz)) (by simp at hf; omega), mkLab_eq]
  rfl
theorem read_text {m : Labs} (h : Made m) : readL (textL m) = some m := by
 cases m with
 | nil => have := h.len; simp at this
 | cons x r =>
  have e : textL (x :: r) = 123 :: (labT x ++ (restT r ++ [125])) := by simp [textL, accT]
  rw [e]
  show (if (123 : UInt8).toNat = 123 then readR 17 (labT x ++ (restT r ++ [125])) else none) = _
  rw [if_pos (by decide)]
  exact readR_text r x 17 h.ok (by have := h.len16; simp at this; omega)
theorem parse_iff {s : List UInt8} {m : Labs} : parseL s = some m ↔ Made m ∧ textL m = s := by
 constructor
 ·intro h
  obtain ⟨l, _, h⟩ := Option.bind_eq_some_iff.1 h
  obtain ⟨k, hk, h⟩ := Option.bind_eq_some_iff.1 h
  split at h
  ·rename_i e
   cases h
   exact ⟨makeL_made hk, e⟩
  ·cases h
 ·rintro ⟨h, rfl⟩
  unfold parseL
  rw [read_text h]
  show (makeL m).bind _ = _
  rw [h.make]
  simp
theorem decode_wide (s : ByteArray) (pos : Nat) (h : pos < s.size) (ha : 128 ≤ (s[pos]'h).toNat) :
  pos + (Utf8.decode s pos).2 ≤ s.size ∧ ∀ j, j < (Utf8.decode s pos).2 → 128 ≤ (s.get! (pos + j)).toNat := by
 have e0 := get_at s pos h
 have hn : ¬ (s[pos]'h).toNat < 128 := by omega
 have one : pos + 1 ≤ s.size ∧ ∀ j, j < 1 → 128 ≤ (s.get! (pos + j)).toNat := by
  refine ⟨h, fun j hj => ?_⟩
  have : j = 0 := by omega
  subst this
  rw [e0]; exact ha
 simp only [Utf8.decode, e0, hn, if_false]
 repeat' split
 all_goals try exact one
 all_goals
  rename_i hc _
  simp only [Bool.and_eq_true, decide_eq_true_eq, beq_iff_eq] at hc
  refine ⟨by omega, fun j hj => ?_⟩
  have : j = 0 ∨ j = 1 ∨ j = 2 ∨ j = 3 := by omega
  rcases this with rfl | rfl | rfl | rfl
  all_goals first | omega | (rw [e0]; exact ha)
end Go.Proofs.YtllfanlhgnkcfaaGreatDoor.N
