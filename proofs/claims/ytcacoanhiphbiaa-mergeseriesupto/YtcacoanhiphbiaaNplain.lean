/-
  Labels in plain words: their order, their text, what a text is read as. No program is named here.
-/
import Derived.Test.YtcacoanhiphbiaaBase
import Derived.Lib.IndexMore
import GoSem.Op.String
namespace Go.Proofs.Ytcacoanhiphbiaa.N
open Go Go.RowKit Go.Proofs.Lys
set_option linter.unusedVariables false

abbrev Lab := ByteArray × ByteArray
abbrev Labs := List Lab

/-! ### Orders -/
/-- A comparison: -1, 0 or 1. -/
structure Good {α : Type} (f : α → α → Int) : Prop where
  rng : ∀ x y, f x y = -1 ∨ f x y = 0 ∨ f x y = 1
  anti : ∀ x y, f y x = - f x y
  zero : ∀ x y, f x y = 0 → x = y
  trans : ∀ x y z, f x y = -1 → f y z = -1 → f x z = -1

theorem Good.self {α : Type} {f : α → α → Int} (h : Good f) (x : α) : f x x = 0 := by
  have := h.anti x x
  omega
theorem Good.trans_le {α : Type} {f : α → α → Int} (h : Good f) {x y z : α} (h1 : f x y ≤ 0) (h2 : f y z ≤ 0) : f x z ≤ 0 := by
  rcases h.rng x y with e | e | e
  · rcases h.rng y z with e2 | e2 | e2
    · have := h.trans x y z e e2; omega
    · have := h.zero y z e2; subst this; omega
    · omega
  · have := h.zero x y e; subst this; exact h2
  · omega

/-- Element by element; a beginning stands ahead. -/
def lexC {α : Type} (f : α → α → Int) : List α → List α → Int
  | [], [] => 0
  | [], _ :: _ => -1
  | _ :: _, [] => 1
  | x :: a, y :: b => if f x y ≠ 0 then f x y else lexC f a b

theorem Good.lex {α : Type} {f : α → α → Int} (h : Good f) : Good (lexC f) := by
  refine ⟨fun x => ?_, fun x => ?_, fun x => ?_, fun x => ?_⟩
  · induction x with
    | nil => intro y; cases y <;> simp [lexC]
    | cons a x ih =>
      intro y
      cases y with
      | nil => simp [lexC]
      | cons b y =>
        unfold lexC
        split
        · exact h.rng a b
        · exact ih y
  · induction x with
    | nil => intro y; cases y <;> simp [lexC]
    | cons a x ih =>
      intro y
      cases y with
      | nil => simp [lexC]
      | cons b y =>
        have e := h.anti a b
        unfold lexC
        rw [e]
        by_cases h0 : f a b = 0
        · rw [if_neg (by omega), if_neg (by omega)]
          exact ih y
        · rw [if_pos (by omega), if_pos h0]
  · induction x with
    | nil => intro y; cases y <;> simp [lexC]
    | cons a x ih =>
      intro y
      cases y with
      | nil => simp [lexC]
      | cons b y =>
        unfold lexC
        split
        · intro e; contradiction
        · rename_i h0
          intro e
          have h1 := h.zero a b (by omega)
          have h2 := ih y e
          subst h1 h2
          rfl
  · induction x with
    | nil => intro y z; cases y <;> cases z <;> simp [lexC]
    | cons a x ih =>
      intro y z
      cases y with
      | nil => simp [lexC]
      | cons b y =>
        cases z with
        | nil => simp [lexC]
        | cons c z =>
          unfold lexC
          intro h1 h2
          by_cases e1 : f a b = 0
          · have := h.zero a b e1
            subst this
            rw [if_neg (by omega)] at h1
            by_cases e2 : f a c = 0
            · rw [if_neg (by omega)] at h2
              rw [if_neg (by omega)]
              exact ih y z h1 h2
            · rw [if_pos e2] at h2 ⊢
              exact h2
          · rw [if_pos e1] at h1
            by_cases e2 : f b c = 0
            · have := h.zero b c e2
              subst this
              rw [if_pos e1]
              exact h1
            · rw [if_pos e2] at h2
              have := h.trans a b c h1 h2
              rw [if_pos (by omega)]
              exact this

def byteC (a b : UInt8) : Int := if a < b then -1 else if b < a then 1 else 0
theorem byteC_good : Good byteC := by
  have key : ∀ a b : UInt8, (a < b ↔ a.toNat < b.toNat) := fun a b => UInt8.lt_iff_toNat_lt
  refine ⟨fun x y => ?_, fun x y => ?_, fun x y => ?_, fun x y z => ?_⟩
  · unfold byteC; split
    · exact .inl rfl
    · split
      · exact .inr (.inr rfl)
      · exact .inr (.inl rfl)
  · unfold byteC
    simp only [key]
    by_cases h1 : x.toNat < y.toNat
    · rw [if_neg (by omega), if_pos h1, if_pos h1]; rfl
    · by_cases h2 : y.toNat < x.toNat
      · rw [if_pos h2, if_neg h1, if_pos h2]
      · rw [if_neg h2, if_neg h1, if_neg h1, if_neg h2]; rfl
  · unfold byteC
    simp only [key]
    intro h
    split at h
    · cases h
    · split at h
      · cases h
      · exact UInt8.toNat_inj.1 (by omega)
  · unfold byteC
    simp only [key]
    intro h1 h2
    split at h1
    · split at h2
      · rw [if_pos (by omega)]
      · split at h2 <;> cases h2
    · split at h1 <;> cases h1

theorem compare_lex : ∀ a b : List UInt8, Lib.compareBytes a b = lexC byteC a b
  | [], [] => rfl
  | [], _ :: _ => rfl
  | _ :: _, [] => rfl
  | x :: a, y :: b => by
    unfold Lib.compareBytes lexC byteC
    rw [compare_lex a b]
    by_cases h1 : x < y
    · simp [h1]
    · by_cases h2 : y < x
      · simp [h1, h2]
      · simp [h1, h2]
        rfl
theorem compare_good : Good Lib.compareBytes := by
  have : Lib.compareBytes = lexC byteC := by funext a b; exact compare_lex a b
  rw [this]
  exact byteC_good.lex

/-- Texts as bytes. -/
def cmpB (a b : ByteArray) : Int := Lib.compareBytes a.data.toList b.data.toList
theorem bytes_inj {a b : ByteArray} (h : a.data.toList = b.data.toList) : a = b := by
  obtain ⟨⟨x⟩⟩ := a
  obtain ⟨⟨y⟩⟩ := b
  simp at h
  subst h
  rfl
theorem cmpB_good : Good cmpB :=
  ⟨fun x y => compare_good.rng _ _, fun x y => compare_good.anti _ _, fun x y h => bytes_inj (compare_good.zero _ _ h), fun x y z => compare_good.trans _ _ _⟩

/-- One label against another: names, then values. -/
def labC (x y : Lab) : Int := if cmpB x.1 y.1 ≠ 0 then cmpB x.1 y.1 else cmpB x.2 y.2
theorem labC_good : Good labC := by
  have h := cmpB_good
  refine ⟨fun x y => ?_, fun x y => ?_, fun x y => ?_, fun x y z => ?_⟩
  · unfold labC; split
    · exact h.rng _ _
    · exact h.rng _ _
  · unfold labC
    rw [h.anti x.1 y.1, h.anti x.2 y.2]
    by_cases e : cmpB x.1 y.1 = 0
    · rw [if_neg (by omega), if_neg (by omega)]
    · rw [if_pos (by omega), if_pos e]
  · unfold labC
    split
    · intro e; contradiction
    · rename_i h0
      intro e
      exact Prod.ext (h.zero _ _ (by omega)) (h.zero _ _ e)
  · unfold labC
    intro h1 h2
    by_cases e1 : cmpB x.1 y.1 = 0
    · rw [if_neg (by omega)] at h1
      rw [h.zero _ _ e1]
      by_cases e2 : cmpB y.1 z.1 = 0
      · rw [if_neg (by omega)] at h2 ⊢
        exact h.trans _ _ _ h1 h2
      · rw [if_pos e2] at h2 ⊢
        exact h2
    · rw [if_pos e1] at h1
      by_cases e2 : cmpB y.1 z.1 = 0
      · rw [← h.zero _ _ e2, if_pos e1]
        exact h1
      · rw [if_pos e2] at h2
        have := h.trans _ _ _ h1 h2
        rw [if_pos (by omega)]
        exact this
/-- Labels against labels. -/
def cmpL : Labs → Labs → Int := lexC labC
theorem cmpL_good : Good cmpL := labC_good.lex

theorem less_cmp : ∀ a b : List UInt8, Op.bytesLess a b = decide (Lib.compareBytes a b = -1)
  | [], [] => rfl
  | _ :: _, [] => rfl
  | [], _ :: _ => rfl
  | x :: a, y :: b => by
    unfold Op.bytesLess Lib.compareBytes
    rw [less_cmp a b]
    by_cases h1 : x < y
    · simp [h1]
    · by_cases h2 : y < x
      · have : x ≠ y := fun e => by subst e; exact h1 h2
        simp [h1, h2, this]
      · have : x = y := UInt8.le_antisymm (UInt8.not_lt.1 h2) (UInt8.not_lt.1 h1)
        simp [this]

/-! ### Labels that are taken -/
def digitB (c : UInt8) : Bool := decide (48 ≤ c.toNat) && decide (c.toNat ≤ 57)
def plainB (c : UInt8) : Bool := (decide (97 ≤ c.toNat) && decide (c.toNat ≤ 122)) || (decide (65 ≤ c.toNat) && decide (c.toNat ≤ 90)) || decide (c.toNat = 95) || digitB c
def nameOk (s : ByteArray) : Bool := decide (0 < s.size) && decide (s.size ≤ 64) && s.data.toList.all plainB && !digitB (s.data.toList.headD 0)
def valOk (s : ByteArray) : Bool := decide (0 < s.size) && decide (s.size ≤ 64)
def labOk (x : Lab) : Bool := nameOk x.1 && valOk x.2

/-- One label more, at its place. -/
def ins (x : Lab) : Labs → Option Labs
  | [] => some [x]
  | y :: r => if cmpB x.1 y.1 = 0 then none else if cmpB x.1 y.1 = -1 then some (x :: y :: r) else (ins x r).map (y :: ·)
def insAll (acc : Labs) : Labs → Option Labs
  | [] => some acc
  | x :: r => (ins x acc).bind (fun a => insAll a r)
/-- The labels by rising name, if they can be a series' name. -/
def makeL (l : Labs) : Option Labs := if l.length = 0 ∨ 16 < l.length then none else if l.all labOk then insAll [] l else none

theorem ins_len {x : Lab} {l m : Labs} (h : ins x l = some m) : m.length = l.length + 1 := by
  induction l generalizing m with
  | nil => simp [ins] at h; subst h; rfl
  | cons y r ih =>
    unfold ins at h
    split at h
    · cases h
    · split at h
      · cases h; rfl
      · obtain ⟨k, hk, rfl⟩ := Option.map_eq_some_iff.1 h
        simp [ih hk]
theorem insAll_len {a l m : Labs} (h : insAll a l = some m) : m.length = a.length + l.length := by
  induction l generalizing a with
  | nil => simp [insAll] at h; subst h; rfl
  | cons x r ih =>
    unfold insAll at h
    obtain ⟨k, hk, h2⟩ := Option.bind_eq_some_iff.1 h
    rw [ih h2, ins_len hk, List.length_cons]; omega
theorem ins_mem {x : Lab} {l m : Labs} (h : ins x l = some m) : ∀ y, y ∈ m ↔ y = x ∨ y ∈ l := by
  induction l generalizing m with
  | nil => simp [ins] at h; subst h; simp
  | cons z r ih =>
    unfold ins at h
    split at h
    · cases h
    · split at h
      · cases h; intro y; simp
      · obtain ⟨k, hk, rfl⟩ := Option.map_eq_some_iff.1 h
        intro y
        simp only [List.mem_cons, ih hk y]
        constructor
        · rintro (h | h | h)
          · exact .inr (.inl h)
          · exact .inl h
          · exact .inr (.inr h)
        · rintro (h | h | h)
          · exact .inr (.inl h)
          · exact .inl h
          · exact .inr (.inr h)
theorem insAll_mem {a l m : Labs} (h : insAll a l = some m) : ∀ y, y ∈ m ↔ y ∈ a ∨ y ∈ l := by
  induction l generalizing a with
  | nil => simp [insAll] at h; subst h; simp
  | cons x r ih =>
    unfold insAll at h
    obtain ⟨k, hk, h2⟩ := Option.bind_eq_some_iff.1 h
    intro y
    rw [ih h2 y, ins_mem hk y]
    simp only [List.mem_cons]
    constructor
    · rintro ((h | h) | h)
      · exact .inr (.inl h)
      · exact .inl h
      · exact .inr (.inr h)
    · rintro (h | h | h)
      · exact .inl (.inr h)
      · exact .inl (.inl h)
      · exact .inr h

/-- Names that rise. -/
def Rise (l : Labs) : Prop := l.Pairwise (fun x y => cmpB x.1 y.1 = -1)
theorem ins_rise {x : Lab} {l m : Labs} (hl : Rise l) (h : ins x l = some m) : Rise m := by
  induction l generalizing m with
  | nil => simp [ins] at h; subst h; simp [Rise]
  | cons y r ih =>
    unfold ins at h
    have hl' := List.pairwise_cons.1 hl
    split at h
    · cases h
    · split at h
      · rename_i h1 h2
        cases h
        refine List.pairwise_cons.2 ⟨fun z hz => ?_, hl⟩
        rcases List.mem_cons.1 hz with rfl | hz
        · exact h2
        · exact cmpB_good.trans _ _ _ h2 (hl'.1 z hz)
      · rename_i h1 h2
        obtain ⟨k, hk, rfl⟩ := Option.map_eq_some_iff.1 h
        refine List.pairwise_cons.2 ⟨fun z hz => ?_, ih hl'.2 hk⟩
        rcases (ins_mem hk z).1 hz with rfl | hz
        · have := cmpB_good.anti z.1 y.1
          have := cmpB_good.rng z.1 y.1
          omega
        · exact hl'.1 z hz
theorem insAll_rise {a l m : Labs} (ha : Rise a) (h : insAll a l = some m) : Rise m := by
  induction l generalizing a with
  | nil => simp [insAll] at h; subst h; exact ha
  | cons x r ih =>
    unfold insAll at h
    obtain ⟨k, hk, h2⟩ := Option.bind_eq_some_iff.1 h
    exact ih (ins_rise ha hk) h2
theorem ins_end {x : Lab} {l : Labs} (h : ∀ y ∈ l, cmpB y.1 x.1 = -1) : ins x l = some (l ++ [x]) := by
  induction l with
  | nil => rfl
  | cons y r ih =>
    have h1 := h y (List.mem_cons_self ..)
    have h2 := cmpB_good.anti y.1 x.1
    unfold ins
    rw [if_neg (by omega), if_neg (by omega), ih (fun z hz => h z (List.mem_cons_of_mem _ hz))]
    rfl
theorem insAll_rising {a l : Labs} (h : Rise (a ++ l)) : insAll a l = some (a ++ l) := by
  induction l generalizing a with
  | nil => simp [insAll]
  | cons x r ih =>
    have h1 := List.pairwise_append.1 h
    unfold insAll
    rw [ins_end (fun y hy => h1.2.2 y hy x (List.mem_cons_self ..))]
    show insAll (a ++ [x]) r = _
    rw [ih (by rw [List.append_assoc]; exact h), List.append_assoc]
    rfl

/-- Labels that Make has told. -/
structure Made (m : Labs) : Prop where
  len : 0 < m.length
  len16 : m.length ≤ 16
  ok : ∀ x ∈ m, labOk x = true
  rise : Rise m
theorem makeL_made {l m : Labs} (h : makeL l = some m) : Made m := by
  unfold makeL at h
  split at h
  · cases h
  · split at h
    · rename_i h1 h2
      have e := insAll_len h
      simp at e
      refine ⟨by omega, by omega, fun x hx => ?_, insAll_rise (by simp [Rise]) h⟩
      rcases (insAll_mem h x).1 hx with hx | hx
      · cases hx
      · exact List.all_eq_true.1 h2 x hx
    · cases h
theorem Made.make {m : Labs} (h : Made m) : makeL m = some m := by
  unfold makeL
  rw [if_neg (by have := h.len; have := h.len16; omega), if_pos (List.all_eq_true.2 h.ok)]
  exact insAll_rising (a := []) h.rise
theorem makeL_len {l m : Labs} (h : makeL l = some m) : m.length = l.length := by
  unfold makeL at h
  split at h
  · cases h
  · split at h
    · have e := insAll_len h
      simpa using e
    · cases h

end Go.Proofs.Ytcacoanhiphbiaa.N
