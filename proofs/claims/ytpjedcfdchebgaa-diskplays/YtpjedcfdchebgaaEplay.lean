/-
  The walk of the law DiskPlays.
-/
import Derived.Test.YtpjedcfdchebgaaEbeside
import Derived.Test.YtpjedcfdchebgaaEbig
namespace Go.Proofs.Ytpjedcfdchebgaa
open Go.RowKit Go.Proofs.Lys Go.Maps Go.Shelf
set_option linter.unusedVariables false

/-- What the document's own Crash does. -/
def RCrash : Prop := ∀ (w : World) (c : RConc) (O : Nat → Prop) (m : DModel), RAt w c O m → ∀ (ka : Option Addr) (kc : Nat) (keep : List Int), SrcOf w (.slice ka keep.length kc) (keep.map (Value.int .i64)) → (∀ a, ka = some a → 0 < keep.length → ¬ O a.block) → keep.length ≤ 1000000 → (∀ a ∈ m.acts, a.kind ≤ 2) → m.sure.length + m.acts.length ≤ 10000 → m.files.length ≤ 100000 →
    (∀ p ∈ (m.crash keep).dir, p.2 < m.files.length) → ((m.crash keep).dir.map (·.2)).Nodup →
    Calls Try.prog 20 #[.pointer (some ⟨c.d, 0, none⟩), .slice ka keep.length kc] w fun e w' => e = .returned (.tuple #[]) ∧ Only O w w' ∧ ∃ c' : RConc, c'.d = c.d ∧ RAt w' c' (Grow O w w') (m.crash keep)

/-- The three disks in play. -/
structure Play (w1 W : World) (A B R : Nat) (m mo : DModel) (k : Nat) : Prop where
  tri : Tri w1 W A B R m mo m
  fit : Fits m
  most : Most maxLen m k
  fito : Fits mo
  mosto : Most maxLen mo k
theorem Play.few {w1 W : World} {A B R : Nat} {m mo : DModel} {k : Nat} (h : Play w1 W A B R m mo k) (hk : k ≤ 1000) : m.few ∧ m.dir.length ≤ 10000 ∧ mo.few := ⟨h.most.few h.fit (by omega), by have := h.most.dir_len h.fit; omega, h.mosto.few h.fito (by omega)⟩

theorem play_same {w1 W : World} {A B R : Nat} {m mo : DModel} {k : Nat} (h : Play w1 W A B R m mo k) (hk : k ≤ 1000) :
    Calls Try.prog 21 #[.pointer (some ⟨A, 0, none⟩), .pointer (some ⟨R, 0, none⟩)] W fun e w' => e = .returned (.bool true) ∧ Kept W w' :=
  same3_any h.tri h.fit (h.few hk).1 (h.few hk).2.1 (h.most.dirN h.fit)

section
variable {w1 W : World} {A B R : Nat} {m mo mr : DModel} {Z : Nat → Prop}
theorem triz_fuse (h : TriZ w1 W A B R m mo mr Z) (n : Int) (hn : n ≤ 9223372036854775807) : Calls Try.prog 15 #[.pointer (some ⟨A, 0, none⟩), .int .i64 n] W fun e w' => e = .returned (.tuple #[]) ∧ TriZ w1 w' A B R { m with fuse := DModel.lay n } mo mr Z ∧ Same Z W w' :=
  triz_d h (fun c O hc hD _ _ => by
    subst hc
    refine (fuse_any hD n hn).mono ?_
    rintro e w' ⟨rfl, hk, hD'⟩
    exact ⟨rfl, hk, { c with fw := n }, rfl, hD'.mono (fun k ho => .inl ho) (fun k ho => by rcases ho with ho | ho; exact hD'.top k ho; exact ho.2)⟩)
theorem triz_fault (h : TriZ w1 W A B R m mo mr Z) (n : Int) (hn : n ≤ 9223372036854775807) : Calls Try.prog 17 #[.pointer (some ⟨A, 0, none⟩), .int .i64 n] W fun e w' => e = .returned (.tuple #[]) ∧ TriZ w1 w' A B R { m with fault := DModel.lay n } mo mr Z ∧ Same Z W w' :=
  triz_d h (fun c O hc hD _ _ => by
    subst hc
    refine (fault_any hD n hn).mono ?_
    rintro e w' ⟨rfl, hk, hD'⟩
    exact ⟨rfl, hk, { c with aw := n }, rfl, hD'.mono (fun k ho => .inl ho) (fun k ho => by rcases ho with ho | ho; exact hD'.top k ho; exact ho.2)⟩)
theorem triz_rfuse (h : TriZ w1 W A B R m mo mr Z) (n : Int) : Calls Try.prog 16 #[.pointer (some ⟨R, 0, none⟩), .int .i64 n] W fun e w' => e = .returned (.tuple #[]) ∧ TriZ w1 w' A B R m mo { mr with fuse := DModel.lay n } Z ∧ Same Z W w' :=
  triz_r h (fun c O hc hD _ _ => by
    subst hc
    refine (rfuse_any hD n).mono ?_
    rintro e w' ⟨rfl, hk, hD'⟩
    exact ⟨rfl, hk, c, rfl, hD'.mono (fun k ho => .inl ho) (fun k ho => by rcases ho with ho | ho; exact hD'.top k ho; exact ho.2)⟩)
theorem triz_rfault (h : TriZ w1 W A B R m mo mr Z) (n : Int) : Calls Try.prog 18 #[.pointer (some ⟨R, 0, none⟩), .int .i64 n] W fun e w' => e = .returned (.tuple #[]) ∧ TriZ w1 w' A B R m mo { mr with fault := DModel.lay n } Z ∧ Same Z W w' :=
  triz_r h (fun c O hc hD _ _ => by
    subst hc
    refine (rfault_any hD n).mono ?_
    rintro e w' ⟨rfl, hk, hD'⟩
    exact ⟨rfl, hk, c, rfl, hD'.mono (fun k ho => .inl ho) (fun k ho => by rcases ho with ho | ho; exact hD'.top k ho; exact ho.2)⟩)
theorem triz_create (h : TriZ w1 W A B R m mo mr Z) (hf : mo.few) {s : ByteArray} (hs : s.size ≤ maxLen) : Calls Try.prog 11 #[.pointer (some ⟨B, 0, none⟩), .string s] W fun e w' => e = .returned (.int .i64 ((mo.doOp ⟨0, s.data.toList, [], []⟩).1 : Int)) ∧ TriZ w1 w' A B R m (mo.doOp ⟨0, s.data.toList, [], []⟩).2 mr Z ∧ Same Z W w' :=
  triz_o h (fun c O hc hD _ _ => by
    subst hc
    exact create_any hD hs hf.1 hf.2)
theorem triz_rcrash (hRC : RCrash) (h : TriZ w1 W A B R m mo mr Z) (f : Fits mr) {k : Nat} (hm : Most maxLen mr k) (hk : k ≤ 1000) (ka : Option Addr) (kc : Nat) (keep : List Int) (hsrc : SrcOf W (.slice ka keep.length kc) (keep.map (Value.int .i64))) (hold : ∀ a, ka = some a → 0 < keep.length → a.block < w1.heap.size) (hl : keep.length ≤ 1000000) :
    Calls Try.prog 20 #[.pointer (some ⟨R, 0, none⟩), .slice ka keep.length kc] W fun e w' => e = .returned (.tuple #[]) ∧ TriZ w1 w' A B R m mo (mr.crash keep) Z ∧ Same Z W w' :=
  triz_r h (fun c O hc hD hO _ => by
    subst hc
    exact hRC W c O mr hD ka kc keep hsrc (fun a ha h0 ho => by have := hO _ ho; have := hold a ha h0; omega) hl f.kinds (by have := hm.acts; omega) (by have := hm.files; omega) (f.crash_there keep) (f.crash_nodup keep))
end
end Go.Proofs.Ytpjedcfdchebgaa
