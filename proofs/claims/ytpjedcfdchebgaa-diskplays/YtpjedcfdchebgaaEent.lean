/-
  The document's own disk: directories as rows of entries; find.
-/
import Derived.Test.YtpjedcfdchebgaaLcalls
namespace Go.Proofs.Ytpjedcfdchebgaa
open Go.RowKit Go.Proofs.Lys Go.Maps Go.Shelf
set_option linter.unusedVariables false

def nmV (s : List UInt8) : Value := .string ⟨s.toArray⟩
/-- Entries, cell by cell. -/
def entL : DDir → List Value
  | [] => []
  | p :: r => nmV p.1 :: .int .i64 (p.2 : Int) :: entL r
theorem entL_len (l : DDir) : (entL l).length = l.length * 2 := by
  induction l with
  | nil => rfl
  | cons p r ih => rw [entL, List.length_cons, List.length_cons, ih, List.length_cons]; omega
theorem entL_app (l r : DDir) : entL (l ++ r) = entL l ++ entL r := by
  induction l with
  | nil => rfl
  | cons p l ih => rw [List.cons_append, entL, ih, entL]; rfl
theorem entL_at (l : DDir) (i : Nat) (h : i < l.length) : (entL l)[i * 2]? = some (nmV l[i].1) ∧ (entL l)[i * 2 + 1]? = some (.int .i64 (l[i].2 : Int)) := by
  induction l generalizing i with
  | nil => simp at h
  | cons p r ih =>
    cases i with
    | zero => exact ⟨rfl, rfl⟩
    | succ i =>
      have := ih i (by simpa using h)
      rw [show (i + 1) * 2 = i * 2 + 2 by omega]
      exact this

/-- Entries that are read. -/
def EntSrc (w : World) (v : Value) (l : DDir) : Prop :=
  (∃ a c, v = .slice a 0 c ∧ l = []) ∨
  (0 < l.length ∧ ∃ b o c, v = .slice (some ⟨b, o, none⟩) l.length c ∧ ∀ i (hi : i < l.length), w.cell? ⟨b, o + i * 2, none⟩ = some (nmV l[i].1) ∧ w.cell? ⟨b, o + i * 2 + 1, none⟩ = some (.int .i64 (l[i].2 : Int)))
theorem EntSrc.len {w : World} {v : Value} {l : DDir} (h : EntSrc w v l) : ∃ a c, v = .slice a l.length c := by
  rcases h with ⟨a, c, rfl, rfl⟩ | ⟨_, b, o, c, rfl, _⟩
  · exact ⟨a, c, rfl⟩
  · exact ⟨_, c, rfl⟩
theorem EntSrc.stay {w W : World} {v : Value} {l : DDir} (h : EntSrc w v l) (k : Kept w W) : EntSrc W v l := by
  have each : ∀ a u, w.cell? a = some u → W.cell? a = some u := fun a u hc => by
    rw [World.cell?_of_block (w := w) (w' := W) (a := a) (k.block a.block (World.block_lt_of_cell? w a hc) (fun f => f))]
    exact hc
  rcases h with h | ⟨h0, b, o, c, rfl, hc⟩
  · exact .inl h
  · exact .inr ⟨h0, b, o, c, rfl, fun i hi => ⟨each _ _ (hc i hi).1, each _ _ (hc i hi).2⟩⟩

/-- A name's place, or -1. -/
def fidx (l : DDir) (n : List UInt8) : Int := if l.findIdx (fun p => p.1 == n) < l.length then (l.findIdx (fun p => p.1 == n) : Int) else -1

set_option maxRecDepth 100000 in
set_option maxHeartbeats 1600000 in
theorem rfind_any {w : World} {v : Value} {l : DDir} (h : EntSrc w v l) (hl : l.length ≤ 1000000) (n : List UInt8) : Calls Try.prog 42 #[v, .string ⟨n.toArray⟩] w fun e w' => e = .returned (.int .i64 (fidx l n)) ∧ w' = w := by
  obtain ⟨a0, c0, e0⟩ := h.len
  obtain ⟨M, hM⟩ : ∃ M, l.length = M := ⟨_, rfl⟩
  rw [hM] at e0 hl
  subst e0
  have HM := Hid.mk hM
  have H0 := Hid.mk h
  clear hM h
  go_enter Try.func42, Try.ntmps42
  go_wp2_with fail
  go_loopw [5] (fun i wr => ∃ (k : Nat), k ≤ M ∧ i = .int .i64 (k : Int) ∧ (∀ j (hj : j < l.length), j < k → (l[j].1 == n) = false) ∧ wr = w) (fun i _ => M - (intOf i).toNat)
  case atStart => exact ⟨0, by omega, rfl, fun j _ hj => by omega, rfl⟩
  case round =>
    obtain ⟨k, hk, rfl, hno, rfl⟩ := hrel
    have HN := Hid.mk hno
    clear hno
    by_cases hlt : k < M
    · have hkl : k < l.length := by have := HM.out; omega
      rcases H0.out with ⟨a, c, e, e2⟩ | ⟨hpos, b, o, c, e1, hc⟩
      · exfalso
        rw [e2] at hkl
        exact absurd hkl (by simp)
      rw [HM.out] at e1
      cases e1
      obtain ⟨x0, x1⟩ := hc k hkl
      obtain ⟨s, hs⟩ : ∃ s, l[k].1 = s := ⟨_, rfl⟩
      rw [hs] at x0
      unfold nmV at x0
      have HS := Hid.mk hs
      clear hc hs x1 hpos
      by_cases hn : s = n
      · subst hn
        have HE : Hid (fidx l s = (k : Int)) := by
          have e : l.findIdx (fun p => p.1 == s) = k := by
            rw [List.findIdx_eq hkl]
            exact ⟨by rw [HS.out]; simp, fun j hj => HN.out j (by omega) hj⟩
          show fidx l s = _
          unfold fidx
          rw [e, if_pos hkl]
        go_wp2_with fail
        go_ret
        exact ⟨by rw [HE.out]; rfl, rfl⟩
      · have hne : (s == n) = false := beq_eq_false_iff_ne.2 hn
        go_wp2_with fail
        refine ⟨⟨k + 1, by omega, by go_num, fun j hj hjk => ?_, trivial⟩, ?_⟩
        · by_cases hjl : j < k
          · exact HN.out j hj hjl
          · obtain rfl : j = k := by omega
            rw [HS.out]
            exact hne
        · simp [intOf]
          omega
    · have HE : Hid (fidx l n = -1) := by
        show fidx l n = _
        unfold fidx
        rw [if_neg]
        intro hlt2
        have h1 := List.findIdx_getElem (w := hlt2)
        have := HN.out _ hlt2 (by have := HM.out; omega)
        rw [this] at h1
        cases h1
      go_wp2_with fail
      go_ret
      exact ⟨by rw [HE.out]; rfl, rfl⟩
end Go.Proofs.Ytpjedcfdchebgaa
