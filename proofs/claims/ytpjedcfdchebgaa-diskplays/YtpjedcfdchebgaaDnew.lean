/-
  Crash of a disk that is up; New: a disk that comes up for the first time.
-/
import Derived.Test.YtpjedcfdchebgaaDcrash
namespace Go.Proofs.Ytpjedcfdchebgaa
open Go.RowKit Go.Proofs.Lys Go.Maps Go.Shelf
set_option linter.unusedVariables false

theorem crash_any {w : World} {c : Conc} {O : Nat → Prop} {m : DModel} (h : DiskAt w c O m) {kv : Value} {keep : List Int} (hI : IntsAt w O kv keep) (hsm : m.sure.length + m.acts.length < 1000000) :
    Calls Try.prog 19 #[.pointer (some ⟨c.d, 0, none⟩), kv] w fun e w' => e = .returned (.tuple #[]) ∧ Only O w w' ∧ ∃ c', c'.d = c.d ∧ DiskAt w' c' (Grow O w w') (m.crash keep) := crash_half h.half hI hsm

theorem start_half (w : World) (Q : Nat) (hQ : Q ≤ 67108864) :
    Half (w.alloc (.cells #[.int .i64 (Q : Int), .int .i64 0, .bool false, .bool false, .int .i64 0, .bool false, .int .i64 0, .map none, .map none, .slice none 0 0] 65))
      ⟨w.heap.size, 0, 0, [], [], .slice none 0 0, [], 0, 0⟩ (fun k => k = w.heap.size) ⟨[], [], [], [], Q, 0, true, none, none⟩ false false false (.map none) (.map none) where
  cells := Blk.new w [.int .i64 (Q : Int), .int .i64 0, .bool false, .bool false, .int .i64 0, .bool false, .int .i64 0, .map none, .map none, .slice none 0 0] 65
  isV := .inl rfl
  sureV := .inl ⟨rfl, rfl⟩
  nblk := rfl
  nbv := rfl
  nodup := List.nodup_nil
  file := fun i hi => absurd hi (Nat.not_lt_zero i)
  bytes := fun i hi => absurd hi (Nat.not_lt_zero i)
  lens := fun i hi => absurd hi (Nat.not_lt_zero i)
  sole := fun i j k hi => absurd hi (Nat.not_lt_zero i)
  pend := World.ownsRow_nil _ _ _ _
  act := fun i a e => by simp at e
  sureF := fun p hp => by simp at hp
  actF := fun a ha => by simp at ha
  oD := rfl
  oBlk := fun i hi => absurd hi (Nat.not_lt_zero i)
  oBs := fun i k hi => absurd hi (Nat.not_lt_zero i)
  top := fun k e => by subst e; simp
  quota := hQ

/-- New blocks alone. -/
def Since (w w' : World) (k : Nat) : Prop := w.heap.size ≤ k ∧ k < w'.heap.size

theorem new_core (w : World) (Q : Nat) (hQ : Q ≤ 67108864) :
    Calls Try.prog 19 #[.pointer (some ⟨w.heap.size, 0, none⟩), .slice none 0 0] (w.alloc (.cells #[.int .i64 (Q : Int), .int .i64 0, .bool false, .bool false, .int .i64 0, .bool false, .int .i64 0, .map none, .map none, .slice none 0 0] 65)) fun e w' =>
      e = .returned (.tuple #[]) ∧ Stay w w' ∧ ∃ c', c'.d = w.heap.size ∧ DiskAt w' c' (Since w w') ⟨[], [], [], [], Q, 0, false, none, none⟩ := by
  refine (crash_half (start_half w Q hQ) (kv := .slice none 0 0) (keep := []) ⟨none, 0, rfl, Nat.le_refl _, fun h => absurd rfl h⟩ (by simp)).mono ?_
  rintro e w' ⟨rfl, hk, c', hc, hD⟩
  have hs := hk.size
  simp at hs
  refine ⟨rfl, ?_, c', hc, hD.mono (fun k hk => ?_) (fun k hk => hk.2)⟩
  · exact ((Only.refl (fun _ => False) w).alloc _).trans hk (fun j hj e => absurd hj (by omega))
  · rcases hk with e | ⟨h1, h2⟩
    · exact ⟨by omega, by omega⟩
    · exact ⟨by simp at h1; omega, h2⟩

theorem new_any (q : Int) (w : World) : Calls Try.prog 9 #[.int .i64 q] w fun e w' => e = .returned (.pointer (some ⟨w.heap.size, 0, none⟩)) ∧ Stay w w' ∧ ∃ c', c'.d = w.heap.size ∧ DiskAt w' c' (Since w w') (DModel.start q) := by
  obtain ⟨Q, hQ, e1⟩ : ∃ Q : Nat, Q ≤ 67108864 ∧ min (max q 0) 67108864 = (Q : Int) := ⟨(min (max q 0) 67108864).toNat, by omega, by omega⟩
  have hN := Hid.mk (new_core w Q hQ)
  have e : Hid (DModel.start q = ⟨[], [], [], [], Q, 0, false, none, none⟩) := by show _ = _; unfold DModel.start; rw [e1]; rfl
  go_enter Try.func9, Try.ntmps9
  go_wp2_with fail
  refine hN.out.mono ?_
  rintro e w1 ⟨rfl, hk, hc⟩
  go_wp2_with fail
  go_ret
  rw [e.out]
  exact ⟨rfl, hk, hc⟩
end Go.Proofs.Ytpjedcfdchebgaa
