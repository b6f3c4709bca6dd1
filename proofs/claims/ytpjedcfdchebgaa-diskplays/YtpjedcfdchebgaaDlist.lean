/-
  List: the names, rising.
-/
import Derived.Test.YtpjedcfdchebgaaDfset3
import Derived.Test.YtpjedcfdchebgaaIter
import Derived.Sort.KeysCollected
namespace Go.Proofs.Ytpjedcfdchebgaa
open Go.RowKit Go.Proofs.Lys Go.Maps Go.Shelf
set_option linter.unusedVariables false

theorem before_le : ∀ a b : List UInt8, bytesBefore a b = true → a ≤ b
  | [], _, _ => List.nil_le _
  | _ :: _, [], h => by simp [bytesBefore] at h
  | x :: r, y :: s, h => by
    simp only [bytesBefore, Bool.or_eq_true, Bool.and_eq_true, decide_eq_true_eq, beq_iff_eq] at h
    rw [List.cons_le_cons_iff]
    rcases h with h | ⟨rfl, h⟩
    · exact .inl h
    · exact .inr ⟨rfl, before_le r s h⟩

theorem keys_dirD (blk : List Nat) (l : DDir) : strKeys (dirD blk l) = l.map (·.1) := by
  show ((l.map (entD blk)).map fun p => strOf p.1) = _
  rw [List.map_map]
  rfl

section
variable {w : World} {c : Conc} {O : Nat → Prop} {m : DModel}

theorem dir_rising {b n : Nat} {blk : List Nat} {l : DDir} (h : w.ownsMap Try.prog 9 ptrE b n (dirD blk l)) : (l.map (·.1)).Pairwise (fun a b => bytesBefore a b = true) := by
  obtain ⟨es, e, hp, _⟩ := h.canon law
  unfold dirD at e
  cases e
  rw [List.pairwise_map] at hp ⊢
  exact hp

theorem sorted_names {b n : Nat} {blk : List Nat} {l : DDir} (h : w.ownsMap Try.prog 9 ptrE b n (dirD blk l)) {ss : List (List UInt8)} (hp : ss.Perm (strKeys (dirD blk l))) : ss.mergeSort (fun x y => decide (x ≤ y)) = l.map (·.1) := by
  rw [keys_dirD] at hp
  refine (mergeSort_of_perm hp).trans (List.mergeSort_of_pairwise ?_)
  exact (dir_rising h).imp (fun {a b} hb => by simpa using before_le a b hb)

/-- The names that List gives. -/
theorem list_any (h : DiskAt w c O m) (hl : m.dir.length < 1000000) :
    Calls Try.prog 48 #[.pointer (some ⟨c.d, 0, none⟩)] w fun e w' => ∃ v, e = .returned v ∧ w'.ownsRow w.heap.size 9 1 v m.list.length (m.list.map encStr) ∧ (v = .slice none 0 0 ↔ m.list = []) ∧ Stay w w' := by
  have R := h.rest
  obtain ⟨c0, c1, c2, c3, c4, c5, c6, c7, c8, c9, cf⟩ := dfacts h.cells
  clear c0 c1 c3 c4 c5 c6 c8 c9
  have hsz : Maps.size (dirD c.blk m.dir) = m.dir.length := by simp [dirD, Maps.size]
  cases hoff : m.off
  · have hk := Hid.mk (fun W => callsIn_wide.1 (Try.maps_Keys_87 (some c.mi) W))
    have hs := Hid.mk (fun W (hW : World.ownsMap W Try.prog 9 ptrE c.mi m.dir.length (dirD c.blk m.dir)) => callsIn_wide.1 (Try.slices_Sorted_keys_86_87 c.mi m.dir.length (dirD c.blk m.dir) ptrE W hW (by rw [hsz]; unfold maxLen; omega) (by rw [hsz]; omega)))
    have hM := Hid.mk R.isM
    have hli : Hid (m.list = m.dir.map (·.1)) := by unfold Hid DModel.list; rw [hoff]; rfl
    rw [hoff] at c2
    go_enter Try.func48, Try.ntmps48
    go_wp2_with fail
    refine (hk.out _).mono ?_
    rintro e w1 ⟨rfl, rfl⟩
    go_wp2_with fail
    refine (hs.out _ hM.out).mono ?_
    rintro e w2 ⟨v, ss, rfl, hp, hrow, hnil, hb⟩
    go_wp2_with fail
    go_ret
    have hss := sorted_names hM.out hp
    have hlen : ss.length = m.dir.length := by
      have := congrArg List.length hss
      simpa using this
    rw [hli.out]
    refine ⟨v, rfl, ?_, hnil.trans ?_, ?_⟩
    · rw [hss, hlen] at hrow
      rw [List.length_map]
      obtain ⟨hl, h1 | ⟨g, cap, cur, rfl, hbg, hr⟩⟩ := hrow
      · exact ⟨hl, .inl h1⟩
      · exact ⟨hl, .inr ⟨g, cap, cur, rfl, by simp at hbg; omega, hr⟩⟩
    · rw [← List.length_eq_zero_iff, hlen, ← List.length_eq_zero_iff, List.length_map]
    · exact ((Only.refl (fun _ => False) w).alloc _).trans (Only.below hb) (fun _ _ f => f)
  · have hli : m.list = [] := by unfold DModel.list; rw [hoff]; rfl
    rw [hoff] at c2
    rw [hli]
    go_enter Try.func48, Try.ntmps48
    go_wp2
    go_ret
    exact ⟨_, rfl, ⟨rfl, .inl ⟨rfl, rfl⟩⟩, by simp, Only.refl _ _⟩
end
end Go.Proofs.Ytpjedcfdchebgaa
