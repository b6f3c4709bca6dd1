/-
  The document's disk as plain data: how much there is behind so many calls, and how long its names are. No program is named here.
-/
import Derived.Test.YtpjedcfdchebgaaEmod
namespace Go.Proofs.Lys
set_option linter.unusedVariables false

theorem ins_mem {x p : List UInt8 × Nat} {l : DDir} (h : p ∈ DD.ins x l) : p = x ∨ p ∈ l := by
  induction l with
  | nil =>
    unfold DD.ins at h
    left
    simpa using h
  | cons y r ih =>
    unfold DD.ins at h
    split at h
    · rcases List.mem_cons.1 h with h | h
      · exact .inl h
      · exact .inr h
    · rcases List.mem_cons.1 h with h | h
      · exact .inr (by rw [h]; exact List.mem_cons_self)
      · rcases ih h with h | h
        · exact .inl h
        · exact .inr (List.mem_cons_of_mem _ h)
theorem ins_len (x : List UInt8 × Nat) (l : DDir) : (DD.ins x l).length = l.length + 1 := by
  induction l with
  | nil => rfl
  | cons y r ih =>
    unfold DD.ins
    split
    · rfl
    · rw [List.length_cons, ih, List.length_cons]
theorem drop_mem {p : List UInt8 × Nat} {l : DDir} {n : List UInt8} (h : p ∈ DD.drop l n) : p ∈ l := (List.mem_filter.1 h).1
theorem drop_len (l : DDir) (n : List UInt8) : (DD.drop l n).length ≤ l.length := List.length_filter_le _ _
theorem put_mem2 {p : List UInt8 × Nat} {l : DDir} {n : List UInt8} {f : Nat} (h : p ∈ DD.put l n f) : p.1 = n ∨ p ∈ l := by
  rcases ins_mem h with h | h
  · exact .inl (by rw [h])
  · exact .inr (drop_mem h)
theorem put_len (l : DDir) (n : List UInt8) (f : Nat) : (DD.put l n f).length ≤ l.length + 1 := by
  unfold DD.put
  rw [ins_len]
  have := drop_len l n
  omega
theorem dact_mem {p : List UInt8 × Nat} {l : DDir} {a : DAct} (h : p ∈ DD.act l a) : p.1 = a.name ∨ p.1 = a.to ∨ p ∈ l := by
  unfold DD.act at h
  split at h
  · rcases put_mem2 h with h | h
    · exact .inl h
    · exact .inr (.inr h)
  · split at h
    · split at h
      · rcases put_mem2 h with h | h
        · exact .inr (.inl h)
        · exact .inr (.inr (drop_mem h))
      · exact .inr (.inr h)
    · exact .inr (.inr (drop_mem h))
theorem dact_len (l : DDir) (a : DAct) : (DD.act l a).length ≤ l.length + 1 := by
  unfold DD.act
  split
  · exact put_len _ _ _
  · split
    · split
      · have h1 := put_len (DD.drop l a.name) a.to (by assumption)
        have h2 := drop_len l a.name
        omega
      · omega
    · have := drop_len l a.name
      omega
theorem dfold_len (acts : List DAct) : ∀ l, (acts.foldl DD.act l).length ≤ l.length + acts.length := by
  induction acts with
  | nil => intro l; simp
  | cons a r ih =>
    intro l
    rw [List.foldl_cons]
    have h1 := ih (DD.act l a)
    have h2 := dact_len l a
    simp only [List.length_cons]
    omega
theorem dkeep_len (acts : List DAct) : ∀ (k : List Int) (l : DDir), (DModel.keepActs acts k l).1.length ≤ l.length + acts.length := by
  induction acts with
  | nil => intro k l; simp [DModel.keepActs]
  | cons a r ih =>
    intro k l
    unfold DModel.keepActs
    have h1 := ih k.tail (if DModel.oddB (k.headD 0) then DD.act l a else l)
    have h2 : (if DModel.oddB (k.headD 0) then DD.act l a else l).length ≤ l.length + 1 := by
      split
      · exact dact_len l a
      · omega
    simp only [List.length_cons]
    omega

/-- At most so much, and names no longer than N. -/
structure Most (N : Nat) (m : DModel) (k : Nat) : Prop where
  acts : m.sure.length + m.acts.length ≤ k
  files : m.files.length ≤ k
  steps : m.steps ≤ k
  sureN : ∀ p ∈ m.sure, p.1.length ≤ N
  actN : ∀ a ∈ m.acts, a.name.length ≤ N ∧ a.to.length ≤ N
theorem Most.dir_len {N : Nat} {m : DModel} {k : Nat} (h : Most N m k) (f : Fits m) : m.dir.length ≤ k := by
  rw [← f.synced]
  have := dfold_len m.acts m.sure
  have := h.acts
  omega
theorem dfold_name {N : Nat} (acts : List DAct) : ∀ l : DDir, (∀ p ∈ l, p.1.length ≤ N) → (∀ a ∈ acts, a.name.length ≤ N ∧ a.to.length ≤ N) → ∀ p ∈ acts.foldl DD.act l, p.1.length ≤ N := by
  induction acts with
  | nil => intro l h _ p hp; exact h p hp
  | cons a r ih =>
    intro l h ha p hp
    rw [List.foldl_cons] at hp
    refine ih (DD.act l a) (fun q hq => ?_) (fun b hb => ha b (List.mem_cons_of_mem _ hb)) p hp
    have h1 := ha a List.mem_cons_self
    rcases dact_mem hq with e | e | e
    · rw [e]; exact h1.1
    · rw [e]; exact h1.2
    · exact h q e
theorem dkeep_name {N : Nat} (acts : List DAct) : ∀ (k : List Int) (l : DDir), (∀ p ∈ l, p.1.length ≤ N) → (∀ a ∈ acts, a.name.length ≤ N ∧ a.to.length ≤ N) → ∀ p ∈ (DModel.keepActs acts k l).1, p.1.length ≤ N := by
  induction acts with
  | nil => intro k l h _ p hp; exact h p hp
  | cons a r ih =>
    intro k l h ha p hp
    unfold DModel.keepActs at hp
    refine ih k.tail _ (fun q hq => ?_) (fun b hb => ha b (List.mem_cons_of_mem _ hb)) p hp
    have h1 := ha a List.mem_cons_self
    split at hq
    · rcases dact_mem hq with e | e | e
      · rw [e]; exact h1.1
      · rw [e]; exact h1.2
      · exact h q e
    · exact h q hq
theorem Most.dirN {N : Nat} {m : DModel} {k : Nat} (h : Most N m k) (f : Fits m) : ∀ p ∈ m.dir, p.1.length ≤ N := by
  rw [← f.synced]
  exact dfold_name m.acts m.sure h.sureN h.actN
theorem Most.start (N : Nat) (q : Int) (k : Nat) : Most N (DModel.start q) k := ⟨Nat.zero_le _, Nat.zero_le _, Nat.zero_le _, fun p h => by simp [DModel.start] at h, fun a h => by simp [DModel.start] at h⟩
theorem Most.up {N : Nat} {m : DModel} {k k' : Nat} (h : Most N m k) (hk : k ≤ k') : Most N m k' := ⟨Nat.le_trans h.acts hk, Nat.le_trans h.files hk, Nat.le_trans h.steps hk, h.sureN, h.actN⟩
theorem Most.crash {N : Nat} {m : DModel} {k : Nat} (h : Most N m k) (keep : List Int) : Most N (m.crash keep) k := by
  refine ⟨?_, ?_, h.steps, ?_, fun a ha => by cases ha⟩
  · show (DModel.keepActs m.acts keep m.sure).1.length + 0 ≤ k
    have := dkeep_len m.acts keep m.sure
    have := h.acts
    omega
  · have e3 : (m.crash keep).files.length = m.files.length := settle_len _ _ _
    rw [e3]
    exact h.files
  · exact dkeep_name m.acts keep m.sure h.sureN h.actN
theorem Most.done {N : Nat} {m : DModel} {k : Nat} (h : Most N m k) (f : Fits m) (o : DOp) (hn : o.name.length ≤ N) (ht : o.to.length ≤ N) : Most N (m.done o).count (k + 1) := by
  have ha := h.acts
  have hf := h.files
  have hs := h.steps
  have hstep : (m.done o).count.steps ≤ k + 1 := by
    show (m.done o).steps + 1 ≤ k + 1
    have e : (m.done o).steps = m.steps := by
      unfold DModel.done
      split
      · rfl
      · split
        · rfl
        · split
          · rfl
          · split
            · rfl
            · split <;> rfl
    omega
  have snoc : ∀ a : DAct, a.name.length ≤ N → a.to.length ≤ N → ∀ b ∈ m.acts ++ [a], b.name.length ≤ N ∧ b.to.length ≤ N := fun a h1 h2 b hb => by
    rcases List.mem_append.1 hb with hb | hb
    · exact h.actN b hb
    · have : b = a := by simpa using hb
      subst this
      exact ⟨h1, h2⟩
  unfold DModel.done at hstep ⊢
  split
  · rename_i e0
    rw [if_pos e0] at hstep
    refine ⟨?_, ?_, hstep, h.sureN, snoc _ hn (Nat.zero_le _)⟩
    · show m.sure.length + (m.acts ++ [_]).length ≤ k + 1
      rw [List.length_append, List.length_singleton]
      omega
    · show (m.files ++ [_]).length ≤ k + 1
      rw [List.length_append, List.length_singleton]
      omega
  · rename_i e0
    rw [if_neg e0] at hstep
    split
    · rename_i e1
      rw [if_pos e1] at hstep
      exact ⟨by show m.sure.length + m.acts.length ≤ k + 1; omega, by show (m.files.set _ _).length ≤ k + 1; rw [List.length_set]; omega, hstep, h.sureN, h.actN⟩
    · rename_i e1
      rw [if_neg e1] at hstep
      split
      · rename_i e2
        rw [if_pos e2] at hstep
        exact ⟨by show m.sure.length + m.acts.length ≤ k + 1; omega, by show (m.files.set _ _).length ≤ k + 1; rw [List.length_set]; omega, hstep, h.sureN, h.actN⟩
      · rename_i e2
        rw [if_neg e2] at hstep
        split
        · rename_i e3
          rw [if_pos e3] at hstep
          refine ⟨?_, by show m.files.length ≤ k + 1; omega, hstep, h.sureN, snoc _ hn ht⟩
          show m.sure.length + (m.acts ++ [_]).length ≤ k + 1
          rw [List.length_append, List.length_singleton]
          omega
        · rename_i e3
          rw [if_neg e3] at hstep
          split
          · rename_i e4
            rw [if_pos e4] at hstep
            refine ⟨?_, by show m.files.length ≤ k + 1; omega, hstep, h.sureN, snoc _ hn (Nat.zero_le _)⟩
            show m.sure.length + (m.acts ++ [_]).length ≤ k + 1
            rw [List.length_append, List.length_singleton]
            omega
          · rename_i e4
            rw [if_neg e4] at hstep
            refine ⟨?_, by show m.files.length ≤ k + 1; omega, hstep, h.dirN f, fun a ha => by cases ha⟩
            show m.dir.length + 0 ≤ k + 1
            have := h.dir_len f
            omega
theorem Most.doOp {N : Nat} {m : DModel} {k : Nat} (h : Most N m k) (f : Fits m) (o : DOp) (hn : o.name.length ≤ N) (ht : o.to.length ≤ N) : Most N (m.doOp o).2 (k + 1) := by
  have h' := h.up (Nat.le_succ k)
  unfold DModel.doOp
  split
  · exact h'
  · split
    · exact h'
    · split
      · exact ⟨h'.acts, h'.files, h'.steps, h'.sureN, h'.actN⟩
      · split
        · exact h'
        · split
          · exact ⟨h'.acts, h'.files, h'.steps, h'.sureN, h'.actN⟩
          · exact h.done f o hn ht
theorem Most.few {N : Nat} {m : DModel} {k : Nat} (h : Most N m k) (f : Fits m) (hk : k ≤ 100000) : m.few := by
  have := h.dir_len f
  have := h.acts
  have := h.steps
  exact ⟨by omega, by omega⟩
end Go.Proofs.Lys
