/-
  What holds of the document's disk, as plain data, behind every row of calls: no file has two names, and so many there are. No program is named here.
-/
import Derived.Test.YtpjedcfdchebgaaDmodel2
namespace Go.Proofs.Lys
set_option linter.unusedVariables false

/-- How often a file is named. -/
def cnt (x : Nat) (l : DDir) : Nat := (l.map (·.2)).count x
/-- The files that acts make. -/
def newF (l : List DAct) : List Nat := (l.filter (fun a => a.kind == 0)).map (·.file)
def mkF (a : DAct) (x : Nat) : Nat := if a.kind = 0 ∧ a.file = x then 1 else 0

theorem nodup_of_count (l : List Nat) (h : ∀ x, l.count x ≤ 1) : l.Nodup := by
  induction l with
  | nil => exact List.nodup_nil
  | cons a r ih =>
    refine List.nodup_cons.2 ⟨fun hm => ?_, ih (fun x => ?_)⟩
    · have h1 := h a
      rw [List.count_cons_self] at h1
      have := List.count_pos_iff.2 hm
      omega
    · have h1 := h x
      have := List.count_le_count_cons (a := x) (b := a) (l := r)
      omega
theorem count_of_nodup (l : List Nat) (h : l.Nodup) (x : Nat) : l.count x ≤ 1 := by
  induction l with
  | nil => simp
  | cons a r ih =>
    obtain ⟨h1, h2⟩ := List.nodup_cons.1 h
    by_cases e : a = x
    · subst e
      rw [List.count_cons_self, List.count_eq_zero.2 h1]
      exact Nat.le_refl _
    · rw [List.count_cons_of_ne e]
      exact ih h2

theorem cnt_drop (x : Nat) (l : DDir) (n : List UInt8) : cnt x (DD.drop l n) ≤ cnt x l := by
  unfold cnt DD.drop
  exact List.Sublist.count_le x (List.Sublist.map _ List.filter_sublist)
theorem cnt_look (x : Nat) (l : DDir) (n : List UInt8) (f : Nat) (h : DD.look l n = some f) : cnt x (DD.drop l n) + (if f = x then 1 else 0) ≤ cnt x l := by
  induction l with
  | nil => simp [DD.look] at h
  | cons p r ih =>
    unfold DD.look at h
    rw [List.find?_cons] at h
    by_cases hp : p.1 == n
    · rw [hp] at h
      have e : p.2 = f := by simpa using h
      have h1 := cnt_drop x r n
      have h2 : DD.drop (p :: r) n = DD.drop r n := by unfold DD.drop; rw [List.filter_cons]; simp [hp]
      rw [h2]
      unfold cnt at h1 ⊢
      rw [List.map_cons, List.count_cons, e]
      by_cases hx : f = x
      · simp [hx]; omega
      · simp [hx]; omega
    · have hp' : (p.1 == n) = false := by simpa using hp
      rw [hp'] at h
      have h1 := ih h
      have h2 : DD.drop (p :: r) n = p :: DD.drop r n := by unfold DD.drop; rw [List.filter_cons]; simp [hp']
      rw [h2]
      unfold cnt at h1 ⊢
      rw [List.map_cons, List.map_cons, List.count_cons, List.count_cons]
      omega
theorem cnt_ins (x : Nat) (p : List UInt8 × Nat) (l : DDir) : cnt x (DD.ins p l) = cnt x l + (if p.2 = x then 1 else 0) := by
  induction l with
  | nil =>
    unfold DD.ins cnt
    rw [List.map_cons, List.count_cons]
    by_cases h : p.2 = x <;> simp [h]
  | cons y r ih =>
    unfold DD.ins
    split
    · unfold cnt
      rw [List.map_cons, List.map_cons, List.count_cons, List.count_cons]
      by_cases h : p.2 = x <;> simp [h]
    · unfold cnt at ih ⊢
      rw [List.map_cons, List.map_cons, List.count_cons, List.count_cons, ih]
      omega
theorem cnt_put (x : Nat) (l : DDir) (n : List UInt8) (f : Nat) : cnt x (DD.put l n f) ≤ cnt x l + (if f = x then 1 else 0) := by
  unfold DD.put
  rw [cnt_ins]
  have := cnt_drop x l n
  show _ + (if f = x then 1 else 0) ≤ _
  omega
theorem cnt_act (x : Nat) (l : DDir) (a : DAct) : cnt x (DD.act l a) ≤ cnt x l + mkF a x := by
  unfold DD.act mkF
  by_cases h0 : a.kind = 0
  · rw [if_pos h0]
    have := cnt_put x l a.name a.file
    by_cases h : a.file = x
    · rw [if_pos h] at this
      rw [if_pos ⟨h0, h⟩]
      exact this
    · rw [if_neg h] at this
      rw [if_neg (fun e => h e.2)]
      exact this
  · rw [if_neg h0]
    split
    · split
      · rename_i f hf
        have h1 := cnt_look x l a.name f hf
        have h2 := cnt_put x (DD.drop l a.name) a.to f
        omega
      · omega
    · have := cnt_drop x l a.name
      omega
theorem newF_cons (a : DAct) (r : List DAct) (x : Nat) : (newF (a :: r)).count x = (newF r).count x + mkF a x := by
  unfold newF mkF
  rw [List.filter_cons]
  by_cases h : a.kind = 0
  · simp only [h, beq_self_eq_true, if_true, List.map_cons, List.count_cons]
    by_cases e : a.file = x <;> simp [e]
  · have h' : (a.kind == 0) = false := by simpa using h
    simp [h', h]
theorem cnt_fold (x : Nat) (acts : List DAct) : ∀ l, cnt x (acts.foldl DD.act l) ≤ cnt x l + (newF acts).count x := by
  induction acts with
  | nil => intro l; simp
  | cons a r ih =>
    intro l
    rw [List.foldl_cons, newF_cons]
    have h1 := ih (DD.act l a)
    have h2 := cnt_act x l a
    omega
theorem cnt_keep (x : Nat) (acts : List DAct) : ∀ (k : List Int) (l : DDir), cnt x (DModel.keepActs acts k l).1 ≤ cnt x l + (newF acts).count x := by
  induction acts with
  | nil => intro k l; simp [DModel.keepActs]
  | cons a r ih =>
    intro k l
    unfold DModel.keepActs
    rw [newF_cons]
    have h1 := ih k.tail (if DModel.oddB (k.headD 0) then DD.act l a else l)
    have h2 : cnt x (if DModel.oddB (k.headD 0) then DD.act l a else l) ≤ cnt x l + mkF a x := by
      split
      · exact cnt_act x l a
      · omega
    omega

/-- What holds behind every row of calls. -/
structure Fits (m : DModel) : Prop where
  once : ∀ x, cnt x m.sure + (newF m.acts).count x ≤ 1
  there : ∀ x, 0 < cnt x m.sure + (newF m.acts).count x → x < m.files.length
  kinds : ∀ a ∈ m.acts, a.kind ≤ 2
  synced : m.acts.foldl DD.act m.sure = m.dir
  fuse : ∀ x, m.fuse = some x → x ≤ 9223372036854775807
  fault : ∀ x, m.fault = some x → x ≤ 9223372036854775807
theorem Fits.start (q : Int) : Fits (DModel.start q) := ⟨fun x => by simp [DModel.start, cnt, newF], fun x h => by simp [DModel.start, cnt, newF] at h, fun a h => by simp [DModel.start] at h, rfl, fun x h => by simp [DModel.start] at h, fun x h => by simp [DModel.start] at h⟩
theorem cnt_mem {x : Nat} {l : DDir} (h : x ∈ l.map (·.2)) : 0 < cnt x l := List.count_pos_iff.2 h
theorem Fits.dir_nodup {m : DModel} (h : Fits m) : (m.dir.map (·.2)).Nodup := by
  refine nodup_of_count _ (fun x => ?_)
  have h1 := cnt_fold x m.acts m.sure
  rw [h.synced] at h1
  have := h.once x
  unfold cnt at h1 this
  omega
theorem Fits.dir_there {m : DModel} (h : Fits m) (p : List UInt8 × Nat) (hp : p ∈ m.dir) : p.2 < m.files.length := by
  have h1 := cnt_fold p.2 m.acts m.sure
  rw [h.synced] at h1
  have h2 := cnt_mem (List.mem_map_of_mem (f := (·.2)) hp)
  exact h.there _ (by omega)
theorem settle_len (is : List Nat) : ∀ (fs : List DFile) (l : List Int), (DModel.settleAll is fs l).length = fs.length := by
  induction is with
  | nil => intro fs l; rfl
  | cons i r ih =>
    intro fs l
    unfold DModel.settleAll
    rw [ih, List.length_set]
theorem Fits.crash_nodup {m : DModel} (h : Fits m) (keep : List Int) : ((m.crash keep).dir.map (·.2)).Nodup := by
  refine nodup_of_count _ (fun x => ?_)
  have h1 := cnt_keep x m.acts keep m.sure
  have := h.once x
  unfold DModel.crash
  unfold cnt at h1 this
  show ((DModel.keepActs m.acts keep m.sure).1.map (·.2)).count x ≤ 1
  omega
theorem Fits.crash_there {m : DModel} (h : Fits m) (keep : List Int) (p : List UInt8 × Nat) (hp : p ∈ (m.crash keep).dir) : p.2 < m.files.length := by
  have h1 := cnt_keep p.2 m.acts keep m.sure
  have hp' : p ∈ (DModel.keepActs m.acts keep m.sure).1 := hp
  have h2 := cnt_mem (List.mem_map_of_mem (f := (·.2)) hp')
  exact h.there _ (by omega)
theorem Fits.crash {m : DModel} (h : Fits m) (keep : List Int) : Fits (m.crash keep) := by
  refine ⟨fun x => ?_, fun x hx => ?_, fun a ha => ?_, rfl, fun x hx => ?_, fun x hx => ?_⟩
  · have h1 := count_of_nodup _ (h.crash_nodup keep) x
    have e : (m.crash keep).sure = (m.crash keep).dir := rfl
    have e2 : (m.crash keep).acts = [] := rfl
    rw [e, e2]
    unfold cnt
    simp [newF]
    exact h1
  · have e : (m.crash keep).sure = (m.crash keep).dir := rfl
    have e2 : (m.crash keep).acts = [] := rfl
    rw [e, e2] at hx
    have hx' : 0 < ((m.crash keep).dir.map (·.2)).count x := by simpa [newF, cnt] using hx
    obtain ⟨p, hp, rfl⟩ := List.mem_map.1 (List.count_pos_iff.1 hx')
    have h1 := h.crash_there keep p hp
    have e3 : (m.crash keep).files.length = m.files.length := settle_len _ _ _
    rw [e3]
    exact h1
  · cases ha
  · cases hx
  · cases hx
theorem newF_snoc (l : List DAct) (a : DAct) (x : Nat) : (newF (l ++ [a])).count x = (newF l).count x + mkF a x := by
  unfold newF
  rw [List.filter_append, List.map_append, List.count_append]
  have := newF_cons a [] x
  unfold newF at this
  rw [this]
  simp
theorem Fits.addAct {m : DModel} (h : Fits m) (a : DAct) (hk : a.kind = 1 ∨ a.kind = 2) : Fits { m with dir := DD.act m.dir a, acts := m.acts ++ [a] } := by
  have hz : ∀ x, mkF a x = 0 := fun x => by unfold mkF; rw [if_neg (by omega)]
  refine ⟨fun x => ?_, fun x hx => ?_, fun b hb => ?_, ?_, h.fuse, h.fault⟩
  · have := h.once x
    show cnt x m.sure + (newF (m.acts ++ [a])).count x ≤ 1
    rw [newF_snoc, hz]
    exact this
  · refine h.there x ?_
    have hx' : 0 < cnt x m.sure + (newF (m.acts ++ [a])).count x := hx
    rw [newF_snoc, hz] at hx'
    exact hx'
  · rcases List.mem_append.1 hb with hb | hb
    · exact h.kinds b hb
    · have : b = a := by simpa using hb
      subst this
      omega
  · show (m.acts ++ [a]).foldl DD.act m.sure = DD.act m.dir a
    rw [List.foldl_append, h.synced]
    rfl
theorem Fits.done {m : DModel} (h : Fits m) (o : DOp) : Fits (m.done o) := by
  unfold DModel.done
  split
  · refine ⟨fun x => ?_, fun x hx => ?_, fun b hb => ?_, ?_, h.fuse, h.fault⟩
    · show cnt x m.sure + (newF (m.acts ++ [⟨0, o.name, [], m.files.length⟩])).count x ≤ 1
      rw [newF_snoc]
      have h1 := h.once x
      have h2 := h.there x
      unfold mkF
      split
      · rename_i e
        have e2 : m.files.length = x := e.2
        omega
      · omega
    · have hx' : 0 < cnt x m.sure + (newF (m.acts ++ [⟨0, o.name, [], m.files.length⟩])).count x := hx
      show x < (m.files ++ [(⟨[], 0⟩ : DFile)]).length
      rw [List.length_append]
      rw [newF_snoc] at hx'
      have h2 := h.there x
      unfold mkF at hx'
      split at hx'
      · rename_i e
        have e2 : m.files.length = x := e.2
        simp
        omega
      · simp
        omega
    · rcases List.mem_append.1 hb with hb | hb
      · exact h.kinds b hb
      · have : b = ⟨0, o.name, [], m.files.length⟩ := by simpa using hb
        subst this
        exact Nat.zero_le _
    · show (m.acts ++ [(⟨0, o.name, [], m.files.length⟩ : DAct)]).foldl DD.act m.sure = DD.put m.dir o.name m.files.length
      rw [List.foldl_append, h.synced]
      rfl
  · split
    · exact ⟨h.once, fun x hx => by show x < (m.files.set _ _).length; rw [List.length_set]; exact h.there x hx, h.kinds, h.synced, h.fuse, h.fault⟩
    · split
      · exact ⟨h.once, fun x hx => by show x < (m.files.set _ _).length; rw [List.length_set]; exact h.there x hx, h.kinds, h.synced, h.fuse, h.fault⟩
      · split
        · exact h.addAct ⟨1, o.name, o.to, 0⟩ (.inl rfl)
        · split
          · exact h.addAct ⟨2, o.name, [], 0⟩ (.inr rfl)
          · refine ⟨fun x => ?_, fun x hx => ?_, fun b hb => ?_, rfl, h.fuse, h.fault⟩
            · have := count_of_nodup _ h.dir_nodup x
              show cnt x m.dir + (newF []).count x ≤ 1
              unfold cnt
              simp [newF]
              exact this
            · have hx' : 0 < (m.dir.map (·.2)).count x := by simpa [newF, cnt] using hx
              obtain ⟨p, hp, rfl⟩ := List.mem_map.1 (List.count_pos_iff.1 hx')
              exact h.dir_there p hp
            · cases hb
theorem Fits.count {m : DModel} (h : Fits m) : Fits m.count := by
  refine ⟨h.once, h.there, h.kinds, h.synced, fun x hx => ?_, fun x hx => ?_⟩
  · have hx' : m.fuse.map (· - 1) = some x := hx
    cases hf : m.fuse with
    | none => rw [hf] at hx'; cases hx'
    | some y =>
      rw [hf] at hx'
      have := h.fuse y hf
      simp at hx'
      omega
  · have hx' : m.fault.map (· - 1) = some x := hx
    cases hf : m.fault with
    | none => rw [hf] at hx'; cases hx'
    | some y =>
      rw [hf] at hx'
      have := h.fault y hf
      simp at hx'
      omega
theorem Fits.doOp {m : DModel} (h : Fits m) (o : DOp) : Fits (m.doOp o).2 := by
  unfold DModel.doOp
  split
  · exact h
  · split
    · exact h
    · split
      · exact ⟨h.once, h.there, h.kinds, h.synced, h.fuse, h.fault⟩
      · split
        · exact h
        · split
          · exact ⟨h.once, h.there, h.kinds, h.synced, h.fuse, fun x hx => by cases hx⟩
          · exact (h.done o).count
theorem lay_le {n : Int} (hn : n ≤ 9223372036854775807) (x : Nat) (h : DModel.lay n = some x) : x ≤ 9223372036854775807 := by
  unfold DModel.lay at h
  split at h
  · cases h
  · simp at h
    omega
theorem Fits.layFuse {m : DModel} (h : Fits m) {n : Int} (hn : n ≤ 9223372036854775807) : Fits { m with fuse := DModel.lay n } := ⟨h.once, h.there, h.kinds, h.synced, fun x hx => lay_le hn x hx, h.fault⟩
theorem Fits.layFault {m : DModel} (h : Fits m) {n : Int} (hn : n ≤ 9223372036854775807) : Fits { m with fault := DModel.lay n } := ⟨h.once, h.there, h.kinds, h.synced, h.fuse, fun x hx => lay_le hn x hx⟩
end Go.Proofs.Lys
