/-
  A file behind a crash, on a disk: what settleF tells.
-/
import Derived.Test.YtpjedcfdchebgaaDfset2
namespace Go.Proofs.Ytpjedcfdchebgaa
open Go.RowKit Go.Proofs.Lys Go.Maps Go.Shelf
set_option linter.unusedVariables false

section
variable {w : World} {c : Conc} {O : Nat → Prop} {m : DModel}

/-- One file has turned, and nothing else; the disk's own blocks are what one says. -/
theorem DiskAt.setFileO {w' : World} {O' : Nat → Prop} (hO : ∀ k, O k → O' k) (hTop : ∀ k, O' k → k < w'.heap.size) (h : DiskAt w c O m) (i : Nat) (hi : i < m.files.length) (f' : DFile) (v' : Value)
    (hk : ∀ k, O k → k ≠ c.blk.getD i 0 → (c.bs i).ownBlock ≠ some k → w'.heap[k]? = w.heap[k]?) (hs : w.heap.size ≤ w'.heap.size)
    (hF : Blk w' (c.blk.getD i 0) [v', .int .i64 (f'.sure : Int)] 117) (hB : w'.ownsRow 0 5 1 v' f'.b.length (f'.b.map byteV)) (hl : f'.b.length ≤ 16777216 ∧ f'.sure ≤ f'.b.length)
    (hv : ∀ k, v'.ownBlock = some k → (c.bs i).ownBlock = some k ∨ (w.heap.size ≤ k ∧ O' k)) :
    DiskAt w' { c with bv := c.bv.set i v' } O' { m with files := m.files.set i f' } := by
  have R := h.rest
  have hx : ∀ {k T}, O k → Typed w k T → T ≠ 117 → T ≠ 5 → w'.heap[k]? = w.heap[k]? := fun {k T} ho ht h1 h2 =>
    hk k ho (ht.ne (R.file i hi).typed h1) (fun e => (row_typed (R.bytes i hi) e).ne ht (fun e => h2 e.symm) rfl)
  have hbs : ∀ j, ({ c with bv := c.bv.set i v' } : Conc).bs j = if j = i then v' else c.bs j := by
    intro j
    unfold Conc.bs
    simp only [List.getD_eq_getElem?_getD, List.getElem?_set]
    by_cases e : i = j
    · subst e
      have : i < c.bv.length := by rw [R.nbv]; exact hi
      simp [this]
    · simp [e, Ne.symm e]
  have hfa : ∀ j, ({ m with files := m.files.set i f' } : DModel).fileAt j = if j = i then f' else m.fileAt j := by
    intro j
    unfold DModel.fileAt
    simp only [List.getD_eq_getElem?_getD, List.getElem?_set]
    by_cases e : i = j
    · subst e
      simp [hi]
    · simp [e, Ne.symm e]
  have hmap : ∀ {b n : Nat} {D : DataW Unit}, O b → w.ownsMap Try.prog 9 ptrE b n D → w'.ownsMap Try.prog 9 ptrE b n D := fun {b n D} ho hm =>
    map_block hm (hk _ ho (fun e => (R.file i hi).typed.ne_map hm e.symm) (fun e => (row_typed (R.bytes i hi) e).ne_map hm rfl))
  refine { cells := h.cells.of_block (hx h.oD h.cells.typed (by decide) (by decide)), fuse := h.fuse, fault := h.fault, oD := hO _ h.oD, top := hTop, quota := h.quota, rest := ?_ }
  · refine { isM := hmap R.oMi R.isM, sureM := hmap R.oMs R.sureM, apart := R.apart, nblk := by simpa using R.nblk, nbv := by simpa using R.nbv, nodup := R.nodup, file := ?_, bytes := ?_, lens := ?_, sole := ?_,
             pend := row_block R.pend (fun k e => hx (R.oPv k e) (row_typed R.pend e) (by decide) (by decide)), act := fun j a e => (R.act j a e).far (hO) (fun k T ho ht hT => hx ho ht (by rcases hT with rfl | rfl <;> decide) (by rcases hT with rfl | rfl <;> decide)),
             dirF := by simpa using R.dirF, sureF := by simpa using R.sureF, actF := by simpa using R.actF, synced := R.synced, oMi := hO _ R.oMi, oMs := hO _ R.oMs, oBlk := fun j hj => hO _ (R.oBlk j (by simpa using hj)), oBs := ?_, oPv := fun k e => hO _ (R.oPv k e) }
    · intro j hj
      have hj' : j < m.files.length := by simpa using hj
      rw [hbs, hfa]
      by_cases e : j = i
      · subst e
        simpa using hF
      · rw [if_neg e, if_neg e]
        exact (R.file j hj').of_block (hk _ (R.oBlk j hj') (fun e' => e (nodup_getD R.nodup (by rw [R.nblk]; exact hj') (by rw [R.nblk]; exact hi) e')) (fun e' => (row_typed (R.bytes i hi) e').ne (R.file j hj').typed (by decide) rfl))
    · intro j hj
      have hj' : j < m.files.length := by simpa using hj
      rw [hbs, hfa]
      by_cases e : j = i
      · subst e
        simpa using hB
      · rw [if_neg e, if_neg e]
        exact row_block (R.bytes j hj') (fun k e' => hk _ (R.oBs j k hj' e') ((row_typed (R.bytes j hj') e').ne (R.file i hi).typed (by decide)) (fun e2 => e (R.sole j i k hj' hi e' e2)))
    · intro j hj
      have hj' : j < m.files.length := by simpa using hj
      rw [hfa]
      by_cases e : j = i
      · rw [if_pos e]; exact hl
      · rw [if_neg e]; exact R.lens j hj'
    · intro a b k ha hb h1 h2
      have ha' : a < m.files.length := by simpa using ha
      have hb' : b < m.files.length := by simpa using hb
      rw [hbs] at h1 h2
      have old : ∀ j, j < m.files.length → j ≠ i → (c.bs j).ownBlock = some k → v'.ownBlock = some k → False := by
        intro j hj hne e1 e2
        rcases hv k e2 with e3 | ⟨e3, _⟩
        · exact hne (R.sole j i k hj hi e1 e3)
        · have := h.top k (R.oBs j k hj e1)
          omega
      by_cases ea : a = i
      · by_cases eb : b = i
        · rw [ea, eb]
        · rw [if_pos ea] at h1
          rw [if_neg eb] at h2
          exact (old b hb' eb h2 h1).elim
      · by_cases eb : b = i
        · rw [if_neg ea] at h1
          rw [if_pos eb] at h2
          exact (old a ha' ea h1 h2).elim
        · rw [if_neg ea] at h1
          rw [if_neg eb] at h2
          exact R.sole a b k ha' hb' h1 h2
    · intro j k hj e
      have hj' : j < m.files.length := by simpa using hj
      rw [hbs] at e
      by_cases ej : j = i
      · rw [if_pos ej] at e
        rcases hv k e with e3 | e3
        · exact hO _ (R.oBs i k hi e3)
        · exact e3.2
      · rw [if_neg ej] at e
        exact hO _ (R.oBs j k hj' e)

/-- A tail: what stays of it. -/
theorem fset_tail {fb L su cap nb g : Nat} {l : List Int} {bs : List UInt8} (hF : Blk w fb [.slice (some ⟨g, 0, none⟩) L cap, .int .i64 (su : Int)] 117) (hB : w.ownsRow 0 5 1 (.slice (some ⟨g, 0, none⟩) L cap) L (bs.map byteV)) (hbs : bs.length = L) (hsu : su < L) (hL : L ≤ 16777216)
    (hN : NumsAt w O nb l) (hNO : ¬ O nb) (hOf : O fb) (hOg : O g) :
    Calls Try.prog 49 #[.pointer (some ⟨fb, 0, none⟩), .func (.func 83) #[] #[.pointer (some ⟨nb, 0, none⟩)]] w fun e w' => e = .returned (.tuple #[]) ∧ FPost w fb g nb su (su + DModel.stays (l.headD 0) (L - su)) cap O l (bs.take (su + DModel.stays (l.headD 0) (L - su))) w' := by
  by_cases h1 : l.headD 0 < 0
  · have e : DModel.stays (l.headD 0) (L - su) = 0 := by unfold DModel.stays; rw [if_pos h1]
    rw [e]
    exact fset_neg hF hB hbs hsu hL hN hNO hOf hOg h1
  · by_cases h2 : ((L - su : Nat) : Int) < l.headD 0
    · have e : su + DModel.stays (l.headD 0) (L - su) = L := by
        unfold DModel.stays
        rw [if_neg h1]
        omega
      rw [e]
      exact fset_all hF hB hbs hsu hL hN hNO hOf hOg h2
    · have e : DModel.stays (l.headD 0) (L - su) = (l.headD 0).toNat := by
        unfold DModel.stays
        rw [if_neg h1]
        omega
      rw [e]
      exact fset_mid hF hB hbs hsu hL hN hNO hOf hOg (l.headD 0).toNat (by omega) (by omega)

theorem set_same {α : Type} (l : List α) (i : Nat) (d : α) : l.set i (l.getD i d) = l := by
  apply List.ext_getElem?
  intro j
  rw [List.getElem?_set]
  by_cases e : i = j
  · subst e
    by_cases hi : i < l.length
    · simp [hi]
    · simp [hi]
  · simp [e]

theorem fset_any (h : DiskAt w c O m) {nb i : Nat} {l : List Int} (hi : i < m.files.length) (hN : NumsAt w O nb l) (hNO : ¬ O nb) :
    Calls Try.prog 49 #[.pointer (some ⟨c.blk.getD i 0, 0, none⟩), .func (.func 83) #[] #[.pointer (some ⟨nb, 0, none⟩)]] w fun e w' => e = .returned (.tuple #[]) ∧
      (∃ v', DiskAt w' { c with bv := c.bv.set i v' } O { m with files := m.files.set i (DModel.settleF (m.fileAt i) l).1 }) ∧ NumsAt w' O nb (DModel.settleF (m.fileAt i) l).2 ∧ Only (fun x => O x ∨ x = nb) w w' := by
  have R := h.rest
  have hF := R.file i hi
  have hB := R.bytes i hi
  obtain ⟨hl1, hl2⟩ := R.lens i hi
  by_cases ht : (m.fileAt i).b.length = (m.fileAt i).sure
  · obtain ⟨a, cap, hv⟩ := row_slice hB
    rw [hv, ← ht] at hF
    refine (fset_none (nb := nb) hF).mono ?_
    rintro e w' ⟨rfl, hs⟩
    have e1 : DModel.settleF (m.fileAt i) l = (m.fileAt i, l) := by unfold DModel.settleF; rw [if_pos ht]
    rw [e1]
    refine ⟨rfl, ⟨c.bs i, ?_⟩, hN.only hs (fun f => f) (fun _ _ f => f.elim), hs.mono (fun _ _ f => f.elim)⟩
    have h1 : c.bv.set i (c.bs i) = c.bv := set_same _ _ _
    have h2 : m.files.set i (m.fileAt i) = m.files := set_same _ _ _
    rw [h1, h2]
    exact h.stay hs
  · have hsu : (m.fileAt i).sure < (m.fileAt i).b.length := by omega
    obtain ⟨g, cap, hv⟩ : ∃ g cap, c.bs i = .slice (some ⟨g, 0, none⟩) (m.fileAt i).b.length cap := by
      obtain ⟨_, ⟨_, h1⟩ | ⟨g, cap, cur, h1, _⟩⟩ := hB
      · omega
      · exact ⟨g, cap, h1⟩
    have hown : (c.bs i).ownBlock = some g := by rw [hv]; rfl
    rw [hv] at hF hB
    have hOf := R.oBlk i hi
    have hOg := R.oBs i g hi hown
    refine (fset_tail hF hB rfl hsu hl1 hN hNO hOf hOg).mono ?_
    rintro e w' ⟨rfl, hB', hF', hN', hO'⟩
    have hM : (m.fileAt i).sure + DModel.stays (l.headD 0) ((m.fileAt i).b.length - (m.fileAt i).sure) ≤ (m.fileAt i).b.length := by
      have : DModel.stays (l.headD 0) ((m.fileAt i).b.length - (m.fileAt i).sure) ≤ (m.fileAt i).b.length - (m.fileAt i).sure := by
        unfold DModel.stays
        split <;> omega
      omega
    have e1 : DModel.settleF (m.fileAt i) l = (⟨(if DModel.oddB (l.tail.headD 0) then DModel.spoil ((m.fileAt i).b.take ((m.fileAt i).sure + DModel.stays (l.headD 0) ((m.fileAt i).b.length - (m.fileAt i).sure))) (m.fileAt i).sure else (m.fileAt i).b.take ((m.fileAt i).sure + DModel.stays (l.headD 0) ((m.fileAt i).b.length - (m.fileAt i).sure))),
        (m.fileAt i).sure + DModel.stays (l.headD 0) ((m.fileAt i).b.length - (m.fileAt i).sure)⟩, l.tail.tail) := by
      unfold DModel.settleF
      rw [if_neg ht]
      have : (if DModel.oddB (l.tail.headD 0) then DModel.spoil ((m.fileAt i).b.take ((m.fileAt i).sure + DModel.stays (l.headD 0) ((m.fileAt i).b.length - (m.fileAt i).sure))) (m.fileAt i).sure else (m.fileAt i).b.take ((m.fileAt i).sure + DModel.stays (l.headD 0) ((m.fileAt i).b.length - (m.fileAt i).sure))).length = (m.fileAt i).sure + DModel.stays (l.headD 0) ((m.fileAt i).b.length - (m.fileAt i).sure) := by
        split
        · rw [DModel.spoil, List.length_mapIdx, List.length_take]; omega
        · rw [List.length_take]; omega
      simp only [this]
    rw [e1]
    simp only at hB' ⊢
    generalize (m.fileAt i).sure + DModel.stays (l.headD 0) ((m.fileAt i).b.length - (m.fileAt i).sure) = M at *
    have hlen : ∀ X : List UInt8, w'.ownsRow 0 5 1 (.slice (some ⟨g, 0, none⟩) M cap) M (X.map byteV) → X.length = M := by
      intro X hX
      have := hX.1
      simpa using this
    have hX := hlen _ hB'
    generalize (if DModel.oddB (l.tail.headD 0) = true then DModel.spoil (List.take M (m.fileAt i).b) (m.fileAt i).sure else List.take M (m.fileAt i).b) = X at *
    refine ⟨by trivial, ⟨.slice (some ⟨g, 0, none⟩) M cap, ?_⟩, hN', hO'.mono (fun k _ e => ?_)⟩
    · refine h.setFileO (O' := O) (fun _ h => h) (fun k ho => Nat.lt_of_lt_of_le (h.top k ho) hO'.size) i hi ⟨X, M⟩ _ ?_ hO'.size hF' (by subst hX; exact hB') (by simp only; omega) ?_
      · intro k ho h1 h2
        refine hO'.block k (h.top k ho) ?_
        rintro (e | e | e)
        · exact h1 e
        · exact h2 (by rw [hown, e])
        · exact hNO (e ▸ ho)
      · intro k e
        exact .inl (by rw [hown]; exact e)
    · rcases e with e | e | e
      · exact .inl (e ▸ hOf)
      · exact .inl (e ▸ hOg)
      · exact .inr e
end
end Go.Proofs.Ytpjedcfdchebgaa
