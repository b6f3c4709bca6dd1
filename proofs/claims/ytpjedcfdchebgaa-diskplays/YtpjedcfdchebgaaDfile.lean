/-
  One file's bytes: appended to, made sure; and what of the disk stays then.
-/
import Derived.Test.YtpjedcfdchebgaaDacting
import Derived.Maps.AppendAt
namespace Go.Proofs.Ytpjedcfdchebgaa
open Go.RowKit Go.Proofs.Lys Go.Maps Go.Shelf
set_option linter.unusedVariables false

/-- A slice of bytes that is read: nil, or its cells. -/
def SrcAt (w : World) (v : Value) (bs : List UInt8) : Prop :=
  (∃ a c, v = .slice a 0 c ∧ bs = []) ∨ ∃ b o c, v = .slice (some ⟨b, o, none⟩) bs.length c ∧ ∀ j u, bs[j]? = some u → w.cell? ⟨b, o + j, none⟩ = some (byteV u)

theorem SrcAt.len {w : World} {v : Value} {bs : List UInt8} (h : SrcAt w v bs) : ∃ a c, v = .slice a bs.length c := by
  rcases h with ⟨a, c, rfl, rfl⟩ | ⟨b, o, c, rfl, _⟩
  · exact ⟨a, c, rfl⟩
  · exact ⟨_, c, rfl⟩
theorem SrcAt.kept {w w' : World} {v : Value} {bs : List UInt8} (h : SrcAt w v bs) (hk : ∀ b o u, w.cell? ⟨b, o, none⟩ = some u → (∃ x, u = byteV x) → w'.cell? ⟨b, o, none⟩ = some u) : SrcAt w' v bs := by
  rcases h with h | ⟨b, o, c, rfl, hc⟩
  · exact .inl h
  · exact .inr ⟨b, o, c, rfl, fun j u hu => hk _ _ _ (hc j u hu) ⟨u, rfl⟩⟩
theorem SrcAt.stay {w w' : World} {v : Value} {bs : List UInt8} (h : SrcAt w v bs) (k : Stay w w') : SrcAt w' v bs :=
  h.kept (fun b o u hc _ => by
    have hlt := World.block_lt_of_cell? w ⟨b, o, none⟩ hc
    rw [World.cell?_of_block (w := w) (w' := w') (a := ⟨b, o, none⟩) (k.block b hlt (fun f => f))]
    exact hc)

theorem Try.infoU8 : (Try.prog.info? 5).map (fun i => (i.zero, i.size, i.bytes)) = some (some (.int .u8 0), 1, 1) := by kernel_rfl

theorem add_off (b o j : Nat) : (⟨b, o, none⟩ : Addr).add j = ⟨b, o + j, none⟩ := by
  unfold Addr.add
  split
  · simp_all
  · rfl

theorem append_run {w : World} {v xv : Value} {n : Nat} {xs : List Value} {bs : List UInt8} (hown : w.ownsRow 0 5 1 v n xs) (hsrc : SrcAt w xv bs) (hl : n + bs.length ≤ 100000000) :
    ∃ v' w', (Builtin.append_ #[29, 29] 0 #[v, xv]).run Try.prog w = .ok v' w' ∧ w'.ownsRow 0 5 1 v' (n + bs.length) (xs ++ bs.map byteV) ∧ w.grownBy w' v.ownBlock ∧ (v'.ownBlock = v.ownBlock ∨ v'.ownBlock = some w.heap.size) := by
  obtain ⟨i0, hi0, hz0, hz1, hz2⟩ := info_parts Try.infoU8
  have hm : n + bs.length ≤ maxLen := by unfold maxLen; omega
  rcases hsrc with ⟨_ | a, c, rfl, rfl⟩ | ⟨b, o, c, rfl, hc⟩
  · refine ⟨v, w, ?_, by simpa using hown, World.grownBy.refl _ _, .inl rfl⟩
    rcases hown.2 with ⟨rfl, rfl⟩ | ⟨g, cap, cur, rfl, hbg, hg, hnc, hcm, hcs, htake⟩
    · simp [Builtin.append_, run_underlying Try.underlying29, sizeOf, typeInfo, hi0, Builtin.lenOf, Builtin.firstCells]
    · simp [Builtin.append_, run_underlying Try.underlying29, sizeOf, typeInfo, hi0, Builtin.lenOf, Builtin.firstCells, hnc, storeCells]
  · obtain ⟨v', w', hr, h2, h3, _, h5⟩ := run_append_own_at (P := Try.prog) w 0 29 0 5 i0 (.int .u8 0) 1 1 Try.underlying29 hi0 hz0 hz1 hz2 rfl (by omega) v n xs hown a 0 c [] rfl (fun j u hu => by simp at hu) (fun u hu => by simp at hu) hm (by simp at hl; omega) (Nat.zero_le _)
    exact ⟨v', w', hr, h2, h3, h5⟩
  · obtain ⟨v', w', hr, h2, h3, _, h5⟩ := run_append_own_at (P := Try.prog) w 0 29 0 5 i0 (.int .u8 0) 1 1 Try.underlying29 hi0 hz0 hz1 hz2 rfl (by omega) v n xs hown ⟨b, o, none⟩ bs.length c (bs.map byteV) (by simp)
      (fun j u hu => by
        rw [add_off]
        rw [List.getElem?_map] at hu
        cases hb : bs[j]? with
        | none => rw [hb] at hu; cases hu
        | some x => rw [hb] at hu; cases hu; exact hc j x hb)
      (fun u hu => by
        obtain ⟨x, _, rfl⟩ := List.mem_map.1 hu
        rfl) hm (by omega) (Nat.zero_le _)
    exact ⟨v', w', hr, h2, h3, h5⟩

theorem nodup_getD {l : List Nat} (h : l.Nodup) {i j : Nat} (hi : i < l.length) (hj : j < l.length) (e : l.getD i 0 = l.getD j 0) : i = j := by
  rw [List.getD_eq_getElem?_getD, List.getD_eq_getElem?_getD, List.getElem?_eq_getElem hi, List.getElem?_eq_getElem hj] at e
  exact (List.getElem_inj h).1 (by simpa using e)

section
variable {w : World} {c : Conc} {O : Nat → Prop} {m : DModel}

/-- One file has turned, and nothing else. -/
theorem DiskAt.setFile {w' : World} (h : DiskAt w c O m) (i : Nat) (hi : i < m.files.length) (f' : DFile) (v' : Value)
    (hk : ∀ k, O k → k ≠ c.blk.getD i 0 → (c.bs i).ownBlock ≠ some k → w'.heap[k]? = w.heap[k]?) (hs : w.heap.size ≤ w'.heap.size)
    (hF : Blk w' (c.blk.getD i 0) [v', .int .i64 (f'.sure : Int)] 117) (hB : w'.ownsRow 0 5 1 v' f'.b.length (f'.b.map byteV)) (hl : f'.b.length ≤ 16777216 ∧ f'.sure ≤ f'.b.length)
    (hv : ∀ k, v'.ownBlock = some k → (c.bs i).ownBlock = some k ∨ (w.heap.size ≤ k ∧ k < w'.heap.size)) :
    DiskAt w' { c with bv := c.bv.set i v' } (Grow O w w') { m with files := m.files.set i f' } := by
  have R := h.rest
  have hx : ∀ {k T}, O k → Typed w k T → T ≠ 117 → T ≠ 5 → w'.heap[k]? = w.heap[k]? := fun {k T} ho ht h1 h2 =>
    hk k ho (ht.ne (R.file i hi).typed h1) (fun e => (row_typed (R.bytes i hi) e).ne ht (fun e => h2 e.symm) rfl)
  have hbs : ∀ j, ({ c with bv := c.bv.set i v' } : Conc).bs j = if j = i then v' else c.bs j := by
    intro j
    unfold Conc.bs
    simp only [List.getD_eq_getElem?_getD, List.getElem?_set]
    by_cases e : i = j
    · subst e
      have : i < c.bv.length := by rw [R.nbv]; exact hi
      simp [this]
    · simp [e, Ne.symm e]
  have hfa : ∀ j, ({ m with files := m.files.set i f' } : DModel).fileAt j = if j = i then f' else m.fileAt j := by
    intro j
    unfold DModel.fileAt
    simp only [List.getD_eq_getElem?_getD, List.getElem?_set]
    by_cases e : i = j
    · subst e
      simp [hi]
    · simp [e, Ne.symm e]
  have hmap : ∀ {b n : Nat} {D : DataW Unit}, O b → w.ownsMap Try.prog 9 ptrE b n D → w'.ownsMap Try.prog 9 ptrE b n D := fun {b n D} ho hm =>
    map_block hm (hk _ ho (fun e => (R.file i hi).typed.ne_map hm e.symm) (fun e => (row_typed (R.bytes i hi) e).ne_map hm rfl))
  refine { cells := h.cells.of_block (hx h.oD h.cells.typed (by decide) (by decide)), fuse := h.fuse, fault := h.fault, oD := .inl h.oD, top := ?_, quota := h.quota, rest := ?_ }
  · rintro k (ho | ⟨_, ho⟩)
    · exact Nat.lt_of_lt_of_le (h.top k ho) hs
    · exact ho
  · refine { isM := hmap R.oMi R.isM, sureM := hmap R.oMs R.sureM, apart := R.apart, nblk := by simpa using R.nblk, nbv := by simpa using R.nbv, nodup := R.nodup, file := ?_, bytes := ?_, lens := ?_, sole := ?_,
             pend := row_block R.pend (fun k e => hx (R.oPv k e) (row_typed R.pend e) (by decide) (by decide)), act := fun j a e => (R.act j a e).far (fun k hk => .inl hk) (fun k T ho ht hT => hx ho ht (by rcases hT with rfl | rfl <;> decide) (by rcases hT with rfl | rfl <;> decide)),
             dirF := by simpa using R.dirF, sureF := by simpa using R.sureF, actF := by simpa using R.actF, synced := R.synced, oMi := .inl R.oMi, oMs := .inl R.oMs, oBlk := fun j hj => .inl (R.oBlk j (by simpa using hj)), oBs := ?_, oPv := fun k e => .inl (R.oPv k e) }
    · intro j hj
      have hj' : j < m.files.length := by simpa using hj
      rw [hbs, hfa]
      by_cases e : j = i
      · subst e
        simpa using hF
      · rw [if_neg e, if_neg e]
        exact (R.file j hj').of_block (hk _ (R.oBlk j hj') (fun e' => e (nodup_getD R.nodup (by rw [R.nblk]; exact hj') (by rw [R.nblk]; exact hi) e')) (fun e' => (row_typed (R.bytes i hi) e').ne (R.file j hj').typed (by decide) rfl))
    · intro j hj
      have hj' : j < m.files.length := by simpa using hj
      rw [hbs, hfa]
      by_cases e : j = i
      · subst e
        simpa using hB
      · rw [if_neg e, if_neg e]
        exact row_block (R.bytes j hj') (fun k e' => hk _ (R.oBs j k hj' e') ((row_typed (R.bytes j hj') e').ne (R.file i hi).typed (by decide)) (fun e2 => e (R.sole j i k hj' hi e' e2)))
    · intro j hj
      have hj' : j < m.files.length := by simpa using hj
      rw [hfa]
      by_cases e : j = i
      · rw [if_pos e]; exact hl
      · rw [if_neg e]; exact R.lens j hj'
    · intro a b k ha hb h1 h2
      have ha' : a < m.files.length := by simpa using ha
      have hb' : b < m.files.length := by simpa using hb
      rw [hbs] at h1 h2
      have old : ∀ j, j < m.files.length → j ≠ i → (c.bs j).ownBlock = some k → v'.ownBlock = some k → False := by
        intro j hj hne e1 e2
        rcases hv k e2 with e3 | ⟨e3, _⟩
        · exact hne (R.sole j i k hj hi e1 e3)
        · have := h.top k (R.oBs j k hj e1)
          omega
      by_cases ea : a = i
      · by_cases eb : b = i
        · rw [ea, eb]
        · rw [if_pos ea] at h1
          rw [if_neg eb] at h2
          exact (old b hb' eb h2 h1).elim
      · by_cases eb : b = i
        · rw [if_neg ea] at h1
          rw [if_pos eb] at h2
          exact (old a ha' ea h1 h2).elim
        · rw [if_neg ea] at h1
          rw [if_neg eb] at h2
          exact R.sole a b k ha' hb' h1 h2
    · intro j k hj e
      have hj' : j < m.files.length := by simpa using hj
      rw [hbs] at e
      by_cases ej : j = i
      · rw [if_pos ej] at e
        rcases hv k e with e3 | e3
        · exact .inl (R.oBs i k hi e3)
        · exact .inr e3
      · rw [if_neg ej] at e
        exact .inl (R.oBs j k hj' e)
end
end Go.Proofs.Ytpjedcfdchebgaa
