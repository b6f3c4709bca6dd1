/-
  Dfset3, Iter, Dlist, Dread, Base, Bclone, Dread2.
-/
import Derived.Test.YtfmdnaagdhpcpaaQ10
import Derived.Shelf.SlGeneric
import Derived.Shelf.SlIter.Nil
import Derived.Shelf.SortM.Plain
import Derived.Shelf.SortM.SortNone
import Derived.Ground.GgzProg
import Derived.Ground.SlgmProg
import Derived.Test.YtfmdnaagdhpcpaaProg
import Derived.Sort.KeysCollected
import Derived.Test.YtfmdnaagdhpcpaaQ01
import Derived.Maps.AppendAt
import Derived.Laws.OwnMore
import Derived.OwnWalk
import Derived.WalkSpells

/-
  A file behind a crash, on a disk: what settleF tells.
-/
namespace Go.Proofs.Ytfmdnaagdhpcpaa
open Go.RowKit Go.Proofs.Lys Go.Maps Go.Shelf
set_option linter.unusedVariables false

section
variable {w : World} {c : Conc} {O : Nat → Prop} {m : DModel}

/-- One file has turned, and nothing else; the disk's own blocks are what one says. -/
theorem DiskAt.setFileO {w' : World} {O' : Nat → Prop} (hO : ∀ k, O k → O' k) (hTop : ∀ k, O' k → k < w'.heap.size) (h : DiskAt w c O m) (i : Nat) (hi : i < m.files.length) (f' : DFile) (v' : Value)
    (hk : ∀ k, O k → k ≠ c.blk.getD i 0 → (c.bs i).ownBlock ≠ some k → w'.heap[k]? = w.heap[k]?) (hs : w.heap.size ≤ w'.heap.size)
    (hF : Blk w' (c.blk.getD i 0) [v', .int .i64 (f'.sure : Int)] 87) (hB : w'.ownsRow 0 5 1 v' f'.b.length (f'.b.map byteV)) (hl : f'.b.length ≤ 16777216 ∧ f'.sure ≤ f'.b.length)
    (hv : ∀ k, v'.ownBlock = some k → (c.bs i).ownBlock = some k ∨ (w.heap.size ≤ k ∧ O' k)) :
    DiskAt w' { c with bv := c.bv.set i v' } O' { m with files := m.files.set i f' } := by
  have R := h.rest
  have hx : ∀ {k T}, O k → Typed w k T → T ≠ 87 → T ≠ 5 → w'.heap[k]? = w.heap[k]? := fun {k T} ho ht h1 h2 =>
    hk k ho (ht.ne (R.file i hi).typed h1) (fun e => (row_typed (R.bytes i hi) e).ne ht (fun e => h2 e.symm) rfl)
  have hbs : ∀ j, ({ c with bv := c.bv.set i v' } : Conc).bs j = if j = i then v' else c.bs j := by
    intro j
    unfold Conc.bs
    simp only [List.getD_eq_getElem?_getD, List.getElem?_set]
    by_cases e : i = j
    · subst e
      have : i < c.bv.length := by rw [R.nbv]; exact hi
      simp [this]
    · simp [e, Ne.symm e]
  have hfa : ∀ j, ({ m with files := m.files.set i f' } : DModel).fileAt j = if j = i then f' else m.fileAt j := by
    intro j
    unfold DModel.fileAt
    simp only [List.getD_eq_getElem?_getD, List.getElem?_set]
    by_cases e : i = j
    · subst e
      simp [hi]
    · simp [e, Ne.symm e]
  have hmap : ∀ {b n : Nat} {D : DataW Unit}, O b → w.ownsMap Try.prog 9 ptrE b n D → w'.ownsMap Try.prog 9 ptrE b n D := fun {b n D} ho hm =>
    map_block hm (hk _ ho (fun e => (R.file i hi).typed.ne_map hm e.symm) (fun e => (row_typed (R.bytes i hi) e).ne_map hm rfl))
  refine { cells := h.cells.of_block (hx h.oD h.cells.typed (by decide) (by decide)), fuse := h.fuse, fault := h.fault, oD := hO _ h.oD, top := hTop, quota := h.quota, rest := ?_ }
  · refine { isM := hmap R.oMi R.isM, sureM := hmap R.oMs R.sureM, apart := R.apart, nblk := by simpa using R.nblk, nbv := by simpa using R.nbv, nodup := R.nodup, file := ?_, bytes := ?_, lens := ?_, sole := ?_,
             pend := row_block R.pend (fun k e => hx (R.oPv k e) (row_typed R.pend e) (by decide) (by decide)), act := fun j a e => (R.act j a e).far (hO) (fun k T ho ht hT => hx ho ht (by rcases hT with rfl | rfl <;> decide) (by rcases hT with rfl | rfl <;> decide)),
             dirF := by simpa using R.dirF, sureF := by simpa using R.sureF, actF := by simpa using R.actF, synced := R.synced, oMi := hO _ R.oMi, oMs := hO _ R.oMs, oBlk := fun j hj => hO _ (R.oBlk j (by simpa using hj)), oBs := ?_, oPv := fun k e => hO _ (R.oPv k e) }
    · intro j hj
      have hj' : j < m.files.length := by simpa using hj
      rw [hbs, hfa]
      by_cases e : j = i
      · subst e
        simpa using hF
      · rw [if_neg e, if_neg e]
        exact (R.file j hj').of_block (hk _ (R.oBlk j hj') (fun e' => e (nodup_getD R.nodup (by rw [R.nblk]; exact hj') (by rw [R.nblk]; exact hi) e')) (fun e' => (row_typed (R.bytes i hi) e').ne (R.file j hj').typed (by decide) rfl))
    · intro j hj
      have hj' : j < m.files.length := by simpa using hj
      rw [hbs, hfa]
      by_cases e : j = i
      · subst e
        simpa using hB
      · rw [if_neg e, if_neg e]
        exact row_block (R.bytes j hj') (fun k e' => hk _ (R.oBs j k hj' e') ((row_typed (R.bytes j hj') e').ne (R.file i hi).typed (by decide)) (fun e2 => e (R.sole j i k hj' hi e' e2)))
    · intro j hj
      have hj' : j < m.files.length := by simpa using hj
      rw [hfa]
      by_cases e : j = i
      · rw [if_pos e]; exact hl
      · rw [if_neg e]; exact R.lens j hj'
    · intro a b k ha hb h1 h2
      have ha' : a < m.files.length := by simpa using ha
      have hb' : b < m.files.length := by simpa using hb
      rw [hbs] at h1 h2
      have old : ∀ j, j < m.files.length → j ≠ i → (c.bs j).ownBlock = some k → v'.ownBlock = some k → False := by
        intro j hj hne e1 e2
        rcases hv k e2 with e3 | ⟨e3, _⟩
        · exact hne (R.sole j i k hj hi e1 e3)
        · have := h.top k (R.oBs j k hj e1)
          omega
      by_cases ea : a = i
      · by_cases eb : b = i
        · rw [ea, eb]
        · rw [if_pos ea] at h1
          rw [if_neg eb] at h2
          exact (old b hb' eb h2 h1).elim
      · by_cases eb : b = i
        · rw [if_neg ea] at h1
          rw [if_pos eb] at h2
          exact (old a ha' ea h1 h2).elim
        · rw [if_neg ea] at h1
          rw [if_neg eb] at h2
          exact R.sole a b k ha' hb' h1 h2
    · intro j k hj e
      have hj' : j < m.files.length := by simpa using hj
      rw [hbs] at e
      by_cases ej : j = i
      · rw [if_pos ej] at e
        rcases hv k e with e3 | e3
        · exact hO _ (R.oBs i k hi e3)
        · exact e3.2
      · rw [if_neg ej] at e
        exact hO _ (R.oBs j k hj' e)

/-- A tail: what stays of it. -/
theorem fset_tail {fb L su cap nb g : Nat} {l : List Int} {bs : List UInt8} (hF : Blk w fb [.slice (some ⟨g, 0, none⟩) L cap, .int .i64 (su : Int)] 87) (hB : w.ownsRow 0 5 1 (.slice (some ⟨g, 0, none⟩) L cap) L (bs.map byteV)) (hbs : bs.length = L) (hsu : su < L) (hL : L ≤ 16777216)
    (hN : NumsAt w O nb l) (hNO : ¬ O nb) (hOf : O fb) (hOg : O g) :
    Calls Try.prog 43 #[.pointer (some ⟨fb, 0, none⟩), .func (.func 66) #[] #[.pointer (some ⟨nb, 0, none⟩)]] w fun e w' => e = .returned (.tuple #[]) ∧ FPost w fb g nb su (su + DModel.stays (l.headD 0) (L - su)) cap O l (bs.take (su + DModel.stays (l.headD 0) (L - su))) w' := by
  by_cases h1 : l.headD 0 < 0
  · have e : DModel.stays (l.headD 0) (L - su) = 0 := by unfold DModel.stays; rw [if_pos h1]
    rw [e]
    exact fset_neg hF hB hbs hsu hL hN hNO hOf hOg h1
  · by_cases h2 : ((L - su : Nat) : Int) < l.headD 0
    · have e : su + DModel.stays (l.headD 0) (L - su) = L := by
        unfold DModel.stays
        rw [if_neg h1]
        omega
      rw [e]
      exact fset_all hF hB hbs hsu hL hN hNO hOf hOg h2
    · have e : DModel.stays (l.headD 0) (L - su) = (l.headD 0).toNat := by
        unfold DModel.stays
        rw [if_neg h1]
        omega
      rw [e]
      exact fset_mid hF hB hbs hsu hL hN hNO hOf hOg (l.headD 0).toNat (by omega) (by omega)

theorem set_same {α : Type} (l : List α) (i : Nat) (d : α) : l.set i (l.getD i d) = l := by
  apply List.ext_getElem?
  intro j
  rw [List.getElem?_set]
  by_cases e : i = j
  · subst e
    by_cases hi : i < l.length
    · simp [hi]
    · simp [hi]
  · simp [e]

theorem fset_any (h : DiskAt w c O m) {nb i : Nat} {l : List Int} (hi : i < m.files.length) (hN : NumsAt w O nb l) (hNO : ¬ O nb) :
    Calls Try.prog 43 #[.pointer (some ⟨c.blk.getD i 0, 0, none⟩), .func (.func 66) #[] #[.pointer (some ⟨nb, 0, none⟩)]] w fun e w' => e = .returned (.tuple #[]) ∧
      (∃ v', DiskAt w' { c with bv := c.bv.set i v' } O { m with files := m.files.set i (DModel.settleF (m.fileAt i) l).1 }) ∧ NumsAt w' O nb (DModel.settleF (m.fileAt i) l).2 ∧ Only (fun x => O x ∨ x = nb) w w' := by
  have R := h.rest
  have hF := R.file i hi
  have hB := R.bytes i hi
  obtain ⟨hl1, hl2⟩ := R.lens i hi
  by_cases ht : (m.fileAt i).b.length = (m.fileAt i).sure
  · obtain ⟨a, cap, hv⟩ := row_slice hB
    rw [hv, ← ht] at hF
    refine (fset_none (nb := nb) hF).mono ?_
    rintro e w' ⟨rfl, hs⟩
    have e1 : DModel.settleF (m.fileAt i) l = (m.fileAt i, l) := by unfold DModel.settleF; rw [if_pos ht]
    rw [e1]
    refine ⟨rfl, ⟨c.bs i, ?_⟩, hN.only hs (fun f => f) (fun _ _ f => f.elim), hs.mono (fun _ _ f => f.elim)⟩
    have h1 : c.bv.set i (c.bs i) = c.bv := set_same _ _ _
    have h2 : m.files.set i (m.fileAt i) = m.files := set_same _ _ _
    rw [h1, h2]
    exact h.stay hs
  · have hsu : (m.fileAt i).sure < (m.fileAt i).b.length := by omega
    obtain ⟨g, cap, hv⟩ : ∃ g cap, c.bs i = .slice (some ⟨g, 0, none⟩) (m.fileAt i).b.length cap := by
      obtain ⟨_, ⟨_, h1⟩ | ⟨g, cap, cur, h1, _⟩⟩ := hB
      · omega
      · exact ⟨g, cap, h1⟩
    have hown : (c.bs i).ownBlock = some g := by rw [hv]; rfl
    rw [hv] at hF hB
    have hOf := R.oBlk i hi
    have hOg := R.oBs i g hi hown
    refine (fset_tail hF hB rfl hsu hl1 hN hNO hOf hOg).mono ?_
    rintro e w' ⟨rfl, hB', hF', hN', hO'⟩
    have hM : (m.fileAt i).sure + DModel.stays (l.headD 0) ((m.fileAt i).b.length - (m.fileAt i).sure) ≤ (m.fileAt i).b.length := by
      have : DModel.stays (l.headD 0) ((m.fileAt i).b.length - (m.fileAt i).sure) ≤ (m.fileAt i).b.length - (m.fileAt i).sure := by
        unfold DModel.stays
        split <;> omega
      omega
    have e1 : DModel.settleF (m.fileAt i) l = (⟨(if DModel.oddB (l.tail.headD 0) then DModel.spoil ((m.fileAt i).b.take ((m.fileAt i).sure + DModel.stays (l.headD 0) ((m.fileAt i).b.length - (m.fileAt i).sure))) (m.fileAt i).sure else (m.fileAt i).b.take ((m.fileAt i).sure + DModel.stays (l.headD 0) ((m.fileAt i).b.length - (m.fileAt i).sure))),
        (m.fileAt i).sure + DModel.stays (l.headD 0) ((m.fileAt i).b.length - (m.fileAt i).sure)⟩, l.tail.tail) := by
      unfold DModel.settleF
      rw [if_neg ht]
      have : (if DModel.oddB (l.tail.headD 0) then DModel.spoil ((m.fileAt i).b.take ((m.fileAt i).sure + DModel.stays (l.headD 0) ((m.fileAt i).b.length - (m.fileAt i).sure))) (m.fileAt i).sure else (m.fileAt i).b.take ((m.fileAt i).sure + DModel.stays (l.headD 0) ((m.fileAt i).b.length - (m.fileAt i).sure))).length = (m.fileAt i).sure + DModel.stays (l.headD 0) ((m.fileAt i).b.length - (m.fileAt i).sure) := by
        split
        · rw [DModel.spoil, List.length_mapIdx, List.length_take]; omega
        · rw [List.length_take]; omega
      simp only [this]
    rw [e1]
    simp only at hB' ⊢
    generalize (m.fileAt i).sure + DModel.stays (l.headD 0) ((m.fileAt i).b.length - (m.fileAt i).sure) = M at *
    have hlen : ∀ X : List UInt8, w'.ownsRow 0 5 1 (.slice (some ⟨g, 0, none⟩) M cap) M (X.map byteV) → X.length = M := by
      intro X hX
      have := hX.1
      simpa using this
    have hX := hlen _ hB'
    generalize (if DModel.oddB (l.tail.headD 0) = true then DModel.spoil (List.take M (m.fileAt i).b) (m.fileAt i).sure else List.take M (m.fileAt i).b) = X at *
    refine ⟨by trivial, ⟨.slice (some ⟨g, 0, none⟩) M cap, ?_⟩, hN', hO'.mono (fun k _ e => ?_)⟩
    · refine h.setFileO (O' := O) (fun _ h => h) (fun k ho => Nat.lt_of_lt_of_le (h.top k ho) hO'.size) i hi ⟨X, M⟩ _ ?_ hO'.size hF' (by subst hX; exact hB') (by simp only; omega) ?_
      · intro k ho h1 h2
        refine hO'.block k (h.top k ho) ?_
        rintro (e | e | e)
        · exact h1 e
        · exact h2 (by rw [hown, e])
        · exact hNO (e ▸ ho)
      · intro k e
        exact .inl (by rw [hown]; exact e)
    · rcases e with e | e | e
      · exact .inl (e ▸ hOf)
      · exact .inl (e ▸ hOg)
      · exact .inr e
end
end Go.Proofs.Ytfmdnaagdhpcpaa

/-
  The library contracts on sorted keys of a directory, laid at this program: each one application of a theorem of the given library.
-/
namespace Go.Proofs
open Go.RowKit Go.Maps Go.Sort Go.Shelf
def Try.keys70_ren : Go.Shelf.Ren := ⟨fun | 7 => 70 | 10 => 77 | n => n, fun | 23 => 55 | 26 => 9 | 3 => 82 | 28 => 100 | 0 => 0 | 27 => 99 | 33 => 90 | 4 => 4 | n => n, fun | n => n⟩
theorem Try.keys70 : Go.Proofs.SlLaysZ.n7 Try.prog Try.keys70_ren := {
  mixed := by kernel_rfl
  f7 := ⟨Try.f70.name, by decide, Try.func70.trans (congrArg some (by kernel_rfl))⟩
  f10 := ⟨Try.f77.name, by decide, Try.func77.trans (congrArg some (by kernel_rfl))⟩
  t0 := Try.underlying0
  a0 := Try.isAgg0
  z0 := Try.sizeOf0
  v0 := Try.zeroValue0
  t4 := Try.underlying4
  a4 := Try.isAgg4
  z4 := Try.sizeOf4
  v4 := Try.zeroValue4
  t23 := Try.underlying55
  a23 := Try.isAgg55
  z23 := Try.sizeOf55
  v23 := Try.zeroValue55
  t26 := Try.underlying9
  a26 := Try.isAgg9
  z26 := Try.sizeOf9
  v26 := Try.zeroValue9
  t27 := Try.underlying99
  a27 := Try.isAgg99
  z27 := Try.sizeOf99
  v27 := Try.zeroValue99
  t28 := Try.underlying100
  a28 := Try.isAgg100
  z28 := Try.sizeOf100
  v28 := Try.zeroValue100
  t33 := Try.underlying90
  a33 := Try.isAgg90
  z33 := Try.sizeOf90
  v33 := Try.zeroValue90 }
def Try.sorted69_ren : Go.Shelf.Ren := ⟨fun | 6 => 69 | 8 => 75 | 9 => 76 | 11 => 78 | 13 => 80 | 12 => 79 | 23 => 90 | 24 => 91 | 14 => 81 | 15 => 82 | 16 => 83 | 17 => 84 | 18 => 85 | 19 => 86 | 20 => 87 | 21 => 88 | 22 => 89 | 25 => 92 | 26 => 93 | 27 => 94 | 28 => 95 | 29 => 96 | 30 => 97 | 31 => 98 | n => n, fun | 26 => 9 | 28 => 100 | 24 => 80 | 0 => 0 | 3 => 3 | 37 => 107 | 48 => 118 | 50 => 120 | 4 => 4 | 40 => 110 | 39 => 109 | 45 => 115 | 5 => 5 | 9 => 9 | 51 => 121 | 55 => 125 | 57 => 127 | 58 => 128 | 33 => 90 | n => n, fun | n => n⟩
theorem Try.sorted69 : Go.Proofs.SlLaysZ.n6 Try.prog Try.sorted69_ren := {
  mixed := by kernel_rfl
  f6 := ⟨Try.f69.name, by decide, Try.func69.trans (congrArg some (by kernel_rfl))⟩
  f8 := ⟨Try.f75.name, by decide, Try.func75.trans (congrArg some (by kernel_rfl))⟩
  f11 := ⟨Try.f78.name, by decide, Try.func78.trans (congrArg some (by kernel_rfl))⟩
  t0 := Try.underlying0
  a0 := Try.isAgg0
  z0 := Try.sizeOf0
  v0 := Try.zeroValue0
  t24 := Try.underlying80
  a24 := Try.isAgg80
  z24 := Try.sizeOf80
  v24 := Try.zeroValue80
  t26 := Try.underlying9
  a26 := Try.isAgg9
  z26 := Try.sizeOf9
  v26 := Try.zeroValue9
  t28 := Try.underlying100
  a28 := Try.isAgg100
  z28 := Try.sizeOf100
  v28 := Try.zeroValue100
  i26 := by kernel_rfl }
def Try.sort76_ren : Go.Shelf.Ren := ⟨fun | 6 => 76 | 8 => 80 | 9 => 79 | 19 => 90 | 20 => 91 | 21 => 81 | 22 => 82 | 23 => 83 | 24 => 84 | 25 => 85 | 26 => 86 | 27 => 87 | 28 => 88 | 29 => 89 | 36 => 92 | 31 => 93 | 32 => 94 | 37 => 95 | 38 => 96 | 39 => 97 | 41 => 98 | n => n, fun | 27 => 80 | 29 => 9 | 3 => 3 | 32 => 107 | 26 => 80 | 0 => 0 | 44 => 118 | 46 => 120 | 4 => 4 | 36 => 110 | 35 => 109 | 41 => 115 | 5 => 5 | 9 => 9 | 53 => 121 | 57 => 125 | 63 => 127 | 64 => 128 | n => n, fun | n => n⟩
theorem Try.sort76 : Go.Proofs.SlLaysM.n6 Try.prog Try.sort76_ren := {
  mixed := by kernel_rfl
  f6 := ⟨Try.f76.name, by decide, Try.func76.trans (congrArg some (by kernel_rfl))⟩
  f8 := Try.func80.trans (congrArg some (by kernel_rfl))
  f9 := ⟨Try.f79.name, by decide, Try.func79.trans (congrArg some (by kernel_rfl))⟩
  f19 := Try.func90.trans (congrArg some (by kernel_rfl))
  f20 := Try.func91.trans (congrArg some (by kernel_rfl))
  f21 := ⟨Try.f81.name, by decide, Try.func81.trans (congrArg some (by kernel_rfl))⟩
  f22 := ⟨Try.f82.name, by decide, Try.func82.trans (congrArg some (by kernel_rfl))⟩
  f23 := ⟨Try.f83.name, by decide, Try.func83.trans (congrArg some (by kernel_rfl))⟩
  f24 := ⟨Try.f84.name, by decide, Try.func84.trans (congrArg some (by kernel_rfl))⟩
  f25 := ⟨Try.f85.name, by decide, Try.func85.trans (congrArg some (by kernel_rfl))⟩
  f26 := ⟨Try.f86.name, by decide, Try.func86.trans (congrArg some (by kernel_rfl))⟩
  f27 := ⟨Try.f87.name, by decide, Try.func87.trans (congrArg some (by kernel_rfl))⟩
  f28 := ⟨Try.f88.name, by decide, Try.func88.trans (congrArg some (by kernel_rfl))⟩
  f29 := ⟨Try.f89.name, by decide, Try.func89.trans (congrArg some (by kernel_rfl))⟩
  f31 := Try.func93.trans (congrArg some (by kernel_rfl))
  f32 := Try.func94.trans (congrArg some (by kernel_rfl))
  f36 := ⟨Try.f92.name, by decide, Try.func92.trans (congrArg some (by kernel_rfl))⟩
  f37 := ⟨Try.f95.name, by decide, Try.func95.trans (congrArg some (by kernel_rfl))⟩
  f38 := ⟨Try.f96.name, by decide, Try.func96.trans (congrArg some (by kernel_rfl))⟩
  f39 := ⟨Try.f97.name, by decide, Try.func97.trans (congrArg some (by kernel_rfl))⟩
  f41 := ⟨Try.f98.name, by decide, Try.func98.trans (congrArg some (by kernel_rfl))⟩
  t0 := Try.underlying0
  a0 := Try.isAgg0
  z0 := Try.sizeOf0
  v0 := Try.zeroValue0
  t3 := Try.underlying3
  a3 := Try.isAgg3
  z3 := Try.sizeOf3
  v3 := Try.zeroValue3
  t4 := Try.underlying4
  a4 := Try.isAgg4
  z4 := Try.sizeOf4
  v4 := Try.zeroValue4
  t5 := Try.underlying5
  a5 := Try.isAgg5
  z5 := Try.sizeOf5
  v5 := Try.zeroValue5
  t9 := Try.underlying9
  a9 := Try.isAgg9
  z9 := Try.sizeOf9
  v9 := Try.zeroValue9
  t26 := Try.underlying80
  a26 := Try.isAgg80
  z26 := Try.sizeOf80
  v26 := Try.zeroValue80
  t27 := Try.underlying80
  a27 := Try.isAgg80
  z27 := Try.sizeOf80
  v27 := Try.zeroValue80
  t29 := Try.underlying9
  a29 := Try.isAgg9
  z29 := Try.sizeOf9
  v29 := Try.zeroValue9
  t32 := Try.underlying107
  a32 := Try.isAgg107
  z32 := Try.sizeOf107
  v32 := Try.zeroValue107
  t35 := Try.underlying109
  a35 := Try.isAgg109
  z35 := Try.sizeOf109
  v35 := Try.zeroValue109
  t36 := Try.underlying110
  a36 := Try.isAgg110
  z36 := Try.sizeOf110
  v36 := Try.zeroValue110
  t41 := Try.underlying115
  a41 := Try.isAgg115
  z41 := Try.sizeOf115
  v41 := Try.zeroValue115
  t44 := Try.underlying118
  a44 := Try.isAgg118
  z44 := Try.sizeOf118
  v44 := Try.zeroValue118
  t46 := Try.underlying120
  a46 := Try.isAgg120
  z46 := Try.sizeOf120
  v46 := Try.zeroValue120
  t53 := Try.underlying121
  a53 := Try.isAgg121
  z53 := Try.sizeOf121
  v53 := Try.zeroValue121
  t57 := Try.underlying125
  a57 := Try.isAgg125
  z57 := Try.sizeOf125
  v57 := Try.zeroValue125
  t63 := Try.underlying127
  a63 := Try.isAgg127
  z63 := Try.sizeOf127
  v63 := Try.zeroValue127
  t64 := Try.underlying128
  a64 := Try.isAgg128
  z64 := Try.sizeOf128
  v64 := Try.zeroValue128 }


theorem Try.sorts69 (m : Nat) : AnyZ.SortsIn Try.prog Try.sorted69_ren Fence.wide m :=
  ⟨fun blk off cap ss W hH hblk hsz => callsIn_wide.2 (AnyM.slices_Sort_string Try.sort76 blk off cap ss W hH hblk hsz),
   fun p cap W => callsIn_wide.2 (AnyM.slices_Sort_string_none Try.sort76 p cap W)⟩

theorem Try.maps_Keys_70 (mb : Option Nat) (W : World) : CallsIn Fence.wide 5 Try.prog 70 #[.map mb] W fun e w' => e = .returned (.func (.func 77) #[] #[.pointer (some ⟨W.heap.size, 0, none⟩)]) ∧ w' = W.alloc (.cells #[.map mb] 55) :=
  AnyZ.keys_in Try.keys70 Fence.wide 5 trivial rfl mb W

set_option maxHeartbeats 1000000 in
theorem Try.slices_Sorted_keys_69_70 {H : Type} (b nn : Nat) (D0 : DataW H) (R : Value → Option (DataW H × List MemPlace)) (w : World) (hown : w.ownsMap Try.prog 9 R b nn D0) (hmax : Maps.size D0 ≤ maxLen) (hbytes : Maps.size D0 * 16 ≤ 140737488355328) :
    CallsIn Fence.wide 5 Try.prog 69 #[.func (.func 77) #[] #[.pointer (some ⟨w.heap.size, 0, none⟩)]] (w.alloc (.cells #[.map (some b)] 55)) fun e w' => ∃ (v : Value) (ss : List (List UInt8)), e = .returned v ∧ ss.Perm (strKeys D0) ∧
      w'.ownsRow (w.alloc (.cells #[.map (some b)] 55)).heap.size 9 1 v ss.length ((ss.mergeSort (fun x y => decide (x ≤ y))).map encStr) ∧ (v = .slice none 0 0 ↔ ss = []) ∧ Below (w.alloc (.cells #[.map (some b)] 55)).heap.size (w.alloc (.cells #[.map (some b)] 55)) w' := by
  have hbl := hown.lt
  have hseq : SeqGives Fence.wide 2 Try.prog 77 #[.pointer (some ⟨w.heap.size, 0, none⟩)] encStr (fun ss => ss.Perm (strKeys D0)) (Maps.size D0) (w.alloc (.cells #[.map (some b)] 55)) :=
    AnyZ.keys_gives (ρ := Try.keys70_ren) { Try.keys70 with } Fence.wide _ trivial rfl (by omega) w.heap.size b nn D0 _ (by simp) (by simp) (by
      obtain ⟨es, clock, hb, Ft, hs, hD⟩ := hown
      exact ⟨es, clock, (Below.heap_alloc _ _ b hbl).trans hb, Ft, hs, hD⟩)
  exact AnyZ.sorted_in Try.sorted69 Fence.wide 5 trivial trivial trivial trivial rfl (by omega) (Try.sorts69 _) (enters_of Try.func76 (by kernel_rfl) rfl) 77 #[.pointer (some ⟨w.heap.size, 0, none⟩)] trivial (enters_of Try.func77 (by kernel_rfl) rfl) _ _ hmax hbytes _ hseq

set_option maxHeartbeats 1000000 in
theorem Try.slices_Sorted_keys_nil_69_70 (w : World) :
    CallsIn Fence.wide 5 Try.prog 69 #[.func (.func 77) #[] #[.pointer (some ⟨w.heap.size, 0, none⟩)]] (w.alloc (.cells #[.map none] 55)) fun e w' => ∃ (v : Value) (ss : List (List UInt8)), e = .returned v ∧ ss = [] ∧
      w'.ownsRow (w.alloc (.cells #[.map none] 55)).heap.size 9 1 v ss.length ((ss.mergeSort (fun x y => decide (x ≤ y))).map encStr) ∧ (v = .slice none 0 0 ↔ ss = []) ∧ Below (w.alloc (.cells #[.map none] 55)).heap.size (w.alloc (.cells #[.map none] 55)) w' := by
  have hseq : SeqGives Fence.wide 2 Try.prog 77 #[.pointer (some ⟨w.heap.size, 0, none⟩)] encStr (fun ss : List (List UInt8) => ss = []) 0 (w.alloc (.cells #[.map none] 55)) :=
    AnyZ.keys_gives_nil (ρ := Try.keys70_ren) { Try.keys70 with } Fence.wide _ trivial rfl w.heap.size _ (by simp) (by simp)
  exact AnyZ.sorted_in Try.sorted69 Fence.wide 5 trivial trivial trivial trivial rfl (by omega) (Try.sorts69 _) (enters_of Try.func76 (by kernel_rfl) rfl) 77 #[.pointer (some ⟨w.heap.size, 0, none⟩)] trivial (enters_of Try.func77 (by kernel_rfl) rfl) _ 0 (Nat.zero_le _) (by omega) _ hseq



end Go.Proofs

/-
  List: the names, rising.
-/
namespace Go.Proofs.Ytfmdnaagdhpcpaa
open Go.RowKit Go.Proofs.Lys Go.Maps Go.Shelf
set_option linter.unusedVariables false

theorem before_le : ∀ a b : List UInt8, bytesBefore a b = true → a ≤ b
  | [], _, _ => List.nil_le _
  | _ :: _, [], h => by simp [bytesBefore] at h
  | x :: r, y :: s, h => by
    simp only [bytesBefore, Bool.or_eq_true, Bool.and_eq_true, decide_eq_true_eq, beq_iff_eq] at h
    rw [List.cons_le_cons_iff]
    rcases h with h | ⟨rfl, h⟩
    · exact .inl h
    · exact .inr ⟨rfl, before_le r s h⟩

theorem keys_dirD (blk : List Nat) (l : DDir) : strKeys (dirD blk l) = l.map (·.1) := by
  show ((l.map (entD blk)).map fun p => strOf p.1) = _
  rw [List.map_map]
  rfl

section
variable {w : World} {c : Conc} {O : Nat → Prop} {m : DModel}

theorem dir_rising {b n : Nat} {blk : List Nat} {l : DDir} (h : w.ownsMap Try.prog 9 ptrE b n (dirD blk l)) : (l.map (·.1)).Pairwise (fun a b => bytesBefore a b = true) := by
  obtain ⟨es, e, hp, _⟩ := h.canon law
  unfold dirD at e
  cases e
  rw [List.pairwise_map] at hp ⊢
  exact hp

theorem sorted_names {b n : Nat} {blk : List Nat} {l : DDir} (h : w.ownsMap Try.prog 9 ptrE b n (dirD blk l)) {ss : List (List UInt8)} (hp : ss.Perm (strKeys (dirD blk l))) : ss.mergeSort (fun x y => decide (x ≤ y)) = l.map (·.1) := by
  rw [keys_dirD] at hp
  refine (mergeSort_of_perm hp).trans (List.mergeSort_of_pairwise ?_)
  exact (dir_rising h).imp (fun {a b} hb => by simpa using before_le a b hb)

/-- The names that List gives. -/
theorem list_any (h : DiskAt w c O m) (hl : m.dir.length < 1000000) :
    Calls Try.prog 42 #[.pointer (some ⟨c.d, 0, none⟩)] w fun e w' => ∃ v, e = .returned v ∧ w'.ownsRow w.heap.size 9 1 v m.list.length (m.list.map encStr) ∧ (v = .slice none 0 0 ↔ m.list = []) ∧ Stay w w' := by
  have R := h.rest
  obtain ⟨c0, c1, c2, c3, c4, c5, c6, c7, c8, c9, cf⟩ := dfacts h.cells
  clear c0 c1 c3 c4 c5 c6 c8 c9
  have hsz : Maps.size (dirD c.blk m.dir) = m.dir.length := by simp [dirD, Maps.size]
  cases hoff : m.off
  · have hk := Hid.mk (fun W => callsIn_wide.1 (Try.maps_Keys_70 (some c.mi) W))
    have hs := Hid.mk (fun W (hW : World.ownsMap W Try.prog 9 ptrE c.mi m.dir.length (dirD c.blk m.dir)) => callsIn_wide.1 (Try.slices_Sorted_keys_69_70 c.mi m.dir.length (dirD c.blk m.dir) ptrE W hW (by rw [hsz]; unfold maxLen; omega) (by rw [hsz]; omega)))
    have hM := Hid.mk R.isM
    have hli : Hid (m.list = m.dir.map (·.1)) := by unfold Hid DModel.list; rw [hoff]; rfl
    rw [hoff] at c2
    go_enter Try.func42, Try.ntmps42
    go_wp2_with fail
    refine (hk.out _).mono ?_
    rintro e w1 ⟨rfl, rfl⟩
    go_wp2_with fail
    refine (hs.out _ hM.out).mono ?_
    rintro e w2 ⟨v, ss, rfl, hp, hrow, hnil, hb⟩
    go_wp2_with fail
    go_ret
    have hss := sorted_names hM.out hp
    have hlen : ss.length = m.dir.length := by
      have := congrArg List.length hss
      simpa using this
    rw [hli.out]
    refine ⟨v, rfl, ?_, hnil.trans ?_, ?_⟩
    · rw [hss, hlen] at hrow
      rw [List.length_map]
      obtain ⟨hl, h1 | ⟨g, cap, cur, rfl, hbg, hr⟩⟩ := hrow
      · exact ⟨hl, .inl h1⟩
      · exact ⟨hl, .inr ⟨g, cap, cur, rfl, by simp at hbg; omega, hr⟩⟩
    · rw [← List.length_eq_zero_iff, hlen, ← List.length_eq_zero_iff, List.length_map]
    · exact ((Only.refl (fun _ => False) w).alloc _).trans (Only.below hb) (fun _ _ f => f)
  · have hli : m.list = [] := by unfold DModel.list; rw [hoff]; rfl
    rw [hoff] at c2
    rw [hli]
    go_enter Try.func42, Try.ntmps42
    go_wp2
    go_ret
    exact ⟨_, rfl, ⟨rfl, .inl ⟨rfl, rfl⟩⟩, by simp, Only.refl _ _⟩
end
end Go.Proofs.Ytfmdnaagdhpcpaa

/-
  Read: all bytes of a file, copied.
-/
namespace Go.Proofs.Ytfmdnaagdhpcpaa
open Go.RowKit Go.Proofs.Lys Go.Maps Go.Shelf
set_option linter.unusedVariables false

section
variable {w : World} {c : Conc} {O : Nat → Prop} {m : DModel}

theorem read_off (h : DiskAt w c O m) (hoff : m.off = true) (s : ByteArray) : Calls Try.prog 27 #[.pointer (some ⟨c.d, 0, none⟩), .string s] w fun e w' => e = .returned (.tuple #[.slice none 0 0, .int .i64 12]) ∧ w' = w := by
  obtain ⟨c0, c1, c2, c3, c4, c5, c6, c7, c8, c9, cf⟩ := dfacts h.cells
  rw [hoff] at c2
  go_enter Try.func27, Try.ntmps27
  go_wp2
  go_ret2
  exact ⟨rfl, rfl⟩

theorem read_none (h : DiskAt w c O m) (hoff : m.off = false) {s : ByteArray} (hs : s.size ≤ maxLen) (hf : DD.look m.dir s.data.toList = none) : Calls Try.prog 27 #[.pointer (some ⟨c.d, 0, none⟩), .string s] w fun e w' => e = .returned (.tuple #[.slice none 0 0, .int .i64 6]) ∧ w' = w := by
  have hr := look_run h.rest.isM hs
  rw [hf] at hr
  simp only [ptrOf] at hr
  obtain ⟨c0, c1, c2, c3, c4, c5, c6, c7, c8, c9, cf⟩ := dfacts h.cells
  rw [hoff] at c2
  go_enter Try.func27, Try.ntmps27
  go_wp2
  go_ret2
  exact ⟨rfl, rfl⟩

end
end Go.Proofs.Ytfmdnaagdhpcpaa

/-
  Bytes and booleans in memory: rows that are owned, slices that are read. No program is named here.
-/
namespace Go.Proofs.Lys
open Go Go.RowKit

theorem hid {p : Prop} (h : p) : Hid p := h

def bV (x : UInt8) : Value := .int .u8 x.toNat
def tV (x : Bool) : Value := .bool x

/-- Nothing that was there has turned. -/
abbrev Kept (w w' : World) : Prop := Only (fun _ => False) w w'

/-- A slice that is read: nil, or its cells. -/
def SrcOf (w : World) (v : Value) (xs : List Value) : Prop :=
  (v = .slice none 0 0 ∧ xs = []) ∨ ∃ a c, v = .slice (some a) xs.length c ∧ ∀ j u, xs[j]? = some u → w.cell? (a.add j) = some u

section
variable {w w' : World} {v : Value} {xs : List Value}
theorem SrcOf.kept (h : SrcOf w v xs) (hk : ∀ a u, w.cell? a = some u → u ∈ xs → w'.cell? a = some u) : SrcOf w' v xs := by
  rcases h with h | ⟨a, c, rfl, hc⟩
  · exact .inl h
  · exact .inr ⟨a, c, rfl, fun j u hu => hk _ _ (hc j u hu) (List.mem_of_getElem? hu)⟩
theorem SrcOf.only {O : Nat → Prop} (h : SrcOf w v xs) (k : Only O w w') (hO : ∀ a u, w.cell? a = some u → u ∈ xs → ¬ O a.block) : SrcOf w' v xs :=
  h.kept (fun a u hc hm => by
    rw [World.cell?_of_block (w := w) (w' := w') (a := a) (k.block a.block (World.block_lt_of_cell? w a hc) (hO a u hc hm))]
    exact hc)
theorem SrcOf.stay (h : SrcOf w v xs) (k : Kept w w') : SrcOf w' v xs := h.only k (fun _ _ _ _ f => f)
end

theorem add_none (b o j : Nat) : (⟨b, o, none⟩ : Addr).add j = ⟨b, o + j, none⟩ := by
  unfold Addr.add
  split
  · simp_all
  · rfl

theorem SrcOf.shape {w : World} {v : Value} {xs : List Value} (h : SrcOf w v xs) : (xs = [] ∧ ∃ a c, v = .slice a 0 c) ∨ (0 < xs.length ∧ ∃ b o c, v = .slice (some ⟨b, o, none⟩) xs.length c ∧ ∀ j u, xs[j]? = some u → w.cell? ⟨b, o + j, none⟩ = some u) := by
  rcases h with ⟨rfl, rfl⟩ | ⟨⟨b, o, spot⟩, c, rfl, hc⟩
  · exact .inl ⟨rfl, none, 0, rfl⟩
  · cases hx : xs with
    | nil => exact .inl ⟨rfl, _, c, rfl⟩
    | cons x t =>
      right
      have h0 := hc 0 x (by rw [hx]; rfl)
      have hs : spot = none := by simpa [Addr.add] using World.cell?_spot h0
      subst hs
      exact ⟨by simp, b, o, c, rfl, fun j u hu => by rw [← add_none]; exact hc j u (by rw [hx]; exact hu)⟩

section
variable {w w' : World} {base : Nat} {e : TypeId} {v : Value} {n : Nat} {xs : List Value}
theorem own_src (h : w.ownsRow base e 1 v n xs) : SrcOf w v xs := by
  obtain ⟨hl, h1 | ⟨g, cap, cur, rfl, hb, hg, hc⟩⟩ := h
  · obtain ⟨rfl, rfl⟩ := h1
    exact .inl ⟨rfl, List.length_eq_zero_iff.1 (by simpa using hl)⟩
  · have hl' : xs.length = n := by simpa using hl
    subst hl'
    refine .inr ⟨⟨g, 0, none⟩, cap, rfl, fun j u hu => ?_⟩
    have hj : j < xs.length := (List.getElem?_eq_some_iff.1 hu).1
    rw [add_none, Nat.zero_add]
    have := World.ownsRow.cellAt (w := w) (base := base) (e := e) (size := 1) (g := g) (n := xs.length) (cap := cap) (xs := xs) ⟨hl, .inr ⟨g, cap, cur, rfl, hb, hg, hc⟩⟩ j (by omega)
    rw [this, hu]
theorem own_len (h : w.ownsRow base e 1 v n xs) : xs.length = n := by simpa using h.1
theorem own_slice (h : w.ownsRow base e 1 v n xs) : ∃ a cap, v = .slice a n cap := by
  rcases h.2 with ⟨rfl, rfl⟩ | ⟨g, cap, cur, rfl, _⟩
  · exact ⟨none, 0, rfl⟩
  · exact ⟨_, cap, rfl⟩
theorem own_some (h : w.ownsRow base e 1 v n xs) (h0 : 0 < n) : ∃ g cap, v = .slice (some ⟨g, 0, none⟩) n cap := by
  rcases h.2 with ⟨rfl, rfl⟩ | ⟨g, cap, cur, rfl, _⟩
  · omega
  · exact ⟨g, cap, rfl⟩
theorem own_typed (h : w.ownsRow base e 1 v n xs) {k : Nat} (hk : v.ownBlock = some k) : Typed w k e := by
  rcases h.2 with ⟨rfl, _⟩ | ⟨g, cap, cur, rfl, hb, hg, _⟩
  · cases hk
  · have : g = k := by simpa [Value.ownBlock] using hk
    subst this
    exact ⟨_, _, hg⟩
theorem own_block (h : w.ownsRow base e 1 v n xs) (hk : ∀ k, v.ownBlock = some k → w'.heap[k]? = w.heap[k]?) : w'.ownsRow base e 1 v n xs := by
  rcases h with ⟨hl, hn | ⟨g, cap, cur, rfl, hb, hg, rest⟩⟩
  · exact ⟨hl, .inl hn⟩
  · exact ⟨hl, .inr ⟨g, cap, cur, rfl, hb, (hk g rfl).trans hg, rest⟩⟩
theorem own_base (h : w.ownsRow base e 1 v n xs) {b' : Nat} (hb : b' ≤ base) : w.ownsRow b' e 1 v n xs := by
  rcases h with ⟨hl, hn | ⟨g, cap, cur, rfl, hb', hg, rest⟩⟩
  · exact ⟨hl, .inl hn⟩
  · exact ⟨hl, .inr ⟨g, cap, cur, rfl, Nat.le_trans hb hb', hg, rest⟩⟩
theorem own_raise (h : w.ownsRow base e 1 v n xs) {b' : Nat} (hb : ∀ k, v.ownBlock = some k → b' ≤ k) : w.ownsRow b' e 1 v n xs := by
  rcases h with ⟨hl, hn | ⟨g, cap, cur, rfl, hb', hg, rest⟩⟩
  · exact ⟨hl, .inl hn⟩
  · exact ⟨hl, .inr ⟨g, cap, cur, rfl, hb g rfl, hg, rest⟩⟩
theorem own_only {O : Nat → Prop} (h : w.ownsRow base e 1 v n xs) (k : Only O w w') (hO : ∀ b, v.ownBlock = some b → ¬ O b) : w'.ownsRow base e 1 v n xs :=
  own_block h (fun b hb => k.block b ((h.lt b hb).2) (hO b hb))
end

theorem SrcOf.len {w : World} {v : Value} {xs : List Value} (h : SrcOf w v xs) : ∃ a c, v = .slice a xs.length c := by
  rcases h with ⟨rfl, rfl⟩ | ⟨a, c, rfl, _⟩
  · exact ⟨none, 0, rfl⟩
  · exact ⟨some a, c, rfl⟩

/-- What the row tells of a slice of integers that came in. -/
theorem row_src {k : IntKind} {w : World} {a : Option Addr} {len cap : Nat} {zs : List Int} (h : (a = none ∧ len = 0 ∧ cap = 0 ∧ zs = []) ∨
    ∃ x, a = some x ∧ len ≤ cap ∧ cap ≤ maxLen ∧ zs.length = cap ∧ (∀ i, i < zs.length → w.cell? (x.add i) = some (.int k (zs.getD i 0))) ∧ ∀ n ∈ zs, (Lit.int k n).wf = true) :
    SrcOf w (.slice a len cap) ((zs.take len).map (Value.int k)) ∧ (zs.take len).length = len ∧ ∀ n ∈ zs.take len, (Lit.int k n).wf = true := by
  rcases h with ⟨rfl, rfl, rfl, rfl⟩ | ⟨x, rfl, h1, h2, h3, h4, h5⟩
  · exact ⟨.inl ⟨rfl, rfl⟩, rfl, by simp⟩
  · have hl : (zs.take len).length = len := by rw [List.length_take]; omega
    refine ⟨.inr ⟨x, cap, by rw [List.length_map, hl], fun j u hu => ?_⟩, hl, fun n hn => h5 n (List.mem_of_mem_take hn)⟩
    rw [List.getElem?_map, List.getElem?_take] at hu
    split at hu
    · rename_i hj
      rw [List.getElem?_eq_getElem (by omega)] at hu
      cases hu
      rw [h4 j (by omega), List.getD_eq_getElem?_getD, List.getElem?_eq_getElem (by omega)]
      rfl
    · cases hu
theorem bytes_src {w : World} {v : Value} {zs : List Int} (h : SrcOf w v (zs.map (Value.int .u8))) (hw : ∀ n ∈ zs, (Lit.int .u8 n).wf = true) : ∃ bs : List UInt8, bs.length = zs.length ∧ SrcOf w v (bs.map bV) := by
  refine ⟨zs.map (fun n => UInt8.ofNat n.toNat), by simp, ?_⟩
  have e : (zs.map (fun n => UInt8.ofNat n.toNat)).map bV = zs.map (Value.int .u8) := by
    rw [List.map_map]
    refine List.map_congr_left (fun n hn => ?_)
    have := hw n hn
    simp only [Lit.wf, Bool.and_eq_true, decide_eq_true_eq] at this
    have m0 : IntKind.u8.min = 0 := by decide
    have m1 : IntKind.u8.max = 255 := by decide
    rw [m0, m1] at this
    show bV _ = _
    unfold bV
    rw [UInt8.toNat_ofNat']
    congr 1
    omega
  rw [e]
  exact h

/-- What a slice that is read appends to a row that is owned. -/
theorem append_src {P : Program} {w : World} {base : Nat} {t e : TypeId} {z : Value} {bytes : Nat} (ht : P.underlying t = some (.slice e))
    (hin : (P.info? e).map (fun i => (i.zero, i.size, i.bytes)) = some (some z, 1, bytes)) (hz : z.cells.size = 1) (hb1 : bytes ≤ 1024)
    {v xv : Value} {n : Nat} {xs ys : List Value} (hown : w.ownsRow base e 1 v n xs) (hsrc : SrcOf w xv ys) (h1 : ∀ u ∈ ys, u.oneCell' = true) (hl : n + ys.length ≤ 1000000000) (hbase : base ≤ w.heap.size) :
    ∃ v' w', (Builtin.append_ #[t, t] 0 #[v, xv]).run P w = .ok v' w' ∧ w'.ownsRow base e 1 v' (n + ys.length) (xs ++ ys) ∧ w.grownBy w' v.ownBlock ∧ (v'.ownBlock = v.ownBlock ∨ v'.ownBlock = some w.heap.size) := by
  obtain ⟨i0, hi0, hz0, hz1, hz2⟩ := info_parts hin
  have hm : n + ys.length ≤ maxLen := by unfold maxLen; omega
  rcases hsrc with ⟨rfl, rfl⟩ | ⟨a, c, rfl, hc⟩
  · refine ⟨v, w, ?_, by simpa using hown, World.grownBy.refl _ _, .inl rfl⟩
    rcases hown.2 with ⟨rfl, rfl⟩ | ⟨g, cap, cur, rfl, hbg, hg, hnc, hcm, hcs, htake⟩
    · simp [Builtin.append_, run_underlying ht, sizeOf, typeInfo, hi0, Builtin.lenOf, Builtin.firstCells]
    · simp [Builtin.append_, run_underlying ht, sizeOf, typeInfo, hi0, Builtin.lenOf, Builtin.firstCells, hnc, storeCells]
  · obtain ⟨v', w', hr, h2, h3, _, h5⟩ := run_append_own_at (P := P) w base t 0 e i0 z 1 bytes ht hi0 hz0 hz1 hz2 hz (by omega) v n xs hown a ys.length c ys (by simp)
      hc h1 hm (by have : (n + ys.length) * bytes ≤ 1000000000 * 1024 := Nat.mul_le_mul hl hb1; omega) hbase
    exact ⟨v', w', hr, h2, h3, h5⟩
theorem bytes_one (bs : List UInt8) : ∀ u ∈ bs.map bV, u.oneCell' = true := by
  intro u hu
  obtain ⟨x, _, rfl⟩ := List.mem_map.1 hu
  rfl
theorem bools_one (bs : List Bool) : ∀ u ∈ bs.map tV, u.oneCell' = true := by
  intro u hu
  obtain ⟨x, _, rfl⟩ := List.mem_map.1 hu
  rfl

/-- An append whose run is known. -/
theorem wpList_append_run {P : Program} {w : World} {ops : Array Oper} {rest : List Oper} {o : Oper} {a : Act} {Q : Exit → Act → World → Prop} (hgd : o.guard = none) (s x : Operand) (t : TypeId)
    (ho : o.op = .call { callee := .builtin .append, args := #[s, x], argTypes := #[t, t] }) {sv xv : Value} (hs : a.eval s = sv) (hx : a.eval x = xv) {v : Value} {w' : World}
    (hrun : Hid ((Builtin.append_ #[t, t] 0 #[sv, xv]).run P w = .ok v w')) (h : wpList P ops Q rest (a.put o.dst v) w') : wpList P ops Q (o :: rest) a w := by
  refine wpList_plain hgd fun K hK => ?_
  have hr : (Builtin.append_ #[t, t] o.type #[sv, xv]).run P w = .ok v w' := hrun.out
  unfold Oper.wp
  simp [execOp, ho, resolve, invoke, builtin, hs, hx, hr, Result.andThen]
  exact hK _ _ h
end Go.Proofs.Lys

/-
  bytes.Clone: a copy in new memory.
-/
namespace Go.Proofs.Ytfmdnaagdhpcpaa
open Go.RowKit Go.Proofs.Lys
set_option linter.unusedVariables false

theorem Try.infoB : (Try.prog.info? 5).map (fun i => (i.zero, i.size, i.bytes)) = some (some (.int .u8 0), 1, 1) := by kernel_rfl

theorem clone_nil (w : World) : Calls Try.prog 49 #[.slice none 0 0] w fun e w' => e = .returned (.slice none 0 0) ∧ w' = w := by
  have he : ∀ (x : Option Addr) (n k : Nat) (w : World), (Go.binOp .eql 29 (.slice x n k) (.slice none 0 0)).run Try.prog w = .ok (.bool x.isNone) w := fun x n k w => Lib.run_eql_slice_nil w _ _ x n k 0 0 Try.underlying29
  go_enter Try.func49, Try.ntmps49
  go_wp2
  go_ret
  exact ⟨rfl, rfl⟩

set_option maxHeartbeats 400000 in
theorem clone_some (w : World) (a : Addr) (c : Nat) (bs : List UInt8) (hc : SrcOf w (.slice (some a) bs.length c) (bs.map bV)) (hl : bs.length ≤ 100000000) :
    Calls Try.prog 49 #[.slice (some a) bs.length c] w fun e w' => ∃ v, e = .returned v ∧ w'.ownsRow w.heap.size 5 1 v bs.length (bs.map bV) ∧ Kept w w' := by
  have hb : ∀ w : World, (Instr.buildSlice 29 0 #[]).run Try.prog w = .ok (.slice (some ⟨w.heap.size, 0, none⟩) 0 0) (w.alloc (.cells #[] 5)) := fun w => by kernel_rfl
  have h0 : (w.alloc (.cells #[] 5)).ownsRow w.heap.size 5 1 (.slice (some ⟨w.heap.size, 0, none⟩) 0 0) 0 [] := World.ownsRow_lit w #[] 0 (Nat.le_refl _) (by decide) rfl
  obtain ⟨v', w1, hrun, hown, hgrow, _⟩ := append_src (P := Try.prog) Try.underlying29 Try.infoB rfl (by decide) h0 (hc.stay ((Only.refl _ w).alloc _)) (bytes_one bs) (by simp; omega) (by simp)
  have Hr := hid hrun
  have hk : Hid (Kept w w1) := hid (((Only.refl _ w).alloc _).grown hgrow (fun k hk hlt => by simp [Value.ownBlock] at hk; omega))
  have ho : Hid (w1.ownsRow w.heap.size 5 1 v' bs.length (bs.map bV)) := hid (by simpa using hown)
  clear hrun hown hgrow h0 hc
  have he : ∀ (x : Option Addr) (n k : Nat) (w : World), (Go.binOp .eql 29 (.slice x n k) (.slice none 0 0)).run Try.prog w = .ok (.bool x.isNone) w := fun x n k w => Lib.run_eql_slice_nil w _ _ x n k 0 0 Try.underlying29
  go_enter Try.func49, Try.ntmps49
  go_wp2_with (at_builtin; refine wpList_append_run rfl _ _ _ rfl rfl rfl Hr ?_)
  go_ret
  exact ⟨_, rfl, ho.out, hk.out⟩

theorem clone_any (w : World) (v : Value) (bs : List UInt8) (hc : SrcOf w v (bs.map bV)) (hl : bs.length ≤ 100000000) :
    Calls Try.prog 49 #[v] w fun e w' => ∃ v, e = .returned v ∧ w'.ownsRow w.heap.size 5 1 v bs.length (bs.map bV) ∧ Kept w w' := by
  rcases hc with ⟨rfl, h0⟩ | ⟨a, c, rfl, hc⟩
  · have : bs = [] := by simpa using h0
    subst this
    refine (clone_nil w).mono ?_
    rintro e w' ⟨rfl, rfl⟩
    exact ⟨_, rfl, World.ownsRow_nil _ _ _ _, Only.refl _ _⟩
  · have e : (bs.map bV).length = bs.length := by simp
    rw [e]
    exact clone_some w a c bs (.inr ⟨a, c, by simp, hc⟩) hl
end Go.Proofs.Ytfmdnaagdhpcpaa

/-
  Read of a file that is there.
-/
namespace Go.Proofs.Ytfmdnaagdhpcpaa
open Go.RowKit Go.Proofs.Lys Go.Maps Go.Shelf
set_option linter.unusedVariables false

section
variable {w : World} {c : Conc} {O : Nat → Prop} {m : DModel}

theorem read_some (h : DiskAt w c O m) (hoff : m.off = false) {s : ByteArray} (hs : s.size ≤ maxLen) {f : Nat} (hf : DD.look m.dir s.data.toList = some f) :
    Calls Try.prog 27 #[.pointer (some ⟨c.d, 0, none⟩), .string s] w fun e w' => ∃ v, e = .returned (.tuple #[v, .int .i64 0]) ∧ w'.ownsRow w.heap.size 5 1 v (m.fileAt f).b.length ((m.fileAt f).b.map bV) ∧ Kept w w' := by
  have hfl : f < m.files.length := h.rest.dirF (s.data.toList, f) (look_mem hf)
  have hr := look_run h.rest.isM hs
  rw [hf] at hr
  simp only [ptrOf] at hr
  obtain ⟨c0, c1, c2, c3, c4, c5, c6, c7, c8, c9, cf⟩ := dfacts h.cells
  rw [hoff] at c2
  have f0 := (h.rest.file f hfl).cell 0 rfl
  have hB : w.ownsRow 0 5 1 (c.bs f) (m.fileAt f).b.length ((m.fileAt f).b.map bV) := h.rest.bytes f hfl
  have hcl := Hid.mk (clone_any w (c.bs f) (m.fileAt f).b (own_src hB) (by have := (h.rest.lens f hfl).1; omega))
  generalize c.blk.getD f 0 = q at hr f0
  generalize c.bs f = bv at f0 hB hcl
  obtain ⟨ba, bc, rfl⟩ := own_slice hB
  clear hB c0 c1 c3 c4 c5 c6 c8 c9
  go_enter Try.func27, Try.ntmps27
  go_wp2_with fail
  refine hcl.out.mono ?_
  rintro e w1 ⟨v, rfl, ho, hk⟩
  go_wp2_with fail
  go_ret2
  exact ⟨v, rfl, ho, hk⟩
end
end Go.Proofs.Ytfmdnaagdhpcpaa
