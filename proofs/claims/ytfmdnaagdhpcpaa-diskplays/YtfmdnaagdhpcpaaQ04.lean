/-
  Dactfin.
-/
import Derived.Test.YtfmdnaagdhpcpaaQ03

/-
  What acting hands back, called: the walk.
-/
namespace Go.Proofs.Ytfmdnaagdhpcpaa
open Go.RowKit Go.Proofs.Lys Go.Maps Go.Shelf
set_option linter.unusedVariables false

section
variable {w : World} {c : Conc} {O : Nat → Prop} {m : DModel}

set_option maxRecDepth 100000 in
set_option maxHeartbeats 1600000 in
theorem acting_fin (h : DiskAt w c O m) (a : DAct) (av : Value) (hact : ActAt w O c.blk av a) (bd ba : Nat) (hbd : Blk w bd [.pointer (some ⟨c.d, 0, none⟩)] 25) (hba : Blk w ba [av] 95)
    (hnd : ¬ O bd) (hna : ¬ O ba) (hl : m.dir.length < 1000000) (hla : m.acts.length < 1000000) (haF : a.kind = 0 → a.file < m.files.length) :
    Calls Try.prog 72 #[.pointer (some ⟨ba, 0, none⟩), .pointer (some ⟨bd, 0, none⟩)] w fun e w' => e = .returned (.tuple #[]) ∧ Only O w w' ∧
      ∃ c', c'.d = c.d ∧ DiskAt w' c' (Grow O w w') { m with dir := DD.act m.dir a, acts := m.acts ++ [a] } := by
  obtain ⟨f, cap, rfl, hent, hcall⟩ := act_call hact
  obtain ⟨i0, hi0, hz0, hz1, hz2⟩ := info_parts Try.infoAct
  obtain ⟨c0, c1, c2, c3, c4, c5, c6, c7, c8, c9, cf⟩ := dfacts h.cells
  have a0 := hba.cell 0 rfl
  have b0 := hbd.cell 0 rfl
  have hmi : ∀ vs T, ¬ Blk w c.mi vs T := fun vs T hb => hb.typed.ne_map h.rest.isM rfl
  have hdm := h.cells.typed.ne_map h.rest.isM
  go_enter Try.func72, Try.ntmps72
  go_wp2_with fail
  go_region_held3 (fun w' => w'.cell? ⟨ba, 0, none⟩ = some (.func (.func f) #[] cap) ∧ w'.cell? ⟨bd, 0, none⟩ = some (.pointer (some ⟨c.d, 0, none⟩)) ∧ w'.cell? ⟨c.d, 7, none⟩ = some (.map (some c.mi)))
    (first
      | go_keep
      | exact ⟨(hR.2.blk hba.drew (fun e => hba.typed.ne_map h.rest.isM e)).cell 0 rfl, (hR.2.blk hbd.drew (fun e => hbd.typed.ne_map h.rest.isM e)).cell 0 rfl, (hR.2.blk h.cells.drew hdm).cell 7 rfl⟩)
    ((refine step_value1 _ (by rfl) _ _ _ (by rfl) f cap (.map (some c.mi)) (by rfl) (by rfl) hent (.tuple #[]) _ (hcall w.drew c.mi m.dir (fun _ _ _ => rfl) (Nat.le_refl _) h.rest.isM.drew hmi hl) ?_; intro w1 hR))
  obtain ⟨hm1, hk1⟩ := hR
  have hD1 := hk1.blk h.cells.drew hdm
  have hba1 := hk1.blk hba.drew (fun e => hba.typed.ne_map h.rest.isM e)
  have hbd1 := hk1.blk hbd.drew (fun e => hbd.typed.ne_map h.rest.isM e)
  have hp1 := hk1.row (h.rest.pend.drew) (fun k e => (row_typed h.rest.pend e).ne_map h.rest.isM)
  clear c0 c1 c2 c3 c4 c5 c6 c7 c8 c9 cf a0 b0
  obtain ⟨c0, c1, c2, c3, c4, c5, c6, c7, c8, c9, cf⟩ := dfacts hD1
  have a0 := hba1.cell 0 rfl
  have b0 := hbd1.cell 0 rfl
  have ag : c.pv.ownBlock ≠ some c.d := fun e => (row_typed h.rest.pend e).ne h.cells.typed (by decide) rfl
  have aba : c.pv.ownBlock ≠ some ba := fun e => hna (h.rest.oPv _ e)
  have abd : c.pv.ownBlock ≠ some bd := fun e => hnd (h.rest.oPv _ e)
  have ld := hD1.lt
  have lba := hba1.lt
  have lbd := hbd1.lt
  have hlm : m.acts.length + 1 ≤ maxLen := by unfold maxLen; omega
  have hlb : (m.acts.length + 1) * 8 ≤ 140737488355328 := by omega
  have hD1a := hD1.alloc (.cells #[.func (.func f) #[] cap] 95)
  have hba1a := hba1.alloc (.cells #[.func (.func f) #[] cap] 95)
  have hbd1a := hbd1.alloc (.cells #[.func (.func f) #[] cap] 95)
  have hfar : ∀ w2, ((w1.alloc (.cells #[.func (.func f) #[] cap] 95)).drew).grownBy w2 c.pv.ownBlock → w2.cell? ⟨c.d, 9, none⟩ = some c.pv ∧ w2.frozen? ⟨c.d, 9, none⟩ = false ∧ w2.cell? ⟨bd, 0, none⟩ = some (.pointer (some ⟨c.d, 0, none⟩)) ∧ w2.cell? ⟨ba, 0, none⟩ = some (.func (.func f) #[] cap) := by
    intro w2 hg
    have x1 : Blk w2 c.d _ _ := hD1a.of_block (hg.block c.d hD1a.lt (Ne.symm ag))
    have x2 : Blk w2 bd _ _ := hbd1a.of_block (hg.block bd hbd1a.lt (Ne.symm abd))
    have x3 : Blk w2 ba _ _ := hba1a.of_block (hg.block ba hba1a.lt (Ne.symm aba))
    exact ⟨x1.cell 9 rfl, x1.frozen 9, x2.cell 0 rfl, x3.cell 0 rfl⟩
  go_wp2_with fail
  go_region_law
    ((refine step_append_lies _ (by rfl) _ _ _ (by rfl) 0 95 i0 _ 1 8 Try.underlying56 hi0 hz0 hz1 hz2 rfl (by omega) c.pv m.acts.length c.pl (by rfl) ((hp1.alloc _).drew)
        ⟨w1.heap.size, 0, none⟩ 1 1 [.func (.func f) #[] cap] (by rfl) (by rfl) (World.news_of_block (cs := #[.func (.func f) #[] cap]) (t := 95) (fr := (0, 0)) (heap_alloc_new w1 _)) (by simp [Value.oneCell'])
        (by omega) hlm hlb (Nat.zero_le _) (w1.heap.size + 1) (by simp) ?_; intro g cap2 w2 hown2 hgrow hat hlt; obtain ⟨e9, z9, e8, e7⟩ := hfar w2 hgrow))
  all_goals
    obtain ⟨z1, z2⟩ := acting_close h hact haF hm1 hk1 hown2 hgrow hat hlt
    go_end0
    exact ⟨rfl, z1, z2⟩
end
end Go.Proofs.Ytfmdnaagdhpcpaa
