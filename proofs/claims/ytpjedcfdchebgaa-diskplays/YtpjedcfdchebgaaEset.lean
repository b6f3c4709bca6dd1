/-
  The document's own disk: a file turns.
-/
import Derived.Test.YtpjedcfdchebgaaEdo2
namespace Go.Proofs.Ytpjedcfdchebgaa
open Go.RowKit Go.Proofs.Lys Go.Maps Go.Shelf
set_option linter.unusedVariables false

theorem filL_set (l : List (Value × DFile)) (i : Nat) (v : Value) (x : DFile) (h : i < l.length) : filL (l.set i (v, x)) = ((filL l).set (i * 2) v).set (i * 2 + 1) (.int .i64 (x.sure : Int)) := by
  induction l generalizing i with
  | nil => simp at h
  | cons p r ih =>
    cases i with
    | zero => rfl
    | succ i =>
      have := ih i (by simpa using h)
      rw [List.set_cons_succ, filL, this, show (i + 1) * 2 = i * 2 + 2 by omega, show i * 2 + 2 + 1 = i * 2 + 1 + 2 by omega]
      rfl

section
variable {w w' : World} {c : RConc} {O O' : Nat → Prop} {m : DModel}
theorem RAt.setFile (h : RAt w c O m) {f : Nat} {v' : Value} {x : DFile} (hf : f < c.fs.length) (hk : Only (fun k => c.fv.ownBlock = some k) w w') (hfil : w'.ownsRow 0 77 2 c.fv c.fs.length (filL (c.fs.set f (v', x))))
    (hb : w'.ownsRow 0 5 1 v' x.b.length (x.b.map bV)) (hx : x.b.length ≤ 16777216 ∧ x.sure ≤ x.b.length) (hO : ∀ k, O k → O' k) (hvO : ∀ k, v'.ownBlock = some k → O' k) (ht : ∀ k, O' k → k < w'.heap.size) :
    RAt w' { c with fs := c.fs.set f (v', x) } O' { m with files := m.files.set f x } := by
  have hlen : (c.fs.set f (v', x)).length = c.fs.length := List.length_set
  have hmem : ∀ p ∈ c.fs.set f (v', x), p = (v', x) ∨ p ∈ c.fs := fun p hp => (List.mem_or_eq_of_mem_set hp).symm.imp id id
  refine { cells := hk.blk h.cells ?_, files := ?_, fsm := ?_, bytes := fun p hp => ?_, lens := fun p hp => ?_, dir := ownN_only h.dir hk ?_, sure := ownN_only h.sure hk ?_, acts := ownN_only h.acts hk ?_, acm := h.acm, quota := h.quota, dirF := fun p hp => ?_, oD := hO _ h.oD, oF := fun k e => hO k (h.oF k e), oB := fun p hp k e => ?_, oDir := fun k e => hO k (h.oDir k e), oSure := fun k e => hO k (h.oSure k e), oAct := fun k e => hO k (h.oAct k e), top := ht }
  · intro e
    exact (ownN_typed h.files e).ne h.cells.typed (by decide) rfl
  · show World.ownsRow _ _ _ _ _ (c.fs.set f (v', x)).length _
    rw [hlen]
    exact hfil
  · show (c.fs.set f (v', x)).map (·.2) = m.files.set f x
    rw [List.map_set, h.fsm]
  · rcases hmem p hp with rfl | hp
    · exact hb
    · exact ownN_only (h.bytes p hp) hk (fun b e e2 => (ownN_typed (h.bytes p hp) e).ne (ownN_typed h.files e2) (by decide) rfl)
  · rcases hmem p hp with rfl | hp
    · exact hx
    · exact h.lens p hp
  · intro b e e2
    exact (ownN_typed h.dir e).ne (ownN_typed h.files e2) (by decide) rfl
  · intro b e e2
    exact (ownN_typed h.sure e).ne (ownN_typed h.files e2) (by decide) rfl
  · intro b e e2
    exact (ownN_typed h.acts e).ne (ownN_typed h.files e2) (by decide) rfl
  · show p.2 < (m.files.set f x).length
    rw [List.length_set]
    exact h.dirF p hp
  · rcases hmem p hp with rfl | hp
    · exact hvO k e
    · exact hO k (h.oB p hp k e)

/-- A sync. -/
theorem mid_sure {w3 : World} {vs : List Value} {n t bs : List UInt8} {F L fg fcap j : Nat} (M : Mid w c O m vs w3) (h : RAt w c O m) (hF : F < m.count.files.length) (hlk : DD.look m.count.dir n = some F) (hfv : c.fv = .slice (some ⟨fg, 0, none⟩) c.fs.length fcap) (hL : (m.count.fileAt F).b.length = L) (hE : m.doOp ⟨2, n, t, bs⟩ = (0, m.count.done ⟨2, n, t, bs⟩)) :
    RPost w c O m ⟨2, n, t, bs⟩ (.returned (.int .i64 ((0 : Nat) : Int))) ((w3.drewN j).setCell ⟨fg, F * 2 + 1, none⟩ (.int .i64 (L : Int))) := by
  have h3 := M.at3.stay (Kept.drewN' (Only.refl _ w3) j)
  have hfn : F < c.fs.length := by rw [h3.nf]; exact hF
  have k4 : Only (fun k => c.fv.ownBlock = some k) (w3.drewN j) ((w3.drewN j).setCell ⟨fg, F * 2 + 1, none⟩ (.int .i64 (L : Int))) := (Only.refl (fun k => c.fv.ownBlock = some k) _).setCell (fun _ => by rw [hfv]; rfl) _
  have kt : Only O w ((w3.drewN j).setCell ⟨fg, F * 2 + 1, none⟩ (.int .i64 (L : Int))) := (M.only.trans (Kept.drewN' (Only.refl (fun _ => False) w3) j) (fun _ _ f => f.elim)).trans k4 (fun i _ e => h.oF i e)
  have hb := h3.bytes c.fs[F] (List.getElem_mem hfn)
  have hfa : m.count.fileAt F = c.fs[F].2 := h3.fileAt F hfn
  rw [hfa] at hL
  unfold RPost
  rw [hE]
  refine ⟨rfl, kt, { c with fs := c.fs.set F (c.fs[F].1, ⟨c.fs[F].2.b, L⟩) }, rfl, ?_⟩
  have hdone : m.count.done ⟨2, n, t, bs⟩ = { m.count with files := m.count.files.set F ⟨c.fs[F].2.b, L⟩ } := by
    show ({ m.count with files := m.count.files.set ((DD.look m.count.dir n).getD 0) ⟨(m.count.fileAt ((DD.look m.count.dir n).getD 0)).b, (m.count.fileAt ((DD.look m.count.dir n).getD 0)).b.length⟩ } : DModel) = _
    rw [hlk]
    show ({ m.count with files := m.count.files.set F ⟨(m.count.fileAt F).b, (m.count.fileAt F).b.length⟩ } : DModel) = _
    rw [hfa, hL]
  show RAt _ _ _ (m.count.done ⟨2, n, t, bs⟩)
  rw [hdone]
  refine h3.setFile hfn k4 ?_ (ownN_only hb k4 (fun b e e2 => (ownN_typed hb e).ne (ownN_typed h3.files e2) (by decide) rfl)) ⟨(h3.lens _ (List.getElem_mem hfn)).1, by rw [← hL]; exact Nat.le_refl _⟩ (fun k hk => .inl hk) (fun k e => .inl (h3.oB _ (List.getElem_mem hfn) k e)) (fun k hk => ?_)
  · have hf2 := h3.files
    rw [hfv] at hf2
    have := (hf2.stored (F * 2 + 1) (.int .i64 (L : Int))).1
    rw [filL_set _ _ _ _ hfn, hfv]
    have e : (filL c.fs).set (F * 2) c.fs[F].1 = filL c.fs := by
      apply List.ext_getElem?
      intro i
      rw [List.getElem?_set]
      split
      · rename_i e
        subst e
        rw [(filL_at c.fs F hfn).1]
        split
        · rfl
        · rename_i hh
          exact absurd (by rw [filL_len]; omega) hh
      · rfl
    rw [e]
    exact this
  · rcases hk with hk | hk
    · exact Nat.lt_of_lt_of_le (h.top k hk) kt.size
    · exact hk.2
end
end Go.Proofs.Ytpjedcfdchebgaa
