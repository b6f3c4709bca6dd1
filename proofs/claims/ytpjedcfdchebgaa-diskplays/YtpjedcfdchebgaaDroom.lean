/-
  Room: the quota less all bytes of the directory, in whatever order its names come.
-/
import Derived.Test.YtpjedcfdchebgaaDcreate
import Derived.Maps.RangeWalk
namespace Go.Proofs.Ytpjedcfdchebgaa
open Go.RowKit Go.Proofs.Lys Go.Maps Go.Shelf
set_option linter.unusedVariables false

/-- The step of a range over a directory. -/
theorem wpList_next_dir (w : World) {ops : Array Oper} {rest : List Oper} {o : Oper} {a : Act} {Q : Exit → Act → World → Prop} (hg : o.guard = none) (it : Operand) (hop : o.op = Op.next it false)
    (b r n : Nat) (blk : List Nat) (l : DDir) (left : Lit → Bool) (cnt : Nat) (hit : a.eval it = .pointer (some ⟨r, 0, none⟩)) (h : w.ranges Try.prog 9 ptrE b r n (dirD blk l) left cnt)
    (hDone : (∀ kl, left kl = false) → wpList Try.prog ops Q rest (a.put o.dst (.tuple #[.bool false])) w)
    (hMore : ∀ (s : ByteArray) (f : Nat) (w' : World) (cnt' : Nat), s.size ≤ maxLen → left (.string s.data.toList) = true → DD.look l s.data.toList = some f →
      w'.ranges Try.prog 9 ptrE b r n (dirD blk l) (fun z => left z && !z.sameKey (.string s.data.toList)) cnt' → cnt' < cnt → w.grownBy w' (some r) → w'.heap.size = w.heap.size →
      (Instr.entry (.pointer (some ⟨r, 0, none⟩))).run Try.prog w' = .ok (.tuple #[.string s, .pointer (some ⟨blk.getD f 0, 0, none⟩)]) w' →
      wpList Try.prog ops Q rest (a.put o.dst (.tuple #[.bool true, .string s, .pointer (some ⟨blk.getD f 0, 0, none⟩)])) w') :
    wpList Try.prog ops Q (o :: rest) a w := by
  have keyS : ∀ key kl, keyOf Try.prog 9 key = some kl → ∃ s : ByteArray, key = .string s ∧ kl = .string s.data.toList ∧ s.size ≤ maxLen := by
    intro key kl hk
    simp only [keyOf, mapKey, Try.underlying9] at hk
    cases key <;> simp at hk
    exact ⟨_, rfl, hk.2.symm, hk.1⟩
  refine wpList_next_ranges w hg it hop 9 law ptrE Value.string Value.pointer (fun key kl hk => ?_) (fun v y hv => ?_) b r n (dirD blk l) left cnt hit h (fun _ hl => hDone hl) ?_
  · obtain ⟨s, rfl, _⟩ := keyS key kl hk
    exact ⟨s, rfl⟩
  · unfold ptrE at hv
    split at hv
    · exact ⟨none, rfl⟩
    · exact ⟨_, rfl⟩
    · cases hv
  · intro s p kl y w' cnt' hk hl hv hat hrg hlt hgr hsz hen
    obtain ⟨s', e, rfl, hs⟩ := keyS _ _ hk
    cases e
    cases hlo : DD.look l s.data.toList with
    | none =>
      have h1 := hat (.lit (.int .i64 (-1)))
      have h2 := hat (.lit (.int .i64 (-2)))
      have hz : ∀ zd, (dirD blk l).atKey (.string s.data.toList) zd = zd := by
        intro zd
        have hf : l.find? (fun p => p.1 == s.data.toList) = none := by
          unfold DD.look at hlo
          cases hf : l.find? (fun p => p.1 == s.data.toList) with
          | none => rfl
          | some x => rw [hf] at hlo; cases hlo
        simp only [dirD, DataW.atKey, find_dirD, hf, Option.map_none]
      rw [hz] at h1 h2
      rw [← h1] at h2
      simp at h2
    | some f =>
      have h1 := hat (.lit (.int .i64 (-1)))
      rw [at_dirD, hlo] at h1
      have h2 : y = (.lit (.int .i64 ((blk.getD f 0 : Nat) : Int)), y.2) := Prod.ext h1.symm rfl
      have hp : Value.pointer p = .pointer (some ⟨blk.getD f 0, 0, none⟩) := ptrE_some (ps := y.2) (by rw [hv]; exact congrArg some h2)
      rw [hp] at hen ⊢
      exact hMore s f w' cnt' hs hl hlo hrg hlt hgr hsz hen

/-- The bytes of the names that have come. -/
def usedL (m : DModel) (l : DDir) (left : Lit → Bool) : Nat := (l.map fun p => if left (.string p.1) then 0 else (m.fileAt p.2).b.length).sum

theorem usedL_same (m : DModel) {left left' : Lit → Bool} : ∀ {l : DDir}, (∀ p ∈ l, left (.string p.1) = left' (.string p.1)) → usedL m l left = usedL m l left'
  | [], _ => rfl
  | y :: r, h => by
    have ih := usedL_same m (l := r) (fun p hp => h p (List.mem_cons_of_mem _ hp))
    have h0 := h y List.mem_cons_self
    unfold usedL at *
    rw [List.map_cons, List.map_cons, List.sum_cons, List.sum_cons, ih, h0]

theorem usedL_step (m : DModel) {left : Lit → Bool} {n : List UInt8} {f : Nat} : ∀ {l : DDir}, (l.map (·.1)).Nodup → left (.string n) = true → DD.look l n = some f →
    usedL m l (fun z => left z && !z.sameKey (.string n)) = usedL m l left + (m.fileAt f).b.length
  | [], _, _, h => by cases h
  | y :: r, hd, hl, h => by
    rw [List.map_cons, List.nodup_cons] at hd
    by_cases e : y.1 = n
    · have hf : f = y.2 := by
        unfold DD.look at h
        rw [List.find?_cons] at h
        simp [e] at h
        exact h.symm
      have hr : usedL m r (fun z => left z && !z.sameKey (.string n)) = usedL m r left := by
        refine usedL_same m (fun p hp => ?_)
        have hne : p.1 ≠ n := fun e' => hd.1 (by rw [e, ← e']; exact List.mem_map_of_mem hp)
        show (left (.string p.1) && !(Lit.string p.1).sameKey (.string n)) = _
        rw [sameKey_string]
        simp [hne]
      unfold usedL at *
      rw [List.map_cons, List.map_cons, List.sum_cons, List.sum_cons, hr]
      have : (left (.string y.1) && !(Lit.string y.1).sameKey (.string n)) = false := by rw [sameKey_string]; simp [e]
      simp only [this]
      rw [e, hl, hf]
      simp
      omega
    · have hl' : DD.look r n = some f := by
        unfold DD.look at h ⊢
        have e2 : (y.1 == n) = false := by simpa using e
        rw [List.find?_cons, e2] at h
        exact h
      have ih := usedL_step m (l := r) hd.2 hl hl'
      unfold usedL at *
      rw [List.map_cons, List.map_cons, List.sum_cons, List.sum_cons, ih]
      have : (left (.string y.1) && !(Lit.string y.1).sameKey (.string n)) = left (.string y.1) := by rw [sameKey_string]; simp [e]
      simp only [this]
      omega

theorem usedL_le (m : DModel) (left : Lit → Bool) : ∀ {l : DDir}, (∀ p ∈ l, (m.fileAt p.2).b.length ≤ 16777216) → usedL m l left ≤ 16777216 * l.length
  | [], _ => by simp [usedL]
  | y :: r, h => by
    have ih := usedL_le m left (l := r) (fun p hp => h p (List.mem_cons_of_mem _ hp))
    have h0 := h y List.mem_cons_self
    unfold usedL at *
    rw [List.map_cons, List.sum_cons, List.length_cons]
    split <;> omega

section
variable {w : World} {c : Conc} {O : Nat → Prop} {m : DModel}

theorem dir_nodup {b n : Nat} {blk : List Nat} {l : DDir} (h : w.ownsMap Try.prog 9 ptrE b n (dirD blk l)) : (l.map (·.1)).Nodup := by
  obtain ⟨es, e, hp⟩ := h.tidy law
  unfold dirD at e
  cases e
  rw [List.pairwise_map] at hp
  rw [List.nodup_iff_pairwise_ne, List.pairwise_map]
  exact hp.imp (fun {a b} hne e => hne (by show Lit.string a.1 = .string b.1; rw [e]))

theorem usedL_all (m : DModel) (l : DDir) : usedL m l (Maps.has (dirD c.blk l)) = 0 := by
  have h0 : ∀ l' : DDir, usedL m l' (fun _ => true) = 0 := by
    intro l'
    unfold usedL
    induction l' with
    | nil => rfl
    | cons y r ih => rw [List.map_cons, List.sum_cons, ih]; rfl
  rw [usedL_same m (left' := fun _ => true), h0]
  intro p hp
  rw [has_dirD]
  unfold DD.look
  rw [Option.isSome_map, List.find?_isSome]
  exact ⟨p, hp, by simp⟩

set_option maxHeartbeats 1600000 in
theorem room_any (h : DiskAt w c O m) (hl : m.dir.length < 1000000) : Calls Try.prog 53 #[.pointer (some ⟨c.d, 0, none⟩)] w fun e w' => e = .returned (.int .i64 ((m.quota : Int) - (m.used : Int))) ∧ Stay w w' := by
  have R := h.rest
  have hq := h.quota
  have hnd := dir_nodup R.isM
  have hlen : ∀ p ∈ m.dir, (m.fileAt p.2).b.length ≤ 16777216 := fun p hp => (R.lens p.2 (R.dirF p hp)).1
  have hu := usedL_le m (left := fun _ => false) (l := m.dir) hlen
  have hue : usedL m m.dir (fun _ => false) = m.used := by
    unfold usedL DModel.used
    simp
  obtain ⟨c0, c1, c2, c3, c4, c5, c6, c7, c8, c9, cf⟩ := dfacts h.cells
  clear c1 c2 c3 c4 c5 c6 c8 c9
  have hAll := usedL_all (c := c) m m.dir
  go_enter Try.func53, Try.ntmps53
  go_wp2_with (at_range; refine wpList_range_own _ rfl _ 62 rfl 9 89 law Try.underlying62 _ c.mi m.dir.length _ rfl R.isM ?_; intro w0 hrg0 hg0 hs0)
  go_frame
  go_loopw [3] (fun r wr => ∃ (left : Lit → Bool) (cnt : Nat), wr.ranges Try.prog 9 ptrE c.mi w.heap.size m.dir.length (dirD c.blk m.dir) left cnt ∧ Stay w wr ∧ r = .int .i64 ((m.quota : Int) - (usedL m m.dir left : Int)))
    (fun _ wr => wr.rangeLeft c.mi w.heap.size)
  case atStart => exact ⟨_, _, hrg0, (Only.refl _ w).grown hg0 (fun k e _ => by cases e), by rw [hAll]; simp⟩
  case round =>
    obtain ⟨left, cnt, hrg, hst, rfl⟩ := hrel
    have hul := usedL_le m (left := left) (l := m.dir) hlen
    go_wp2_with (at_next; refine wpList_next_dir _ rfl _ rfl c.mi w.heap.size m.dir.length c.blk m.dir left cnt rfl hrg ?_ ?_)
    · intro hl0
      go_wp2
      go_ret
      refine ⟨ret_int ?_, hst⟩
      rw [← hue, usedL_same m (left := left) (left' := fun _ => false) (fun p _ => hl0 _)]
    · intro s f w1 cnt1 hss hls hlo hrg1 hlt hg1 hs1 hen
      have hst1 : Stay w w1 := hst.grown hg1 (fun k e hk => by cases e; omega)
      have hf : f < m.files.length := R.dirF _ (look_mem hlo)
      have hF := hst1.blk (R.file f hf) (fun f => f)
      obtain ⟨a, cap, hv⟩ := row_slice (R.bytes f hf)
      rw [hv] at hF
      have f0 : w1.cell? ⟨c.blk[f]?.getD 0, 0, none⟩ = some (.slice a (m.fileAt f).b.length cap) := hF.cell 0 rfl
      have hstep := usedL_step m hnd hls hlo
      have hf2 := hlen _ (look_mem hlo)
      have HS := Hid.mk hstep
      clear hstep
      go_wp2
      go_roundw
      case rel =>
        refine ⟨_, cnt1, hrg1, hst1, ?_⟩
        rw [HS.out]
        congr 1
        have h3 : (m.fileAt f).b.length ≤ 16777216 := hf2
        unfold wrap64
        omega
      case measure => rw [hrg1.left_eq, hrg.left_eq]; exact hlt
end
end Go.Proofs.Ytpjedcfdchebgaa
