/-
  Droom, Dcopy, Dnext.
-/
import Derived.Test.YtfmdnaagdhpcpaaQ05
import Derived.Maps.RangeWalk
import Derived.Maps.Ext

/-
  Room: the quota less all bytes of the directory, in whatever order its names come.
-/
namespace Go.Proofs.Ytfmdnaagdhpcpaa
open Go.RowKit Go.Proofs.Lys Go.Maps Go.Shelf
set_option linter.unusedVariables false

/-- The step of a range over a directory. -/
theorem wpList_next_dir (w : World) {ops : Array Oper} {rest : List Oper} {o : Oper} {a : Act} {Q : Exit → Act → World → Prop} (hg : o.guard = none) (it : Operand) (hop : o.op = Op.next it false)
    (b r n : Nat) (blk : List Nat) (l : DDir) (left : Lit → Bool) (cnt : Nat) (hit : a.eval it = .pointer (some ⟨r, 0, none⟩)) (h : w.ranges Try.prog 9 ptrE b r n (dirD blk l) left cnt)
    (hDone : (∀ kl, left kl = false) → wpList Try.prog ops Q rest (a.put o.dst (.tuple #[.bool false])) w)
    (hMore : ∀ (s : ByteArray) (f : Nat) (w' : World) (cnt' : Nat), s.size ≤ maxLen → left (.string s.data.toList) = true → DD.look l s.data.toList = some f →
      w'.ranges Try.prog 9 ptrE b r n (dirD blk l) (fun z => left z && !z.sameKey (.string s.data.toList)) cnt' → cnt' < cnt → w.grownBy w' (some r) → w'.heap.size = w.heap.size →
      (Instr.entry (.pointer (some ⟨r, 0, none⟩))).run Try.prog w' = .ok (.tuple #[.string s, .pointer (some ⟨blk.getD f 0, 0, none⟩)]) w' →
      wpList Try.prog ops Q rest (a.put o.dst (.tuple #[.bool true, .string s, .pointer (some ⟨blk.getD f 0, 0, none⟩)])) w') :
    wpList Try.prog ops Q (o :: rest) a w := by
  have keyS : ∀ key kl, keyOf Try.prog 9 key = some kl → ∃ s : ByteArray, key = .string s ∧ kl = .string s.data.toList ∧ s.size ≤ maxLen := by
    intro key kl hk
    simp only [keyOf, mapKey, Try.underlying9] at hk
    cases key <;> simp at hk
    exact ⟨_, rfl, hk.2.symm, hk.1⟩
  refine wpList_next_ranges w hg it hop 9 law ptrE Value.string Value.pointer (fun key kl hk => ?_) (fun v y hv => ?_) b r n (dirD blk l) left cnt hit h (fun _ hl => hDone hl) ?_
  · obtain ⟨s, rfl, _⟩ := keyS key kl hk
    exact ⟨s, rfl⟩
  · unfold ptrE at hv
    split at hv
    · exact ⟨none, rfl⟩
    · exact ⟨_, rfl⟩
    · cases hv
  · intro s p kl y w' cnt' hk hl hv hat hrg hlt hgr hsz hen
    obtain ⟨s', e, rfl, hs⟩ := keyS _ _ hk
    cases e
    cases hlo : DD.look l s.data.toList with
    | none =>
      have h1 := hat (.lit (.int .i64 (-1)))
      have h2 := hat (.lit (.int .i64 (-2)))
      have hz : ∀ zd, (dirD blk l).atKey (.string s.data.toList) zd = zd := by
        intro zd
        have hf : l.find? (fun p => p.1 == s.data.toList) = none := by
          unfold DD.look at hlo
          cases hf : l.find? (fun p => p.1 == s.data.toList) with
          | none => rfl
          | some x => rw [hf] at hlo; cases hlo
        simp only [dirD, DataW.atKey, find_dirD, hf, Option.map_none]
      rw [hz] at h1 h2
      rw [← h1] at h2
      simp at h2
    | some f =>
      have h1 := hat (.lit (.int .i64 (-1)))
      rw [at_dirD, hlo] at h1
      have h2 : y = (.lit (.int .i64 ((blk.getD f 0 : Nat) : Int)), y.2) := Prod.ext h1.symm rfl
      have hp : Value.pointer p = .pointer (some ⟨blk.getD f 0, 0, none⟩) := ptrE_some (ps := y.2) (by rw [hv]; exact congrArg some h2)
      rw [hp] at hen ⊢
      exact hMore s f w' cnt' hs hl hlo hrg hlt hgr hsz hen

/-- The bytes of the names that have come. -/
def usedL (m : DModel) (l : DDir) (left : Lit → Bool) : Nat := (l.map fun p => if left (.string p.1) then 0 else (m.fileAt p.2).b.length).sum

theorem usedL_same (m : DModel) {left left' : Lit → Bool} : ∀ {l : DDir}, (∀ p ∈ l, left (.string p.1) = left' (.string p.1)) → usedL m l left = usedL m l left'
  | [], _ => rfl
  | y :: r, h => by
    have ih := usedL_same m (l := r) (fun p hp => h p (List.mem_cons_of_mem _ hp))
    have h0 := h y List.mem_cons_self
    unfold usedL at *
    rw [List.map_cons, List.map_cons, List.sum_cons, List.sum_cons, ih, h0]

theorem usedL_step (m : DModel) {left : Lit → Bool} {n : List UInt8} {f : Nat} : ∀ {l : DDir}, (l.map (·.1)).Nodup → left (.string n) = true → DD.look l n = some f →
    usedL m l (fun z => left z && !z.sameKey (.string n)) = usedL m l left + (m.fileAt f).b.length
  | [], _, _, h => by cases h
  | y :: r, hd, hl, h => by
    rw [List.map_cons, List.nodup_cons] at hd
    by_cases e : y.1 = n
    · have hf : f = y.2 := by
        unfold DD.look at h
        rw [List.find?_cons] at h
        simp [e] at h
        exact h.symm
      have hr : usedL m r (fun z => left z && !z.sameKey (.string n)) = usedL m r left := by
        refine usedL_same m (fun p hp => ?_)
        have hne : p.1 ≠ n := fun e' => hd.1 (by rw [e, ← e']; exact List.mem_map_of_mem hp)
        show (left (.string p.1) && !(Lit.string p.1).sameKey (.string n)) = _
        rw [sameKey_string]
        simp [hne]
      unfold usedL at *
      rw [List.map_cons, List.map_cons, List.sum_cons, List.sum_cons, hr]
      have : (left (.string y.1) && !(Lit.string y.1).sameKey (.string n)) = false := by rw [sameKey_string]; simp [e]
      simp only [this]
      rw [e, hl, hf]
      simp
      omega
    · have hl' : DD.look r n = some f := by
        unfold DD.look at h ⊢
        have e2 : (y.1 == n) = false := by simpa using e
        rw [List.find?_cons, e2] at h
        exact h
      have ih := usedL_step m (l := r) hd.2 hl hl'
      unfold usedL at *
      rw [List.map_cons, List.map_cons, List.sum_cons, List.sum_cons, ih]
      have : (left (.string y.1) && !(Lit.string y.1).sameKey (.string n)) = left (.string y.1) := by rw [sameKey_string]; simp [e]
      simp only [this]
      omega

theorem usedL_le (m : DModel) (left : Lit → Bool) : ∀ {l : DDir}, (∀ p ∈ l, (m.fileAt p.2).b.length ≤ 16777216) → usedL m l left ≤ 16777216 * l.length
  | [], _ => by simp [usedL]
  | y :: r, h => by
    have ih := usedL_le m left (l := r) (fun p hp => h p (List.mem_cons_of_mem _ hp))
    have h0 := h y List.mem_cons_self
    unfold usedL at *
    rw [List.map_cons, List.sum_cons, List.length_cons]
    split <;> omega

section
variable {w : World} {c : Conc} {O : Nat → Prop} {m : DModel}

theorem dir_nodup {b n : Nat} {blk : List Nat} {l : DDir} (h : w.ownsMap Try.prog 9 ptrE b n (dirD blk l)) : (l.map (·.1)).Nodup := by
  obtain ⟨es, e, hp⟩ := h.tidy law
  unfold dirD at e
  cases e
  rw [List.pairwise_map] at hp
  rw [List.nodup_iff_pairwise_ne, List.pairwise_map]
  exact hp.imp (fun {a b} hne e => hne (by show Lit.string a.1 = .string b.1; rw [e]))

theorem usedL_all (m : DModel) (l : DDir) : usedL m l (Maps.has (dirD c.blk l)) = 0 := by
  have h0 : ∀ l' : DDir, usedL m l' (fun _ => true) = 0 := by
    intro l'
    unfold usedL
    induction l' with
    | nil => rfl
    | cons y r ih => rw [List.map_cons, List.sum_cons, ih]; rfl
  rw [usedL_same m (left' := fun _ => true), h0]
  intro p hp
  rw [has_dirD]
  unfold DD.look
  rw [Option.isSome_map, List.find?_isSome]
  exact ⟨p, hp, by simp⟩

set_option maxHeartbeats 1600000 in
theorem room_any (h : DiskAt w c O m) (hl : m.dir.length < 1000000) : Calls Try.prog 25 #[.pointer (some ⟨c.d, 0, none⟩)] w fun e w' => e = .returned (.int .i64 ((m.quota : Int) - (m.used : Int))) ∧ Stay w w' := by
  have R := h.rest
  have hq := h.quota
  have hnd := dir_nodup R.isM
  have hlen : ∀ p ∈ m.dir, (m.fileAt p.2).b.length ≤ 16777216 := fun p hp => (R.lens p.2 (R.dirF p hp)).1
  have hu := usedL_le m (left := fun _ => false) (l := m.dir) hlen
  have hue : usedL m m.dir (fun _ => false) = m.used := by
    unfold usedL DModel.used
    simp
  obtain ⟨c0, c1, c2, c3, c4, c5, c6, c7, c8, c9, cf⟩ := dfacts h.cells
  clear c1 c2 c3 c4 c5 c6 c8 c9
  have hAll := usedL_all (c := c) m m.dir
  go_enter Try.func25, Try.ntmps25
  go_wp2_with (at_range; refine wpList_range_own _ rfl _ 55 rfl 9 82 law Try.underlying55 _ c.mi m.dir.length _ rfl R.isM ?_; intro w0 hrg0 hg0 hs0)
  go_frame
  go_loopw [3] (fun r wr => ∃ (left : Lit → Bool) (cnt : Nat), wr.ranges Try.prog 9 ptrE c.mi w.heap.size m.dir.length (dirD c.blk m.dir) left cnt ∧ Stay w wr ∧ r = .int .i64 ((m.quota : Int) - (usedL m m.dir left : Int)))
    (fun _ wr => wr.rangeLeft c.mi w.heap.size)
  case atStart => exact ⟨_, _, hrg0, (Only.refl _ w).grown hg0 (fun k e _ => by cases e), by rw [hAll]; simp⟩
  case round =>
    obtain ⟨left, cnt, hrg, hst, rfl⟩ := hrel
    have hul := usedL_le m (left := left) (l := m.dir) hlen
    go_wp2_with (at_next; refine wpList_next_dir _ rfl _ rfl c.mi w.heap.size m.dir.length c.blk m.dir left cnt rfl hrg ?_ ?_)
    · intro hl0
      go_wp2
      go_ret
      refine ⟨ret_int ?_, hst⟩
      rw [← hue, usedL_same m (left := left) (left' := fun _ => false) (fun p _ => hl0 _)]
    · intro s f w1 cnt1 hss hls hlo hrg1 hlt hg1 hs1 hen
      have hst1 : Stay w w1 := hst.grown hg1 (fun k e hk => by cases e; omega)
      have hf : f < m.files.length := R.dirF _ (look_mem hlo)
      have hF := hst1.blk (R.file f hf) (fun f => f)
      obtain ⟨a, cap, hv⟩ := row_slice (R.bytes f hf)
      rw [hv] at hF
      have f0 : w1.cell? ⟨c.blk[f]?.getD 0, 0, none⟩ = some (.slice a (m.fileAt f).b.length cap) := hF.cell 0 rfl
      have hstep := usedL_step m hnd hls hlo
      have hf2 := hlen _ (look_mem hlo)
      have HS := Hid.mk hstep
      clear hstep
      go_wp2
      go_roundw
      case rel =>
        refine ⟨_, cnt1, hrg1, hst1, ?_⟩
        rw [HS.out]
        congr 1
        have h3 : (m.fileAt f).b.length ≤ 16777216 := hf2
        unfold wrap64
        omega
      case measure => rw [hrg1.left_eq, hrg.left_eq]; exact hlt
end
end Go.Proofs.Ytfmdnaagdhpcpaa

/-
  copied: a directory of its own with the same files (maps.Copy in whatever order the names come).
-/
namespace Go.Proofs.Ytfmdnaagdhpcpaa
open Go.RowKit Go.Proofs.Lys Go.Maps Go.Shelf
set_option linter.unusedVariables false

section
variable {w : World} {blk : List Nat} {l : DDir}

theorem at_look {n : List UInt8} {f : Nat} (h : DD.look l n = some f) (zd : DataW Unit) : (dirD blk l).atKey (.string n) zd = .lit (.int .i64 ((blk.getD f 0 : Nat) : Int)) := by
  unfold DD.look at h
  cases hf : l.find? (fun p => p.1 == n) with
  | none => rw [hf] at h; cases h
  | some p =>
    rw [hf] at h
    cases h
    simp only [dirD, DataW.atKey, find_dirD, hf, Option.map_some, entD]

set_option maxHeartbeats 1600000 in
theorem copy_any (b q : Nat) (hown : w.ownsMap Try.prog 9 ptrE b l.length (dirD blk l)) (hq : w.ownsMap Try.prog 9 ptrE q 0 (.map [])) (hne : q ≠ b) (hl : l.length < 1000000) :
    Calls Try.prog 74 #[.map (some q), .map (some b)] w fun e w' => e = .returned (.tuple #[]) ∧ w'.ownsMap Try.prog 9 ptrE q l.length (dirD blk l) ∧ Only (fun x => x = q) w w' := by
  have hsz : Maps.size (dirD blk l) = l.length := by simp [dirD, Maps.size]
  go_enter Try.func74, Try.ntmps74
  go_wp2_with (at_range; refine wpList_range_own _ rfl _ 55 rfl 9 82 law Try.underlying55 _ b l.length _ rfl hown ?_; intro w0 hrg0 hg0 hs0)
  go_frame
  go_loopw [4] (fun _ wr => ∃ (left : Lit → Bool) (cnt : Nat) (Dout : DataW Unit), wr.ranges Try.prog 9 ptrE b w.heap.size l.length (dirD blk l) left cnt ∧ cnt ≤ l.length ∧
      wr.ownsMap Try.prog 9 ptrE q (l.length - cnt) Dout ∧ Agree Dout (dirD blk l) left ∧ Only (fun x => x = q) w wr)
    (fun _ wr => wr.rangeLeft b w.heap.size)
  case atStart =>
    exact ⟨_, _, .map [], hrg0, by rw [hsz]; exact Nat.le_refl _, (hq.kept hg0 (by simp)).mono (Nat.zero_le _), agree_start _, (Only.refl _ w).grown hg0 (fun k e _ => by cases e)⟩
  case round =>
    obtain ⟨left, cnt, Dout, hrg, hcs, hout, hA, hnx⟩ := hrel
    have hqw := hq.lt
    have hbw := hown.lt
    go_wp2_with (at_next; refine wpList_next_dir _ rfl _ rfl b w.heap.size l.length blk l left cnt rfl hrg ?_ ?_)
    · intro hl0
      go_wp2
      go_end0
      have e := agree_end hA hl0 (hout.canon law) (hown.canon law)
      subst e
      refine ⟨rfl, ?_, hnx⟩
      have := map_tight hout
      rwa [dir_len] at this
    · intro s f w1 cnt1 hss hls hlo hrg1 hlt hg1 hs1 hen
      have hout1 := hout.kept hg1 (fun e => by have := Option.some.inj e; omega)
      have hlm : l.length - cnt < maxLen := by unfold maxLen; omega
      go_wp2_with (at_mapUpdate; refine wpList_mapUpdate_own _ rfl _ _ _ 55 rfl 9 82 law Try.underlying55 _ q _ _ rfl hout1 hlm _ _ _ rfl rfl (key_mk hss) _ [] (ptrE_mk _) ?_; intro w2 hout2 hg2; go_frame)
      have hrg2 := hrg1.kept hg2 (fun e => hne (Option.some.inj e).symm) (fun e => by have := Option.some.inj e; omega)
      go_roundw
      case rel =>
        exact ⟨_, cnt1, _, hrg2, by omega, hout2.mono (by omega), agree_step hA hout.isMap trivial (at_look hlo),
          (hnx.grown hg1 (fun k e hk => by have := Option.some.inj e; omega)).grown hg2 (fun k e hk => (Option.some.inj e).symm)⟩
      case measure => rw [hrg2.left_eq, hrg.left_eq]; exact hlt

set_option maxHeartbeats 400000 in
theorem copy_nil (q : Nat) : Calls Try.prog 74 #[.map (some q), .map none] w fun e w' => e = .returned (.tuple #[]) ∧ Stay w w' := by
  have hrg := run_range_nilMap (P := Try.prog) w 55 9 82 Try.underlying55
  have hnx : ∀ ty, (Instr.next (.pointer (some ⟨w.heap.size, 0, none⟩)) false ty).run Try.prog (w.alloc (.mapIter none 0 #[] 0)) = _ := fun ty => run_next_nilMap w ty 0 0 #[]
  go_enter Try.func74, Try.ntmps74
  go_wp2
  refine wp_loop_rounds 1 ?_
  rw [rounds_succ]
  go_wp2
  go_end0
  exact ⟨rfl, (Only.refl _ w).alloc _⟩

theorem make_run (n : Int) (w : World) : (Instr.makeMap 55 (some (.int .i64 n))).run Try.prog w = .ok (.map (some w.heap.size)) (w.alloc (.map #[] 0)) := by
  simp [Instr.makeMap, run_underlying Try.underlying55, asInt, asIntOf, Result.andThen]

theorem wpList_len_nil {ops : Array Oper} {rest : List Oper} {o : Oper} {a : Act} {Q : Exit → Act → World → Prop} (hg : o.guard = none) (x : Operand) (t : TypeId) (hop : o.op = Op.call { callee := Callee.builtin Builtin.len, args := #[x], argTypes := #[t] })
    (k e : TypeId) (ht : Try.prog.underlying t = some (.map k e)) (hx : a.eval x = .map none) (hK : wpList Try.prog ops Q rest (a.put o.dst (.int .i64 0)) w) : wpList Try.prog ops Q (o :: rest) a w := by
  refine wpList_plain hg fun K' hK' => ?_
  have hr := Maps.len_nil (P := Try.prog) (w := w) ht o.type
  unfold Oper.wp
  simp [execOp, hop, resolve, invoke, builtin, hx, hr, Result.andThen]
  exact hK' _ _ hK

set_option maxHeartbeats 800000 in
theorem copied_any (b : Nat) (hown : w.ownsMap Try.prog 9 ptrE b l.length (dirD blk l)) (hl : l.length < 1000000) :
    Calls Try.prog 67 #[.map (some b)] w fun e w' => e = .returned (.map (some w.heap.size)) ∧ w'.ownsMap Try.prog 9 ptrE w.heap.size l.length (dirD blk l) ∧ Stay w w' := by
  have hmm := make_run
  have hbl := hown.lt
  have hq := World.ownsMap_made w Try.prog 9 ptrE
  go_enter Try.func67, Try.ntmps67
  go_wp2_with (at_len; refine wpList_len_own _ rfl _ 55 rfl 9 82 Try.underlying55 _ b l.length _ rfl hown ?_)
  refine (copy_any b w.heap.size (hown.alloc _) hq (by omega) hl).mono ?_
  rintro e w1 ⟨rfl, hm1, hk1⟩
  go_wp2_with fail
  go_ret
  exact ⟨rfl, hm1, ((Only.refl _ w).alloc _).trans hk1 (fun j hj e => by omega)⟩

set_option maxHeartbeats 800000 in
theorem copied_nil : Calls Try.prog 67 #[.map none] w fun e w' => e = .returned (.map (some w.heap.size)) ∧ w'.ownsMap Try.prog 9 ptrE w.heap.size 0 (dirD blk []) ∧ Stay w w' := by
  have hmm := make_run
  have hq := World.ownsMap_made w Try.prog 9 ptrE
  go_enter Try.func67, Try.ntmps67
  go_wp2_with (at_len; refine wpList_len_nil rfl _ _ rfl 9 82 Try.underlying55 rfl ?_)
  refine (copy_nil w.heap.size).mono ?_
  rintro e w1 ⟨rfl, hs1⟩
  go_wp2_with fail
  go_ret
  exact ⟨rfl, hs1.map hq (fun f => f), ((Only.refl _ w).alloc _).trans hs1 (fun j hj e => e)⟩
end
end Go.Proofs.Ytfmdnaagdhpcpaa

/-
  taking: the numbers that tell what stays, one by one.
-/
namespace Go.Proofs.Ytfmdnaagdhpcpaa
open Go.RowKit Go.Proofs.Lys Go.Maps Go.Shelf
set_option linter.unusedVariables false

/-- A slice of numbers that is read, outside what O holds. -/
def IntsAt (w : World) (O : Nat → Prop) (v : Value) (l : List Int) : Prop :=
  ∃ a cap, v = .slice a l.length cap ∧ l.length ≤ cap ∧ (l ≠ [] → ∃ b o, a = some ⟨b, o, none⟩ ∧ ¬ O b ∧ ∀ i x, l[i]? = some x → w.cell? ⟨b, o + i, none⟩ = some (.int .i64 x))

/-- The variable that holds the numbers that are left. -/
def NumsAt (w : World) (O : Nat → Prop) (nb : Nat) (l : List Int) : Prop := ∃ v, Blk w nb [v] 32 ∧ IntsAt w O v l

section
variable {w w' : World} {O O' : Nat → Prop} {nb : Nat} {l : List Int}

theorem NumsAt.only (h : NumsAt w O nb l) (k : Only O' w w') (hn : ¬ O' nb) (hO : ∀ j, j < w.heap.size → O' j → O j) : NumsAt w' O nb l := by
  obtain ⟨v, hb, a, cap, rfl, hc, hx⟩ := h
  refine ⟨_, k.blk hb hn, a, cap, rfl, hc, fun hne => ?_⟩
  obtain ⟨b, o, e, hno, hcell⟩ := hx hne
  refine ⟨b, o, e, hno, fun i x hi => ?_⟩
  have h1 := hcell i x hi
  have hlt := World.block_lt_of_cell? w ⟨b, o + i, none⟩ h1
  rw [World.cell?_of_block (w := w) (a := ⟨b, o + i, none⟩) (k.block b hlt (fun h => hno (hO b hlt h)))]
  exact h1

theorem NumsAt.old (h : NumsAt w O nb l) : NumsAt w (fun k => O k ∨ w.heap.size ≤ k) nb l := by
  obtain ⟨v, hb, a, cap, rfl, hc, hx⟩ := h
  refine ⟨_, hb, a, cap, rfl, hc, fun hne => ?_⟩
  obtain ⟨b, o, e, hno, hcell⟩ := hx hne
  refine ⟨b, o, e, ?_, hcell⟩
  rintro (h1 | h1)
  · exact hno h1
  · cases l with
    | nil => exact hne rfl
    | cons x r =>
      have := World.block_lt_of_cell? w ⟨b, o + 0, none⟩ (hcell 0 x rfl)
      simp at this
      omega
theorem NumsAt.less (h : NumsAt w O nb l) (hO : ∀ k, O' k → O k) : NumsAt w O' nb l := by
  obtain ⟨v, hb, a, cap, rfl, hc, hx⟩ := h
  refine ⟨_, hb, a, cap, rfl, hc, fun hne => ?_⟩
  obtain ⟨b, o, e, hno, hcell⟩ := hx hne
  exact ⟨b, o, e, fun h => hno (hO b h), hcell⟩

theorem taking_any (a : Option Addr) (n cap : Nat) (w : World) : Calls Try.prog 40 #[.slice a n cap] w fun e w' => e = .returned (.func (.func 66) #[] #[.pointer (some ⟨w.heap.size, 0, none⟩)]) ∧ w' = w.alloc (.cells #[.slice a n cap] 32) := by
  have hmf : ∀ (fn : Fn) (first cap : Array Value) (w : World), (Instr.makeFunc fn first cap).run Try.prog w = .ok (.func fn first cap) w := fun _ _ _ _ => rfl
  go_enter Try.func40, Try.ntmps40
  go_wp2
  go_ret
  exact ⟨rfl, rfl⟩

set_option maxHeartbeats 800000 in
theorem next_any (h : NumsAt w O nb l) : Calls Try.prog 66 #[.pointer (some ⟨nb, 0, none⟩)] w fun e w' => e = .returned (.int .i64 (l.headD 0)) ∧ Only (fun x => x = nb) w w' ∧ NumsAt w' O nb l.tail := by
  have hall := h
  obtain ⟨v, hb, a, cap, rfl, hc, hx⟩ := h
  have c0 := hb.cell 0 rfl
  have cf := hb.frozen 0
  cases l with
  | nil =>
    have e0 : ([] : List Int).length = 0 := rfl
    rw [e0] at c0
    go_enter Try.func66, Try.ntmps66
    go_wp2
    go_ret
    exact ⟨rfl, Only.refl _ _, hall⟩
  | cons x r =>
    obtain ⟨b, o, rfl, hno, hcell⟩ := hx (by simp)
    have h0 : w.cell? ⟨b, o, none⟩ = some (.int .i64 x) := hcell 0 x rfl
    have hn : (x :: r).length = r.length + 1 := rfl
    rw [hn] at c0 hc hb
    have hbn : b ≠ nb := by
      intro e
      subst e
      have h1 := h0
      unfold Blk at hb
      simp only [World.cell?, hb] at h1
      cases o with
      | zero => simp at h1
      | succ o => simp at h1
    have hfin : ∀ a2 : Option Addr, (r ≠ [] → a2 = some ⟨b, o + 1, none⟩) → Only (fun x => x = nb) w (w.setCell ⟨nb, 0, none⟩ (.slice a2 (r.length + 1 - 1) (cap - 1))) ∧ NumsAt (w.setCell ⟨nb, 0, none⟩ (.slice a2 (r.length + 1 - 1) (cap - 1))) O nb r := by
      intro a2 ha2
      refine ⟨(Only.refl (fun x => x = nb) w).setCell (fun _ => rfl) _, _, hb.set 0 _, _, _, rfl, by omega, fun hne => ?_⟩
      refine ⟨b, o + 1, ha2 hne, hno, fun i y hi => ?_⟩
      have h1 := hcell (i + 1) y hi
      rw [World.cell?_of_block (w := w) (a := ⟨b, o + 1 + i, none⟩) (Below.heap_setCell w ⟨nb, 0, none⟩ _ b hbn)]
      have e : o + 1 + i = o + (i + 1) := by omega
      rw [e]
      exact h1
    have hr : cap = 1 → r = [] := fun e => List.eq_nil_of_length_eq_zero (by omega)
    clear hall hx hcell hn
    have hN1 : 1 ≤ r.length + 1 := by omega
    generalize r.length + 1 = N at *
    have hz : ((N : Int) == 0) = false := by simp; omega
    have hz2 : (0 : Int) < (N : Int) := by omega
    by_cases hcap : cap = 1
    · have HF := Hid.mk (hfin (some ⟨b, o, none⟩) (fun hne => absurd (hr hcap) hne))
      clear hc hb hno hbn hN1 hfin hr
      subst hcap
      go_enter Try.func66, Try.ntmps66
      go_wp2
      go_ret
      exact ⟨rfl, HF.out⟩
    · have HF := Hid.mk (hfin (some ⟨b, o + 1, none⟩) (fun hne => rfl))
      clear hc hb hno hbn hN1 hfin hr
      go_enter Try.func66, Try.ntmps66
      go_wp2
      go_ret
      exact ⟨rfl, HF.out⟩
end
end Go.Proofs.Ytfmdnaagdhpcpaa
