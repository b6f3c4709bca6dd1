/-
  Dcreate.
-/
import Derived.Test.YtfmdnaagdhpcpaaQ04
import Derived.Test.YtfmdnaagdhpcpaaQ03
import Derived.RegionTactic
import Derived.BigRegion
import Derived.RegionDies

/-
  The steps create, remove and rename.
-/
namespace Go.Proofs.Ytfmdnaagdhpcpaa
open Go.RowKit Go.Proofs.Lys Go.Maps Go.Shelf
set_option linter.unusedVariables false

section
variable {w : World} {c : Conc} {O : Nat → Prop} {m : DModel}

theorem getD_app {l : List Nat} {x i : Nat} (h : i < l.length) : (l ++ [x]).getD i 0 = l.getD i 0 := by
  rw [List.getD_eq_getElem?_getD, List.getD_eq_getElem?_getD, List.getElem?_append_left h]
theorem getD_end (l : List Nat) (x : Nat) : (l ++ [x]).getD l.length 0 = x := by
  rw [List.getD_eq_getElem?_getD, List.getElem?_append_right (Nat.le_refl _)]
  simp

theorem dirD_app {blk : List Nat} {x : Nat} {l : DDir} (h : ∀ p ∈ l, p.2 < blk.length) : dirD (blk ++ [x]) l = dirD blk l := by
  unfold dirD
  congr 1
  refine List.map_congr_left (fun p hp => ?_)
  unfold entD
  rw [getD_app (h p hp)]

theorem ActAt.app {blk : List Nat} {x : Nat} {v : Value} {a : DAct} (h : ActAt w O blk v a) (ha : a.kind = 0 → a.file < blk.length) : ActAt w O (blk ++ [x]) v a := by
  rcases h with ⟨h0, bn, be, s, hv, h1, h2, h3, h4, o1, o2⟩ | h | h
  · exact .inl ⟨h0, bn, be, s, hv, h1, h2, h3, by rw [getD_app (ha h0)]; exact h4, o1, o2⟩
  · exact .inr (.inl h)
  · exact .inr (.inr h)

/-- A new empty file, which no name has yet. -/
theorem DiskAt.newFile {O' : Nat → Prop} (h : DiskAt w c O m) (fb : Nat) (hfb : Blk w fb [.slice none 0 0, .int .i64 0] 87) (hnew : ¬ O fb) (hO : ∀ k, O k → O' k) (hof : O' fb) (ht : ∀ k, O' k → k < w.heap.size) :
    DiskAt w { c with blk := c.blk ++ [fb], bv := c.bv ++ [.slice none 0 0] } O' { m with files := m.files ++ [⟨[], 0⟩] } := by
  have R := h.rest
  have hbs : ∀ j, j < m.files.length → ({ c with blk := c.blk ++ [fb], bv := c.bv ++ [.slice none 0 0] } : Conc).bs j = c.bs j := by
    intro j hj
    unfold Conc.bs
    simp only [List.getD_eq_getElem?_getD]
    rw [List.getElem?_append_left (by rw [R.nbv]; exact hj)]
  have hbe : ({ c with blk := c.blk ++ [fb], bv := c.bv ++ [.slice none 0 0] } : Conc).bs m.files.length = .slice none 0 0 := by
    unfold Conc.bs
    simp only [List.getD_eq_getElem?_getD]
    rw [List.getElem?_append_right (by rw [R.nbv]; exact Nat.le_refl _), R.nbv]
    simp
  have hfa : ∀ j, j < m.files.length → ({ m with files := m.files ++ [⟨[], 0⟩] } : DModel).fileAt j = m.fileAt j := by
    intro j hj
    unfold DModel.fileAt
    simp only [List.getD_eq_getElem?_getD]
    rw [List.getElem?_append_left hj]
  have hfe : ({ m with files := m.files ++ [⟨[], 0⟩] } : DModel).fileAt m.files.length = ⟨[], 0⟩ := by
    unfold DModel.fileAt
    simp only [List.getD_eq_getElem?_getD]
    rw [List.getElem?_append_right (Nat.le_refl _)]
    simp
  have split : ∀ j, j < (m.files ++ [(⟨[], 0⟩ : DFile)]).length → j < m.files.length ∨ j = m.files.length := by
    intro j hj
    simp at hj
    omega
  refine { cells := h.cells, fuse := h.fuse, fault := h.fault, oD := hO _ h.oD, top := ht, quota := h.quota, rest := ?_ }
  refine { isM := ?_, sureM := ?_, apart := R.apart, nblk := by simp [R.nblk], nbv := by simp [R.nbv], nodup := ?_, file := ?_, bytes := ?_, lens := ?_, sole := ?_, pend := R.pend,
           act := fun i a e => ((R.act i a e).mono hO).app (fun h0 => by rw [R.nblk]; exact R.actF a (List.mem_of_getElem? e) h0), dirF := ?_, sureF := ?_, actF := ?_, synced := R.synced, oMi := hO _ R.oMi, oMs := hO _ R.oMs, oBlk := ?_, oBs := ?_, oPv := fun k e => hO _ (R.oPv k e) }
  · rw [dirD_app (fun p hp => by rw [R.nblk]; exact R.dirF p hp)]
    exact R.isM
  · rw [dirD_app (fun p hp => by rw [R.nblk]; exact R.sureF p hp)]
    exact R.sureM
  · refine List.nodup_append.2 ⟨R.nodup, by simp, ?_⟩
    intro x hx y hy e
    simp at hy
    obtain ⟨j, hj, rfl⟩ := List.getElem_of_mem hx
    have hj' : j < m.files.length := by rw [← R.nblk]; exact hj
    have := R.oBlk j hj'
    rw [List.getD_eq_getElem?_getD, List.getElem?_eq_getElem hj] at this
    exact hnew (by rw [← hy, ← e]; exact this)
  · intro j hj
    rcases split j hj with hj | rfl
    · rw [hbs j hj, hfa j hj, getD_app (by rw [R.nblk]; exact hj)]
      exact R.file j hj
    · rw [hbe, hfe, ← R.nblk, getD_end]
      exact hfb
  · intro j hj
    rcases split j hj with hj | rfl
    · rw [hbs j hj, hfa j hj]
      exact R.bytes j hj
    · rw [hbe, hfe]
      exact World.ownsRow_nil _ _ _ _
  · intro j hj
    rcases split j hj with hj | rfl
    · rw [hfa j hj]
      exact R.lens j hj
    · rw [hfe]
      simp
  · intro a b k ha hb h1 h2
    rcases split a ha with ha | rfl
    · rcases split b hb with hb | rfl
      · rw [hbs a ha] at h1
        rw [hbs b hb] at h2
        exact R.sole a b k ha hb h1 h2
      · rw [hbe] at h2
        cases h2
    · rw [hbe] at h1
      cases h1
  · intro p hp
    have := R.dirF p hp
    simp
    omega
  · intro p hp
    have := R.sureF p hp
    simp
    omega
  · intro a ha h0
    have := R.actF a ha h0
    simp
    omega
  · intro j hj
    rcases split j hj with hj | rfl
    · rw [getD_app (by rw [R.nblk]; exact hj)]
      exact hO _ (R.oBlk j hj)
    · rw [← R.nblk, getD_end]
      exact hof
  · intro j k hj e
    rcases split j hj with hj | rfl
    · rw [hbs j hj] at e
      exact hO _ (R.oBs j k hj e)
    · rw [hbe] at e
      cases e

/-- Behind acting: what it handed back, called later. -/
theorem acting_tail {w0 W : World} {O0 : Nat → Prop} (h : DiskAt W c O m) (a : DAct) (f : FuncId) (cap : Array Value) (hact : ActAt W O c.blk (.func (.func f) #[] cap) a) (hl : m.dir.length < 1000000) (hla : m.acts.length < 1000000)
    (haF : a.kind = 0 → a.file < m.files.length) (hO : ∀ k, O k → Grow O0 w0 W k) (hs0 : w0.heap.size ≤ W.heap.size) (hT0 : ∀ k, O0 k → k < w0.heap.size) (N : Nat) (hN : W.heap.size = N) (w2 : World) (hs2 : Stay ((W.alloc (.cells #[.pointer (some ⟨c.d, 0, none⟩)] 25)).alloc (.cells #[.func (.func f) #[] cap] 95)) w2) :
    Calls Try.prog 72 (#[] ++ #[.pointer (some ⟨N + 1, 0, none⟩), .pointer (some ⟨N, 0, none⟩)]) w2 fun e w3 => e = .returned (.tuple #[]) ∧ Only (Grow O0 w0 w3) w2 w3 ∧
      ∃ c', c'.d = c.d ∧ DiskAt w3 c' (Grow O0 w0 w3) { m with dir := DD.act m.dir a, acts := m.acts ++ [a] } := by
  subst hN
  have hst : Stay W ((W.alloc (.cells #[.pointer (some ⟨c.d, 0, none⟩)] 25)).alloc (.cells #[.func (.func f) #[] cap] 95)) := ((Only.refl _ W).alloc _).alloc _
  have hsz : W.heap.size + 2 ≤ w2.heap.size := by have := hs2.size; simpa using this
  have h2 := (h.stay hst).stay hs2
  have hbd : Blk w2 W.heap.size [.pointer (some ⟨c.d, 0, none⟩)] 25 := hs2.blk ((Blk.new W [.pointer (some ⟨c.d, 0, none⟩)] 25).alloc _) (fun f => f)
  have hba : Blk w2 (W.heap.size + 1) [.func (.func f) #[] cap] 95 := hs2.blk (by have := Blk.new (W.alloc (.cells #[.pointer (some ⟨c.d, 0, none⟩)] 25)) [.func (.func f) #[] cap] 95; simpa using this) (fun f => f)
  have hact2 : ActAt w2 O c.blk (.func (.func f) #[] cap) a := hact.far (fun _ h => h) (fun k T ho _ _ => (hs2.block k (by have := h.top k ho; simp; omega) (fun f => f)).trans (hst.block k (h.top k ho) (fun f => f)))
  refine (acting_fin h2 a _ hact2 W.heap.size (W.heap.size + 1) hbd hba (fun ho => by have := h.top _ ho; omega) (fun ho => by have := h.top _ ho; omega) hl hla haF).mono ?_
  rintro e w3 ⟨rfl, hk3, c', hc', h3⟩
  have hs3 := hk3.size
  have up : ∀ k, Grow O w2 w3 k → Grow O0 w0 w3 k := by
    rintro k (hk | ⟨hk, hk'⟩)
    · rcases hO k hk with hk | ⟨hk, hk'⟩
      · exact .inl hk
      · exact .inr ⟨hk, by omega⟩
    · exact .inr ⟨by omega, hk'⟩
  refine ⟨rfl, hk3.mono (fun k _ ho => up k (.inl ho)), c', hc', h3.mono up ?_⟩
  rintro k (hk | ⟨_, hk⟩)
  · have := hT0 k hk
    omega
  · exact hk

theorem own_create (m : DModel) {o : DOp} (hk : o.kind = 0) : m.own o = if namedB o.name = false then 1 else if (DD.look m.dir o.name).isSome then 7 else 0 := by
  unfold DModel.own
  simp [hk]
theorem done_create (m : DModel) {o : DOp} (hk : o.kind = 0) : m.done o = { ({ m with files := m.files ++ [⟨[], 0⟩] } : DModel) with dir := DD.act m.dir ⟨0, o.name, [], m.files.length⟩, acts := m.acts ++ [⟨0, o.name, [], m.files.length⟩] } := by
  unfold DModel.done DD.act
  simp [hk]
theorem own_remove (m : DModel) {o : DOp} (hk : o.kind = 4) : m.own o = if (DD.look m.dir o.name).isSome then 0 else 6 := by
  unfold DModel.own
  simp [hk]
theorem done_remove (m : DModel) {o : DOp} (hk : o.kind = 4) : m.done o = { m with dir := DD.act m.dir ⟨2, o.name, [], 0⟩, acts := m.acts ++ [⟨2, o.name, [], 0⟩] } := by
  unfold DModel.done
  simp [hk]
theorem own_rename (m : DModel) {o : DOp} (hk : o.kind = 3) : m.own o = if (DD.look m.dir o.name).isSome then (if namedB o.to = false then 1 else 0) else 6 := by
  unfold DModel.own
  simp [hk]
theorem done_rename (m : DModel) {o : DOp} (hk : o.kind = 3) : m.done o = { m with dir := DD.act m.dir ⟨1, o.name, o.to, 0⟩, acts := m.acts ++ [⟨1, o.name, o.to, 0⟩] } := by
  unfold DModel.done
  simp [hk]

theorem grow_old {w' : World} {k : Nat} (h : O k) : Grow O w w' k := .inl h

set_option maxHeartbeats 800000 in
theorem remove_ok (h : DiskAt w c O m) (o : DOp) (hk : o.kind = 4) (hl : m.dir.length < 1000000) (hla : m.acts.length < 1000000) {s : ByteArray} (hs : s.size ≤ maxLen) (hn : s.data.toList = o.name) (kv tv bv : Value) :
    StepOk 32 c O m o (.agg #[kv, .string s, tv, bv]) w := by
  have hmf : ∀ (fn : Fn) (first cap : Array Value) (w : World), (Instr.makeFunc fn first cap).run Try.prog w = .ok (.func fn first cap) w := fun _ _ _ _ => rfl
  have hst : Stay w (w.alloc (.cells #[kv, .string s, tv, bv] 31)) := (Only.refl _ w).alloc _
  have h1 := h.stay hst
  constructor
  · intro howe
    rw [own_remove m hk] at howe ⊢
    cases hlo : DD.look m.dir o.name with
    | some f => rw [hlo] at howe; simp at howe
    | none =>
      simp only [Option.isSome_none, Bool.false_eq_true, if_false]
      go_enter Try.func32, Try.ntmps32
      go_wp2_with fail
      refine (find_none h1 hs (by rw [hn]; exact hlo)).mono ?_
      rintro e w1 ⟨rfl, rfl⟩
      exact ⟨rfl, rfl, hst⟩
  · intro howe
    rw [own_remove m hk] at howe
    rw [done_remove m hk]
    cases hlo : DD.look m.dir o.name with
    | none => rw [hlo] at howe; simp at howe
    | some f =>
      go_enter Try.func32, Try.ntmps32
      go_wp2_with fail
      refine (find_some h1 hs (by rw [hn]; exact hlo)).mono ?_
      rintro e w1 ⟨rfl, rfl⟩
      go_wp2_with fail
      refine (acting_any _ _ _ _ _).mono ?_
      rintro e w1 ⟨rfl, rfl⟩
      go_wp2_with fail
      go_ret
      have hstW : Stay w ((w.alloc (.cells #[kv, .string s, tv, bv] 31)).alloc (.cells #[.string s] 9)) := hst.alloc _
      refine ⟨_, _, _, rfl, (hstW.alloc _).alloc _, enters_of Try.func72 (by kernel_rfl) rfl, ?_⟩
      have hW : DiskAt ((w.alloc (.cells #[kv, .string s, tv, bv] 31)).alloc (.cells #[.string s] 9)) c (Grow O w ((w.alloc (.cells #[kv, .string s, tv, bv] 31)).alloc (.cells #[.string s] 9))) m :=
        (h.stay hstW).mono (fun k hk => .inl hk) (by
          rintro k (hk | ⟨_, hk⟩)
          · have := h.top k hk
            simp
            omega
          · exact hk)
      refine acting_tail (O0 := O) (w0 := w) hW ⟨2, o.name, [], 0⟩ _ _ (.inr (.inr ⟨rfl, w.heap.size + 1, s, rfl, ?_, hn, hs, ?_⟩)) hl hla (fun h0 => by simp at h0) (fun k hk => hk) hstW.size h.top (w.heap.size + 2) (by simp)
      · have := Blk.new (w.alloc (.cells #[kv, .string s, tv, bv] 31)) [.string s] 9
        simpa using this
      · exact .inr ⟨by omega, by simp⟩

theorem top_grow {w' : World} (h : DiskAt w c O m) (hs : w.heap.size ≤ w'.heap.size) : ∀ k, Grow O w w' k → k < w'.heap.size := by
  rintro k (hk | ⟨_, hk⟩)
  · have := h.top k hk
    omega
  · exact hk

set_option maxHeartbeats 1600000 in
theorem rename_ok (h : DiskAt w c O m) (o : DOp) (hk : o.kind = 3) (hl : m.dir.length < 1000000) (hla : m.acts.length < 1000000) {s s2 : ByteArray} (hs : s.size ≤ maxLen) (hn : s.data.toList = o.name) (hs2 : s2.size ≤ maxLen) (hn2 : s2.data.toList = o.to) (kv bv : Value) :
    StepOk 31 c O m o (.agg #[kv, .string s, .string s2, bv]) w := by
  have hmf : ∀ (fn : Fn) (first cap : Array Value) (w : World), (Instr.makeFunc fn first cap).run Try.prog w = .ok (.func fn first cap) w := fun _ _ _ _ => rfl
  have hst : Stay w (w.alloc (.cells #[kv, .string s, .string s2, bv] 31)) := (Only.refl _ w).alloc _
  have h1 := h.stay hst
  constructor
  · intro howe
    rw [own_rename m hk] at howe ⊢
    cases hlo : DD.look m.dir o.name with
    | none =>
      simp only [Option.isSome_none, Bool.false_eq_true, if_false]
      go_enter Try.func31, Try.ntmps31
      go_wp2_with fail
      refine (find_none h1 hs (by rw [hn]; exact hlo)).mono ?_
      rintro e w1 ⟨rfl, rfl⟩
      exact ⟨rfl, rfl, hst⟩
    | some f =>
      rw [hlo] at howe
      have hnb : namedB o.to = false := by
        cases hb : namedB o.to
        · rfl
        · rw [hb] at howe; simp at howe
      simp only [Option.isSome_some, if_true, hnb]
      go_enter Try.func31, Try.ntmps31
      go_wp2_with fail
      refine (find_some h1 hs (by rw [hn]; exact hlo)).mono ?_
      rintro e w1 ⟨rfl, rfl⟩
      go_wp2_with fail
      refine (named_any _ _ hs2).mono ?_
      rintro e w1 ⟨rfl, rfl⟩
      rw [hn2, hnb]
      go_wp2_with fail
      refine (refuse_yes _ _).mono ?_
      rintro e w1 ⟨rfl, rfl⟩
      exact ⟨rfl, rfl, hst⟩
  · intro howe
    rw [own_rename m hk] at howe
    rw [done_rename m hk]
    cases hlo : DD.look m.dir o.name with
    | none => rw [hlo] at howe; simp at howe
    | some f =>
      rw [hlo] at howe
      have hnb : namedB o.to = true := by
        cases hb : namedB o.to
        · rw [hb] at howe; simp at howe
        · rfl
      go_enter Try.func31, Try.ntmps31
      go_wp2_with fail
      refine (find_some h1 hs (by rw [hn]; exact hlo)).mono ?_
      rintro e w1 ⟨rfl, rfl⟩
      go_wp2_with fail
      refine (named_any _ _ hs2).mono ?_
      rintro e w1 ⟨rfl, rfl⟩
      rw [hn2, hnb]
      go_wp2_with fail
      refine (refuse_no _ _).mono ?_
      rintro e w1 ⟨rfl, rfl⟩
      go_wp2_with fail
      go_region
      all_goals
        go_wp2_with fail
        refine (acting_any _ _ _ _ _).mono ?_
        rintro e w1 ⟨rfl, rfl⟩
        go_wp2_with fail
        go_ret
      · have hstW : Stay w (((w.alloc (.cells #[kv, .string s, .string s2, bv] 31)).alloc (.cells #[.string s] 9)).alloc (.cells #[.string s2] 9)) := (hst.alloc _).alloc _
        refine ⟨_, _, _, rfl, ((hstW.alloc _).alloc _).drew, enters_of Try.func72 (by kernel_rfl) rfl, fun w2 hs3 => ?_⟩
        have hW := (h.stay hstW).mono (fun k hk => (.inl hk : Grow O w _ k)) (top_grow h hstW.size)
        refine acting_tail (O0 := O) (w0 := w) hW ⟨1, o.name, o.to, 0⟩ _ _ (.inr (.inl ⟨rfl, w.heap.size + 1, w.heap.size + 1 + 1, s, s2, rfl, ?_, hn, hs, ?_, hn2, hs2, ?_, ?_⟩)) hl hla (fun h0 => by simp at h0) (fun k hk => hk) hstW.size h.top (w.heap.size + 1 + 1 + 1) (by simp) w2 ((Only.refl _ _).drew.trans hs3 (fun _ _ f => f))
        · have := (Blk.new (w.alloc (.cells #[kv, .string s, .string s2, bv] 31)) [.string s] 9).alloc (.cells #[.string s2] 9)
          simpa using this
        · have := Blk.new ((w.alloc (.cells #[kv, .string s, .string s2, bv] 31)).alloc (.cells #[.string s] 9)) [.string s2] 9
          simpa using this
        · exact .inr ⟨by omega, by simp⟩
        · exact .inr ⟨by omega, by simp⟩
      · have hstW : Stay w (((w.alloc (.cells #[kv, .string s, .string s2, bv] 31)).alloc (.cells #[.string s2] 9)).alloc (.cells #[.string s] 9)) := (hst.alloc _).alloc _
        refine ⟨_, _, _, rfl, ((hstW.alloc _).alloc _).drew, enters_of Try.func72 (by kernel_rfl) rfl, fun w2 hs3 => ?_⟩
        have hW := (h.stay hstW).mono (fun k hk => (.inl hk : Grow O w _ k)) (top_grow h hstW.size)
        refine acting_tail (O0 := O) (w0 := w) hW ⟨1, o.name, o.to, 0⟩ _ _ (.inr (.inl ⟨rfl, w.heap.size + 1 + 1, w.heap.size + 1, s, s2, rfl, ?_, hn, hs, ?_, hn2, hs2, ?_, ?_⟩)) hl hla (fun h0 => by simp at h0) (fun k hk => hk) hstW.size h.top (w.heap.size + 1 + 1 + 1) (by simp) w2 ((Only.refl _ _).drew.trans hs3 (fun _ _ f => f))
        · have := Blk.new ((w.alloc (.cells #[kv, .string s, .string s2, bv] 31)).alloc (.cells #[.string s2] 9)) [.string s] 9
          simpa using this
        · have := (Blk.new (w.alloc (.cells #[kv, .string s, .string s2, bv] 31)) [.string s2] 9).alloc (.cells #[.string s] 9)
          simpa using this
        · exact .inr ⟨by omega, by simp⟩
        · exact .inr ⟨by omega, by simp⟩

set_option maxHeartbeats 1600000 in
theorem create_ok (h : DiskAt w c O m) (o : DOp) (hk : o.kind = 0) (hl : m.dir.length < 1000000) (hla : m.acts.length < 1000000) {s : ByteArray} (hs : s.size ≤ maxLen) (hn : s.data.toList = o.name) (kv tv bv : Value) :
    StepOk 28 c O m o (.agg #[kv, .string s, tv, bv]) w := by
  have hmf : ∀ (fn : Fn) (first cap : Array Value) (w : World), (Instr.makeFunc fn first cap).run Try.prog w = .ok (.func fn first cap) w := fun _ _ _ _ => rfl
  have hst : Stay w (w.alloc (.cells #[kv, .string s, tv, bv] 31)) := (Only.refl _ w).alloc _
  have h1 := h.stay hst
  have hr := look_run h1.rest.isM.drew hs
  have o1 : (w.alloc (.cells #[kv, .string s, tv, bv] 31)).cell? ⟨w.heap.size, 1, none⟩ = some (.string s) := (Blk.new w [kv, .string s, tv, bv] 31).cell 1 rfl
  have d7 := h1.cells.cell 7 rfl
  rw [hn] at hr
  constructor
  · intro howe
    rw [own_create m hk] at howe ⊢
    by_cases hnb : namedB o.name = false
    · rw [if_pos hnb]
      go_enter Try.func28, Try.ntmps28
      go_wp2_with fail
      refine (named_any _ _ hs).mono ?_
      rintro e w1 ⟨rfl, rfl⟩
      rw [hn, hnb]
      go_wp2_with fail
      refine (refuse_yes _ _).mono ?_
      rintro e w1 ⟨rfl, rfl⟩
      exact ⟨rfl, rfl, hst⟩
    · have hnt : namedB o.name = true := by simpa using hnb
      rw [if_neg hnb] at howe ⊢
      cases hlo : DD.look m.dir o.name with
      | none => rw [hlo] at howe; simp at howe
      | some f =>
        rw [hlo] at hr
        simp only [ptrOf] at hr
        simp only [Option.isSome_some, if_true]
        go_enter Try.func28, Try.ntmps28
        go_wp2_with fail
        refine (named_any _ _ hs).mono ?_
        rintro e w1 ⟨rfl, rfl⟩
        rw [hn, hnt]
        go_wp2_with fail
        refine (refuse_no _ _).mono ?_
        rintro e w1 ⟨rfl, rfl⟩
        go_wp2_with fail
        go_region_dies
        all_goals
          refine (refuse_yes _ _).mono ?_
          rintro e w1 ⟨rfl, rfl⟩
          exact ⟨rfl, rfl, hst.drew⟩
  · intro howe
    rw [own_create m hk] at howe
    rw [done_create m hk]
    have hnt : namedB o.name = true := by
      cases hb : namedB o.name
      · rw [hb] at howe; simp at howe
      · rfl
    cases hlo : DD.look m.dir o.name with
    | some f => rw [hlo, hnt] at howe; simp at howe
    | none =>
      rw [hlo] at hr
      simp only [ptrOf] at hr
      go_enter Try.func28, Try.ntmps28
      go_wp2_with fail
      refine (named_any _ _ hs).mono ?_
      rintro e w1 ⟨rfl, rfl⟩
      rw [hn, hnt]
      go_wp2_with fail
      refine (refuse_no _ _).mono ?_
      rintro e w1 ⟨rfl, rfl⟩
      go_wp2_with fail
      go_region_held3 (fun w' => w'.cell? ⟨c.d, 7, none⟩ = some (.map (some c.mi)) ∧ w'.cell? ⟨w.heap.size, 1, none⟩ = some (.string s) ∧ (Instr.lookup 55 (.map (some c.mi)) (.string s) false).run Try.prog w' = .ok (.pointer none) w')
        (exact ⟨d7, o1, hr⟩)
        ((go_at_call 50; refine (refuse_no _ _).mono ?_; rintro e w1 ⟨rfl, rfl⟩))
      go_wp2_with fail
      refine (acting_any _ _ _ _ _).mono ?_
      rintro e w1 ⟨rfl, rfl⟩
      go_wp2_with fail
      go_ret
      have hstW : Stay w ((((w.alloc (.cells #[kv, .string s, tv, bv] 31)).alloc (.cells #[.slice none 0 0, .int .i64 0] 87)).alloc (.cells #[.string s] 9)).alloc (.cells #[.pointer (some ⟨w.heap.size + 1, 0, none⟩)] 82)) := ((hst.alloc _).alloc _).alloc _
      refine ⟨_, _, _, rfl, ((hstW.alloc _).alloc _).drew, enters_of Try.func72 (by kernel_rfl) rfl, fun w2 hs3 => ?_⟩
      have hfb : Blk ((((w.alloc (.cells #[kv, .string s, tv, bv] 31)).alloc (.cells #[.slice none 0 0, .int .i64 0] 87)).alloc (.cells #[.string s] 9)).alloc (.cells #[.pointer (some ⟨w.heap.size + 1, 0, none⟩)] 82)) (w.heap.size + 1) [.slice none 0 0, .int .i64 0] 87 := by
        have := ((Blk.new (w.alloc (.cells #[kv, .string s, tv, bv] 31)) [.slice none 0 0, .int .i64 0] 87).alloc (.cells #[.string s] 9)).alloc (.cells #[.pointer (some ⟨w.heap.size + 1, 0, none⟩)] 82)
        simpa using this
      have hW := (h.stay hstW).newFile (w.heap.size + 1) hfb (fun ho => by have := h.top _ ho; omega) (fun k hk => (.inl hk : Grow O w _ k)) (.inr ⟨by omega, by simp⟩) (top_grow h hstW.size)
      refine acting_tail (O0 := O) (w0 := w) hW ⟨0, o.name, [], m.files.length⟩ _ _ (.inl ⟨rfl, w.heap.size + 1 + 1, w.heap.size + 1 + 1 + 1, s, rfl, ?_, hn, hs, ?_, ?_, ?_⟩) hl hla (fun _ => by simp) (fun k hk => hk) hstW.size h.top (w.heap.size + 1 + 1 + 1 + 1) (by simp) w2 ((Only.refl _ _).drew.trans hs3 (fun _ _ f => f))
      · have := (Blk.new ((w.alloc (.cells #[kv, .string s, tv, bv] 31)).alloc (.cells #[.slice none 0 0, .int .i64 0] 87)) [.string s] 9).alloc (.cells #[.pointer (some ⟨w.heap.size + 1, 0, none⟩)] 82)
        simpa using this
      · have := Blk.new (((w.alloc (.cells #[kv, .string s, tv, bv] 31)).alloc (.cells #[.slice none 0 0, .int .i64 0] 87)).alloc (.cells #[.string s] 9)) [.pointer (some ⟨w.heap.size + 1, 0, none⟩)] 82
        have e : (c.blk ++ [w.heap.size + 1]).getD m.files.length 0 = w.heap.size + 1 := by rw [← h.rest.nblk, getD_end]
        simp only [e]
        simpa using this
      · exact .inr ⟨by omega, by simp⟩
      · exact .inr ⟨by omega, by simp⟩
end
end Go.Proofs.Ytfmdnaagdhpcpaa
