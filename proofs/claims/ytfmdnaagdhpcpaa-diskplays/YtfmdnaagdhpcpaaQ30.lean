/-
  Esized, Ecr, Ecr2, Ecr3.
-/
import Derived.Test.YtfmdnaagdhpcpaaQ27
import Derived.SizedLaws
import Derived.Test.YtfmdnaagdhpcpaaQ20
import Derived.Test.YtfmdnaagdhpcpaaQ03
import Derived.Test.YtfmdnaagdhpcpaaQ10

/-
  Acts that came in as data of the sizes that the form allows.
-/
namespace Go.Proofs.Ytfmdnaagdhpcpaa
open Go.RowKit Go.Proofs.Lys Go.Maps Go.Shelf
set_option linter.unusedVariables false

section
variable {H : Type} {enc : TypeId × Value → H} {P : Program} {w : World} {spare : Nat → Bool} {held : Bool} {base fuel : Nat}

theorem weights_all {e : TypeId} : ∀ {l : List (DataW H)} {d : DataW H}, d ∈ l → ∀ n ∈ d.weights P e, n ∈ DataW.weightsAll P e l
  | d0 :: r, d, hd, n, hn => by
    simp only [DataW.weightsAll, List.mem_append]
    rcases List.mem_cons.1 hd with rfl | hd
    · exact .inl hn
    · exact .inr (weights_all hd n hn)
theorem slice_sized {t e : TypeId} {v : Value} {x : DataW H × List MemPlace} (ht : P.underlying t = some (.slice e)) (hb : 1 ≤ P.bytesOf e) (h : DataW.trod enc P w base spare held fuel t [v] = some x) (hz : ∀ n ∈ x.1.weights P t, n ≤ reachBytes) :
    ∀ a l c, v = .slice a l c → l ≤ reachBytes := by
  intro a l c hv
  subst hv
  rcases Deep.open_slice ht h with ⟨hcs, _⟩ | ⟨a', len, cap, m, n, D, Pl, hcs, _, hl, hm, hmm, rfl, hx⟩
  · have := List.head_eq_of_cons_eq hcs
    cases this
    omega
  · have := List.head_eq_of_cons_eq hcs
    cases this
    have hlm : l ≤ m := by rw [hmm]; split <;> omega
    have h1 := hz ((l + (m - l)) * P.bytesOf e) (by simp [DataW.weights, ht])
    have h2 : (l + (m - l)) * 1 ≤ (l + (m - l)) * P.bytesOf e := Nat.mul_le_mul_left _ hb
    omega
theorem string_sized {t : TypeId} {v : Value} {x : DataW H × List MemPlace} (ht : P.underlying t = some .string) (h : DataW.trod enc P w base spare held fuel t [v] = some x) (hz : ∀ n ∈ x.1.weights P t, n ≤ reachBytes) :
    ∀ s, v = .string s → s.size ≤ reachBytes := by
  intro s hv
  subst hv
  obtain ⟨s', e1, rfl, _⟩ := DataW.trod_string ht h
  have := List.head_eq_of_cons_eq e1
  cases this
  have h1 := hz s.data.toList.length (List.mem_singleton.2 rfl)
  have : s.size = s.data.toList.length := (Array.length_toList (xs := s.data)).symm
  omega
theorem struct_sized {t : TypeId} {fs : Array Field} {xs : List (DataW H × List MemPlace)} (ht : P.underlying t = some (.struct fs)) (hz : ∀ n ∈ (DataW.agg (xs.map (·.1)) : DataW H).weights P t, n ≤ reachBytes) {j : Nat} {ty : TypeId} {x : DataW H × List MemPlace} (hj : (fs.toList.map (·.type))[j]? = some ty) (hx : xs[j]? = some x) :
    ∀ n ∈ x.1.weights P ty, n ≤ reachBytes := by
  intro n hn
  refine hz n ?_
  simp only [DataW.weights, ht]
  exact DataW.weights_mem_each hj (by rw [List.getElem?_map, hx]; rfl) n hn
end

section
variable {H : Type} {enc : TypeId × Value → H} {w : World} {spare : Nat → Bool} {held : Bool} {base fuel : Nat}

theorem Try.byteByte : 1 ≤ Try.prog.bytesOf 5 := by decide +kernel
theorem Try.byteInt : 1 ≤ Try.prog.bytesOf 3 := by decide +kernel
theorem Try.byteAct : 1 ≤ Try.prog.bytesOf 34 := by decide +kernel

theorem op_sized {v0 v1 v2 v3 : Value} {x : DataW H × List MemPlace} (h : DataW.trod enc Try.prog w base spare held fuel 31 [v0, v1, v2, v3] = some x) (hz : ∀ n ∈ x.1.weights Try.prog 31, n ≤ reachBytes) :
    (∀ s, v1 = .string s → s.size ≤ reachBytes) ∧ (∀ s, v2 = .string s → s.size ≤ reachBytes) ∧ ∀ a l c, v3 = .slice a l c → l ≤ reachBytes := by
  obtain ⟨xs, m, _, rfl, hlen, hxl, hf⟩ := DataW.trod_struct Try.underlying31 h
  have hxl4 : xs.length = 4 := hxl
  have g1 : DataW.trod enc Try.prog w base spare held m 9 ((([v0, v1, v2, v3] : List Value).drop 1).take (Try.prog.cellsOf 9)) = xs[1]? := hf 1 _ rfl
  have g2 : DataW.trod enc Try.prog w base spare held m 9 ((([v0, v1, v2, v3] : List Value).drop 2).take (Try.prog.cellsOf 9)) = xs[2]? := hf 2 _ rfl
  have g3 : DataW.trod enc Try.prog w base spare held m 29 ((([v0, v1, v2, v3] : List Value).drop 3).take (Try.prog.cellsOf 29)) = xs[3]? := hf 3 _ rfl
  rw [Try.cellsStr, List.getElem?_eq_getElem (by omega)] at g1
  rw [Try.cellsStr, List.getElem?_eq_getElem (by omega)] at g2
  rw [Try.cellsBytes, List.getElem?_eq_getElem (by omega)] at g3
  exact ⟨string_sized (v := v1) Try.underlying9 g1 (struct_sized Try.underlying31 hz (j := 1) rfl (List.getElem?_eq_getElem (by omega))),
    string_sized (v := v2) Try.underlying9 g2 (struct_sized Try.underlying31 hz (j := 2) rfl (List.getElem?_eq_getElem (by omega))),
    slice_sized (v := v3) Try.underlying29 Try.byteByte g3 (struct_sized Try.underlying31 hz (j := 3) rfl (List.getElem?_eq_getElem (by omega)))⟩

theorem src_slice {w : World} {v : Value} {xs : List Value} (h : SrcOf w v xs) : ∃ a c, v = .slice a xs.length c := h.len

theorem open_act2 {cs : List Value} {x : DataW H × List MemPlace}
    (h : DataW.trod enc Try.prog w base spare held fuel 34 cs = some x) (hz : ∀ n ∈ x.1.weights Try.prog 34, n ≤ reachBytes) : ∃ q : CAct, q.ok w ∧ q.small ∧ cs = [.int .i64 q.way, .int .i64 q.num, .int .i64 q.op.k, .string q.op.n, .string q.op.t, q.op.v, q.kv] := by
  obtain ⟨q, hq, rfl⟩ := open_act h
  refine ⟨q, hq, ?_, rfl⟩
  obtain ⟨xs, m, _, rfl, hlen, hxl, hf⟩ := DataW.trod_struct Try.underlying34 h
  have hxl4 : xs.length = 4 := hxl
  have g2 : DataW.trod enc Try.prog w base spare held m 31 ((([.int .i64 q.way, .int .i64 q.num, .int .i64 q.op.k, .string q.op.n, .string q.op.t, q.op.v, q.kv] : List Value).drop 2).take (Try.prog.cellsOf 31)) = xs[2]? := hf 2 _ rfl
  have g3 : DataW.trod enc Try.prog w base spare held m 32 ((([.int .i64 q.way, .int .i64 q.num, .int .i64 q.op.k, .string q.op.n, .string q.op.t, q.op.v, q.kv] : List Value).drop 6).take (Try.prog.cellsOf 32)) = xs[3]? := hf 3 _ rfl
  rw [Try.cellsOp, List.getElem?_eq_getElem (by omega)] at g2
  rw [Try.cellsNums, List.getElem?_eq_getElem (by omega)] at g3
  obtain ⟨s1, s2, s3⟩ := op_sized (v0 := .int .i64 q.op.k) (v1 := .string q.op.n) (v2 := .string q.op.t) (v3 := q.op.v) g2 (struct_sized Try.underlying34 hz (j := 2) rfl (List.getElem?_eq_getElem (by omega)))
  have s4 := slice_sized (v := q.kv) Try.underlying32 Try.byteInt g3 (struct_sized Try.underlying34 hz (j := 3) rfl (List.getElem?_eq_getElem (by omega)))
  obtain ⟨a, c, e⟩ := hq.op.src.len
  obtain ⟨a2, c2, e2, _⟩ := hq.keep.2
  have hr := reachBytes_lt
  have t1 := s1 _ rfl
  have t2 := s2 _ rfl
  have t3 := s3 _ _ _ e
  have t4 := s4 _ _ _ e2
  rw [List.length_map] at t3
  exact ⟨by omega, by omega, by omega, by omega⟩

set_option maxRecDepth 100000 in
theorem open_acts2 {a0 : Option Addr} {len0 cap0 : Nat} {x : DataW H × List MemPlace}
    (h : ∃ m, DataW.trod enc Try.prog w base spare held m 22 (Value.slice a0 len0 cap0).cells.toList = some x) (hz : ∀ n ∈ x.1.weights Try.prog 22, n ≤ reachBytes) : ∃ ps, ActsSrc w (.slice a0 len0 cap0) ps ∧ (∀ a ∈ ps, a.small) ∧ ps.length ≤ 281474976710656 := by
  obtain ⟨fuel, hf⟩ := h
  rcases Deep.open_slice Try.underlying22 hf with ⟨hcs, _⟩ | ⟨a, len, cap, m, n, D, Pl, hcs, _, hl, hm, hmm, rfl, hx⟩
  · simp [Value.cells] at hcs
    obtain ⟨rfl, rfl, rfl⟩ := hcs
    exact ⟨[], .inl ⟨_, _, rfl, rfl⟩, by simp, by simp⟩
  · simp [Value.cells] at hcs
    obtain ⟨rfl, rfl, rfl⟩ := hcs
    have hlm : len0 ≤ m := by rw [hmm]; split <;> omega
    have hr := reachBytes_lt
    have hlen : len0 ≤ reachBytes := by
      have h1 := hz ((len0 + (m - len0)) * Try.prog.bytesOf 34) (by simp [DataW.weights, Try.underlying22])
      have h2 : (len0 + (m - len0)) * 1 ≤ (len0 + (m - len0)) * Try.prog.bytesOf 34 := Nat.mul_le_mul_left _ Try.byteAct
      omega
    have hzi : ∀ i, i < len0 → ∀ n ∈ (D i).weights Try.prog 34, n ≤ reachBytes := fun i hi n hn => by
      refine hz n ?_
      simp only [DataW.weights, Try.underlying22]
      refine List.mem_cons_of_mem _ (List.mem_append_left _ (weights_all (List.mem_map.2 ⟨i, List.mem_range.2 hi, rfl⟩) n hn))
    have each : ∀ i, i < len0 → ∃ q : CAct, w.cell? (a.add (i * 7)) = some (.int .i64 q.way) ∧ w.cell? (a.add (i * 7 + 1)) = some (.int .i64 q.num) ∧ w.cell? (a.add (i * 7 + 2)) = some (.int .i64 q.op.k) ∧ w.cell? (a.add (i * 7 + 3)) = some (.string q.op.n) ∧ w.cell? (a.add (i * 7 + 4)) = some (.string q.op.t) ∧ w.cell? (a.add (i * 7 + 5)) = some q.op.v ∧ w.cell? (a.add (i * 7 + 6)) = some q.kv ∧ q.ok w ∧ q.small := by
      intro i hi
      obtain ⟨cs', h1, h2⟩ := hx i (by omega)
      rw [Try.cellsAct] at h1
      obtain ⟨_, hlen, hcell⟩ := World.cells?_some h1
      obtain ⟨q, hq, hsm, rfl⟩ := open_act2 h2 (hzi i hi)
      have c0 := hcell 0 (by omega)
      have c1 := hcell 1 (by omega)
      have c2 := hcell 2 (by omega)
      have c3 := hcell 3 (by omega)
      have c4 := hcell 4 (by omega)
      have c5 := hcell 5 (by omega)
      have c6 := hcell 6 (by omega)
      rw [Deep.add_add] at c0 c1 c2 c3 c4 c5 c6
      exact ⟨q, by simpa using c0, by simpa using c1, by simpa using c2, by simpa using c3, by simpa using c4, by simpa using c5, by simpa using c6, hq, hsm⟩
    have hinh : Inhabited CAct := ⟨⟨0, 0, ⟨0, ⟨#[]⟩, ⟨#[]⟩, .slice none 0 0, []⟩, .slice none 0 0, []⟩⟩
    obtain ⟨q, hq⟩ := Deep.choose_lt each
    by_cases h0 : len0 = 0
    · subst h0
      exact ⟨[], .inl ⟨_, _, rfl, rfl⟩, by simp, by simp⟩
    · refine ⟨(List.range len0).map q, .inr ⟨by simp; omega, ?_⟩, ?_, by simp; omega⟩
      · obtain ⟨b, o, spot⟩ := a
        have hs : spot = none := by simpa [Addr.add] using World.cell?_spot (hq 0 (by omega)).1
        subst hs
        refine ⟨b, o, cap0, by simp, fun i hi => ?_⟩
        have hi' : i < len0 := by simpa using hi
        have := hq i hi'
        rw [add_none, add_none, add_none, add_none, add_none, add_none, add_none, ← Nat.add_assoc, ← Nat.add_assoc, ← Nat.add_assoc, ← Nat.add_assoc, ← Nat.add_assoc, ← Nat.add_assoc] at this
        obtain ⟨p0, p1, p2, p3, p4, p5, p6, p7, _⟩ := this
        simpa using ⟨p0, p1, p2, p3, p4, p5, p6, p7⟩
      · intro y hy
        obtain ⟨i, hi, rfl⟩ := List.mem_map.1 hy
        exact (hq i (List.mem_range.1 hi)).2.2.2.2.2.2.2.2
end
end Go.Proofs.Ytfmdnaagdhpcpaa

/-
  The document's own disk: a crash, its pieces.
-/
namespace Go.Proofs.Ytfmdnaagdhpcpaa
open Go.RowKit Go.Proofs.Lys Go.Maps Go.Shelf
set_option linter.unusedVariables false

/-- The disk within a crash. -/
structure Cr (w : World) (O : Nat → Prop) (w5 : World) (c5 : RConc) (m5 : DModel) : Prop where
  at5 : RAt w5 c5 (Grow O w w5) m5
  only : Only O w w5
  top : ∀ k, O k → k < w.heap.size

section
variable {w w5 w6 : World} {c c5 c6 : RConc} {O : Nat → Prop} {m m5 m6 : DModel}
theorem Cr.start (h : RAt w c O m) : Cr w O w c m := ⟨h.mono (fun k h => .inl h) (fun k hk => hk.elim (h.top k) (·.2)), Only.refl _ _, h.top⟩
theorem Cr.stay (N : Cr w O w5 c5 m5) (k : Kept w5 w6) : Cr w O w6 c5 m5 :=
  ⟨(N.at5.stay k).mono (fun j hj => hj.elim .inl (fun h => .inr ⟨h.1, Nat.lt_of_lt_of_le h.2 k.size⟩)) (fun j hj => hj.elim (fun h => Nat.lt_of_lt_of_le (Nat.lt_of_lt_of_le (N.top j h) N.only.size) k.size) (·.2)), N.only.trans k (fun _ _ f => f.elim), N.top⟩
theorem Cr.step (N : Cr w O w5 c5 m5) (h6 : RAt w6 c6 (Grow (Grow O w w5) w5 w6) m6) (k6 : Only (Grow O w w5) w5 w6) : Cr w O w6 c6 m6 := by
  have hb := N.only.size
  have hs := k6.size
  refine ⟨h6.mono (fun j hj => ?_) (fun j hj => ?_), N.only.trans k6 (fun j hj e => ?_), N.top⟩
  · rcases hj with (hj | hj) | hj
    · exact .inl hj
    · exact .inr ⟨hj.1, by omega⟩
    · exact .inr ⟨by omega, hj.2⟩
  · rcases hj with hj | hj
    · have := N.top j hj
      omega
    · exact hj.2
  · rcases e with e | e
    · exact e
    · omega

/-- Another sure directory. -/
theorem Cr.sure {v : Value} {dn : DDir} (N : Cr w O w5 c5 m5) (k : Kept w5 w6) (hv : EntAt w6 w5.heap.size v dn) :
    Blk w6 c5.d (RCells c5 m5) 63 ∧ Cr w O (w6.setCell ⟨c5.d, 2, none⟩ v) { c5 with sv := v } { m5 with sure := dn } := by
  have k5 : Only (· = c5.d) w6 (w6.setCell ⟨c5.d, 2, none⟩ v) := (Only.refl (fun x => x = c5.d) w6).setCell (fun _ => rfl) _
  have h := N.at5
  have h6 := h.stay k
  have kt : Only (Grow O w w5) w5 (w6.setCell ⟨c5.d, 2, none⟩ v) := (k.mono (fun _ _ f => f.elim)).trans k5 (fun j _ e => e ▸ h.oD)
  refine ⟨h6.cells, N.step (rat_close (w4 := w6) h6.files h6.fsm h6.bytes h6.lens h6.dir (ownN_base hv (Nat.zero_le _)) h6.acts h6.acm h6.quota h6.dirF h6.cells.typed k5 (h6.cells.set 2 v) (.inl h.oD) (fun k e => .inl (h.oF k e)) (fun p hp k e => .inl (h.oB p hp k e)) (fun k e => .inl (h.oDir k e)) (fun j e => ?_) (fun k e => .inl (h.oAct k e)) (fun j hj => ?_)) kt⟩
  · have := ownN_lt hv e
    exact .inr ⟨this.1, Nat.lt_of_lt_of_le this.2 k5.size⟩
  · rcases hj with hj | hj
    · exact Nat.lt_of_lt_of_le (h.top j hj) kt.size
    · exact hj.2

/-- The acts are gone; the directory is a copy of the sure one. -/
theorem Cr.turn {v : Value} (N : Cr w O w5 c5 m5) (k : Kept (w5.setCell ⟨c5.d, 3, none⟩ (.slice none 0 0)) w6) (hv : EntAt w6 (w5.setCell ⟨c5.d, 3, none⟩ (.slice none 0 0)).heap.size v m5.sure) (hF : ∀ p ∈ m5.sure, p.2 < m5.files.length) :
    Blk w6 c5.d (RCells { c5 with av := .slice none 0 0, ac := [] } { m5 with acts := [] }) 63 ∧ Cr w O (w6.setCell ⟨c5.d, 1, none⟩ v) { c5 with av := .slice none 0 0, ac := [], dv := v } { m5 with acts := [], dir := m5.sure } := by
  have h := N.at5
  have k4 : Only (· = c5.d) w5 (w5.setCell ⟨c5.d, 3, none⟩ (.slice none 0 0)) := (Only.refl (fun x => x = c5.d) w5).setCell (fun _ => rfl) _
  have h4 : Cr w O (w5.setCell ⟨c5.d, 3, none⟩ (.slice none 0 0)) { c5 with av := .slice none 0 0, ac := [] } { m5 with acts := [] } := by
    refine N.step (rat_close (w4 := w5) h.files h.fsm h.bytes h.lens h.dir h.sure ⟨rfl, .inl ⟨rfl, rfl⟩⟩ rfl h.quota h.dirF h.cells.typed k4 (h.cells.set 3 _) (.inl h.oD) (fun k e => .inl (h.oF k e)) (fun p hp k e => .inl (h.oB p hp k e)) (fun k e => .inl (h.oDir k e)) (fun k e => .inl (h.oSure k e)) (fun k e => by cases e) (fun j hj => ?_)) (k4.mono (fun j _ e => e ▸ h.oD))
    rcases hj with hj | hj
    · exact Nat.lt_of_lt_of_le (h.top j hj) k4.size
    · exact hj.2
  have hnew := h4.at5.newDir k hv hF
  exact ⟨(h4.at5.stay k).cells, h4.step hnew.1 hnew.2⟩

/-- A file turns. -/
theorem Cr.file (N : Cr w O w5 c5 m5) {F fg fcap : Nat} {v' : Value} {b' : List UInt8} (hF : F < c5.fs.length) (k : Kept w5 w6) (hv : w6.ownsRow w5.heap.size 5 1 v' b'.length (b'.map bV)) (hl : b'.length ≤ 16777216) (hfv : c5.fv = .slice (some ⟨fg, 0, none⟩) c5.fs.length fcap) :
    Cr w O ((w6.setCell ⟨fg, F * 2, none⟩ v').setCell ⟨fg, F * 2 + 1, none⟩ (.int .i64 (b'.length : Int))) { c5 with fs := c5.fs.set F (v', ⟨b', b'.length⟩) } { m5 with files := m5.files.set F ⟨b', b'.length⟩ } := by
  have N6 := N.stay k
  have h6 := N6.at5
  have k7 : Only (fun k => c5.fv.ownBlock = some k) w6 ((w6.setCell ⟨fg, F * 2, none⟩ v').setCell ⟨fg, F * 2 + 1, none⟩ (.int .i64 (b'.length : Int))) := ((Only.refl (fun k => c5.fv.ownBlock = some k) _).setCell (fun _ => by rw [hfv]; rfl) _).setCell (fun _ => by rw [hfv]; rfl) _
  have kt : Only (Grow O w w6) w6 ((w6.setCell ⟨fg, F * 2, none⟩ v').setCell ⟨fg, F * 2 + 1, none⟩ (.int .i64 (b'.length : Int))) := k7.mono (fun j _ e => h6.oF j e)
  have ne : ∀ {e : TypeId} {k : Nat}, Typed w6 k e → e ≠ 70 → ¬ c5.fv.ownBlock = some k := fun ht hne e => ht.ne (ownN_typed h6.files e) hne rfl
  refine N6.step (h6.setFile hF k7 ?_ (ownN_base (ownN_only hv k7 (fun b e => ne (ownN_typed hv e) (by decide))) (Nat.zero_le _)) ⟨hl, Nat.le_refl _⟩ (fun j hj => .inl hj) (fun j e => ?_) (fun j hj => ?_)) kt
  · have hf2 := h6.files
    rw [hfv] at hf2
    have h1 := (hf2.stored (F * 2) v').1
    have h2 := (h1.stored (F * 2 + 1) (.int .i64 (b'.length : Int))).1
    rw [filL_set _ _ _ _ hF, hfv]
    exact h2
  · have := ownN_lt hv e
    have hb := N.only.size
    exact .inl (.inr ⟨by omega, this.2⟩)
  · rcases hj with hj | hj
    · exact Nat.lt_of_lt_of_le (h6.top j hj) k7.size
    · exact hj.2
end

theorem rem_two (x : Int) : (x.tmod 2 == 0) = !DModel.oddB x := by
  unfold DModel.oddB
  have h1 := Int.tmod_eq_emod_of_nonneg (a := x) (b := 2)
  by_cases h0 : 0 ≤ x
  · rw [h1 h0]
    by_cases h2 : x % 2 = 0 <;> simp [h2]
  · have h3 : (x.tmod 2 = 0) ↔ (x % 2 = 0) := by
      rw [← Int.dvd_iff_tmod_eq_zero, Int.dvd_iff_emod_eq_zero]
    by_cases h2 : x % 2 = 0
    · simp [h2, h3.2 h2]
    · have : ¬ x.tmod 2 = 0 := fun h => h2 (h3.1 h)
      simp [h2, this]
theorem plain_name (a : DAct) : (plainAct a).name = a.name ∧ (plainAct a).to = a.to ∧ (plainAct a).kind = a.kind := by
  unfold plainAct
  split
  · rename_i h
    exact ⟨rfl, rfl, h.symm⟩
  · exact ⟨rfl, rfl, rfl⟩
theorem act_plain (d : DDir) (a : DAct) : DD.act d (plainAct a) = DD.act d a := by
  unfold plainAct
  split
  · rename_i h
    unfold DD.act
    simp [h]
  · rfl
end Go.Proofs.Ytfmdnaagdhpcpaa

/-
  The document's own disk: a crash, the files.
-/
namespace Go.Proofs.Ytfmdnaagdhpcpaa
open Go.RowKit Go.Proofs.Lys Go.Maps Go.Shelf
set_option linter.unusedVariables false

section
variable {w w5 w6 : World} {c5 : RConc} {O : Nat → Prop} {m5 : DModel}
/-- A row of marks turns. -/
theorem Cr.other {b : Nat} (N : Cr w O w5 c5 m5) (k : Only (· = b) w5 w6) (hb : Typed w5 b 4) (hge : w.heap.size ≤ b) : Cr w O w6 c5 m5 := by
  have h := N.at5
  refine ⟨RAt.mono (O := Grow O w w5) { h with
    cells := k.blk h.cells (fun e => h.cells.typed.ne hb (by decide) e)
    files := ownN_only h.files k (fun j hj e => (ownN_typed h.files hj).ne hb (by decide) e)
    bytes := fun p hp => ownN_only (h.bytes p hp) k (fun j hj e => (ownN_typed (h.bytes p hp) hj).ne hb (by decide) e)
    dir := ownN_only h.dir k (fun j hj e => (ownN_typed h.dir hj).ne hb (by decide) e)
    sure := ownN_only h.sure k (fun j hj e => (ownN_typed h.sure hj).ne hb (by decide) e)
    acts := ownN_only h.acts k (fun j hj e => (ownN_typed h.acts hj).ne hb (by decide) e)
    top := fun j hj => Nat.lt_of_lt_of_le (h.top j hj) k.size } (fun j hj => hj.elim .inl (fun h => .inr ⟨h.1, Nat.lt_of_lt_of_le h.2 k.size⟩)) (fun j hj => ?_), N.only.trans k (fun j hj e => by omega), N.top⟩
  rcases hj with hj | hj
  · have := N.top j hj
    have := N.only.size
    have := k.size
    omega
  · exact hj.2
end

theorem turn_skip (bs : List UInt8) (s k : Nat) (h : k < s) : turnTo bs s (k + 1) = turnTo bs s k := by
  unfold turnTo
  apply List.ext_getElem
  · simp
  · intro i h1 h2
    simp
    by_cases e : s ≤ i
    · rw [if_neg (by omega), if_neg (by omega)]
    · rw [if_neg (by omega), if_neg (by omega)]
theorem turn_low (bs : List UInt8) (s k : Nat) (h : k ≤ s) : turnTo bs s k = bs := by
  unfold turnTo
  apply List.ext_getElem
  · simp
  · intro i h1 h2
    simp
    omega
theorem spoil_none (b : List UInt8) (su : Nat) (h : b.length ≤ su) : DModel.spoil b su = b := by
  unfold DModel.spoil
  apply List.ext_getElem
  · simp
  · intro i h1 h2
    simp at h1 ⊢
    omega
theorem made_marks (K : Nat) : (madeCells #[Value.bool false] K).toList = (List.replicate K false).map tV := by
  apply List.ext_getElem?
  intro i
  by_cases h : i < K
  · simp [madeCells, h, tV, Nat.mod_one]
  · rw [List.getElem?_eq_none (by simp [size_madeCells]; omega), List.getElem?_eq_none (by simp; omega)]
theorem rem_two' (x : Int) : (x.tmod 2 != 0) = DModel.oddB x := by
  have := rem_two x
  rw [bne, this, Bool.not_not]
theorem settle_step {F : Nat} {r : List Nat} {fl : List DFile} {l : List Int} {fin : List DFile} (h : DModel.settleAll (F :: r) fl l = fin) : DModel.settleAll r (fl.set F (DModel.settleF (fl.getD F ⟨[], 0⟩) l).1) (DModel.settleF (fl.getD F ⟨[], 0⟩) l).2 = fin := h
theorem settle_same {f : DFile} {l : List Int} (h : f.b.length = f.sure) : DModel.settleF f l = (f, l) := by
  unfold DModel.settleF
  rw [if_pos h]
theorem settle_turn {f : DFile} {l : List Int} (h : f.b.length ≠ f.sure) : DModel.settleF f l = (⟨if DModel.oddB (l.tail.headD 0) then DModel.spoil (f.b.take (f.sure + DModel.stays (l.headD 0) (f.b.length - f.sure))) f.sure else f.b.take (f.sure + DModel.stays (l.headD 0) (f.b.length - f.sure)), (if DModel.oddB (l.tail.headD 0) then DModel.spoil (f.b.take (f.sure + DModel.stays (l.headD 0) (f.b.length - f.sure))) f.sure else f.b.take (f.sure + DModel.stays (l.headD 0) (f.b.length - f.sure))).length⟩, l.tail.tail) := by
  unfold DModel.settleF
  rw [if_neg h]
theorem spoil_len (b : List UInt8) (su : Nat) : (DModel.spoil b su).length = b.length := by simp [DModel.spoil]
theorem set_getD (l : List DFile) (i : Nat) : l.set i (l.getD i ⟨[], 0⟩) = l := by
  apply List.ext_getElem?
  intro j
  rw [List.getElem?_set]
  split
  · rename_i e
    subst e
    split
    · rename_i h
      rw [List.getD_eq_getElem?_getD, List.getElem?_eq_getElem h]
      rfl
    · rename_i h
      rw [List.getElem?_eq_none (by omega)]
  · rfl
end Go.Proofs.Ytfmdnaagdhpcpaa

/-
  The document's own disk: a crash, one file that turns.
-/
namespace Go.Proofs.Ytfmdnaagdhpcpaa
open Go.RowKit Go.Proofs.Lys Go.Maps Go.Shelf
set_option linter.unusedVariables false

/-- The world where the file is marked and its copy lies. -/
abbrev crW (wr : World) (db F : Nat) (fa : Option Addr) (L fk su : Nat) : World := (wr.setCell ⟨db, F, none⟩ (.bool true)).alloc (.cells #[.slice fa L fk, .int .i64 (su : Int)] 70)

section
variable {w wr : World} {c5 : RConc} {O : Nat → Prop} {m5 : DModel} {F L su fk db NF : Nat} {fa : Option Addr} {FB : List UInt8} {dn : List Bool}
theorem cr_cut (N : Cr w O wr c5 m5) (zo : wr.ownsRow 0 5 1 (.slice fa L fk) L (FB.map bV)) (row : wr.ownsRow db 4 1 (.slice (some ⟨db, 0, none⟩) NF NF) NF (dn.map tV)) (hdb : w.heap.size ≤ db) (hL : L ≤ 16777216) (hL0 : 0 < L) (Q : Nat) (hQ : Q ≤ L) :
    ∃ fx ra rcap w4, fa = some ⟨fx, 0, none⟩ ∧ (∀ W, (Instr.sliceAt 29 (.slice fa L fk) none (some (.int .i64 (Q : Int))) none).run Try.prog W = .ok (.slice fa Q fk) W) ∧
      Hid ((Builtin.append_ #[29, 29] 0 #[.slice none 0 0, .slice fa Q fk]).run Try.prog (crW wr db F fa L fk su) = .ok (.slice ra Q rcap) w4) ∧ w4.ownsRow (crW wr db F fa L fk su).heap.size 5 1 (.slice ra Q rcap) Q ((FB.take Q).map bV) ∧ Kept (crW wr db F fa L fk su) w4 ∧
      Cr w O (crW wr db F fa L fk su) c5 m5 ∧ (crW wr db F fa L fk su).ownsRow db 4 1 (.slice (some ⟨db, 0, none⟩) NF NF) NF ((dn.set F true).map tV) ∧ Blk (crW wr db F fa L fk su) wr.heap.size [.slice fa L fk, .int .i64 (su : Int)] 70 := by
  have kdb : Only (· = db) wr (wr.setCell ⟨db, F, none⟩ (.bool true)) := (Only.refl (fun x => x = db) wr).setCell (fun _ => rfl) _
  have ka : Kept (wr.setCell ⟨db, F, none⟩ (.bool true)) (crW wr db F fa L fk su) := (Only.refl (fun _ => False) _).alloc _
  have hty : Typed wr db 4 := ownN_typed row rfl
  have N2 := (N.other kdb hty hdb).stay ka
  have hlen := own_len zo
  rw [List.length_map] at hlen
  obtain ⟨fx, fk', e⟩ := own_some zo hL0
  cases e
  have hcap : L ≤ fk ∧ fk ≠ 0 := by
    obtain ⟨_, ⟨h1, _⟩ | ⟨g', cap', cur, hv, hb, hg, hn, _⟩⟩ := zo
    · cases h1
    · cases hv
      exact ⟨hn, by omega⟩
  have zo2 := ownN_stay (ownN_only zo kdb (fun j hj e => (ownN_typed zo hj).ne hty (by decide) e)) ka
  have hsrc : SrcOf (crW wr db F (some ⟨fx, 0, none⟩) L fk su) (.slice (some ⟨fx, 0, none⟩) (FB.take Q).length fk) ((FB.take Q).map bV) := by
    refine .inr ⟨⟨fx, 0, none⟩, fk, by rw [List.length_map], fun j u hu => ?_⟩
    have hj := (List.getElem?_eq_some_iff.1 hu).1
    rw [List.length_map, List.length_take] at hj
    rw [add_none, Nat.zero_add, zo2.cellAt j (by omega)]
    rw [List.map_take, List.getElem?_take, if_pos (by omega)] at hu
    exact hu
  have htl : (FB.take Q).length = Q := by rw [List.length_take]; omega
  obtain ⟨ra, rcap, w4, R, o4, k4⟩ := byte_copy hsrc (by rw [htl]; omega)
  rw [htl] at R o4
  refine ⟨fx, ra, rcap, w4, rfl, fun W => slice_to fx L fk Q _ rfl (by omega) hcap.2 W, R, o4, k4, N2, ?_, ?_⟩
  · have h1 := (row.stored F (.bool true)).1
    have e : (dn.map tV).set F (.bool true) = (dn.set F true).map tV := by rw [List.map_set]; rfl
    rw [e] at h1
    exact ownN_stay h1 ka
  · have := Blk.new (wr.setCell ⟨db, F, none⟩ (.bool true)) [.slice (some ⟨fx, 0, none⟩) L fk, .int .i64 (su : Int)] 70
    have e : (wr.setCell ⟨db, F, none⟩ (.bool true)).heap.size = wr.heap.size := by simp
    rw [e] at this
    exact this

/-- What lies there when the file is stored, and behind it. -/
theorem cr_put {W2 w5 : World} {fg fcap Q : Nat} {v' : Value} {b' : List UInt8} (N2 : Cr w O W2 c5 m5) (hF : F < c5.fs.length) (hfv : c5.fv = .slice (some ⟨fg, 0, none⟩) c5.fs.length fcap) (hrow : W2.ownsRow db 4 1 (.slice (some ⟨db, 0, none⟩) NF NF) NF (dn.map tV)) (k : Kept W2 w5) (hv : w5.ownsRow W2.heap.size 5 1 v' Q (b'.map bV)) (hl : Q ≤ 16777216) :
    Blk w5 c5.d (RCells c5 m5) 63 ∧ (∃ u, w5.cell? ⟨fg, F * 2, none⟩ = some u) ∧ (∃ u, w5.cell? ⟨fg, F * 2 + 1, none⟩ = some u) ∧ w5.frozen? ⟨fg, F * 2, none⟩ = false ∧ w5.frozen? ⟨fg, F * 2 + 1, none⟩ = false ∧
    Cr w O ((w5.setCell ⟨fg, F * 2, none⟩ v').setCell ⟨fg, F * 2 + 1, none⟩ (.int .i64 (Q : Int))) { c5 with fs := c5.fs.set F (v', ⟨b', b'.length⟩) } { m5 with files := m5.files.set F ⟨b', b'.length⟩ } ∧
    ((w5.setCell ⟨fg, F * 2, none⟩ v').setCell ⟨fg, F * 2 + 1, none⟩ (.int .i64 (Q : Int))).ownsRow db 4 1 (.slice (some ⟨db, 0, none⟩) NF NF) NF (dn.map tV) := by
  have hlen := own_len hv
  rw [List.length_map] at hlen
  subst hlen
  have h5 := (N2.stay k).at5
  have hfil := h5.files
  rw [hfv] at hfil
  obtain ⟨t0, t1⟩ := filL_at c5.fs F hF
  have k7 : Only (· = fg) w5 ((w5.setCell ⟨fg, F * 2, none⟩ v').setCell ⟨fg, F * 2 + 1, none⟩ (.int .i64 (b'.length : Int))) := ((Only.refl (fun x => x = fg) _).setCell (fun _ => rfl) _).setCell (fun _ => rfl) _
  have hr5 := ownN_stay hrow k
  refine ⟨h5.cells, ⟨_, (hfil.cellAt (F * 2) (by omega)).trans t0⟩, ⟨_, (hfil.cellAt (F * 2 + 1) (by omega)).trans t1⟩, hfil.frozenAt _, hfil.frozenAt _, N2.file hF k hv hl hfv, ownN_only hr5 k7 (fun j hj e => ?_)⟩
  subst e
  exact (ownN_typed hr5 hj).ne (ownN_typed hfil rfl) (by decide) rfl
end
end Go.Proofs.Ytfmdnaagdhpcpaa
