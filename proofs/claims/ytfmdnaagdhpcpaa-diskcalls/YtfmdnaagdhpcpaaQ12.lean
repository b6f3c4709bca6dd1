/-
  Dcrash, Dnew.
-/
import Derived.Test.YtfmdnaagdhpcpaaQ11

/-
  Crash: what is kept of the acts, then file by file; and a disk that comes up for the first time.
-/
namespace Go.Proofs.Ytfmdnaagdhpcpaa
open Go.RowKit Go.Proofs.Lys Go.Maps Go.Shelf
open Go.WideElems (Fit rd rg pl rd_val elemAt rg_of rd_key)
set_option linter.unusedVariables false

theorem key_size {w : World} {b n : Nat} {blk : List Nat} {l : DDir} (h : w.ownsMap Try.prog 9 ptrE b n (dirD blk l)) {p : List UInt8 × Nat} (hp : p ∈ l) : p.1.length ≤ maxLen := by
  obtain ⟨es, clock, e, F, hs, hD⟩ := h
  unfold dirD at hD
  have hD' := DataW.map.inj hD
  have hm : entD blk p ∈ l.map (entD blk) := List.mem_map_of_mem hp
  rw [hD'] at hm
  obtain ⟨x, hx, hxe⟩ := List.mem_map.1 (Go.mem_sorted.1 hm)
  obtain ⟨y, hy⟩ := F.reads x hx
  rw [rg_of hy] at hxe
  have hk := rd_key hy
  have e1 : y.1 = Lit.string p.1 := by
    have := congrArg Prod.fst hxe
    simpa [entD] using this
  rw [e1] at hk
  simp only [keyOf, mapKey, Try.underlying9] at hk
  cases hkey : x.key <;> rw [hkey] at hk <;> simp at hk
  rename_i sx
  have h2 := hk.2
  have h3 := congrArg List.length h2
  have h4 : sx.data.toList.length = sx.size := by simp
  omega

theorem look_rising : ∀ {l : DDir}, l.Pairwise (fun a b => bytesBefore a.1 b.1 = true) → ∀ {p : List UInt8 × Nat}, p ∈ l → DD.look l p.1 = some p.2
  | [], _, p, hp => by simp at hp
  | q :: t, hr, p, hp => by
    unfold DD.look
    rcases List.mem_cons.1 hp with rfl | hp
    · simp
    · have hlt := (List.pairwise_cons.1 hr).1 p hp
      have hne : (q.1 == p.1) = false := by
        rw [beq_eq_false_iff_ne]
        intro e
        rw [e, WideAt.bytes_irrefl] at hlt
        cases hlt
      rw [List.find?_cons_of_neg (by simp [hne])]
      exact look_rising (List.pairwise_cons.1 hr).2 hp
/-- A name of a directory leads to its file. -/
theorem look_self {w : World} {b n : Nat} {blk : List Nat} {l : DDir} (h : w.ownsMap Try.prog 9 ptrE b n (dirD blk l)) {p : List UInt8 × Nat} (hp : p ∈ l) : DD.look l p.1 = some p.2 := by
  have hr := dir_rising h
  rw [List.pairwise_map] at hr
  exact look_rising hr hp

/-- What tells file by file what a crash leaves. -/
def settleSt (fs : List DFile × List Int) (i : Nat) : List DFile × List Int := (fs.1.set i (DModel.settleF (fs.1.getD i ⟨[], 0⟩) fs.2).1, (DModel.settleF (fs.1.getD i ⟨[], 0⟩) fs.2).2)
theorem settle_fold : ∀ (ids : List Nat) (fs : List DFile) (l : List Int), DModel.settleAll ids fs l = (ids.foldl settleSt (fs, l)).1
  | [], _, _ => rfl
  | i :: r, fs, l => settle_fold r _ _
theorem settle_len : ∀ (ids : List Nat) (fs : List DFile × List Int), (ids.foldl settleSt fs).1.length = fs.1.length
  | [], _ => rfl
  | i :: r, fs => by
    rw [List.foldl_cons, settle_len r]
    simp [settleSt]
theorem settle_take (ids : List Nat) (fs : List DFile × List Int) (k : Nat) (h : k < ids.length) : (ids.take (k + 1)).foldl settleSt fs = settleSt ((ids.take k).foldl settleSt fs) ids[k] := by
  rw [List.take_succ_eq_append_getElem h, List.foldl_append]
  rfl

theorem keep_range {N : Nat} : ∀ (ac : List DAct) (l : List Int) (d : DDir), (∀ p ∈ d, p.2 < N) → (∀ a ∈ ac, a.kind = 0 → a.file < N) → ∀ p ∈ (DModel.keepActs ac l d).1, p.2 < N
  | [], l, d, hd, _ => hd
  | a :: r, l, d, hd, ha => by
    unfold DModel.keepActs
    refine keep_range r _ _ ?_ (fun b hb => ha b (List.mem_cons_of_mem _ hb))
    split
    · exact act_range hd (ha a (List.mem_cons_self ..))
    · exact hd

theorem IntsAt.maps {w : World} {O : Nat → Prop} {v : Value} {l : List Int} (h : IntsAt w O v l) {mi ms n1 n2 : Nat} {D1 D2 : DataW Unit} (h1 : w.ownsMap Try.prog 9 ptrE mi n1 D1) (h2 : w.ownsMap Try.prog 9 ptrE ms n2 D2) :
    IntsAt w (fun k => O k ∨ k = mi ∨ k = ms) v l := by
  obtain ⟨a, cap, rfl, hc, hx⟩ := h
  refine ⟨a, cap, rfl, hc, fun hne => ?_⟩
  obtain ⟨b, o, e, hno, hcell⟩ := hx hne
  have no : ∀ q nq (Dq : DataW Unit), w.ownsMap Try.prog 9 ptrE q nq Dq → b ≠ q := by
    rintro q nq Dq hq rfl
    cases l with
    | nil => exact hne rfl
    | cons x r =>
      have h0 := hcell 0 x rfl
      obtain ⟨es, ck, e, _⟩ := hq
      simp [World.cell?, e] at h0
  refine ⟨b, o, e, ?_, hcell⟩
  rintro (h | h | h)
  · exact hno h
  · exact no _ _ _ h1 h
  · exact no _ _ _ h2 h
theorem NumsAt.maps {w : World} {O : Nat → Prop} {nb : Nat} {l : List Int} (h : NumsAt w O nb l) {mi ms n1 n2 : Nat} {D1 D2 : DataW Unit} (h1 : w.ownsMap Try.prog 9 ptrE mi n1 D1) (h2 : w.ownsMap Try.prog 9 ptrE ms n2 D2) :
    NumsAt w (fun k => O k ∨ k = mi ∨ k = ms) nb l := by
  obtain ⟨v, hb, hi⟩ := h
  exact ⟨v, hb, hi.maps h1 h2⟩

/-- What a crash asks of a disk: it need not have come up. -/
structure Half (w : World) (c : Conc) (O : Nat → Prop) (m : DModel) (on fl al : Bool) (iv sv : Value) : Prop where
  cells : Blk w c.d (sCells m.quota m.steps on fl c.fw al c.aw iv sv c.pv) 58
  isV : iv = .map none ∨ ∃ b, iv = .map (some b)
  sureV : SureAt w c.blk sv m.sure
  nblk : c.blk.length = m.files.length
  nbv : c.bv.length = m.files.length
  nodup : c.blk.Nodup
  file : ∀ i, i < m.files.length → Blk w (c.blk.getD i 0) [c.bs i, .int .i64 ((m.fileAt i).sure : Int)] 87
  bytes : ∀ i, i < m.files.length → w.ownsRow 0 5 1 (c.bs i) (m.fileAt i).b.length ((m.fileAt i).b.map byteV)
  lens : ∀ i, i < m.files.length → (m.fileAt i).b.length ≤ 16777216 ∧ (m.fileAt i).sure ≤ (m.fileAt i).b.length
  sole : ∀ i j k, i < m.files.length → j < m.files.length → (c.bs i).ownBlock = some k → (c.bs j).ownBlock = some k → i = j
  pend : w.ownsRow 0 95 1 c.pv m.acts.length c.pl
  act : ∀ i a, m.acts[i]? = some a → ActAt w O c.blk (c.pl.getD i .nilFunc) a
  sureF : ∀ p ∈ m.sure, p.2 < m.files.length
  actF : ∀ a ∈ m.acts, a.kind = 0 → a.file < m.files.length
  oD : O c.d
  oBlk : ∀ i, i < m.files.length → O (c.blk.getD i 0)
  oBs : ∀ i k, i < m.files.length → (c.bs i).ownBlock = some k → O k
  top : ∀ k, O k → k < w.heap.size
  quota : m.quota ≤ 67108864

theorem DiskAt.half {w : World} {c : Conc} {O : Nat → Prop} {m : DModel} (h : DiskAt w c O m) : Half w c O m (!m.off) m.fuse.isSome m.fault.isSome (.map (some c.mi)) (.map (some c.ms)) :=
  ⟨h.cells, .inr ⟨_, rfl⟩, .inr ⟨_, rfl, h.rest.sureM⟩, h.rest.nblk, h.rest.nbv, h.rest.nodup, h.rest.file, h.rest.bytes, h.rest.lens, h.rest.sole, h.rest.pend, h.rest.act, h.rest.sureF, h.rest.actF, h.oD, h.rest.oBlk, h.rest.oBs, h.top, h.quota⟩

section
variable {w : World} {c : Conc} {O : Nat → Prop} {m : DModel} {on fl al : Bool} {iv sv : Value}

/-- Behind settle the disk is up. -/
theorem half_up {w1 w2 : World} {keep : List Int} {nb mi ms : Nat} (h : Half w c O m on fl al iv sv) (hk1 : Only (fun x => x = c.d) w w1) (hk2 : Only (fun x => x = c.d ∨ x = nb) w1 w2) (hnb : w.heap.size ≤ nb) (hmi : w.heap.size ≤ mi) (hms : w.heap.size ≤ ms) (hne : mi ≠ ms)
    (h1 : w2.ownsMap Try.prog 9 ptrE mi (DModel.keepActs m.acts keep m.sure).1.length (dirD c.blk (DModel.keepActs m.acts keep m.sure).1))
    (h2 : w2.ownsMap Try.prog 9 ptrE ms (DModel.keepActs m.acts keep m.sure).1.length (dirD c.blk (DModel.keepActs m.acts keep m.sure).1))
    (hD : Blk w2 c.d (sCells m.quota m.steps true false 0 false 0 (.map (some mi)) (.map (some ms)) (.slice none 0 0)) 58) :
    DiskAt w2 { c with mi := mi, ms := ms, pv := .slice none 0 0, pl := [], fw := 0, aw := 0 } (fun k => O k ∨ k = mi ∨ k = ms)
      { m with off := false, fuse := none, fault := none, dir := (DModel.keepActs m.acts keep m.sure).1, sure := (DModel.keepActs m.acts keep m.sure).1, acts := [] } := by
  have hs := Nat.le_trans hk1.size hk2.size
  have st : ∀ k, O k → k ≠ c.d → w2.heap[k]? = w.heap[k]? := fun k ho hd => by
    have hlt := h.top k ho
    rw [hk2.block k (Nat.lt_of_lt_of_le hlt hk1.size) (fun e => by rcases e with e | e; exact hd e; omega), hk1.block k hlt hd]
  have hT := h.cells.typed
  have kr := keep_range (N := m.files.length) m.acts keep m.sure h.sureF h.actF
  refine { cells := hD, fuse := fun n e => (by cases e), fault := fun n e => (by cases e), oD := .inl h.oD, top := ?_, quota := h.quota, rest := ?_ }
  · rintro k (ho | rfl | rfl)
    · exact Nat.lt_of_lt_of_le (h.top k ho) hs
    · exact h1.lt
    · exact h2.lt
  · exact { isM := h1, sureM := h2, apart := hne, nblk := h.nblk, nbv := h.nbv, nodup := h.nodup,
            file := fun i hi => (h.file i hi).of_block (st _ (h.oBlk i hi) ((h.file i hi).typed.ne hT (by decide))),
            bytes := fun i hi => row_block (h.bytes i hi) (fun k e => st _ (h.oBs i k hi e) ((row_typed (h.bytes i hi) e).ne hT (by decide))),
            lens := h.lens, sole := h.sole, pend := World.ownsRow_nil _ _ _ _, act := fun i a e => (by simp at e), dirF := kr, sureF := kr, actF := fun a ha => (by simp at ha), synced := rfl,
            oMi := .inr (.inl rfl), oMs := .inr (.inr rfl), oBlk := fun i hi => .inl (h.oBlk i hi), oBs := fun i k hi e => .inl (h.oBs i k hi e), oPv := fun k e => (by cases e) }

set_option maxRecDepth 100000 in
set_option maxHeartbeats 1600000 in
theorem crash_half (h : Half w c O m on fl al iv sv) {kv : Value} {keep : List Int} (hI : IntsAt w O kv keep) (hsm : m.sure.length + m.acts.length < 1000000) :
    Calls Try.prog 17 #[.pointer (some ⟨c.d, 0, none⟩), kv] w fun e w' => e = .returned (.tuple #[]) ∧ Only O w w' ∧ ∃ c', c'.d = c.d ∧ DiskAt w' c' (Grow O w w') (m.crash keep) := by
  obtain ⟨ka, kc, rfl, hkc, hkx⟩ := hI
  have hdl := h.cells.lt
  have h0 : ∀ k, O k → k ≠ w.heap.size := fun k ho e => by have := h.top k ho; omega
  go_enter Try.func17, Try.ntmps17
  go_wp2_with fail
  refine (taking_any ka keep.length kc w).mono ?_
  rintro e w1 ⟨rfl, hw1⟩
  have hk1 : Stay w w1 := by rw [hw1]; exact (Only.refl _ w).alloc _
  have hN1 : NumsAt w1 O w.heap.size keep := by
    rw [hw1]
    refine ⟨_, Blk.new w [.slice ka keep.length kc] 32, ka, kc, rfl, hkc, fun hne => ?_⟩
    obtain ⟨b, o, e, hno, hcell⟩ := hkx hne
    refine ⟨b, o, e, hno, fun i x hi => ?_⟩
    have h1 := hcell i x hi
    rw [World.cell?_alloc_past _ _ _ (World.block_lt_of_cell? w _ h1)]
    exact h1
  have hsz1 : w1.heap.size = w.heap.size + 1 := by rw [hw1]; simp
  clear hw1
  have hB1 := hk1.blk h.cells (fun f => f)
  have c2 := hB1.cell 2 rfl
  have c3 := hB1.cell 3 rfl
  have c4 := hB1.cell 4 rfl
  have c5 := hB1.cell 5 rfl
  have c6 := hB1.cell 6 rfl
  have cf := hB1.frozen
  go_wp2_with fail
  generalize hW : ((((w1.setCell ⟨c.d, 2, none⟩ (.bool true)).setCell ⟨c.d, 3, none⟩ (.bool false)).setCell ⟨c.d, 4, none⟩ (.int .i64 0)).setCell ⟨c.d, 5, none⟩ (.bool false)).setCell ⟨c.d, 6, none⟩ (.int .i64 0) = w2
  have hk12 : Only (fun x => x = c.d) w1 w2 := by
    rw [← hW]
    exact (((((Only.refl (fun x => x = c.d) w1).setCell (fun _ => rfl) _).setCell (fun _ => rfl) _).setCell (fun _ => rfl) _).setCell (fun _ => rfl) _).setCell (fun _ => rfl) _
  have hB2 : Blk w2 c.d (sCells m.quota m.steps true false 0 false 0 iv sv c.pv) 58 := by
    rw [← hW]
    exact ((((hB1.set 2 _).set 3 _).set 4 _).set 5 _).set 6 _
  clear hW c2 c3 c4 c5 c6 cf
  have hk02 : Only (fun x => x = c.d) w w2 := (hk1.mono (fun _ _ f => f.elim)).trans hk12 (fun _ _ e => e)
  have hT := h.cells.typed
  have st : ∀ k, k < w.heap.size → k ≠ c.d → w2.heap[k]? = w.heap[k]? := fun k hlt hd => hk02.block k hlt hd
  have hS2 : SureAt w2 c.blk sv m.sure := by
    rcases h.sureV with e | ⟨b, e, hb⟩
    · exact .inl e
    · exact .inr ⟨b, e, map_block hb (st b hb.lt (fun e => hT.ne_map hb e.symm))⟩
  have hP2 : w2.ownsRow 0 95 1 c.pv m.acts.length c.pl := row_block h.pend (fun k e => st k (h.pend.lt k e).2 ((row_typed h.pend e).ne hT (by decide)))
  have hA2 : ∀ i a, m.acts[i]? = some a → ActAt w2 O c.blk (c.pl.getD i .nilFunc) a := fun i a e => (h.act i a e).kept hT (fun k ho hd => st k (h.top k ho) hd)
  have hN2 : NumsAt w2 O w.heap.size keep := hN1.only hk12 (by omega) (fun j _ e => e ▸ h.oD)
  have hset := Hid.mk (settle_core hB2 h.isV hS2 hP2 hA2 hN2 (fun ho => h0 _ ho rfl) h.oD hsm (fun k ho => Nat.lt_of_lt_of_le (h.top k ho) hk02.size))
  clear hS2 hP2 hA2 hN2 hB2 hB1 hN1 st
  refine hset.out.mono ?_
  rintro e w3 ⟨rfl, mi, ms, hmi, hms, hne, hm1, hm2, hD3, hN3, hk3⟩
  clear hset
  have hsz2 := hk02.size
  have hs12 := hk12.size
  have hmi' : w.heap.size < mi := by omega
  have hms' : w.heap.size < ms := by omega
  have hU := half_up h hk02 hk3 (Nat.le_refl _) (by omega) (by omega) hne hm1 hm2 hD3
  have hNU := hN3.maps hm1 hm2
  have hkl := len_keep m.acts keep m.sure
  generalize hK : DModel.keepActs m.acts keep m.sure = K at *
  obtain ⟨kd, kn⟩ := K
  simp only at *
  obtain ⟨mm, hmm⟩ : ∃ mm : DModel, mm = { m with off := false, fuse := none, fault := none, dir := kd, sure := kd, acts := [] } := ⟨_, rfl⟩
  obtain ⟨cc, hcc⟩ : ∃ cc : Conc, cc = { c with mi := mi, ms := ms, pv := .slice none 0 0, pl := [], fw := 0, aw := 0 } := ⟨_, rfl⟩
  rw [← hmm, ← hcc] at hU
  have e1 : mm.dir = kd := by rw [hmm]
  have e2 : mm.files = m.files := by rw [hmm]
  have e3 : mm.list = kd.map (·.1) := by rw [hmm]; rfl
  have e4 : cc.d = c.d := by rw [hcc]
  have e5 : cc.blk = c.blk := by rw [hcc]
  have e6 : cc.mi = mi := by rw [hcc]
  have hfin : Hid (m.crash keep = { mm with files := ((kd.map (·.2)).foldl settleSt (m.files, kn)).1 }) := by
    show _ = _
    rw [hmm]
    unfold DModel.crash
    simp only [hK, settle_fold]
  have hlist := list_any hU (by rw [e1]; omega)
  rw [e3, e4, List.length_map] at hlist
  have HL := Hid.mk hlist
  have HU := Hid.mk hU
  have HN := Hid.mk hNU
  have hO2 : ∀ k, (O k ∨ k = mi ∨ k = ms) → k < w3.heap.size := fun k ho => hU.top k ho
  have HO2 := Hid.mk hO2
  have hnb : ¬ (O w.heap.size ∨ w.heap.size = mi ∨ w.heap.size = ms) := by
    rintro (e | e | e)
    · exact h0 _ e rfl
    · omega
    · omega
  have Hnb := Hid.mk hnb
  have HK2 : Hid (Only (fun x => x = c.d ∨ x = w.heap.size) w w3) := (hk02.mono (O' := fun x => x = c.d ∨ x = w.heap.size) (fun _ _ e => .inl e)).trans hk3 (fun _ _ e => e)
  have Hmi : Hid (w.heap.size < mi ∧ w.heap.size < ms) := ⟨by omega, by omega⟩
  have HH := Hid.mk h
  have He1 := Hid.mk e1
  have He2 := Hid.mk e2
  have He4 := Hid.mk e4
  have He5 := Hid.mk e5
  have He6 := Hid.mk e6
  clear hlist hU hNU hO2 hnb h hmm hcc hK hN3 hD3 hm1 hm2 hk3 hk12 hk1 hk02 e1 e2 e3 e4 e5 e6 hkx hT h0
  go_wp2_with fail
  refine HL.out.mono ?_
  rintro e w4 ⟨v, rfl, hrow, _, hk4⟩
  clear HL
  obtain ⟨va, vc, rfl⟩ := own_slice hrow
  have HR := Hid.mk hrow
  have HK4 := Hid.mk hk4
  have hk4s := hk4.size
  clear hrow hk4
  generalize hn : kd.length = n at *
  have Hn := Hid.mk hn
  clear hn
  go_wp2_with fail
  go_loopw [26] (fun i wr => ∃ (k : Nat) (bv : List Value), k ≤ n ∧ i = .int .i64 (k : Int) ∧ DiskAt wr { cc with bv := bv } (fun x => O x ∨ x = mi ∨ x = ms) { mm with files := (((kd.map (·.2)).take k).foldl settleSt (m.files, kn)).1 } ∧ NumsAt wr (fun x => O x ∨ x = mi ∨ x = ms) w.heap.size (((kd.map (·.2)).take k).foldl settleSt (m.files, kn)).2 ∧
      Only (fun x => (O x ∨ x = mi ∨ x = ms) ∨ x = w.heap.size) w4 wr) (fun i _ => n - (intOf i).toNat)
  case atStart =>
    have hU4 := HU.out.stay HK4.out
    refine ⟨0, cc.bv, by omega, rfl, ?_, HN.out.only HK4.out (fun f => f) (fun _ _ f => f.elim), Only.refl _ _⟩
    have : ({ mm with files := (((kd.map (·.2)).take 0).foldl settleSt (m.files, kn)).1 } : DModel) = mm := by
      rw [List.take_zero, List.foldl_nil]
      simp only
      rw [← He2.out]
    rw [this]
    exact hU4
  case round =>
    obtain ⟨k, bv, hk, rfl, hDk, hNk, hok⟩ := hrel
    by_cases hlt : k < n
    · have hkl2 : k < kd.length := by rw [Hn.out]; exact hlt
      obtain ⟨p, hp⟩ : ∃ p, kd[k] = p := ⟨_, rfl⟩
      have hpm : p ∈ kd := by rw [← hp]; exact List.getElem_mem _
      have hR4 : wr.ownsRow w3.heap.size 9 1 (.slice va n vc) n ((kd.map (·.1)).map encStr) := own_only HR.out hok (fun b hb ho => by
        have h1 := (HR.out.lt b hb).1
        rcases ho with ho | ho
        · have := HO2.out b ho
          omega
        · have := Hmi.out.1
          have := HO2.out mi (.inr (.inl rfl))
          omega)
      obtain ⟨g, cap, hg⟩ := own_some hR4 (by omega)
      cases hg
      have hcell : wr.cell? ⟨g, k, none⟩ = some (.string ⟨p.1.toArray⟩) := by
        rw [hR4.cellAt k (by omega), List.getElem?_map, List.getElem?_map, List.getElem?_eq_getElem hkl2, hp]
        rfl
      have hks : (⟨p.1.toArray⟩ : ByteArray).size ≤ maxLen := by
        have hM := HU.out.rest.isM
        rw [He1.out] at hM
        exact key_size hM hpm
      have hM : wr.ownsMap Try.prog 9 ptrE cc.mi kd.length (dirD cc.blk kd) := by
        rw [← He1.out]
        exact hDk.rest.isM
      have hlook : DD.look kd p.1 = some p.2 := look_self hM hpm
      have hrun := look_run hM hks
      rw [show (⟨p.1.toArray⟩ : ByteArray).data.toList = p.1 from rfl, hlook] at hrun
      simp only [ptrOf] at hrun
      have hfl : p.2 < m.files.length := by
        have := HU.out.rest.dirF p (by rw [He1.out]; exact hpm)
        rw [He2.out] at this
        exact this
      have hset := fset_any hDk (i := p.2) (by rw [settle_len]; exact hfl) hNk Hnb.out
      have hstep : Hid (((kd.map (·.2)).take (k + 1)).foldl settleSt (m.files, kn) = settleSt (((kd.map (·.2)).take k).foldl settleSt (m.files, kn)) p.2) := by
        show _ = _
        rw [settle_take _ _ k (by rw [List.length_map]; exact hkl2)]
        congr 1
        rw [List.getElem_map, hp]
      obtain ⟨cb, hcb⟩ : ∃ cb, cc.blk.getD p.2 0 = cb := ⟨_, rfl⟩
      rw [hcb] at hrun
      simp only [hcb] at hset
      have HSet := Hid.mk hset
      have c7 : wr.cell? ⟨c.d, 7, none⟩ = some (.map (some cc.mi)) := by
        have := hDk.cells.cell 7 rfl
        rw [← He4.out]
        exact this
      have HOk := Hid.mk hok
      clear hset hDk hNk hok hM hR4 hpm hp hlook hcb
      go_wp2_with fail
      refine HSet.out.mono ?_
      rintro e w5 ⟨rfl, ⟨v', hD5⟩, hN5, hk5⟩
      clear HSet
      go_wp2_with fail
      go_roundw
      case rel =>
        refine ⟨k + 1, bv.set p.2 v', by omega, by go_num, ?_, ?_, HOk.out.trans hk5 (fun _ _ e => e)⟩
        · rw [hstep.out]
          exact hD5
        · rw [hstep.out]
          exact hN5
      case measure => simp [intOf]; omega
    · have eT : (kd.map (·.2)).take k = kd.map (·.2) := List.take_of_length_le (by rw [List.length_map, Hn.out]; omega)
      rw [eT, ← hfin.out] at hDk
      have hE : Hid (Only O w wr ∧ ∃ c', c'.d = c.d ∧ DiskAt wr c' (Grow O w wr) (m.crash keep)) := by
        have hs4 := hok.size
        have hs3 := HK2.out.size
        refine ⟨?_, { cc with bv := bv }, He4.out, hDk.mono (fun q ho => ?_) (fun q ho => ?_)⟩
        · refine (((HK2.out.mono (O' := fun x => O x ∨ w.heap.size ≤ x) (fun q _ e => ?_)).trans HK4.out (fun _ _ f => f.elim)).trans hok (fun q hq e => ?_)).mono (fun q hq e => ?_)
          · rcases e with e | e
            · exact .inl (e ▸ HH.out.oD)
            · exact .inr (by omega)
          · have := Hmi.out
            rcases e with (e | e | e) | e
            · exact .inl e
            · exact .inr (by omega)
            · exact .inr (by omega)
            · exact .inr (by omega)
          · rcases e with e | e
            · exact e
            · omega
        · rcases ho with ho | ho | ho
          · exact .inl ho
          · exact .inr ⟨by have := Hmi.out.1; omega, by have := hDk.top q (.inr (.inl ho)); exact this⟩
          · exact .inr ⟨by have := Hmi.out.2; omega, by have := hDk.top q (.inr (.inr ho)); exact this⟩
        · rcases ho with ho | ho
          · exact hDk.top q (.inl ho)
          · exact ho.2
      clear hDk hNk hok eT
      go_wp2
      go_end0
      exact ⟨rfl, hE.out⟩
end
end Go.Proofs.Ytfmdnaagdhpcpaa

/-
  Crash of a disk that is up; New: a disk that comes up for the first time.
-/
namespace Go.Proofs.Ytfmdnaagdhpcpaa
open Go.RowKit Go.Proofs.Lys Go.Maps Go.Shelf
set_option linter.unusedVariables false

theorem crash_any {w : World} {c : Conc} {O : Nat → Prop} {m : DModel} (h : DiskAt w c O m) {kv : Value} {keep : List Int} (hI : IntsAt w O kv keep) (hsm : m.sure.length + m.acts.length < 1000000) :
    Calls Try.prog 17 #[.pointer (some ⟨c.d, 0, none⟩), kv] w fun e w' => e = .returned (.tuple #[]) ∧ Only O w w' ∧ ∃ c', c'.d = c.d ∧ DiskAt w' c' (Grow O w w') (m.crash keep) := crash_half h.half hI hsm

theorem start_half (w : World) (Q : Nat) (hQ : Q ≤ 67108864) :
    Half (w.alloc (.cells #[.int .i64 (Q : Int), .int .i64 0, .bool false, .bool false, .int .i64 0, .bool false, .int .i64 0, .map none, .map none, .slice none 0 0] 58))
      ⟨w.heap.size, 0, 0, [], [], .slice none 0 0, [], 0, 0⟩ (fun k => k = w.heap.size) ⟨[], [], [], [], Q, 0, true, none, none⟩ false false false (.map none) (.map none) where
  cells := Blk.new w [.int .i64 (Q : Int), .int .i64 0, .bool false, .bool false, .int .i64 0, .bool false, .int .i64 0, .map none, .map none, .slice none 0 0] 58
  isV := .inl rfl
  sureV := .inl ⟨rfl, rfl⟩
  nblk := rfl
  nbv := rfl
  nodup := List.nodup_nil
  file := fun i hi => absurd hi (Nat.not_lt_zero i)
  bytes := fun i hi => absurd hi (Nat.not_lt_zero i)
  lens := fun i hi => absurd hi (Nat.not_lt_zero i)
  sole := fun i j k hi => absurd hi (Nat.not_lt_zero i)
  pend := World.ownsRow_nil _ _ _ _
  act := fun i a e => by simp at e
  sureF := fun p hp => by simp at hp
  actF := fun a ha => by simp at ha
  oD := rfl
  oBlk := fun i hi => absurd hi (Nat.not_lt_zero i)
  oBs := fun i k hi => absurd hi (Nat.not_lt_zero i)
  top := fun k e => by subst e; simp
  quota := hQ

/-- New blocks alone. -/
def Since (w w' : World) (k : Nat) : Prop := w.heap.size ≤ k ∧ k < w'.heap.size

theorem new_core (w : World) (Q : Nat) (hQ : Q ≤ 67108864) :
    Calls Try.prog 17 #[.pointer (some ⟨w.heap.size, 0, none⟩), .slice none 0 0] (w.alloc (.cells #[.int .i64 (Q : Int), .int .i64 0, .bool false, .bool false, .int .i64 0, .bool false, .int .i64 0, .map none, .map none, .slice none 0 0] 58)) fun e w' =>
      e = .returned (.tuple #[]) ∧ Stay w w' ∧ ∃ c', c'.d = w.heap.size ∧ DiskAt w' c' (Since w w') ⟨[], [], [], [], Q, 0, false, none, none⟩ := by
  refine (crash_half (start_half w Q hQ) (kv := .slice none 0 0) (keep := []) ⟨none, 0, rfl, Nat.le_refl _, fun h => absurd rfl h⟩ (by simp)).mono ?_
  rintro e w' ⟨rfl, hk, c', hc, hD⟩
  have hs := hk.size
  simp at hs
  refine ⟨rfl, ?_, c', hc, hD.mono (fun k hk => ?_) (fun k hk => hk.2)⟩
  · exact ((Only.refl (fun _ => False) w).alloc _).trans hk (fun j hj e => absurd hj (by omega))
  · rcases hk with e | ⟨h1, h2⟩
    · exact ⟨by omega, by omega⟩
    · exact ⟨by simp at h1; omega, h2⟩

theorem new_any (q : Int) (w : World) : Calls Try.prog 7 #[.int .i64 q] w fun e w' => e = .returned (.pointer (some ⟨w.heap.size, 0, none⟩)) ∧ Stay w w' ∧ ∃ c', c'.d = w.heap.size ∧ DiskAt w' c' (Since w w') (DModel.start q) := by
  obtain ⟨Q, hQ, e1⟩ : ∃ Q : Nat, Q ≤ 67108864 ∧ min (max q 0) 67108864 = (Q : Int) := ⟨(min (max q 0) 67108864).toNat, by omega, by omega⟩
  have hN := Hid.mk (new_core w Q hQ)
  have e : Hid (DModel.start q = ⟨[], [], [], [], Q, 0, false, none, none⟩) := by show _ = _; unfold DModel.start; rw [e1]; rfl
  go_enter Try.func7, Try.ntmps7
  go_wp2_with fail
  refine hN.out.mono ?_
  rintro e w1 ⟨rfl, hk, hc⟩
  go_wp2_with fail
  go_ret
  rw [e.out]
  exact ⟨rfl, hk, hc⟩
end Go.Proofs.Ytfmdnaagdhpcpaa
