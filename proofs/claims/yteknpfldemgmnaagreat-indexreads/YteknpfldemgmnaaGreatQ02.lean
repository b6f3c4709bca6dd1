/-
  Xent.
-/
import Derived.Test.YteknpfldemgmnaaGreatQ01
import Derived.Maps.OwnSet

/-
  'm[k] = append(m[k], ..)': the entry that is looked up or laid, and the store into it. No program is named here.
-/
namespace Go.Proofs.Lys
open Go Go.RowKit Go.Maps Go.ChangeMaps
set_option linter.unusedVariables false
set_option linter.unusedSimpArgs false

theorem findIdx_at {es : Array MapEntry} {j : Nat} {e0 : MapEntry} (hn : (es.toList.map (·.born)).Nodup) (hj : es[j]? = some e0) : es.findIdx? (fun e => (e.born : Int) == (e0.born : Int)) = some j := by
  obtain ⟨hl, he⟩ := Array.getElem?_eq_some_iff.1 hj
  refine Array.findIdx?_eq_some_iff_getElem.2 ⟨hl, by rw [he]; simp, fun i hi => ?_⟩
  have := List.pairwise_iff_getElem.1 hn i j (by simp; omega) (by simpa using hl) hi
  simp only [List.getElem_map, Array.getElem_toList] at this
  rw [he] at this
  simp only [beq_iff_eq, Int.ofNat_inj]
  exact this
theorem entry_run {H : Type} {P : Program} {k e t : TypeId} {R : Value → Option (DataW H × List MemPlace)} {w : World} {b n : Nat} {D : DataW H} (h : w.ownsMap P k R b n D) (K : Keyed P k) (ht : P.underlying t = some (.map k e)) (hn : n < maxLen)
    {z : Value} {zd : DataW H} {zp : List MemPlace} (hz : (zeroValue e).run P w = .ok z w) (hzd : R z = some (zd, zp)) {key : Value} {kl : Lit} (hkey : keyOf P k key = some kl) :
    ∃ v ps st w1, (Instr.mapEntry t (.map (some b)) key).run P w = .ok (.tuple #[v, goInt st]) w1 ∧ R v = some (D.atKey kl zd, ps) ∧ w.mapTurned w1 b ∧
      ∀ W : World, W.heap[b]? = w1.heap[b]? → ∀ (val : Value) (d : DataW H) (ps' : List MemPlace), R val = some (d, ps') → ∃ W', (Instr.entryStore t (.map (some b)) (goInt st) val).run P W = .ok () W' ∧ W'.ownsMap P k R b (n + 1) (D.put kl d) ∧ W.mapTurned W' b := by
  have hlk := h.lookup K ht hz hzd hkey
  obtain ⟨es, clock, hb, F, hs, rfl⟩ := h
  have hst := F.stamped
  rcases K.find w hkey es.toList F.keys with ⟨h1, h2⟩ | ⟨j, e0, h1, h2, h3⟩
  · obtain ⟨v, ps, hr, hv⟩ := hlk
    have hvz : v = z := by
      have : (Instr.lookup t (.map (some b)) key false).run P w = .ok z w := by
        simp [Instr.lookup, run_underlying ht, MapKept.run_getObj_map hb, K.check w _ hkey, h1, hz, Result.andThen]
      rw [this] at hr
      cases hr
      rfl
    subst hvz
    refine ⟨v, ps, clock, setBlock w b (.map (es.push ⟨key, v, clock⟩) (clock + 1)), ?_, hv, ⟨es, clock, _, _, hb, rfl⟩, ?_⟩
    · simp [Instr.mapEntry, run_underlying ht, MapKept.run_getObj_map hb, K.check w false hkey, h1, hz, MapKept.run_setObj_map _ hb, Result.andThen, setBlock]
    · intro W hW val d ps' hval
      rw [heap_setBlock_same hb] at hW
      obtain ⟨es', clock', hrun, F', hput, _⟩ := Maps.fit_store (R' := R) K ht hb F (Nat.lt_of_le_of_lt hs hn) (fun _ _ _ _ hz => hz) hkey hval
      have hrun2 : (Instr.mapUpdate t (.map (some b)) key val).run P w = .ok () (setBlock w b (.map (es.push ⟨key, val, clock⟩) (clock + 1))) := by
        simp [Instr.mapUpdate, run_underlying ht, MapKept.run_getObj_map hb, K.check w false hkey, h1, MapKept.run_setObj_map _ hb, Result.andThen, setBlock]
      rw [hrun] at hrun2
      have hw := (Result.ok.inj hrun2).2
      have hbb := congrArg (fun x : World => x.heap[b]?) hw
      simp only [heap_setBlock_same hb] at hbb
      have hbb := Option.some.inj hbb
      cases hbb
      have hfi : (es.push ⟨key, v, clock⟩).findIdx? (fun e => (e.born : Int) == (clock : Int)) = some es.size := by
        have := findIdx_at (es := es.push ⟨key, v, clock⟩) (j := es.size) (e0 := ⟨key, v, clock⟩) ?_ (by simp)
        · exact this
        · rw [Array.toList_push, List.map_append, List.nodup_append]
          refine ⟨hst.2.1, by simp, fun a ha c hc => ?_⟩
          obtain ⟨x, hx, rfl⟩ := List.mem_map.1 ha
          have := hst.1 x hx
          simp at hc
          omega
      have hmod : (es.push ⟨key, v, clock⟩).modify es.size (fun e => { e with val := val }) = es.push ⟨key, val, clock⟩ := by
        apply Array.ext'
        rw [Array.toList_modify, modify_eq_set _ _ _ ⟨key, v, clock⟩ (by simp)]
        simp
      refine ⟨setBlock W b (.map (es.push ⟨key, val, clock⟩) (clock + 1)), ?_, ⟨_, _, heap_setBlock_same hW _, F', by simp; omega, by rw [DataW.put_eq, hput]⟩, ⟨_, _, _, _, hW, rfl⟩⟩
      simp [Instr.entryStore, MapKept.run_getObj_map hW, asInt, asIntOf, goInt, hfi, hmod, MapKept.run_setObj_map _ hW, Result.andThen, setBlock]
  · obtain ⟨v, ps, hr, hv⟩ := hlk
    have hj : es[j]? = some e0 := by simpa using h2
    have hvz : v = e0.val := by
      have : (Instr.lookup t (.map (some b)) key false).run P w = .ok e0.val w := by
        simp [Instr.lookup, run_underlying ht, MapKept.run_getObj_map hb, K.check w _ hkey, h1, hz, Result.andThen]
      rw [this] at hr
      cases hr
      rfl
    subst hvz
    have hid : es.modify j (fun e => { e with key := key }) = es := by
      apply Array.ext'
      rw [Array.toList_modify, modify_eq_set _ _ _ _ h2]
      obtain ⟨hl, he⟩ := List.getElem?_eq_some_iff.1 h2
      subst h3
      have : ({ e0 with key := e0.key } : MapEntry) = es.toList[j] := he.symm
      rw [this, List.set_getElem_self]
    refine ⟨e0.val, ps, e0.born, setBlock w b (.map es clock), ?_, hv, ⟨es, clock, _, _, hb, rfl⟩, ?_⟩
    · simp [Instr.mapEntry, run_underlying ht, MapKept.run_getObj_map hb, K.check w false hkey, h1, hj, h3, hid, K.stays w hkey, MapKept.run_setObj_map _ hb, Result.andThen, setBlock]
    · intro W hW val d ps' hval
      rw [heap_setBlock_same hb] at hW
      obtain ⟨es', clock', hrun, F', hput, _⟩ := Maps.fit_store (R' := R) K ht hb F (Nat.lt_of_le_of_lt hs hn) (fun _ _ _ _ hz => hz) hkey hval
      have hrun2 : (Instr.mapUpdate t (.map (some b)) key val).run P w = .ok () (setBlock w b (.map (es.modify j (fun e' => { e' with key := key, val := val })) clock)) := by
        simp [Instr.mapUpdate, run_underlying ht, MapKept.run_getObj_map hb, K.check w false hkey, h1, hj, h3, K.stays w hkey, MapKept.run_setObj_map _ hb, Result.andThen, setBlock]
      rw [hrun] at hrun2
      have hw := (Result.ok.inj hrun2).2
      have hbb := congrArg (fun x : World => x.heap[b]?) hw
      simp only [heap_setBlock_same hb] at hbb
      have hbb := Option.some.inj hbb
      cases hbb
      have hfi := findIdx_at hst.2.1 hj
      have hmod : es.modify j (fun e => { e with val := val }) = es.modify j (fun e' => { e' with key := key, val := val }) := by
        apply Array.ext'
        rw [Array.toList_modify, Array.toList_modify, modify_eq_set _ _ _ _ h2, modify_eq_set _ _ _ _ h2]
        subst h3
        rfl
      refine ⟨setBlock W b (.map (es.modify j (fun e' => { e' with key := key, val := val })) clock), ?_, ⟨_, _, heap_setBlock_same hW _, F', by simp; omega, by rw [DataW.put_eq, hput]⟩, ⟨_, _, _, _, hW, rfl⟩⟩
      simp [Instr.entryStore, MapKept.run_getObj_map hW, asInt, asIntOf, goInt, hfi, hmod, MapKept.run_setObj_map _ hW, Result.andThen, setBlock]
end Go.Proofs.Lys
