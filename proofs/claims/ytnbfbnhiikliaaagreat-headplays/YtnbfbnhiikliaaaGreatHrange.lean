/-
  A range over a head's map; Count.
-/
import Derived.Test.YtnbfbnhiikliaaaGreatHwrite
import Derived.Laws.IdiomRangeMap
namespace Go.Proofs.YtnbfbnhiikliaaaGreat.Hd
open Go.RowKit Go.Proofs.Lys Go.Maps Go.Proofs.YtnbfbnhiikliaaaGreat.N
set_option linter.unusedVariables false
set_option linter.unusedSimpArgs false

/-- The series that have come. -/
def keyL (c : SerC) : Lit := .string (textL c.labs)
def doneC (cs : List SerC) (left : Lit → Bool) : List SerC := cs.filter (fun c => !left (keyL c))
theorem done_start {cs : List SerC} {kv : KV} (hp : kv.Perm (cs.map keyC)) (ha : Apart kv) : doneC cs (Maps.has (kvD kv)) = [] := by
  unfold doneC
  rw [List.filter_eq_nil_iff]
  intro c hc
  have : Maps.has (kvD kv) (keyL c) = true := by
    unfold keyL
    rw [has_kvD, (get_some ha).2 (hp.mem_iff.2 (List.mem_map.2 ⟨c, hc, rfl⟩))]
    rfl
  rw [this]
  simp
theorem done_end {cs : List SerC} {left : Lit → Bool} (h : ∀ kl, left kl = false) : doneC cs left = cs := by
  unfold doneC
  rw [List.filter_eq_self]
  intro c _
  rw [h]
  rfl
theorem key_same (x c : SerC) : (keyL x).sameKey (keyL c) = decide (textL x.labs = textL c.labs) := by
  unfold keyL
  rw [sameKey_string]
  by_cases e : textL x.labs = textL c.labs
  · rw [decide_eq_true e]; simpa using e
  · rw [decide_eq_false e]; simpa using e
theorem filter_step {p : SerC → Bool} {c : SerC} : ∀ {cs : List SerC}, cs.Pairwise (fun a b => textL a.labs ≠ textL b.labs) → c ∈ cs → p c = false → (cs.filter (fun x => p x || decide (textL x.labs = textL c.labs))).Perm (c :: cs.filter p)
  | [], _, h, _ => by cases h
  | d :: r, hp, hc, hl => by
    have hz := List.pairwise_cons.1 hp
    rw [List.filter_cons, List.filter_cons]
    rcases List.mem_cons.1 hc with e | hc'
    · subst e
      rw [decide_eq_true rfl, hl]
      simp only [Bool.or_true, if_true, Bool.false_eq_true, if_false]
      refine List.Perm.cons _ (List.Perm.of_eq (List.filter_congr (fun x hx => ?_)))
      rw [decide_eq_false (fun e => hz.1 x hx e.symm), Bool.or_false]
    · have hne : ¬ textL d.labs = textL c.labs := hz.1 c hc'
      rw [decide_eq_false hne, Bool.or_false]
      have ih := filter_step hz.2 hc' hl
      cases p d
      · simp only [Bool.false_eq_true, if_false]
        exact ih
      · simp only [if_true]
        exact (ih.cons d).trans (.swap _ _ _)
theorem done_step {cs : List SerC} {left : Lit → Bool} {c : SerC} (hp : cs.Pairwise (fun a b => textL a.labs ≠ textL b.labs)) (hc : c ∈ cs) (hl : left (keyL c) = true) : (doneC cs (fun z => left z && !z.sameKey (keyL c))).Perm (c :: doneC cs left) := by
  have h := filter_step (p := fun x => !left (keyL x)) hp hc (by rw [hl]; rfl)
  unfold doneC
  refine (List.Perm.of_eq (List.filter_congr (fun x hx => ?_))).trans h
  show (!(left (keyL x) && !(keyL x).sameKey (keyL c))) = _
  rw [key_same]
  simp
theorem countM_sub {M N : Mod} (h : M.Sublist N) : countM M ≤ countM N := by
  induction h with
  | slnil => exact Nat.le_refl _
  | cons a _ ih => simp only [countM]; omega
  | cons_cons a _ ih => simp only [countM]; omega
theorem done_count (cs : List SerC) (left : Lit → Bool) : countM ((doneC cs left).map serC) ≤ countM (cs.map serC) := countM_sub (List.filter_sublist.map _)
theorem key_came {w : World} {h : HeadC} {O : Nat → Prop} (hA : HeadAt w h O) {x : ByteArray} {c : Option Nat} {kl : Lit} {y : DataW Unit × List MemPlace} (hkey : keyOf Tryz.prog 9 (.string x) = some kl) (hv : ptrE (ptrV c) = some y) (hat : ∀ zd, (kvD h.kv).atKey kl zd = y.1) :
    ∃ s ∈ h.cs, kl = keyL s ∧ ptrV c = .pointer (some ⟨s.b, 0, none⟩) := by
  obtain ⟨x', e, rfl⟩ := key_inv _ _ hkey
  cases e
  simp only [at_kvD] at hat
  rcases hA.find x.data.toList with ⟨s, hs, ht, hg⟩ | ⟨_, hg⟩
  · refine ⟨s, hs, by unfold keyL; rw [ht], ?_⟩
    have := hat (.lit (.int .i64 0))
    rw [hg] at this
    simp only at this
    obtain ⟨y1, y2⟩ := y
    simp only at this
    rw [← this] at hv
    exact ptrE_some hv
  · rw [hg] at hat
    have h1 := hat (.lit (.int .i64 0))
    have h2 := hat (.lit (.int .i64 1))
    rw [← h2] at h1
    simp at h1
theorem ranges_block {H : Type} {P : Program} {k : TypeId} {R : Value → Option (DataW H × List MemPlace)} {b r n : Nat} {D : DataW H} {left : Lit → Bool} {cnt : Nat} {w w' : World} (h : w.ranges P k R b r n D left cnt) (hb : w'.heap[b]? = w.heap[b]?) (hr : w'.heap[r]? = w.heap[r]?) : w'.ranges P k R b r n D left cnt := by
  obtain ⟨es, clock, since, seen, c0, h1, h2, h3, h4, h5, h6⟩ := h
  exact ⟨es, clock, since, seen, c0, hb.trans h1, h2, h3, h4, hr.trans h5, h6⟩

set_option maxRecDepth 100000 in
set_option maxHeartbeats 2000000 in
theorem count_any {w : World} {h : HeadC} {O : Nat → Prop} {M : Mod} (hA : HeadAt w h O) (hI : Is h M) (hc : countM M ≤ 100000) :
    Calls Tryz.prog 17 #[.pointer (some ⟨h.hb, 0, none⟩)] w fun e w' => e = .returned (.int .i64 (countM M : Nat)) ∧ Kept w w' := by
  have m1 := hA.blk.cell 1 rfl
  have HA := hid hA
  have HCM := hid (countM_perm hI.perm)
  have HC := hid hc
  have hbl := hA.blk.lt
  cases hmv : h.mv with
  | none =>
    have hcs : h.cs = [] := by
      have h1 := hA.nil hmv
      have h2 := hA.len
      rw [h1] at h2
      exact List.length_eq_zero_iff.1 h2.symm
    have hM0 : countM M = 0 := by rw [← HCM.out, hcs]; rfl
    rw [hM0]
    rw [hmv] at m1
    have hrg := run_range_nilMap (P := Tryz.prog) w 63 _ _ Tryz.underlying63
    have hnx : ∀ ty, (Instr.next (.pointer (some ⟨w.heap.size, 0, none⟩)) false ty).run Tryz.prog (w.alloc (.mapIter none 0 #[] 0)) = _ := fun ty => run_next_nilMap _ ty 0 0 #[]
    clear hA hmv hcs hM0 hI hc
    generalize h.hb = hb at *
    go_enter Tryz.func17, Tryz.ntmps17
    go_wp2
    refine wp_loop_rounds 1 ?_
    rw [rounds_succ]
    go_wp2
    go_ret
    exact ⟨rfl, (Only.refl _ w).alloc _⟩
  | some mb =>
    have hm := hA.map mb hmv
    rw [hmv] at m1
    have HAP := hid hA.kvApart
    clear hA hmv hI hc
    generalize hhb : h.hb = hb at *
    clear hhb
    go_enter Tryz.func17, Tryz.ntmps17
    go_wp2_with (first | (at_range; refine wpList_range_own _ rfl _ 63 rfl 9 72 law Tryz.underlying63 _ mb h.kv.length (kvD h.kv) rfl hm ?_; intro w0 hrg0 hg0 hs0) | go_in)
    go_frame
    go_loopw [3] (fun s wr => ∃ (left : Lit → Bool) (cnt : Nat), s = .int .i64 (countM ((doneC h.cs left).map serC) : Nat) ∧ wr.ranges Tryz.prog 9 ptrE mb w.heap.size h.kv.length (kvD h.kv) left cnt ∧ Kept w wr) (fun _ wr => wr.rangeLeft mb w.heap.size)
    case atStart => exact ⟨_, _, by rw [done_start HA.out.perm HAP.out]; rfl, hrg0, (Only.refl _ w).grown hg0 (fun k e => by cases e)⟩
    case round =>
      obtain ⟨left, cnt, rfl, hrg, kr⟩ := hrel
      have HK := hid kr
      go_wp2_with (first | (at_next; refine wpList_next_ranges _ rfl _ rfl 9 law ptrE Value.string ptrV (fun key kl hk => (key_inv key kl hk).imp (fun x hx => hx.1)) ptrE_inv mb w.heap.size h.kv.length _ _ _ rfl hrg ?_ ?_) | go_in)
      · intro _ hl0
        have hE : countM ((doneC h.cs left).map serC) = countM M := by rw [done_end hl0, HCM.out]
        go_wp2
        go_ret
        exact ⟨by rw [hE]; rfl, HK.out⟩
      · intro x c kl yd yp w1 cnt1 hkey hlx hv hat hrg1 hlt hg1 hs1 hen
        obtain ⟨s, hs, rfl, hpv⟩ := key_came HA.out hkey hv hat
        rw [hpv] at hen ⊢
        have hst := hid (countM_perm ((done_step HA.out.texts hs hlx).map serC))
        have k1 : Kept w w1 := kr.grown hg1 (fun j e hlt => by cases e; omega)
        have S1 := (HA.out.each s hs).only k1 (fun _ _ f => f)
        have d1 := S1.blk.cell 1 rfl
        obtain ⟨a3, c3, hsv⟩ := ownN_slice S1.smp
        rw [hsv] at d1
        have hle : countM ((doneC h.cs left).map serC) + s.smps.length ≤ 100000 := by
          have h1 := hst.out
          have h2 := done_count h.cs (fun z => left z && !z.sameKey (keyL s))
          have h3 : countM (List.map serC (s :: doneC h.cs left)) = s.smps.length + countM (List.map serC (doneC h.cs left)) := rfl
          have h4 := HCM.out
          have h5 := HC.out
          omega
        have HR1 := hid hrg1
        have K1 := hid k1
        clear S1 hsv k1 hrg1 kr hv hat hkey hpv
        generalize s.b = sb at *
        have hst2 : Hid (countM ((doneC h.cs (fun z => left z && !z.sameKey (keyL s))).map serC) = s.smps.length + countM ((doneC h.cs left).map serC)) := hst.out
        generalize countM ((doneC h.cs left).map serC) = cD at *
        generalize s.smps.length = sl at *
        have hwr : IntKind.i64.wrap ((cD : Int) + (sl : Int)) = (cD : Int) + (sl : Int) := by rw [IntKind.wrap_i64]; omega
        go_wp2
        refine ⟨⟨_, cnt1, ?_, HR1.out, K1.out⟩, ?_⟩
        · rw [hst2.out]
          congr 1
          omega
        · rw [HR1.out.left_eq, hrg.left_eq]
          omega
end Go.Proofs.YtnbfbnhiikliaaaGreat.Hd
