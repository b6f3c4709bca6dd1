/-
  Xhav.
-/
import Derived.Test.YteknpfldemgmnaaGreatQ20
import Derived.Test.YteknpfldemgmnaaGreatQ22
import Derived.Test.YteknpfldemgmnaaGreatQ06
import Derived.Maps.RangeWalk

/-
  all, having: numbers of series.
-/
namespace Go.Proofs.YteknpfldemgmnaaGreat.X
open Go.RowKit Go.Proofs.Lys Go.Maps Go.Proofs.YteknpfldemgmnaaGreat.N
set_option linter.unusedVariables false
set_option linter.unusedSimpArgs false

set_option maxRecDepth 100000 in
set_option maxHeartbeats 1600000 in
theorem all_ix {w : World} {x : IxC} {O : Nat → Prop} (h : IxAt w x O) (hn : x.n ≤ 100000) :
    Calls Tryz.prog 43 #[.pointer (some ⟨x.xb, 0, none⟩)] w fun e w' => ∃ v, e = .returned v ∧ NumAt w' w.heap.size v (allN x.n) ∧ Kept w w' := by
  have c0 := h.blk.cell 0 rfl
  clear h
  generalize x.n = N at *
  generalize x.xb = XB at *
  go_enter Tryz.func43, Tryz.ntmps43
  go_wp2_with fail
  go_loopw [3, 9] (fun s3 s9 wr => ∃ (k : Nat) (a : Option Addr) (c : Nat), k ≤ N ∧ s9 = .int .i64 (k : Int) ∧ s3 = .slice a k c ∧ NumAt wr w.heap.size (.slice a k c) (allN k) ∧ Kept w wr) (fun s3 s9 _ => N - (intOf s9).toNat)
  case atStart => exact ⟨0, none, 0, by omega, rfl, rfl, World.ownsRow_nil _ _ _ _, Only.refl _ _⟩
  case round =>
    obtain ⟨k, a, c, hk, rfl, rfl, hat, kr⟩ := hrel
    by_cases hlt : k < N
    · obtain ⟨g, cap, w1, hr, ho, hon⟩ := Po.own_num hat kr.size (by rw [allN_len]; omega) (k : Int)
      have HO := hid (show NumAt w1 w.heap.size (.slice (some ⟨g, 0, none⟩) (k + 1) cap) (allN (k + 1)) from by
        rw [allN_len] at ho
        rw [allN_succ]
        exact ho)
      have HK := hid (kr.trans hon (fun j hj e => by have := (ownN_lt hat e).1; omega))
      rw [allN_len] at hr
      clear ho hon hat kr
      go_wp2_with (at_builtin; refine wpList_append_run rfl _ _ _ rfl rfl rfl hr ?_)
      go_roundw
      case rel => exact ⟨k + 1, _, _, by omega, by go_num, rfl, HO.out, HK.out⟩
      case measure => simp [intOf]; omega
    · obtain rfl : k = N := by omega
      have HO := hid hat
      have HK := hid kr
      clear hat kr
      go_wp2
      go_ret
      exact ⟨_, rfl, HO.out, HK.out⟩

def keyL (e : EntC) : Lit := .string (keyB e.lab)
def doneE (es : List EntC) (left : Lit → Bool) : List EntC := es.filter (fun e => !left (keyL e))
theorem key_self (a : EntC) : (keyL a).sameKey (keyL a) = true := by
  unfold keyL
  rw [sameKey_string]
  simp
theorem key_ne {w : World} {x : IxC} {O : Nat → Prop} (h : IxAt w x O) {a b : EntC} (ha : a ∈ x.es) (hb : b ∈ x.es) (e : a ≠ b) : (keyL a).sameKey (keyL b) = false := by
  unfold keyL
  rw [sameKey_string]
  simp only [beq_eq_false_iff_ne, ne_eq]
  intro e2
  exact e (pw_inj h.labs ha hb (keyB_inj (small_max (h.small a ha)) (small_max (h.small b hb)) e2))
theorem es_nodup {w : World} {x : IxC} {O : Nat → Prop} (h : IxAt w x O) : x.es.Nodup := h.labs.imp (fun {a b} hne e => hne (by rw [e]))
/-- One entry more has come. -/
theorem done_step {w : World} {x : IxC} {O : Nat → Prop} (h : IxAt w x O) {s : EntC} (hs : s ∈ x.es) {left : Lit → Bool} (hl : left (keyL s) = true) : (doneE x.es (fun z => left z && !z.sameKey (keyL s))).Perm (s :: doneE x.es left) := by
  have hnd := es_nodup h
  unfold doneE
  have hin : ∀ es : List EntC, (∀ e ∈ es, e ∈ x.es) → es.Nodup → s ∈ es → (es.filter (fun e => !(left (keyL e) && !(keyL e).sameKey (keyL s)))).Perm (s :: es.filter (fun e => !left (keyL e))) := fun es => by
    induction es with
    | nil => intro _ _ h; cases h
    | cons a r ih =>
      intro hsub hn hm
      have hn' := List.nodup_cons.1 hn
      by_cases e : a = s
      · subst e
        rw [List.filter_cons, if_pos (by rw [key_self]; simp), List.filter_cons, if_neg (by rw [hl]; simp)]
        refine List.Perm.cons _ ?_
        rw [List.filter_congr (fun y hy => ?_)]
        have hne : y ≠ a := fun e2 => hn'.1 (by rw [← e2]; exact hy)
        rw [key_ne h (hsub y (List.mem_cons_of_mem _ hy)) hs hne]
        simp
      · have hm' : s ∈ r := by
          rcases List.mem_cons.1 hm with e2 | e2
          · exact absurd e2.symm e
          · exact e2
        have hih := ih (fun y hy => hsub y (List.mem_cons_of_mem _ hy)) hn'.2 hm'
        have e1 : (!(left (keyL a) && !(keyL a).sameKey (keyL s))) = !left (keyL a) := by
          rw [key_ne h (hsub a (List.mem_cons_self ..)) hs e]
          simp
        rw [List.filter_cons, List.filter_cons, e1]
        split
        · exact (hih.cons a).trans (.swap _ _ _)
        · exact hih
  exact hin x.es (fun _ h => h) hnd hs
theorem key_came {w : World} {x : IxC} {O : Nat → Prop} {P : Posts} (hA : IxAt w x O) (hI : Is x P) {y : Lab} {c : Sl} {kl : Lit} {z : DataW Unit × List MemPlace} (hkey : keyOf Tryz.prog 43 (labV y) = some kl) (hv : slE (slV c) = some z) (hat : ∀ zd, (kvD x.kv).atKey kl zd = z.1) :
    ∃ s ∈ x.es, kl = keyL s ∧ y = s.lab ∧ c = s.c := by
  obtain ⟨y', e, rfl⟩ := key_inv _ _ hkey
  have ey : y = y' := by
    simp only [labV, Value.agg.injEq, Array.mk.injEq, List.cons.injEq, Value.string.injEq, and_true] at e
    exact Prod.ext e.1 e.2
  subst ey
  simp only [at_kvD] at hat
  rw [slE_mk] at hv
  cases hv
  cases hg : kvGet x.kv (keyB y) with
  | none =>
    rw [hg] at hat
    have h1 := hat (.lit (.int .i64 0))
    have h2 := hat (.lit (.int .i64 1))
    rw [← h2] at h1
    simp at h1
  | some d =>
    rw [hg] at hat
    have h1 := hat .nil
    simp only at h1
    have h2 := slD_inj h1
    subst h2
    have hm := hA.perm.mem_iff.1 ((get_some (kv_apart hA.map)).1 hg)
    obtain ⟨s, hs, hk⟩ := List.mem_map.1 hm
    unfold keyC at hk
    have e1 := congrArg Prod.fst hk
    have e2 := congrArg Prod.snd hk
    simp only at e1 e2
    refine ⟨s, hs, by unfold keyL; rw [e1], ?_, e2.symm⟩
    have h3 := key_mk (small_max (hA.small s hs)).1 (small_max (hA.small s hs)).2
    rw [e1] at h3
    have h4 := law.inj hkey h3
    simp only [labV, Value.agg.injEq, Array.mk.injEq, List.cons.injEq, Value.string.injEq, and_true] at h4
    exact Prod.ext h4.1 h4.2
theorem ranges_block {H : Type} {P : Program} {k : TypeId} {R : Value → Option (DataW H × List MemPlace)} {b r n : Nat} {D : DataW H} {left : Lit → Bool} {cnt : Nat} {w w' : World} (h : w.ranges P k R b r n D left cnt) (hb : w'.heap[b]? = w.heap[b]?) (hr : w'.heap[r]? = w.heap[r]?) : w'.ranges P k R b r n D left cnt := by
  obtain ⟨es, clock, since, seen, c0, h1, h2, h3, h4, h5, h6⟩ := h
  exact ⟨es, clock, since, seen, c0, hb.trans h1, h2, h3, h4, hr.trans h5, h6⟩
theorem done_start {w : World} {x : IxC} {O : Nat → Prop} (h : IxAt w x O) : doneE x.es (Maps.has (kvD x.kv)) = [] := by
  unfold doneE
  rw [List.filter_eq_nil_iff]
  intro e he
  have : Maps.has (kvD x.kv) (keyL e) = true := by
    unfold keyL
    rw [has_kvD, (get_some (kv_apart h.map)).2 (h.perm.mem_iff.2 (List.mem_map.2 ⟨e, he, rfl⟩))]
    rfl
  simp [this]
theorem done_end {es : List EntC} {left : Lit → Bool} (h : ∀ k, left k = false) : doneE es left = es := by
  unfold doneE
  rw [List.filter_eq_self]
  intro e _
  simp [h]
theorem part_perm {P Q : Posts} (h : P.Perm Q) (n : ByteArray) (q : ByteArray → Bool) : (partH P n q).Perm (partH Q n q) := (h.filter _).flatMap_right _
theorem part_cons (p : Post) (P : Posts) (n : ByteArray) (q : ByteArray → Bool) : partH (p :: P) n q = (if decide (p.1.1 = n) && q p.1.2 then p.2 else []) ++ partH P n q := by
  unfold partH
  rw [List.filter_cons]
  split
  · rfl
  · rfl
theorem part_len_perm {P Q : Posts} (h : P.Perm Q) : (P.flatMap (·.2)).length = (Q.flatMap (·.2)).length := (h.flatMap_right (·.2)).length_eq
theorem part_le (P : Posts) (n : ByteArray) (q : ByteArray → Bool) : (partH P n q).length ≤ (P.flatMap (·.2)).length := by
  induction P with
  | nil => exact Nat.le_refl _
  | cons p r ih =>
    rw [part_cons, List.length_append, List.flatMap_cons, List.length_append]
    split
    · omega
    · simp only [List.length_nil]
      omega
theorem done_le (es : List EntC) (left : Lit → Bool) : (((doneE es left).map postC).flatMap (·.2)).length ≤ ((es.map postC).flatMap (·.2)).length := by
  unfold doneE
  induction es with
  | nil => exact Nat.le_refl _
  | cons e r ih =>
    rw [List.filter_cons]
    split
    · rw [List.map_cons, List.flatMap_cons, List.length_append, List.map_cons, List.flatMap_cons, List.length_append]
      omega
    · rw [List.map_cons (l := r), List.flatMap_cons, List.length_append]
      omega

/-- A function value that tells of a value whether it is taken. -/
def Takes (w : World) (F : Nat) (cb : Array Value) (q : ByteArray → Bool) : Prop :=
  (∀ args w, (callFunc F args).run Tryz.prog w = .ok (.enter F args) w) ∧ ∀ W, Kept w W → ∀ v : ByteArray, v.size ≤ 100000 → Calls Tryz.prog F (#[.string v] ++ cb) W fun e w' => e = .returned (.bool (q v)) ∧ w' = W

set_option maxRecDepth 100000 in
set_option maxHeartbeats 4000000 in
theorem having_any {w : World} {x : IxC} {O : Nat → Prop} {P : Posts} (hA : IxAt w x O) (hI : Is x P) (hl : (P.flatMap (·.2)).length ≤ 100000) (n : ByteArray) (F : Nat) (cb : Array Value) (q : ByteArray → Bool) (hF : Takes w F cb q) :
    Calls Tryz.prog 89 #[.pointer (some ⟨x.xb, 0, none⟩), .string n, .func (.func F) #[] cb] w fun e w' => ∃ v acc, e = .returned v ∧ NumAt w' w.heap.size v (sortN acc) ∧ acc.Perm (partH P n q) ∧ Kept w w' := by
  have m1 := hA.blk.cell 1 rfl
  have HA := hid hA
  have HI := hid hI
  have hm := hA.map
  have hbl := hA.blk.lt
  have hmbl := hA.lt x.mb (hA.own x.mb (.inr (.inl rfl)))
  have eg := hF.1
  have HF := hid hF.2
  have HL := hid (show ((x.es.map postC).flatMap (·.2)).length ≤ 100000 from by rw [part_len_perm hI.perm]; exact hl)
  clear hA hI hF hl
  generalize hxb : x.xb = XB at *
  clear hxb
  go_enter Tryz.func89, Tryz.ntmps89
  go_wp2_with (first | (at_range; refine wpList_range_own _ rfl _ 57 rfl 43 45 law Tryz.underlying57 _ x.mb x.kv.length (kvD x.kv) rfl hm ?_; intro w0 hrg0 hg0 hs0) | go_in)
  go_frame
  have HR0 := hid hrg0
  have HK0 := hid (show Kept w w0 from (Only.refl _ w).grown hg0 (fun k e => by cases e))
  clear hrg0 hg0
  go_loopw [7] (fun s7 wr => ∃ (left : Lit → Bool) (cnt : Nat) (acc : List Int) (a : Option Addr) (na c : Nat), s7 = .slice a na c ∧ na = acc.length ∧ NumAt wr (w.heap.size + 1) (.slice a na c) acc ∧ Hid (acc.Perm (partH ((doneE x.es left).map postC) n q)) ∧ wr.ranges Tryz.prog 43 slE x.mb w.heap.size x.kv.length (kvD x.kv) left cnt ∧ Kept w wr ∧ w.heap.size + 1 ≤ wr.heap.size) (fun _ wr => wr.rangeLeft x.mb w.heap.size)
  case atStart =>
    refine ⟨_, _, [], none, 0, 0, rfl, rfl, World.ownsRow_nil _ _ _ _, hid ?_, HR0.out, HK0.out, by omega⟩
    rw [done_start HA.out]
    exact .refl _
  case round =>
    obtain ⟨left, cnt, acc, a7, n7, c7, rfl, hn7, hacc, hperm, hrg, kr, hszr⟩ := hrel
    have HACC := hid hacc
    have HK := hid kr
    have HN7 := hid hn7
    clear kr hacc hn7
    go_wp2_with (first | (at_next; refine wpList_next_ranges _ rfl _ rfl 43 law slE labV slV (fun key kl hk => (key_inv key kl hk).imp (fun x hx => hx.1)) slE_inv x.mb w.heap.size x.kv.length _ _ _ rfl hrg ?_ ?_) | go_in)
    · intro _ hl0
      have HP0 := hid (show acc.Perm (partH P n q) from by
        have h1 := hperm.out
        rw [done_end hl0] at h1
        exact h1.trans (part_perm HI.out.perm n q))
      have hal : acc.length ≤ 100000 := by
        have h1 := hperm.out.length_eq
        have h2 := part_le ((doneE x.es left).map postC) n q
        have h3 := done_le x.es left
        have h4 := HL.out
        omega
      have hacc : NumAt wr (w.heap.size + 1) (.slice a7 n7 c7) acc := HACC.out
      have HS := hid (sortI_any wr (w.heap.size + 1) _ acc hacc (by omega))
      clear hl0 hal hacc
      go_wp2_with fail
      refine HS.out.mono ?_
      rintro e w2 ⟨rfl, k2, hnum⟩
      have HNUM := hid (ownN_base hnum (b' := w.heap.size) (by omega))
      have HKK := hid (show Kept w w2 from HK.out.trans k2 (fun j hj e => by have := (ownN_lt HACC.out e).1; omega))
      clear k2 hnum HS
      go_wp2
      go_ret
      exact ⟨_, acc, rfl, HNUM.out, HP0.out, HKK.out⟩
    · intro y1 y2 c kl yd yp w1 cnt1 hkey hlx hv hat hrg1 hlt hg1 hs1 hen
      obtain ⟨s, hs, rfl, hy, rfl⟩ := key_came (y := (y1, y2)) (c := c) HA.out HI.out hkey hv hat
      have k1 : Only (fun k => k = w.heap.size) wr w1 := (Only.refl _ wr).grown hg1 (fun k e _ => by cases e; rfl)
      have hK1 : Kept w w1 := HK.out.trans k1 (fun j hj e => by omega)
      have kA : Kept w1 (w1.alloc (.cells #[.string y1, .string y2] 43)) := (Only.refl _ w1).alloc _
      have HKA := hid (show Kept w (w1.alloc (.cells #[.string y1, .string y2] 43)) from hK1.trans kA (fun _ _ f => f))
      have HST := hid (done_step HA.out hs hlx)
      have HACC1 := hid (show NumAt (w1.alloc (.cells #[.string y1, .string y2] 43)) (w.heap.size + 1) (.slice a7 n7 c7) acc from ownN_stay (ownN_only HACC.out k1 (fun j hj e => by have := (ownN_lt HACC.out hj).1; omega)) kA)
      have hrgA : (w1.alloc (.cells #[.string y1, .string y2] 43)).ranges Tryz.prog 43 slE x.mb w.heap.size x.kv.length (kvD x.kv) (fun z => left z && !z.sameKey (keyL s)) cnt1 := by
        refine ranges_block hrg1 (kA.block _ (by omega) (fun f => f)) (kA.block _ (by omega) (fun f => f))
      have HRA := hid hrgA
      have HLT := hid hlt
      have HRG := hid hrg
      have HS := hid hs
      have HY := hid hy
      have hsz1 : w.heap.size + 1 ≤ (w1.alloc (.cells #[.string y1, .string y2] 43)).heap.size := by simp; omega
      have hysm := (HA.out.small s hs).2
      rw [← hy] at hysm
      have hrow := HA.out.each s hs
      obtain ⟨a8, c8, e8⟩ := ownN_slice hrow
      have HROW := hid hrow
      rw [e8] at hen ⊢
      have HE8 := hid e8
      have HFC := hid (HF.out _ HKA.out y2 hysm)
      have HPC := hid (part_perm (HST.out.map postC) n q)
      clear hrg1 hrgA k1 hK1 kA hlt hrg hs hy hrow e8 hysm hkey hv hat hlx hg1
      by_cases hnm : y1 = n
      · have hq1 : (y1.toList == n.toList) = true := by rw [hnm]; simp
        cases hq : q y2
        · rw [hq] at HFC
          have HP1 : Hid (acc.Perm (partH ((doneE x.es (fun z => left z && !z.sameKey (keyL s))).map postC) n q)) := hid (by
            refine hperm.out.trans (List.Perm.trans ?_ HPC.out.symm)
            rw [List.map_cons, part_cons, if_neg]
            · exact .refl _
            · show ¬ (decide (s.lab.1 = n) && q s.lab.2) = true
              rw [← HY.out, hq]
              simp)
          clear hq hnm
          go_wp2_with fail
          refine HFC.out.mono ?_
          rintro e w2 ⟨rfl, hw⟩
          replace hw := hw.symm
          subst hw
          go_wp2_with fail
          refine ⟨⟨_, cnt1, acc, a7, n7, c7, rfl, HN7.out, HACC1.out, HP1, HRA.out, HKA.out, hsz1⟩, ?_⟩
          rw [HRA.out.left_eq, HRG.out.left_eq]
          exact HLT.out
        · rw [hq] at HFC
          have hal : acc.length + s.l.length ≤ 100000 := by
            have h1 := hperm.out.length_eq
            have h2 := HPC.out.length_eq
            rw [List.map_cons, part_cons, if_pos (by show (decide (s.lab.1 = n) && q s.lab.2) = true; rw [← HY.out, hq]; simp [hnm]), List.length_append] at h2
            have h3 := part_le ((doneE x.es (fun z => left z && !z.sameKey (keyL s))).map postC) n q
            have h4 := done_le x.es (fun z => left z && !z.sameKey (keyL s))
            have h5 := HL.out
            have h6 : (postC s).2 = s.l := rfl
            rw [h6] at h2
            omega
          have HP1 : Hid ((acc ++ s.l).Perm (partH ((doneE x.es (fun z => left z && !z.sameKey (keyL s))).map postC) n q)) := hid (by
            refine List.Perm.trans ?_ HPC.out.symm
            rw [List.map_cons, part_cons, if_pos]
            · exact List.perm_append_comm.trans (List.Perm.append_left _ hperm.out)
            · show (decide (s.lab.1 = n) && q s.lab.2) = true
              rw [← HY.out, hq]
              simp [hnm])
          have hsrc : SrcOf (w1.alloc (.cells #[.string y1, .string y2] 43)) (.slice a8 s.l.length c8) (s.l.map (Value.int .i64)) := by
            rw [← HE8.out]
            exact own_src (ownN_stay HROW.out HKA.out)
          have hacc1 := HACC1.out
          rw [HN7.out] at hacc1
          obtain ⟨v', w2, hr2, ho2, hg2, hloc⟩ := append_src (P := Tryz.prog) (base := w.heap.size + 1) Tryz.underlying45 Po.infoI6 rfl (by decide) hacc1 hsrc (Po.ints_one _) (by rw [List.length_map]; omega) hsz1
          rw [List.length_map, ← List.map_append, ← List.length_append] at ho2
          rw [← HN7.out] at hr2
          obtain ⟨a9, c9, rfl⟩ := own_slice ho2
          have k2 : Only (fun j => (Value.slice a7 acc.length c7).ownBlock = some j) (w1.alloc (.cells #[.string y1, .string y2] 43)) w2 := (Only.refl _ _).grown hg2 (fun j e _ => e)
          have hblo : ∀ j, (Value.slice a7 acc.length c7).ownBlock = some j → w.heap.size + 1 ≤ j := fun j e => (ownN_lt hacc1 e).1
          have HK2 := hid (show Kept w w2 from HKA.out.trans k2 (fun j hj e => by have := hblo j e; omega))
          have HR2 := hid (ranges_block HRA.out (k2.block x.mb (by omega) (fun e => by have := hblo _ e; omega)) (k2.block w.heap.size (by omega) (fun e => by have := hblo _ e; omega)))
          have hsz2 := k2.size
          have HO2 := hid ho2
          have HRUN := hid hr2
          generalize hn9 : (acc ++ s.l).length = n9 at HO2 HRUN
          clear hq hnm hsrc hacc1 hr2 ho2 hg2 hloc k2 hblo
          go_wp2_with fail
          refine HFC.out.mono ?_
          rintro e w3 ⟨rfl, hw⟩
          replace hw := hw.symm
          subst hw
          go_wp2_with (at_builtin; refine wpList_append_run rfl _ _ _ rfl rfl rfl HRUN ?_)
          refine ⟨⟨_, cnt1, acc ++ s.l, a9, n9, c9, rfl, hn9.symm, ?_, HP1, HR2.out, HK2.out, by omega⟩, ?_⟩
          · show w2.ownsRow _ _ _ _ (acc ++ s.l).length _
            rw [hn9]
            exact HO2.out
          rw [HR2.out.left_eq, HRG.out.left_eq]
          exact HLT.out
      · have hq1 : (y1.toList == n.toList) = false := by
          simp only [beq_eq_false_iff_ne, ne_eq]
          intro e
          rw [ByteArray.toList_eq, ByteArray.toList_eq] at e
          exact hnm (bytes_inj e)
        have hq2 : ¬ y1.toList = n.toList := by simpa using hq1
        have HP1 : Hid (acc.Perm (partH ((doneE x.es (fun z => left z && !z.sameKey (keyL s))).map postC) n q)) := hid (by
          refine hperm.out.trans (List.Perm.trans ?_ HPC.out.symm)
          rw [List.map_cons, part_cons, if_neg]
          · exact .refl _
          · show ¬ (decide (s.lab.1 = n) && q s.lab.2) = true
            rw [← HY.out, decide_eq_false hnm]
            simp)
        clear hnm
        go_wp2_with fail
        refine ⟨⟨_, cnt1, acc, a7, n7, c7, rfl, HN7.out, HACC1.out, HP1, HRA.out, HKA.out, hsz1⟩, ?_⟩
        rw [HRA.out.left_eq, HRG.out.left_eq]
        exact HLT.out
end Go.Proofs.YteknpfldemgmnaaGreat.X
