/-
  Xlook, Xmake, Xrchk.
-/
import Derived.Test.YteknpfldemgmnaaGreatQ20
import Derived.Test.YteknpfldemgmnaaGreatQ27
import Derived.Test.YteknpfldemgmnaaGreatQ28

/-
  look: whether there can be an index of series.
-/
namespace Go.Proofs.YteknpfldemgmnaaGreat.X
open Go.RowKit Go.Proofs.Lys Go.Maps Go.Proofs.YteknpfldemgmnaaGreat.N
set_option linter.unusedVariables false
set_option linter.unusedSimpArgs false

/-- Series' labels that are read. -/
def LSrc (w : World) (v : Value) (L : List Labs) : Prop :=
  ∃ vs : List Value, SrcOf w v vs ∧ vs.length = L.length ∧ ∀ i (h : i < vs.length) (h2 : i < L.length), LabSrc w vs[i] L[i]
theorem LSrc.stay {w w' : World} {v : Value} {L : List Labs} (h : LSrc w v L) (k : Kept w w') : LSrc w' v L := by
  obtain ⟨vs, h1, h2, h3⟩ := h
  exact ⟨vs, h1.stay k, h2, fun i a b => (h3 i a b).stay k⟩
theorem LSrc.len {w : World} {v : Value} {L : List Labs} (h : LSrc w v L) : ∃ a c, v = .slice a L.length c := by
  obtain ⟨vs, h1, h2, h3⟩ := h
  obtain ⟨a, c, rfl⟩ := h1.len
  exact ⟨a, c, by rw [h2]⟩
theorem LSrc.cell {w : World} {av : Option Addr} {N c : Nat} {L : List Labs} (h : LSrc w (.slice av N c) L) (hL : L.length = N) (i : Nat) (hi : i < N) :
    ∃ b o a' c', av = some ⟨b, o, none⟩ ∧ w.cell? ⟨b, o + i, none⟩ = some (.slice a' (L[i]'(by omega)).length c') ∧ LabSrc w (.slice a' (L[i]'(by omega)).length c') (L[i]'(by omega)) := by
  obtain ⟨vs, h1, h2, h3⟩ := h
  have hiv : i < vs.length := by omega
  have hil : i < L.length := by omega
  have h4 := h3 i hiv hil
  obtain ⟨a', c', hv⟩ := h4.len
  rcases h1.shape with ⟨hn, _⟩ | ⟨_, b, o, c2, hv2, hc⟩
  · subst hn
    simp at hiv
  · simp only [Value.slice.injEq] at hv2
    refine ⟨b, o, a', c', hv2.1, ?_, by rw [← hv]; exact h4⟩
    rw [← hv]
    exact hc i _ (List.getElem?_eq_getElem hiv)

def okL (l : Labs) : Bool := decide (makeL l = some l)
/-- What there is against an index. -/
def checkI (L : List Labs) : Int := if 1000 < L.length then 2 else if L.all okL then (if L.Nodup then 0 else 7) else 20
theorem okL_made {l : Labs} (h : okL l = true) : Made l := makeL_made (of_decide_eq_true h)
theorem check_zero {L : List Labs} : checkI L = 0 ↔ L.length ≤ 1000 ∧ (∀ l ∈ L, Made l) ∧ L.Nodup := by
  unfold checkI
  constructor
  · intro h
    split at h
    · cases h
    · split at h
      · split at h
        · rename_i h1 h2 h3
          exact ⟨by omega, fun l hl => okL_made (List.all_eq_true.1 h2 l hl), h3⟩
        · cases h
      · cases h
  · rintro ⟨h1, h2, h3⟩
    rw [if_neg (by omega), if_pos (show L.all okL = true from List.all_eq_true.2 (fun l hl => decide_eq_true (h2 l hl).make)), if_pos h3]
theorem check_long {L : List Labs} (h : 1000 < L.length) : checkI L = 2 := by
  unfold checkI
  rw [if_pos h]
theorem check_bad {L : List Labs} (h : ¬ 1000 < L.length) {k : Nat} (hk : k < L.length) (hb : okL L[k] = false) : checkI L = 20 := by
  unfold checkI
  rw [if_neg h, if_neg]
  intro h2
  have := List.all_eq_true.1 h2 _ (List.getElem_mem hk)
  rw [hb] at this
  cases this
theorem check_all {L : List Labs} (h : ¬ 1000 < L.length) (hb : ∀ k (hk : k < L.length), okL L[k] = true) : checkI L = if L.Nodup then 0 else 7 := by
  unfold checkI
  rw [if_neg h, if_pos]
  refine List.all_eq_true.2 (fun l hl => ?_)
  obtain ⟨k, hk, rfl⟩ := List.getElem_of_mem hl
  exact hb k hk
theorem text_inj {a b : Labs} (ha : Made a) (hb : Made b) (h : textL a = textL b) : a = b := by
  have h1 := parse_iff.2 ⟨ha, rfl⟩
  have h2 := parse_iff.2 ⟨hb, rfl⟩
  rw [h] at h1
  rw [h1] at h2
  exact Option.some.inj h2
theorem mkB_len (l : List UInt8) : (mkB l).size = l.length := by
  show (Array.size _) = _
  simp
theorem text_len {l : Labs} (h : Made l) : (textL l).length ≤ 10000 := by
  have h1 := accT_len h.ok
  have h2 := h.len16
  unfold textL
  rw [List.length_append, List.length_singleton]
  omega

/-- What the texts so far tell. -/
structure LookI (L : List Labs) (k : Nat) (D : DataW Unit) : Prop where
  ok : ∀ j (hj : j < L.length), j < k → okL L[j] = true
  has : ∀ s, Maps.has D (.string s) = true ↔ ∃ j, ∃ hj : j < L.length, j < k ∧ textL L[j] = s
  le : Maps.size D ≤ k
  eq : Maps.size D = k ↔ (L.take k).Nodup
theorem LookI.step {L : List Labs} {k : Nat} {D : DataW Unit} (h : LookI L k D) (hT : Tidy D) (hk : k < L.length) (hok : okL L[k] = true) (d : DataW Unit) : LookI L (k + 1) (D.put (.string (textL L[k])) d) := by
  have hsz := size_put (k := .string (textL L[k])) hT d
  refine ⟨fun j hj hj2 => ?_, fun s => ?_, ?_, ?_⟩
  · by_cases e : j = k
    · subst e
      exact hok
    · exact h.ok j hj (by omega)
  · by_cases e : s = textL L[k]
    · subst e
      rw [has_put_same (k := .string (textL L[k])) hT.isMap trivial]
      exact ⟨fun _ => ⟨k, hk, by omega, rfl⟩, fun _ => rfl⟩
    · rw [has_put_other (fun e2 => e (by injection e2)), h.has]
      constructor
      · rintro ⟨j, hj, h1, h2⟩
        exact ⟨j, hj, by omega, h2⟩
      · rintro ⟨j, hj, h1, h2⟩
        refine ⟨j, hj, ?_, h2⟩
        rcases Nat.lt_or_ge j k with h3 | h3
        · exact h3
        · obtain rfl : j = k := by omega
          exact absurd h2.symm e
  · rw [hsz]
    have := h.le
    split <;> omega
  · rw [hsz, List.take_succ_eq_append_getElem hk, List.nodup_append]
    have hmem : Maps.has D (.string (textL L[k])) = true ↔ L[k] ∈ L.take k := by
      rw [h.has]
      constructor
      · rintro ⟨j, hj, h1, h2⟩
        have e := text_inj (okL_made (h.ok j hj h1)) (okL_made hok) h2
        rw [← e]
        exact List.mem_take_iff_getElem.2 ⟨j, by omega, rfl⟩
      · intro hm
        obtain ⟨j, hj, e⟩ := List.mem_take_iff_getElem.1 hm
        exact ⟨j, by omega, by omega, by rw [e]⟩
    have := h.le
    split
    · rename_i e
      constructor
      · intro; omega
      · rintro ⟨_, _, h3⟩
        exact absurd rfl (h3 _ (hmem.1 e) _ (List.mem_singleton.2 rfl))
    · rename_i e
      constructor
      · intro h1
        exact ⟨h.eq.1 (by omega), by simp, fun a ha b hb e2 => e (hmem.2 (by rw [List.mem_singleton.1 hb] at e2; rw [← e2]; exact ha))⟩
      · rintro ⟨h1, _⟩
        rw [h.eq.2 h1]
theorem look_end {L : List Labs} {D : DataW Unit} (h : LookI L L.length D) (hl : ¬ 1000 < L.length) : (Maps.size D < L.length ∧ checkI L = 7) ∨ (¬ Maps.size D < L.length ∧ checkI L = 0) := by
  have hc := check_all hl (fun k hk => h.ok k hk hk)
  have h1 := h.eq
  have h2 := h.le
  rw [List.take_length] at h1
  by_cases e : L.Nodup
  · rw [if_pos e] at hc
    exact .inr ⟨by rw [h1.2 e]; omega, hc⟩
  · rw [if_neg e] at hc
    refine .inl ⟨?_, hc⟩
    have : ¬ Maps.size D = L.length := fun e2 => e (h1.1 e2)
    omega
theorem lawS : Keyed Tryz.prog 9 := string_keyed Tryz.underlying9
theorem keyS_mk {s : ByteArray} (hs : s.size ≤ maxLen) : keyOf Tryz.prog 9 (.string s) = some (.string s.data.toList) := WideMaps.keyOf_string_mk Tryz.underlying9 hs
theorem put_num {w : World} {b n : Nat} {D : DataW Unit} {s : ByteArray} (h : w.ownsMap Tryz.prog 9 (plainElem Tryz.prog 3) b n D) (hs : s.size ≤ maxLen) (hn : n < 1000000) {x : Int} (hx : -9223372036854775808 ≤ x ∧ x ≤ 9223372036854775807) :
    ∃ w', (Instr.mapUpdate 89 (.map (some b)) (.string s) (.int .i64 x)).run Tryz.prog w = .ok () w' ∧
      w'.ownsMap Tryz.prog 9 (plainElem Tryz.prog 3) b (n + 1) (D.put (.string s.data.toList) (.lit (.int .i64 x))) ∧ Only (· = b) w w' := by
  have hwf : (Lit.int .i64 x).wf = true := by
    simp [Lit.wf, IntKind.min, IntKind.max, IntKind.bits, IntKind.signed]
    omega
  obtain ⟨w', hr, ho, ht⟩ := h.store lawS Tryz.underlying89 (by unfold maxLen; omega) (keyS_mk hs) (plainElem_int Tryz.underlying3 hwf)
  refine ⟨w', hr, ho, ?_⟩
  obtain ⟨es, ck, es', ck', hb, rfl⟩ := ht
  exact ⟨rfl, rfl, rfl, by simp [ChangeMaps.setBlock], fun k _ hk => ChangeMaps.heap_setBlock_other hb _ hk⟩

/-- How look ends. -/
def LookA (L : List Labs) (e : Ending) : Prop := (e = .returned (.tuple #[]) ∧ checkI L = 0) ∨ (checkI L ≠ 0 ∧ e = gave (checkI L))
def OkS (L : List Labs) : Prop := ∀ l ∈ L, l.length ≤ 100000 ∧ Small l

set_option maxRecDepth 100000 in
set_option maxHeartbeats 3200000 in
theorem look_any (w : World) (v : Value) (L : List Labs) (hs : LSrc w v L) (hl : L.length ≤ 100000) (hB : OkS L) :
    Calls Tryz.prog 23 #[v] w fun e w' => LookA L e ∧ Kept w w' := by
  obtain ⟨av, c, rfl⟩ := hs.len
  obtain ⟨N, hN⟩ : ∃ N, L.length = N := ⟨_, rfl⟩
  rw [hN] at hl hs ⊢
  have HN := hid hN
  have HS := hid hs
  have HB := hid hB
  have HR := hid (fun n W => refuse_no n W)
  have HY := hid (fun n W => refuse_yes n W)
  clear hs hB hN
  by_cases h1 : 1000 < N
  · have HE := hid (show LookA L (gave 2) from by have := check_long (L := L) (by rw [HN.out]; exact h1); exact .inr ⟨by rw [this]; decide, by rw [this]⟩)
    have d1 : decide ((1000 : Int) < (N : Int)) = true := decide_eq_true (by omega)
    go_enter Tryz.func23, Tryz.ntmps23
    go_wp2_with fail
    refine (HY.out 2 w).mono ?_
    rintro e w' ⟨rfl, rfl⟩
    exact ⟨rfl, HE.out, Only.refl _ _⟩
  · have d1 : decide ((1000 : Int) < (N : Int)) = false := decide_eq_false (by omega)
    have HM0 : Hid ((w.alloc (.map #[] 0)).ownsMap Tryz.prog 9 (plainElem (H := Unit) Tryz.prog 3) w.heap.size 0 (.map [])) := World.ownsMap_made w Tryz.prog 9 _
    have hmk : ∀ W : World, (Instr.makeMap 89 (some (.int .i64 (N : Int)))).run Tryz.prog W = .ok (.map (some W.heap.size)) (W.alloc (.map #[] 0)) := fun W => by
      simp [Instr.makeMap, run_underlying Tryz.underlying89, asInt, asIntOf, newObj, Sem.run]
    go_enter Tryz.func23, Tryz.ntmps23
    go_wp2_with fail
    refine (HR.out 2 w).mono ?_
    rintro e w' ⟨rfl, hw⟩
    replace hw := hw.symm
    subst hw
    go_wp2_with fail
    have kM : Kept w (w.alloc (.map #[] 0)) := (Only.refl _ w).alloc _
    have HKM := hid kM
    clear kM
    go_loopw [16] (fun s16 wr => ∃ (k : Nat) (D : DataW Unit), k ≤ N ∧ s16 = .int .i64 (k : Int) ∧ wr.ownsMap Tryz.prog 9 (plainElem Tryz.prog 3) w.heap.size k D ∧ LookI L k D ∧ Kept w wr) (fun s16 _ => N - (intOf s16).toNat)
    case atStart =>
      refine ⟨0, .map [], by omega, rfl, HM0.out, ⟨fun j _ h => by omega, fun s => Iff.intro (fun h => by have h : false = true := h; cases h) (fun h => by obtain ⟨j, _, h, _⟩ := h; omega), Nat.le_refl _, ?_⟩, HKM.out⟩
      rw [List.take_zero]
      exact ⟨fun _ => List.nodup_nil, fun _ => rfl⟩
    case round =>
      obtain ⟨k, D, hk, rfl, hmap, hI, kr⟩ := hrel
      have HMAP := hid hmap
      have HI := hid hI
      have HK := hid kr
      by_cases hlt : k < N
      · have hkL : k < L.length := by have := HN.out; omega
        obtain ⟨b, o, a', c', rfl, x0, hls⟩ := (HS.out.stay kr).cell HN.out k hlt
        have hB := HB.out L[k] (List.getElem_mem hkL)
        have HMK := hid (make_any wr _ L[k] hls hB.1 hB.2)
        have HLS := hid hls
        have HBB := hid hB
        clear hmap hI kr hls hB
        cases hm : makeL L[k] with
        | none =>
          have HE := hid (show LookA L (gave 20) from by
            have := check_bad (L := L) (by rw [HN.out]; exact h1) hkL (decide_eq_false (by rw [hm]; exact fun e => by cases e))
            exact .inr ⟨by rw [this]; decide, by rw [this]⟩)
          rw [hm] at HMK
          clear hm
          generalize L[k].length = NL at x0 HMK
          go_wp2_with fail
          refine HMK.out.mono ?_
          rintro e w1 ⟨⟨u, n, rfl, rfl, rfl⟩, k1⟩
          have K1 := hid (HK.out.trans k1 (fun _ _ f => f))
          clear k1
          go_wp2_with fail
          refine (HY.out 20 w1).mono ?_
          rintro e w' ⟨rfl, rfl⟩
          exact ⟨rfl, HE.out, K1.out⟩
        | some m =>
          rw [hm] at HMK
          have HM := hid hm
          clear hm
          obtain ⟨NL, hNL⟩ : ∃ NL, L[k].length = NL := ⟨_, rfl⟩
          rw [hNL] at x0 HMK HLS
          have HNL := hid hNL
          clear hNL
          go_wp2_with fail
          refine HMK.out.mono ?_
          rintro e w1 ⟨⟨u, n, rfl, rfl, hat⟩, k1⟩
          obtain ⟨au, cu, rfl⟩ := ownN_slice hat
          have K1 := hid (HK.out.trans k1 (fun _ _ f => f))
          have HEQ := hid (equal_any w1 _ _ m L[k] (LabAt.src hat) (HLS.out.stay k1) (by have h1 := makeL_len HM.out; have h2 := HBB.out.1; omega) (by have h2 := HBB.out.1; omega))
          have HM1 := hid (Only.map k1 HMAP.out (fun f => f))
          have HLS1 := hid (HLS.out.stay k1)
          clear hat k1 HMK HLS
          by_cases hmk : m = L[k]
          · have hok : okL L[k] = true := decide_eq_true (by rw [HM.out, hmk])
            have HOK := hid hok
            rw [decide_eq_true hmk] at HEQ
            clear hmk hok
            have HTX := hid (fun W (kW : Kept w1 W) => text_any W _ L[k] (HLS1.out.stay kW) HBB.out.1 HBB.out.2)
            have HT : Hid (txtB L[k] = mkB (textL L[k])) := by
              show txtB L[k] = mkB (textL L[k])
              unfold txtB
              rw [of_decide_eq_true HOK.out]
            have hts : (mkB (textL L[k])).size ≤ 100000 := by
              have := text_len (okL_made HOK.out)
              rw [mkB_len]
              omega
            rw [HT.out] at HTX
            generalize m.length = ML at HEQ ⊢
            go_wp2_with fail
            refine (HR.out _ w1).mono ?_
            rintro e w' ⟨rfl, hw⟩
            replace hw := hw.symm
            subst hw
            go_wp2_with fail
            refine HEQ.out.mono ?_
            rintro e w2 ⟨rfl, k2⟩
            have K2 := hid (k2.kept)
            clear k2 HEQ
            go_wp2_with fail
            refine (HR.out _ w2).mono ?_
            rintro e w' ⟨rfl, hw⟩
            replace hw := hw.symm
            subst hw
            go_wp2_with fail
            refine (HTX.out w2 K2.out).mono ?_
            rintro e w3 ⟨rfl, k3⟩
            have hm3 := Only.map (K2.out.trans k3 (fun _ _ f => f)) HM1.out (fun f => f)
            obtain ⟨w4, hr4, ho4, k4⟩ := put_num (s := mkB (textL L[k])) (x := (k : Int)) hm3 (by unfold maxLen; omega) (by omega) (by omega)
            have HO4 := hid ho4
            have HSTEP := hid (HI.out.step (hm3.tidy lawS) hkL HOK.out (.lit (.int .i64 (k : Int))))
            have K4 := hid (show Kept w w4 from ((K1.out.trans K2.out (fun _ _ f => f)).trans k3 (fun _ _ f => f)).trans k4 (fun j hj e => by omega))
            have hdat : (mkB (textL L[k])).data.toList = textL L[k] := by simp
            rw [hdat] at HO4
            clear hm3 ho4 k4 k3 hdat HTX
            generalize mkB (textL L[k]) = ts at hr4 ⊢
            go_wp2_with fail
            go_roundw
            case rel => exact ⟨k + 1, _, by omega, by go_num, HO4.out, HSTEP.out, K4.out⟩
            case measure => simp [intOf]; omega
          · have HE := hid (show LookA L (gave 20) from by
              have := check_bad (L := L) (by rw [HN.out]; exact h1) hkL (decide_eq_false (by rw [HM.out]; exact fun e => hmk (Option.some.inj e)))
              exact .inr ⟨by rw [this]; decide, by rw [this]⟩)
            rw [decide_eq_false hmk] at HEQ
            clear hmk
            generalize m.length = ML at HEQ ⊢
            go_wp2_with fail
            refine (HR.out _ w1).mono ?_
            rintro e w' ⟨rfl, hw⟩
            replace hw := hw.symm
            subst hw
            go_wp2_with fail
            refine HEQ.out.mono ?_
            rintro e w2 ⟨rfl, k2⟩
            have K2 := hid (show Kept w w2 from K1.out.trans k2.kept (fun _ _ f => f))
            clear k2 HEQ
            go_wp2_with fail
            refine (HY.out 20 w2).mono ?_
            rintro e w' ⟨rfl, rfl⟩
            exact ⟨rfl, HE.out, K2.out⟩
      · obtain rfl : k = N := by omega
        have hI' : LookI L L.length D := by rw [HN.out]; exact HI.out
        have hle := hI.le
        have hlen := hmap.len Tryz.underlying89 3
        rcases look_end hI' (by rw [HN.out]; exact h1) with ⟨h2, h3⟩ | ⟨h2, h3⟩
        · have HE := hid (show LookA L (gave 7) from .inr ⟨by rw [h3]; decide, by rw [h3]⟩)
          rw [HN.out] at h2
          have d2 : decide (Maps.size D < k) = true := decide_eq_true (by omega)
          clear hmap hI kr h2 h3 hI' HI HMAP
          generalize Maps.size D = sz at hlen d2 hle
          go_wp2_with fail
          refine (HY.out 7 wr).mono ?_
          rintro e w' ⟨rfl, rfl⟩
          exact ⟨rfl, HE.out, HK.out⟩
        · have HE := hid (show LookA L (.returned (.tuple #[])) from .inl ⟨rfl, h3⟩)
          rw [HN.out] at h2
          have d2 : decide (Maps.size D < k) = false := decide_eq_false (by omega)
          clear hmap hI kr h2 h3 hI' HI HMAP
          generalize Maps.size D = sz at hlen d2 hle
          go_wp2_with fail
          refine (HR.out 7 wr).mono ?_
          rintro e w' ⟨rfl, hw⟩
          replace hw := hw.symm
          subst hw
          go_wp2_with fail
          go_end0
          exact ⟨HE.out, HK.out⟩
end Go.Proofs.YteknpfldemgmnaaGreat.X

/-
  Make.
-/
namespace Go.Proofs.YteknpfldemgmnaaGreat.X
open Go.RowKit Go.Proofs.Lys Go.Maps Go.Proofs.YteknpfldemgmnaaGreat.N
set_option linter.unusedVariables false
set_option linter.unusedSimpArgs false

theorem mkNo (p q : Addr) (w : World) :
    CallsD Tryz.prog 22 #[.pointer (some p), .pointer (some q)] .returning w fun e u' w' => e = .returned (.tuple #[]) ∧ u' = .returning ∧ w' = w := by
  refine callsD_of_wpS Tryz.func22 rfl fun c₀ cs hu => ?_
  apply wpS_seq
  apply wpS_region
  simp [wpOpsS, go_sem, recoverD, hu, Tryz.ntmps22, Exit.thenS]
  apply wpS_seq
  apply wpS_region
  simp [wpOpsS, go_sem, Exit.thenS]
  refine wpS_cond (t := false) (by simp [Act.eval, Array.replicate]) ?_
  simp only [Bool.false_eq_true, if_false]
  refine wpS_of_wp (wp_skip ?_)
  cases c₀
  simp_all [bodyPostS, results, Tryz.results22]

set_option maxHeartbeats 800000 in
theorem mkUp (p q : Nat) (x : Value) (y n : Int) (w : World) (hp : Blk w p [x] 26) (hq : Blk w q [.int .i64 y] 27) :
    CallsD Tryz.prog 22 #[.pointer (some ⟨p, 0, none⟩), .pointer (some ⟨q, 0, none⟩)] (.panicking [{ v := .iface 27 (.int .i64 n), recovered := false }]) w fun e u' w' =>
      e = .returned (.tuple #[]) ∧ u' = .panicking [{ v := .iface 27 (.int .i64 n), recovered := true }] ∧ Only (fun k => k = p ∨ k = q) w w' ∧ Blk w' p [.pointer none] 26 ∧ Blk w' q [.int .i64 n] 27 := by
  have hne : p ≠ q := hp.ne hq (by decide)
  have c0 := hp.cell 0 rfl
  have f0 := hp.frozen 0
  have hp1 := hp.set 0 (.pointer none)
  have hq1 := hq.other (a := ⟨p, 0, none⟩) (fun e => hne e.symm) (.pointer none)
  have d0 := hq1.cell 0 rfl
  have g0 := hq1.frozen 0
  have HF := hid (show Only (fun k => k = p ∨ k = q) w ((w.setCell ⟨p, 0, none⟩ (.pointer none)).setCell ⟨q, 0, none⟩ (.int .i64 n)) ∧ Blk ((w.setCell ⟨p, 0, none⟩ (.pointer none)).setCell ⟨q, 0, none⟩ (.int .i64 n)) p [.pointer none] 26 ∧ Blk ((w.setCell ⟨p, 0, none⟩ (.pointer none)).setCell ⟨q, 0, none⟩ (.int .i64 n)) q [.int .i64 n] 27 from
    ⟨((Only.refl (fun k => k = p ∨ k = q) w).setCell (p := ⟨p, 0, none⟩) (fun _ => .inl rfl) _).setCell (p := ⟨q, 0, none⟩) (fun _ => .inr rfl) _, hp1.other (a := ⟨q, 0, none⟩) hne _, hq1.set 0 _⟩)
  have hta : ∀ w, (Instr.typeAssert (.iface 27 (.int .i64 n)) 20 27 false).run Tryz.prog w = .ok (.int .i64 n) w := by
    intro w
    simp [Instr.typeAssert, run_underlying Tryz.underlying27, Result.andThen]
  clear hp1 hq1
  refine callsD_of_wpS Tryz.func22 rfl fun c₀ cs hu => ?_
  apply wpS_seq
  apply wpS_region
  simp [wpOpsS, go_sem, recoverD, hu, Tryz.ntmps22, Exit.thenS]
  apply wpS_seq
  apply wpS_region
  simp [wpOpsS, go_sem, Exit.thenS]
  refine wpS_cond (t := true) (by simp [Act.eval, Array.replicate]) ?_
  simp only [if_true]
  refine wpS_of_wp ?_
  go_wp2_with fail
  refine (show Code.wp _ _ _ ⟨#[.pointer (some ⟨p, 0, none⟩), .pointer (some ⟨q, 0, none⟩), .iface 27 (.int .i64 n), .iface 27 (.int .i64 n), .iface 27 (.int .i64 n), .bool true, undef, undef], []⟩ _ from ?_)
  refine wp_region_noPanic ?_
  refine wp_region_last (L := 3) (S := fun _ => True) (by kernel_rfl) ?_
  refine wpAnyL_take (i := 0) (v := .iface 27 (.int .i64 n)) rfl (by kernel_rfl) (by kernel_rfl) (by kernel_rfl) (by kernel_rfl) (by kernel_rfl) (fun _ _ _ h => h) (Or.inl ⟨by rfl, ?_⟩) trivial ?_
  · (intro w' hSw; go_simp)
  (try simp only [List.getElem_toArray, List.getElem_cons_succ, List.getElem_cons_zero])
  go_frame
  refine wpAnyL_take (i := 1) (v := .int .i64 n) rfl (by kernel_rfl) (by kernel_rfl) (by kernel_rfl) (by kernel_rfl) (by kernel_rfl) (fun _ _ _ h => h) (Or.inl ⟨by rfl, ?_⟩) trivial ?_
  · (intro w' hSw; go_simp)
  (try simp only [List.getElem_toArray, List.getElem_cons_succ, List.getElem_cons_zero])
  go_frame
  refine wpAnyL_one (i := 2) (by kernel_rfl) rfl rfl ?_
  go_simp
  (try go_frame)
  generalize w.setCell ⟨p, 0, none⟩ (.pointer none) = w1 at d0 g0 HF ⊢
  refine wpAnyL_last (by kernel_rfl) (by kernel_rfl) rfl rfl ?_
  go_simp
  refine NoPanic.normal ?_
  go_wp2_with fail
  refine ⟨rfl, _, rfl, .tuple #[], by simp [results, Tryz.results22], rfl, rfl, HF.out.1.drew, HF.out.2.1.drew, HF.out.2.2.drew⟩

theorem kept_cell {w W : World} (k : Kept w W) {a : Addr} {u : Value} (h : w.cell? a = some u) : W.cell? a = some u := by
  rw [World.cell?_of_block (w := w) (w' := W) (a := a) (k.block a.block (World.block_lt_of_cell? w a h) (fun f => f))]
  exact h
/-- How much posts are. -/
def Bd (P : Posts) (m : Nat) : Prop := P.length ≤ m ∧ ∀ x, (lookP P x).length ≤ m
theorem Bd.add {P : Posts} {m : Nat} (h : Bd P m) (hs : SortP P) (x : Lab) (i : Int) : Bd (addP x i P) (m + 1) := by
  refine ⟨?_, fun y => ?_⟩
  · have h1 := (add_perm x i hs).length_eq
    have h2 := List.length_filter_le (fun p : Post => !decide (p.1 = x)) P
    have h3 := h.1
    rw [List.length_cons] at h1
    omega
  · rw [look_add hs]
    have h1 := h.2 x
    have h2 := h.2 y
    split
    · rw [List.length_append, List.length_singleton]
      omega
    · omega
theorem bd_nil : Bd [] 0 := ⟨Nat.le_refl _, fun _ => Nat.le_refl _⟩
theorem Bd.mono {P : Posts} {m n : Nat} (h : Bd P m) (hm : m ≤ n) : Bd P n := ⟨by have := h.1; omega, fun x => by have := h.2 x; omega⟩

/-- The index while it is made. -/
structure MkI (w : World) (N : Nat) (P : Posts) (m XB : Nat) (x : IxC) (wr : World) : Prop where
  at_ : IxAt wr x (fun k => w.heap.size + 2 ≤ k ∧ k < wr.heap.size)
  is : Is x P
  bd : Bd P m
  xb : x.xb = XB
  n : x.n = N
  bp : Blk wr w.heap.size [.pointer (some ⟨XB, 0, none⟩)] 26
  bq : Blk wr (w.heap.size + 1) [.int .i64 0] 27
  kept : Kept w wr
theorem MkI.stay {w wr w' : World} {N m XB : Nat} {P : Posts} {x : IxC} (h : MkI w N P m XB x wr) (k : Kept wr w') : MkI w N P m XB x w' where
  at_ := (h.at_.stay k).weak (fun j hj => ⟨hj.1, by have := k.size; omega⟩) (fun j hj => hj.2)
  is := h.is
  bd := h.bd
  xb := h.xb
  n := h.n
  bp := k.blk h.bp (fun f => f)
  bq := k.blk h.bq (fun f => f)
  kept := h.kept.trans k (fun _ _ f => f)
theorem MkI.put {w wr w' : World} {N m XB : Nat} {P : Posts} {x : IxC} (h : MkI w N P m XB x wr) {y : Lab} {i : Int} {c : Sl} (hp : IxAt w' (putC x y i (lookP P y) c) (OX (fun k => w.heap.size + 2 ≤ k ∧ k < wr.heap.size) wr w')) (ho : Only (fun k => w.heap.size + 2 ≤ k ∧ k < wr.heap.size) wr w') :
    MkI w N (addP y i P) (m + 1) XB (putC x y i (lookP P y) c) w' where
  at_ := hp.weak (fun j hj => by
    have h1 := ho.size
    have h2 := h.kept.size
    have h3 := h.bq.lt
    rcases hj with e | e <;> omega) (fun j hj => hj.2)
  is := put_is h.is y i c
  bd := h.bd.add h.is.sort y i
  xb := h.xb
  n := h.n
  bp := ho.blk h.bp (fun e => by omega)
  bq := ho.blk h.bq (fun e => by omega)
  kept := h.kept.trans ho (fun j hj e => by omega)

theorem mk_start {w w1 : World} {N : Nat} (k1 : Kept w w1) (bp : Blk w1 w.heap.size [.pointer none] 26) (bq : Blk w1 (w.heap.size + 1) [.int .i64 0] 27) :
    MkI w N [] 0 (w1.heap.size + 1) ⟨w1.heap.size + 1, w1.heap.size, N, [], []⟩ (((w1.setCell ⟨w.heap.size, 0, none⟩ (.pointer (some ⟨w1.heap.size + 1, 0, none⟩))).alloc (.map #[] 0)).alloc (.cells #[.int .i64 (N : Int), .map (some w1.heap.size)] 59)) := by
  have e1 : (w1.setCell ⟨w.heap.size, 0, none⟩ (.pointer (some ⟨w1.heap.size + 1, 0, none⟩))).heap.size = w1.heap.size := by simp
  have hm := World.ownsMap_made (w1.setCell ⟨w.heap.size, 0, none⟩ (.pointer (some ⟨w1.heap.size + 1, 0, none⟩))) Tryz.prog 43 slE
  rw [e1] at hm
  have hx := Blk.new ((w1.setCell ⟨w.heap.size, 0, none⟩ (.pointer (some ⟨w1.heap.size + 1, 0, none⟩))).alloc (.map #[] 0)) [.int .i64 (N : Int), .map (some w1.heap.size)] 59
  have e2 : ((w1.setCell ⟨w.heap.size, 0, none⟩ (.pointer (some ⟨w1.heap.size + 1, 0, none⟩))).alloc (.map #[] 0)).heap.size = w1.heap.size + 1 := by simp
  rw [e2] at hx
  have hlt := bq.lt
  have ks : Kept w (w1.setCell ⟨w.heap.size, 0, none⟩ (.pointer (some ⟨w1.heap.size + 1, 0, none⟩))) := k1.setCell (p := ⟨w.heap.size, 0, none⟩) (fun h => absurd h (Nat.lt_irrefl _)) _
  refine ⟨⟨hx, hm.alloc _, .refl _, (fun e he => by cases he), .nil, .nil, (fun e he => by cases he), ?_, fun k hk => hk.2⟩, ⟨.refl _, .nil⟩, bd_nil, rfl, rfl, ?_, ?_, (ks.alloc _).alloc _⟩
  · rintro k (e | e | ⟨s, hs, _⟩)
    · rw [e]
      have := hx.lt
      exact ⟨by show w.heap.size + 2 ≤ w1.heap.size + 1; omega, this⟩
    · rw [e]
      have := hx.lt
      exact ⟨by show w.heap.size + 2 ≤ w1.heap.size; omega, by show w1.heap.size < _; omega⟩
    · cases hs
  · exact ((bp.set 0 _).alloc _).alloc _
  · exact ((bq.other (a := ⟨w.heap.size, 0, none⟩) (by show w.heap.size + 1 ≠ w.heap.size; omega) _).alloc _).alloc _
theorem posts_take {L : List Labs} {k : Nat} (hk : k < L.length) : postsOf (L.take (k + 1)) = addS (postsOf (L.take k)) (k : Int) L[k] := by
  rw [List.take_succ_eq_append_getElem hk, postsOf_snoc, List.length_take, Nat.min_eq_left (by omega)]
theorem addS_take {P : Posts} {i : Int} {l : Labs} {j : Nat} (hj : j < l.length) : addS P i (l.take (j + 1)) = addP l[j] i (addS P i (l.take j)) := by
  rw [List.take_succ_eq_append_getElem hj, addS_snoc]

/-- What Make leaves. -/
structure Made_ (w : World) (L : List Labs) (x : IxC) (w' : World) : Prop where
  at_ : IxAt w' x (fun k => w.heap.size ≤ k ∧ k < w'.heap.size)
  is : Is x (postsOf L)
  bd : Bd (postsOf L) 16000
  n : x.n = L.length
def MakeP (w : World) (L : List Labs) (e : Ending) (w' : World) : Prop :=
  ((checkI L = 0 ∧ ∃ x, e = .returned (.tuple #[.pointer (some ⟨x.xb, 0, none⟩), .int .i64 0]) ∧ Made_ w L x w') ∨ (checkI L ≠ 0 ∧ e = .returned (.tuple #[.pointer none, .int .i64 (checkI L)]))) ∧ Kept w w'

set_option maxRecDepth 100000 in
set_option maxHeartbeats 6400000 in
theorem make_ix (w : World) (v : Value) (L : List Labs) (hs : LSrc w v L) (hl : L.length ≤ 100000) (hB : OkS L) :
    Calls Tryz.prog 8 #[v] w (MakeP w L) := by
  have hmf : ∀ (fn : Fn) (first cap : Array Value) (w : World), (Instr.makeFunc fn first cap).run Tryz.prog w = .ok (.func fn first cap) w := fun _ _ _ _ => rfl
  obtain ⟨w0, hw0⟩ : ∃ w0, w0 = (w.alloc (.cells #[.pointer none] 26)).alloc (.cells #[.int .i64 0] 27) := ⟨_, rfl⟩
  have k0 : Kept w w0 := by rw [hw0]; exact ((Only.refl _ w).alloc _).alloc _
  have bp : Blk w0 w.heap.size [.pointer none] 26 := by rw [hw0]; exact (Blk.new w _ _).alloc _
  have bq : Blk w0 (w.heap.size + 1) [.int .i64 0] 27 := by
    rw [hw0]
    have := Blk.new (w.alloc (.cells #[.pointer none] 26)) [.int .i64 0] 27
    simpa using this
  have HLK := hid (look_any w0 v L (hs.stay k0) hl hB)
  obtain ⟨av, c, rfl⟩ := hs.len
  obtain ⟨N, hN⟩ : ∃ N, L.length = N := ⟨_, rfl⟩
  rw [hN] at hl hs HLK ⊢
  have HN := hid hN
  have HS := hid hs
  have HB := hid hB
  have HK0 := hid k0
  have HP := hid bp
  have HQ := hid bq
  clear hs hB hN k0 bp bq
  go_enter_defers Tryz.func8, Tryz.ntmps8
  go_wp2_with fail
  rw [← hw0]
  clear hw0
  refine HLK.out.mono ?_
  rintro e w1 ⟨hA, k1⟩
  have HP1 := hid (Only.blk k1 HP.out (fun f => f))
  have HQ1 := hid (Only.blk k1 HQ.out (fun f => f))
  have HK1 := hid (HK0.out.trans k1 (fun _ _ f => f))
  clear k1 HLK
  rcases hA with ⟨rfl, hc⟩ | ⟨hc, rfl⟩
  · have HC := hid hc
    have y0 := HP1.out.cell 0 rfl
    have g0 := HP1.out.frozen 0
    have hlt := HP1.out.lt
    have hmk : ∀ W : World, (Instr.makeMap 57 none).run Tryz.prog W = .ok (.map (some W.heap.size)) (W.alloc (.map #[] 0)) := fun W => by kernel_rfl
    have HZ := check_zero.1 hc
    have hN1 : N ≤ 1000 := by have := HZ.1; have := HN.out; omega
    have HMD := hid HZ.2.1
    have HST := hid (mk_start (N := N) HK1.out HP1.out HQ1.out)
    clear HZ hc
    go_wp2_with fail
    generalize (((w1.setCell ⟨w.heap.size, 0, none⟩ (.pointer (some ⟨w1.heap.size + 1, 0, none⟩))).alloc (.map #[] 0)).alloc (.cells #[.int .i64 (N : Int), .map (some w1.heap.size)] 59)) = w2 at HST ⊢
    generalize w1.heap.size + 1 = XB at HST ⊢
    generalize (Value.map (some w1.heap.size)) = UM
    clear y0 g0 hlt hmk HP1 HQ1 HP HQ
    go_loopw [18] (fun s18 wr => ∃ (k : Nat) (x : IxC), k ≤ N ∧ s18 = .int .i64 (k : Int) ∧ MkI w N (postsOf (L.take k)) (16 * k) XB x wr) (fun s18 _ => N - (intOf s18).toNat)
    case atStart => exact ⟨0, _, by omega, rfl, by rw [List.take_zero]; exact HST.out⟩
    case round =>
      obtain ⟨k, x, hk, rfl, hI⟩ := hrel
      have HI := hid hI
      clear hI HST
      by_cases hlt : k < N
      · have hkL : k < L.length := by have := HN.out; omega
        obtain ⟨b, o, a', c', rfl, x0, hls⟩ := (HS.out.stay HI.out.kept).cell HN.out k hlt
        have hM := HMD.out L[k] (List.getElem_mem hkL)
        have HB1 := hid (HB.out L[k] (List.getElem_mem hkL))
        have HT := hid (posts_take hkL)
        obtain ⟨NL, hNL⟩ : ∃ NL, L[k].length = NL := ⟨_, rfl⟩
        have h16 := hM.len16
        rw [hNL] at x0 hls h16
        have HNL := hid hNL
        have HLS := hid (show LabSrc w (.slice a' NL c') L[k] from by
          have := (HS.out.cell HN.out k hlt)
          obtain ⟨b2, o2, a2, c2, e2, x2, hl2⟩ := this
          cases e2
          have h3 := kept_cell HI.out.kept x2
          rw [x0] at h3
          cases h3
          rw [hNL] at hl2
          exact hl2)
        clear hls hM hNL
        go_wp2_with fail
        go_loopw [25] (fun s25 wq => ∃ (j : Nat) (x : IxC), j ≤ NL ∧ s25 = .int .i64 (j : Int) ∧ MkI w N (addS (postsOf (L.take k)) (k : Int) (L[k].take j)) (16 * k + j) XB x wq) (fun s25 _ => NL - (intOf s25).toNat)
        case atStart => exact ⟨0, x, by omega, rfl, by rw [List.take_zero]; exact HI.out⟩
        case round =>
          obtain ⟨j, x, hj, rfl, hI2⟩ := hrel
          have HI2 := hid hI2
          clear hI2
          by_cases hlt2 : j < NL
          · have hjL : j < L[k].length := by have := HNL.out; omega
            obtain ⟨b2, o2, rfl, x2, y2⟩ := (HLS.out.stay HI2.out.kept).cell HNL.out j hlt2
            have hy := HB1.out.2 L[k][j] (List.getElem_mem hjL)
            have HA := hid (addS_take (P := postsOf (L.take k)) (i := (k : Int)) hjL)
            generalize L[k][j] = yl at x2 y2 hy HA
            obtain ⟨X, Y⟩ := yl
            have I1 := HI2.out.stay ((Only.refl (fun _ => False) _).alloc (.cells #[.string X, .string Y] 43))
            have z0 := I1.bp.cell 0 rfl
            have z1 := HI2.out.bp.cell 0 rfl
            have zl := HI2.out.bp.lt
            have hpt := put_any I1.at_ I1.is (X, Y) hy (k : Int) (by have h1 := I1.at_.kvLen; have h2 := I1.is.len; have h3 := I1.bd.1; omega) (by have h3 := I1.bd.2 (X, Y); omega)
            rw [I1.xb] at hpt
            have HPT := hid hpt
            have HI1 := hid I1
            clear hpt I1
            go_wp2_with fail
            refine HPT.out.mono ?_
            rintro e w3 ⟨cc, rfl, hx3, ho3⟩
            have HN3 := hid (HI1.out.put hx3 ho3)
            clear hx3 ho3 HPT
            go_wp2_with fail
            go_roundw
            case rel => exact ⟨j + 1, _, by omega, by go_num, by rw [HA.out]; exact HN3.out⟩
            case measure => simp [intOf]; omega
          · obtain rfl : j = NL := by omega
            have HN3 : Hid (MkI w N (postsOf (L.take (k + 1))) (16 * (k + 1)) XB x _) := hid (by
              have h1 := HI2.out
              rw [List.take_of_length_le (l := L[k]) (by have := HNL.out; omega), ← HT.out] at h1
              exact ⟨h1.at_, h1.is, h1.bd.mono (by omega), h1.xb, h1.n, h1.bp, h1.bq, h1.kept⟩)
            go_wp2_with fail
            go_roundw
            case rel => exact ⟨k + 1, x, by omega, by go_num, HN3.out⟩
            case measure => simp [intOf]; omega
      · obtain rfl : k = N := by omega
        have hF := HI.out
        rw [List.take_of_length_le (l := L) (by have := HN.out; omega)] at hF
        have c1 := hF.bp.cell 0 rfl
        have f1 := hF.bp.frozen 0
        have c2 := (hF.bq.other (a := ⟨w.heap.size, 0, none⟩) (by show w.heap.size + 1 ≠ w.heap.size; omega) (.pointer (some ⟨XB, 0, none⟩))).cell 0 rfl
        have f2 := (hF.bq.other (a := ⟨w.heap.size, 0, none⟩) (by show w.heap.size + 1 ≠ w.heap.size; omega) (.pointer (some ⟨XB, 0, none⟩))).frozen 0
        have d2 := hF.bq.cell 0 rfl
        have e2 := hF.bq.frozen 0
        have HF := hid hF
        clear hF HI
        go_wp2_with fail
        refine leaves_cons (f := 22) (args := #[.pointer (some ⟨w.heap.size, 0, none⟩), .pointer (some ⟨w.heap.size + 1, 0, none⟩)]) (by simp) (by simp [go_sem]) ?_
        refine (mkNo _ _ _).mono ?_
        rintro e u' w'' ⟨rfl, rfl, rfl⟩
        have hO : Only (fun j => j = w.heap.size ∨ j = w.heap.size + 1) wr ((wr.setCell ⟨w.heap.size, 0, none⟩ (.pointer (some ⟨XB, 0, none⟩))).setCell ⟨w.heap.size + 1, 0, none⟩ (.int .i64 0)) := ((Only.refl _ wr).setCell (fun _ => .inl rfl) _).setCell (fun _ => .inr rfl) _
        have hp3 := ((HF.out.bp.set 0 (.pointer (some ⟨XB, 0, none⟩))).other (a := ⟨w.heap.size + 1, 0, none⟩) (by simp) (.int .i64 0)).cell 0 rfl
        have hq3 := ((HF.out.bq.other (a := ⟨w.heap.size, 0, none⟩) (by simp) (.pointer (some ⟨XB, 0, none⟩))).set 0 (.int .i64 0)).cell 0 rfl
        have hat := (HF.out.at_.only hO (fun j hj e => by omega)).weak (O' := fun j => w.heap.size ≤ j ∧ j < ((wr.setCell ⟨w.heap.size, 0, none⟩ (.pointer (some ⟨XB, 0, none⟩))).setCell ⟨w.heap.size + 1, 0, none⟩ (.int .i64 0)).heap.size) (fun j hj => ⟨by omega, by simp; omega⟩) (fun j hj => hj.2)
        have hkk : Kept w ((wr.setCell ⟨w.heap.size, 0, none⟩ (.pointer (some ⟨XB, 0, none⟩))).setCell ⟨w.heap.size + 1, 0, none⟩ (.int .i64 0)) := HF.out.kept.trans hO (fun j hj e => by omega)
        have hxb := HF.out.xb
        simp [Leaves, settle, results, Tryz.results8, go_sem, hp3, hq3]
        refine ⟨.inl ⟨HC.out, x, by rw [hxb], ⟨hat, HF.out.is, HF.out.bd.mono (by omega), by rw [HF.out.n, HN.out]⟩⟩, hkk⟩
  · have HC := hid hc
    clear hc
    generalize hck : checkI L = ck
    have HCK := hid hck
    clear hck
    refine leaves_cons (f := 22) (args := #[.pointer (some ⟨w.heap.size, 0, none⟩), .pointer (some ⟨w.heap.size + 1, 0, none⟩)]) (by simp) (by simp [go_sem]) ?_
    refine (mkUp _ _ _ 0 ck _ HP1.out HQ1.out).mono ?_
    rintro e u' w'' ⟨rfl, rfl, hk2, hp2, hq2⟩
    have hp3 := hp2.cell 0 rfl
    have hq3 := hq2.cell 0 rfl
    simp [Leaves, settle, results, Tryz.results8, go_sem, hp3, hq3]
    exact ⟨.inr ⟨HC.out, by rw [HCK.out]⟩, HK1.out.trans hk2 (fun j hj e => by omega)⟩
end Go.Proofs.YteknpfldemgmnaaGreat.X

/-
  The document's own check of an index.
-/
namespace Go.Proofs.YteknpfldemgmnaaGreat.X
open Go.RowKit Go.Proofs.Lys Go.Maps Go.Proofs.YteknpfldemgmnaaGreat.N
set_option linter.unusedVariables false
set_option linter.unusedSimpArgs false

set_option maxRecDepth 100000 in
set_option maxHeartbeats 3200000 in
theorem rcheckI_any (w : World) (v : Value) (L : List Labs) (hs : LSrc w v L) (hl : L.length ≤ 100000) (hB : OkS L) :
    Calls Tryz.prog 7 #[v] w fun e w' => e = .returned (.int .i64 (checkI L)) ∧ Kept w w' := by
  obtain ⟨av, c, rfl⟩ := hs.len
  obtain ⟨N, hN⟩ : ∃ N, L.length = N := ⟨_, rfl⟩
  rw [hN] at hl hs ⊢
  have HN := hid hN
  have HS := hid hs
  have HB := hid hB
  clear hs hB hN
  by_cases h1 : 1000 < N
  · have HE := hid (check_long (L := L) (by rw [HN.out]; exact h1))
    have d1 : decide ((1000 : Int) < (N : Int)) = true := decide_eq_true (by omega)
    go_enter Tryz.func7, Tryz.ntmps7
    go_wp2
    go_ret
    exact ⟨by rw [HE.out]; rfl, Only.refl _ _⟩
  · have d1 : decide ((1000 : Int) < (N : Int)) = false := decide_eq_false (by omega)
    go_enter Tryz.func7, Tryz.ntmps7
    go_wp2_with fail
    go_loopw [3] (fun s3 wr => ∃ (k : Nat), k ≤ N ∧ s3 = .int .i64 (k : Int) ∧ Hid (∀ j (hj : j < L.length), j < k → okL L[j] = true) ∧ Kept w wr) (fun s3 _ => N - (intOf s3).toNat)
    case atStart => exact ⟨0, by omega, rfl, hid (fun j _ h => by omega), Only.refl _ _⟩
    case round =>
      obtain ⟨k, hk, rfl, hok, kr⟩ := hrel
      have HK := hid kr
      by_cases hlt : k < N
      · have hkL : k < L.length := by have := HN.out; omega
        obtain ⟨b, o, a', c', rfl, x0, hls⟩ := (HS.out.stay kr).cell HN.out k hlt
        have hB := HB.out L[k] (List.getElem_mem hkL)
        have HMK := hid (rmake_any wr _ L[k] hls hB.1 hB.2)
        have HLS := hid hls
        have HBB := hid hB
        clear kr hls hB
        cases hm : makeL L[k] with
        | none =>
          have HE := hid (check_bad (L := L) (by rw [HN.out]; exact h1) hkL (decide_eq_false (by rw [hm]; exact fun e => by cases e)))
          rw [hm] at HMK
          clear hm
          go_wp2_with fail
          refine HMK.out.mono ?_
          rintro e w1 ⟨⟨u, n, rfl, rfl, rfl⟩, k1⟩
          have K1 := hid (HK.out.trans k1 (fun _ _ f => f))
          have z0 := kept_cell k1 x0
          have HSM := hid (rsame_any w1 (.slice none 0 0) _ [] L[k] (.inl ⟨_, _, rfl, rfl⟩) (HLS.out.stay k1) (by simp) (by have := HBB.out.1; omega))
          clear k1 HMK x0
          generalize L[k].length = NL at z0 HSM
          go_wp2_with fail
          refine HSM.out.mono ?_
          rintro e w2 ⟨rfl, k2⟩
          have K2 := hid (K1.out.trans k2.kept (fun _ _ f => f))
          clear k2 HSM
          go_wp2
          go_ret
          exact ⟨by rw [HE.out]; rfl, K2.out⟩
        | some m =>
          rw [hm] at HMK
          have HM := hid hm
          clear hm
          go_wp2_with fail
          refine HMK.out.mono ?_
          rintro e w1 ⟨⟨u, n, rfl, rfl, hat⟩, k1⟩
          obtain ⟨au, cu, rfl⟩ := ownN_slice hat
          have K1 := hid (HK.out.trans k1 (fun _ _ f => f))
          have z0 := kept_cell k1 x0
          have HSM := hid (rsame_any w1 _ _ m L[k] (LabAt.src hat) (HLS.out.stay k1) (by have h1 := makeL_len HM.out; have h2 := HBB.out.1; omega) (by have h2 := HBB.out.1; omega))
          clear k1 HMK x0 hat
          by_cases hmk : m = L[k]
          · have HOK := hid (show okL L[k] = true from decide_eq_true (by rw [HM.out, hmk]))
            rw [decide_eq_true hmk] at HSM
            clear hmk
            generalize L[k].length = NL at z0 HSM
            generalize m.length = ML at HSM ⊢
            go_wp2_with fail
            refine HSM.out.mono ?_
            rintro e w2 ⟨rfl, k2⟩
            have K2 := hid (K1.out.trans k2.kept (fun _ _ f => f))
            clear k2 HSM
            go_wp2_with fail
            go_roundw
            case rel => exact ⟨k + 1, by omega, by go_num, hid (fun j hj h => by
              by_cases e : j = k
              · subst e
                exact HOK.out
              · exact hok.out j hj (by omega)), K2.out⟩
            case measure => simp [intOf]; omega
          · have HE := hid (check_bad (L := L) (by rw [HN.out]; exact h1) hkL (decide_eq_false (by rw [HM.out]; exact fun e => hmk (Option.some.inj e))))
            rw [decide_eq_false hmk] at HSM
            clear hmk
            generalize L[k].length = NL at z0 HSM
            generalize m.length = ML at HSM ⊢
            go_wp2_with fail
            refine HSM.out.mono ?_
            rintro e w2 ⟨rfl, k2⟩
            have K2 := hid (K1.out.trans k2.kept (fun _ _ f => f))
            clear k2 HSM
            go_wp2
            go_ret
            exact ⟨by rw [HE.out]; rfl, K2.out⟩
      · obtain rfl : k = N := by omega
        have HOK := hid (check_all (L := L) (by rw [HN.out]; exact h1) (fun j hj => hok.out j hj (by have := HN.out; omega)))
        clear hok kr
        go_wp2_with fail
        go_loopw [7] (fun s7 wq => ∃ (i : Nat), i ≤ k ∧ s7 = .int .i64 (i : Int) ∧ Hid ((L.take i).Nodup) ∧ Kept w wq) (fun s7 _ => k - (intOf s7).toNat)
        case atStart => exact ⟨0, by omega, rfl, hid (by rw [List.take_zero]; exact List.nodup_nil), HK.out⟩
        case round =>
          obtain ⟨i, hi, rfl, hnd, kq⟩ := hrel
          have HKQ := hid kq
          clear kq
          by_cases hil : i < k
          · have hiL : i < L.length := by have := HN.out; omega
            go_wp2_with fail
            go_loopw [8] (fun s8 wx => ∃ (j : Nat), j ≤ i ∧ s8 = .int .i64 (j : Int) ∧ Hid (∀ t (ht : t < L.length), t < j → L[t] ≠ L[i]) ∧ Kept w wx) (fun s8 _ => i - (intOf s8).toNat)
            case atStart => exact ⟨0, by omega, rfl, hid (fun t _ h => by omega), HKQ.out⟩
            case round =>
              obtain ⟨j, hj, rfl, hne, kx⟩ := hrel
              have HKX := hid kx
              by_cases hjl : j < i
              · have hjL : j < L.length := by omega
                obtain ⟨b, o, a1, c1, rfl, x1, hl1⟩ := (HS.out.stay kx).cell HN.out i hil
                obtain ⟨b2, o2, a2, c2, e2, x2, hl2⟩ := (HS.out.stay kx).cell HN.out j (by omega)
                cases e2
                have HSM := hid (fun n => rsame_any (wr.drewN n) _ _ L[i] L[j] (hl1.stay (Drawn.kept ⟨n, rfl⟩)) (hl2.stay (Drawn.kept ⟨n, rfl⟩)) (by have := (HB.out L[i] (List.getElem_mem hiL)).1; omega) (by have := (HB.out L[j] (List.getElem_mem hjL)).1; omega))
                clear hl1 hl2 kx
                by_cases he : L[i] = L[j]
                · have HE := hid (show checkI L = 7 from by
                    rw [HOK.out, if_neg]
                    intro hn
                    exact (List.pairwise_iff_getElem.1 hn j i hjL hiL hjl) he.symm)
                  rw [decide_eq_true he] at HSM
                  clear he
                  generalize L[i].length = NI at x1 HSM
                  generalize L[j].length = NJ at x2 HSM
                  go_wp2_with fail
                  go_quiet ((go_at_call 21; refine Calls.quiet_of (HSM.out _)))
                  go_wp2
                  go_ret
                  exact ⟨by rw [HE.out]; rfl, HKX.out.trans (Drawn.kept ⟨nq, rfl⟩) (fun _ _ f => f)⟩
                · have HE := hid (show L[j] ≠ L[i] from fun e => he e.symm)
                  rw [decide_eq_false he] at HSM
                  clear he
                  generalize L[i].length = NI at x1 HSM
                  generalize L[j].length = NJ at x2 HSM
                  go_wp2_with fail
                  go_quiet ((go_at_call 21; refine Calls.quiet_of (HSM.out _)))
                  go_wp2_with fail
                  go_roundw
                  case rel => exact ⟨j + 1, by omega, by go_num, hid (fun t ht h => by
                    by_cases e : t = j
                    · subst e
                      exact HE.out
                    · exact hne.out t ht (by omega)), HKX.out.trans (Drawn.kept ⟨nq, rfl⟩) (fun _ _ f => f)⟩
                  case measure => simp [intOf]; omega
              · obtain rfl : j = i := by omega
                have HND := hid (show (L.take (j + 1)).Nodup from by
                  rw [List.take_succ_eq_append_getElem hiL, List.nodup_append]
                  refine ⟨hnd.out, by simp, fun a ha b hb e => ?_⟩
                  rw [List.mem_singleton.1 hb] at e
                  obtain ⟨t, ht, e2⟩ := List.mem_take_iff_getElem.1 ha
                  exact hne.out t (by omega) (by omega) (by rw [e2, e]))
                clear kx hne
                go_wp2_with fail
                go_roundw
                case rel => exact ⟨j + 1, by omega, by go_num, HND, HKX.out⟩
                case measure => simp [intOf]; omega
          · obtain rfl : i = k := by omega
            have HE := hid (show checkI L = 0 from by
              rw [HOK.out, if_pos]
              have := hnd.out
              rw [List.take_of_length_le (l := L) (by have := HN.out; omega)] at this
              exact this)
            go_wp2
            go_ret
            exact ⟨by rw [HE.out]; rfl, HKQ.out⟩
end Go.Proofs.YteknpfldemgmnaaGreat.X
