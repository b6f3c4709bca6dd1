/-
  look: whether there can be an index of series.
-/
import Derived.Test.YtdgkdgbdkhnpcaaGreatXput
import Derived.Test.YtdgkdgbdkhnpcaaGreatXeq
namespace Go.Proofs.YtdgkdgbdkhnpcaaGreat.X
open Go.RowKit Go.Proofs.Lys Go.Maps Go.Proofs.YtdgkdgbdkhnpcaaGreat.N
set_option linter.unusedVariables false
set_option linter.unusedSimpArgs false

/-- Series' labels that are read. -/
def LSrc (w : World) (v : Value) (L : List Labs) : Prop :=
  ∃ vs : List Value, SrcOf w v vs ∧ vs.length = L.length ∧ ∀ i (h : i < vs.length) (h2 : i < L.length), LabSrc w vs[i] L[i]
theorem LSrc.stay {w w' : World} {v : Value} {L : List Labs} (h : LSrc w v L) (k : Kept w w') : LSrc w' v L := by
  obtain ⟨vs, h1, h2, h3⟩ := h
  exact ⟨vs, h1.stay k, h2, fun i a b => (h3 i a b).stay k⟩
theorem LSrc.len {w : World} {v : Value} {L : List Labs} (h : LSrc w v L) : ∃ a c, v = .slice a L.length c := by
  obtain ⟨vs, h1, h2, h3⟩ := h
  obtain ⟨a, c, rfl⟩ := h1.len
  exact ⟨a, c, by rw [h2]⟩
theorem LSrc.cell {w : World} {av : Option Addr} {N c : Nat} {L : List Labs} (h : LSrc w (.slice av N c) L) (hL : L.length = N) (i : Nat) (hi : i < N) :
    ∃ b o a' c', av = some ⟨b, o, none⟩ ∧ w.cell? ⟨b, o + i, none⟩ = some (.slice a' (L[i]'(by omega)).length c') ∧ LabSrc w (.slice a' (L[i]'(by omega)).length c') (L[i]'(by omega)) := by
  obtain ⟨vs, h1, h2, h3⟩ := h
  have hiv : i < vs.length := by omega
  have hil : i < L.length := by omega
  have h4 := h3 i hiv hil
  obtain ⟨a', c', hv⟩ := h4.len
  rcases h1.shape with ⟨hn, _⟩ | ⟨_, b, o, c2, hv2, hc⟩
  · subst hn
    simp at hiv
  · simp only [Value.slice.injEq] at hv2
    refine ⟨b, o, a', c', hv2.1, ?_, by rw [← hv]; exact h4⟩
    rw [← hv]
    exact hc i _ (List.getElem?_eq_getElem hiv)

def okL (l : Labs) : Bool := decide (makeL l = some l)
/-- What there is against an index. -/
def checkI (L : List Labs) : Int := if 1000 < L.length then 2 else if L.all okL then (if L.Nodup then 0 else 7) else 20
theorem okL_made {l : Labs} (h : okL l = true) : Made l := makeL_made (of_decide_eq_true h)
theorem check_zero {L : List Labs} : checkI L = 0 ↔ L.length ≤ 1000 ∧ (∀ l ∈ L, Made l) ∧ L.Nodup := by
  unfold checkI
  constructor
  · intro h
    split at h
    · cases h
    · split at h
      · split at h
        · rename_i h1 h2 h3
          exact ⟨by omega, fun l hl => okL_made (List.all_eq_true.1 h2 l hl), h3⟩
        · cases h
      · cases h
  · rintro ⟨h1, h2, h3⟩
    rw [if_neg (by omega), if_pos (show L.all okL = true from List.all_eq_true.2 (fun l hl => decide_eq_true (h2 l hl).make)), if_pos h3]
theorem check_long {L : List Labs} (h : 1000 < L.length) : checkI L = 2 := by
  unfold checkI
  rw [if_pos h]
theorem check_bad {L : List Labs} (h : ¬ 1000 < L.length) {k : Nat} (hk : k < L.length) (hb : okL L[k] = false) : checkI L = 20 := by
  unfold checkI
  rw [if_neg h, if_neg]
  intro h2
  have := List.all_eq_true.1 h2 _ (List.getElem_mem hk)
  rw [hb] at this
  cases this
theorem check_all {L : List Labs} (h : ¬ 1000 < L.length) (hb : ∀ k (hk : k < L.length), okL L[k] = true) : checkI L = if L.Nodup then 0 else 7 := by
  unfold checkI
  rw [if_neg h, if_pos]
  refine List.all_eq_true.2 (fun l hl => ?_)
  obtain ⟨k, hk, rfl⟩ := List.getElem_of_mem hl
  exact hb k hk
theorem text_inj {a b : Labs} (ha : Made a) (hb : Made b) (h : textL a = textL b) : a = b := by
  have h1 := parse_iff.2 ⟨ha, rfl⟩
  have h2 := parse_iff.2 ⟨hb, rfl⟩
  rw [h] at h1
  rw [h1] at h2
  exact Option.some.inj h2
theorem mkB_len (l : List UInt8) : (mkB l).size = l.length := by
  show (Array.size _) = _
  simp
theorem text_len {l : Labs} (h : Made l) : (textL l).length ≤ 10000 := by
  have h1 := accT_len h.ok
  have h2 := h.len16
  unfold textL
  rw [List.length_append, List.length_singleton]
  omega

/-- What the texts so far tell. -/
structure LookI (L : List Labs) (k : Nat) (D : DataW Unit) : Prop where
  ok : ∀ j (hj : j < L.length), j < k → okL L[j] = true
  has : ∀ s, Maps.has D (.string s) = true ↔ ∃ j, ∃ hj : j < L.length, j < k ∧ textL L[j] = s
  le : Maps.size D ≤ k
  eq : Maps.size D = k ↔ (L.take k).Nodup
theorem LookI.step {L : List Labs} {k : Nat} {D : DataW Unit} (h : LookI L k D) (hT : Tidy D) (hk : k < L.length) (hok : okL L[k] = true) (d : DataW Unit) : LookI L (k + 1) (D.put (.string (textL L[k])) d) := by
  have hsz := size_put (k := .string (textL L[k])) hT d
  refine ⟨fun j hj hj2 => ?_, fun s => ?_, ?_, ?_⟩
  · by_cases e : j = k
    · subst e
      exact hok
    · exact h.ok j hj (by omega)
  · by_cases e : s = textL L[k]
    · subst e
      rw [has_put_same (k := .string (textL L[k])) hT.isMap trivial]
      exact ⟨fun _ => ⟨k, hk, by omega, rfl⟩, fun _ => rfl⟩
    · rw [has_put_other (fun e2 => e (by injection e2)), h.has]
      constructor
      · rintro ⟨j, hj, h1, h2⟩
        exact ⟨j, hj, by omega, h2⟩
      · rintro ⟨j, hj, h1, h2⟩
        refine ⟨j, hj, ?_, h2⟩
        rcases Nat.lt_or_ge j k with h3 | h3
        · exact h3
        · obtain rfl : j = k := by omega
          exact absurd h2.symm e
  · rw [hsz]
    have := h.le
    split <;> omega
  · rw [hsz, List.take_succ_eq_append_getElem hk, List.nodup_append]
    have hmem : Maps.has D (.string (textL L[k])) = true ↔ L[k] ∈ L.take k := by
      rw [h.has]
      constructor
      · rintro ⟨j, hj, h1, h2⟩
        have e := text_inj (okL_made (h.ok j hj h1)) (okL_made hok) h2
        rw [← e]
        exact List.mem_take_iff_getElem.2 ⟨j, by omega, rfl⟩
      · intro hm
        obtain ⟨j, hj, e⟩ := List.mem_take_iff_getElem.1 hm
        exact ⟨j, by omega, by omega, by rw [e]⟩
    have := h.le
    split
    · rename_i e
      constructor
      · intro; omega
      · rintro ⟨_, _, h3⟩
        exact absurd rfl (h3 _ (hmem.1 e) _ (List.mem_singleton.2 rfl))
    · rename_i e
      constructor
      · intro h1
        exact ⟨h.eq.1 (by omega), by simp, fun a ha b hb e2 => e (hmem.2 (by rw [List.mem_singleton.1 hb] at e2; rw [← e2]; exact ha))⟩
      · rintro ⟨h1, _⟩
        rw [h.eq.2 h1]
theorem look_end {L : List Labs} {D : DataW Unit} (h : LookI L L.length D) (hl : ¬ 1000 < L.length) : (Maps.size D < L.length ∧ checkI L = 7) ∨ (¬ Maps.size D < L.length ∧ checkI L = 0) := by
  have hc := check_all hl (fun k hk => h.ok k hk hk)
  have h1 := h.eq
  have h2 := h.le
  rw [List.take_length] at h1
  by_cases e : L.Nodup
  · rw [if_pos e] at hc
    exact .inr ⟨by rw [h1.2 e]; omega, hc⟩
  · rw [if_neg e] at hc
    refine .inl ⟨?_, hc⟩
    have : ¬ Maps.size D = L.length := fun e2 => e (h1.1 e2)
    omega
theorem lawS : Keyed Tryz.prog 9 := string_keyed Tryz.underlying9
theorem keyS_mk {s : ByteArray} (hs : s.size ≤ maxLen) : keyOf Tryz.prog 9 (.string s) = some (.string s.data.toList) := WideMaps.keyOf_string_mk Tryz.underlying9 hs
theorem put_num {w : World} {b n : Nat} {D : DataW Unit} {s : ByteArray} (h : w.ownsMap Tryz.prog 9 (plainElem Tryz.prog 3) b n D) (hs : s.size ≤ maxLen) (hn : n < 1000000) {x : Int} (hx : -9223372036854775808 ≤ x ∧ x ≤ 9223372036854775807) :
    ∃ w', (Instr.mapUpdate 92 (.map (some b)) (.string s) (.int .i64 x)).run Tryz.prog w = .ok () w' ∧
      w'.ownsMap Tryz.prog 9 (plainElem Tryz.prog 3) b (n + 1) (D.put (.string s.data.toList) (.lit (.int .i64 x))) ∧ Only (· = b) w w' := by
  have hwf : (Lit.int .i64 x).wf = true := by
    simp [Lit.wf, IntKind.min, IntKind.max, IntKind.bits, IntKind.signed]
    omega
  obtain ⟨w', hr, ho, ht⟩ := h.store lawS Tryz.underlying92 (by unfold maxLen; omega) (keyS_mk hs) (plainElem_int Tryz.underlying3 hwf)
  refine ⟨w', hr, ho, ?_⟩
  obtain ⟨es, ck, es', ck', hb, rfl⟩ := ht
  exact ⟨rfl, rfl, rfl, by simp [ChangeMaps.setBlock], fun k _ hk => ChangeMaps.heap_setBlock_other hb _ hk⟩

/-- How look ends. -/
def LookA (L : List Labs) (e : Ending) : Prop := (e = .returned (.tuple #[]) ∧ checkI L = 0) ∨ (checkI L ≠ 0 ∧ e = gave (checkI L))
def OkS (L : List Labs) : Prop := ∀ l ∈ L, l.length ≤ 100000 ∧ Small l

set_option maxRecDepth 100000 in
set_option maxHeartbeats 3200000 in
theorem look_any (w : World) (v : Value) (L : List Labs) (hs : LSrc w v L) (hl : L.length ≤ 100000) (hB : OkS L) :
    Calls Tryz.prog 23 #[v] w fun e w' => LookA L e ∧ Kept w w' := by
  obtain ⟨av, c, rfl⟩ := hs.len
  obtain ⟨N, hN⟩ : ∃ N, L.length = N := ⟨_, rfl⟩
  rw [hN] at hl hs ⊢
  have HN := hid hN
  have HS := hid hs
  have HB := hid hB
  have HR := hid (fun n W => refuse_no n W)
  have HY := hid (fun n W => refuse_yes n W)
  clear hs hB hN
  by_cases h1 : 1000 < N
  · have HE := hid (show LookA L (gave 2) from by have := check_long (L := L) (by rw [HN.out]; exact h1); exact .inr ⟨by rw [this]; decide, by rw [this]⟩)
    have d1 : decide ((1000 : Int) < (N : Int)) = true := decide_eq_true (by omega)
    go_enter Tryz.func23, Tryz.ntmps23
    go_wp2_with fail
    refine (HY.out 2 w).mono ?_
    rintro e w' ⟨rfl, rfl⟩
    exact ⟨rfl, HE.out, Only.refl _ _⟩
  · have d1 : decide ((1000 : Int) < (N : Int)) = false := decide_eq_false (by omega)
    have HM0 : Hid ((w.alloc (.map #[] 0)).ownsMap Tryz.prog 9 (plainElem (H := Unit) Tryz.prog 3) w.heap.size 0 (.map [])) := World.ownsMap_made w Tryz.prog 9 _
    have hmk : ∀ W : World, (Instr.makeMap 92 (some (.int .i64 (N : Int)))).run Tryz.prog W = .ok (.map (some W.heap.size)) (W.alloc (.map #[] 0)) := fun W => by
      simp [Instr.makeMap, run_underlying Tryz.underlying92, asInt, asIntOf, newObj, Sem.run]
    go_enter Tryz.func23, Tryz.ntmps23
    go_wp2_with fail
    refine (HR.out 2 w).mono ?_
    rintro e w' ⟨rfl, hw⟩
    replace hw := hw.symm
    subst hw
    go_wp2_with fail
    have kM : Kept w (w.alloc (.map #[] 0)) := (Only.refl _ w).alloc _
    have HKM := hid kM
    clear kM
    go_loopw [16] (fun s16 wr => ∃ (k : Nat) (D : DataW Unit), k ≤ N ∧ s16 = .int .i64 (k : Int) ∧ wr.ownsMap Tryz.prog 9 (plainElem Tryz.prog 3) w.heap.size k D ∧ LookI L k D ∧ Kept w wr) (fun s16 _ => N - (intOf s16).toNat)
    case atStart =>
      refine ⟨0, .map [], by omega, rfl, HM0.out, ⟨fun j _ h => by omega, fun s => Iff.intro (fun h => by have h : false = true := h; cases h) (fun h => by obtain ⟨j, _, h, _⟩ := h; omega), Nat.le_refl _, ?_⟩, HKM.out⟩
      rw [List.take_zero]
      exact ⟨fun _ => List.nodup_nil, fun _ => rfl⟩
    case round =>
      obtain ⟨k, D, hk, rfl, hmap, hI, kr⟩ := hrel
      have HMAP := hid hmap
      have HI := hid hI
      have HK := hid kr
      by_cases hlt : k < N
      · have hkL : k < L.length := by have := HN.out; omega
        obtain ⟨b, o, a', c', rfl, x0, hls⟩ := (HS.out.stay kr).cell HN.out k hlt
        have hB := HB.out L[k] (List.getElem_mem hkL)
        have HMK := hid (make_any wr _ L[k] hls hB.1 hB.2)
        have HLS := hid hls
        have HBB := hid hB
        clear hmap hI kr hls hB
        cases hm : makeL L[k] with
        | none =>
          have HE := hid (show LookA L (gave 20) from by
            have := check_bad (L := L) (by rw [HN.out]; exact h1) hkL (decide_eq_false (by rw [hm]; exact fun e => by cases e))
            exact .inr ⟨by rw [this]; decide, by rw [this]⟩)
          rw [hm] at HMK
          clear hm
          generalize L[k].length = NL at x0 HMK
          go_wp2_with fail
          refine HMK.out.mono ?_
          rintro e w1 ⟨⟨u, n, rfl, rfl, rfl⟩, k1⟩
          have K1 := hid (HK.out.trans k1 (fun _ _ f => f))
          clear k1
          go_wp2_with fail
          refine (HY.out 20 w1).mono ?_
          rintro e w' ⟨rfl, rfl⟩
          exact ⟨rfl, HE.out, K1.out⟩
        | some m =>
          rw [hm] at HMK
          have HM := hid hm
          clear hm
          obtain ⟨NL, hNL⟩ : ∃ NL, L[k].length = NL := ⟨_, rfl⟩
          rw [hNL] at x0 HMK HLS
          have HNL := hid hNL
          clear hNL
          go_wp2_with fail
          refine HMK.out.mono ?_
          rintro e w1 ⟨⟨u, n, rfl, rfl, hat⟩, k1⟩
          obtain ⟨au, cu, rfl⟩ := ownN_slice hat
          have K1 := hid (HK.out.trans k1 (fun _ _ f => f))
          have HEQ := hid (equal_any w1 _ _ m L[k] (LabAt.src hat) (HLS.out.stay k1) (by have h1 := makeL_len HM.out; have h2 := HBB.out.1; omega) (by have h2 := HBB.out.1; omega))
          have HM1 := hid (Only.map k1 HMAP.out (fun f => f))
          have HLS1 := hid (HLS.out.stay k1)
          clear hat k1 HMK HLS
          by_cases hmk : m = L[k]
          · have hok : okL L[k] = true := decide_eq_true (by rw [HM.out, hmk])
            have HOK := hid hok
            rw [decide_eq_true hmk] at HEQ
            clear hmk hok
            have HTX := hid (fun W (kW : Kept w1 W) => text_any W _ L[k] (HLS1.out.stay kW) HBB.out.1 HBB.out.2)
            have HT : Hid (txtB L[k] = mkB (textL L[k])) := by
              show txtB L[k] = mkB (textL L[k])
              unfold txtB
              rw [of_decide_eq_true HOK.out]
            have hts : (mkB (textL L[k])).size ≤ 100000 := by
              have := text_len (okL_made HOK.out)
              rw [mkB_len]
              omega
            rw [HT.out] at HTX
            generalize m.length = ML at HEQ ⊢
            go_wp2_with fail
            refine (HR.out _ w1).mono ?_
            rintro e w' ⟨rfl, hw⟩
            replace hw := hw.symm
            subst hw
            go_wp2_with fail
            refine HEQ.out.mono ?_
            rintro e w2 ⟨rfl, k2⟩
            have K2 := hid (k2.kept)
            clear k2 HEQ
            go_wp2_with fail
            refine (HR.out _ w2).mono ?_
            rintro e w' ⟨rfl, hw⟩
            replace hw := hw.symm
            subst hw
            go_wp2_with fail
            refine (HTX.out w2 K2.out).mono ?_
            rintro e w3 ⟨rfl, k3⟩
            have hm3 := Only.map (K2.out.trans k3 (fun _ _ f => f)) HM1.out (fun f => f)
            obtain ⟨w4, hr4, ho4, k4⟩ := put_num (s := mkB (textL L[k])) (x := (k : Int)) hm3 (by unfold maxLen; omega) (by omega) (by omega)
            have HO4 := hid ho4
            have HSTEP := hid (HI.out.step (hm3.tidy lawS) hkL HOK.out (.lit (.int .i64 (k : Int))))
            have K4 := hid (show Kept w w4 from ((K1.out.trans K2.out (fun _ _ f => f)).trans k3 (fun _ _ f => f)).trans k4 (fun j hj e => by omega))
            have hdat : (mkB (textL L[k])).data.toList = textL L[k] := by simp
            rw [hdat] at HO4
            clear hm3 ho4 k4 k3 hdat HTX
            generalize mkB (textL L[k]) = ts at hr4 ⊢
            go_wp2_with fail
            go_roundw
            case rel => exact ⟨k + 1, _, by omega, by go_num, HO4.out, HSTEP.out, K4.out⟩
            case measure => simp [intOf]; omega
          · have HE := hid (show LookA L (gave 20) from by
              have := check_bad (L := L) (by rw [HN.out]; exact h1) hkL (decide_eq_false (by rw [HM.out]; exact fun e => hmk (Option.some.inj e)))
              exact .inr ⟨by rw [this]; decide, by rw [this]⟩)
            rw [decide_eq_false hmk] at HEQ
            clear hmk
            generalize m.length = ML at HEQ ⊢
            go_wp2_with fail
            refine (HR.out _ w1).mono ?_
            rintro e w' ⟨rfl, hw⟩
            replace hw := hw.symm
            subst hw
            go_wp2_with fail
            refine HEQ.out.mono ?_
            rintro e w2 ⟨rfl, k2⟩
            have K2 := hid (show Kept w w2 from K1.out.trans k2.kept (fun _ _ f => f))
            clear k2 HEQ
            go_wp2_with fail
            refine (HY.out 20 w2).mono ?_
            rintro e w' ⟨rfl, rfl⟩
            exact ⟨rfl, HE.out, K2.out⟩
      · obtain rfl : k = N := by omega
        have hI' : LookI L L.length D := by rw [HN.out]; exact HI.out
        have hle := hI.le
        have hlen := hmap.len Tryz.underlying92 3
        rcases look_end hI' (by rw [HN.out]; exact h1) with ⟨h2, h3⟩ | ⟨h2, h3⟩
        · have HE := hid (show LookA L (gave 7) from .inr ⟨by rw [h3]; decide, by rw [h3]⟩)
          rw [HN.out] at h2
          have d2 : decide (Maps.size D < k) = true := decide_eq_true (by omega)
          clear hmap hI kr h2 h3 hI' HI HMAP
          generalize Maps.size D = sz at hlen d2 hle
          go_wp2_with fail
          refine (HY.out 7 wr).mono ?_
          rintro e w' ⟨rfl, rfl⟩
          exact ⟨rfl, HE.out, HK.out⟩
        · have HE := hid (show LookA L (.returned (.tuple #[])) from .inl ⟨rfl, h3⟩)
          rw [HN.out] at h2
          have d2 : decide (Maps.size D < k) = false := decide_eq_false (by omega)
          clear hmap hI kr h2 h3 hI' HI HMAP
          generalize Maps.size D = sz at hlen d2 hle
          go_wp2_with fail
          refine (HR.out 7 wr).mono ?_
          rintro e w' ⟨rfl, hw⟩
          replace hw := hw.symm
          subst hw
          go_wp2_with fail
          go_end0
          exact ⟨HE.out, HK.out⟩
end Go.Proofs.YtdgkdgbdkhnpcaaGreat.X
