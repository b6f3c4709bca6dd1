/-
  The document's own Parse: the walk.
-/
import Derived.Test.YtfpncddoaenffaaNrpar
namespace Go.Proofs.Ytfpncddoaenffaa.N
open Go.RowKit Go.Proofs.Lys
set_option linter.unusedVariables false
set_option linter.unusedSimpArgs false

/-- How far the document's own reader is. -/
structure Rk (s : ByteArray) (k : Nat) (acc : Labs) (p : Nat) : Prop where
  len : acc.length = k
  k17 : k ≤ 17
  ps : p ≤ s.size
  sm : Small acc
  eq : rreadL s.data.toList = (rreadR (17 - k) (s.data.toList.drop p)).map (acc ++ ·)
theorem rlab_at {s : ByteArray} {a n : Nat} (h : Wd s a n) (hn : ∀ h : n < s.size, plainB (s[n]'h) = false) :
    rlabR (s.data.toList.drop a) = if hl : n < s.size then (if (s[n]'hl).toNat = 61 then (valS s (n + 1)).map (fun p => (((s.data.toList.take n).drop a, p.1), p.2)) else none) else none := by
  obtain ⟨h1, h2⟩ := h.stop hn
  unfold rlabR
  rw [h1, h2]
  by_cases hlt : n < s.size
  · rw [dif_pos hlt, drop_more s n hlt]
    unfold valS
    cases hd : s.data.toList.drop (n + 1) with
    | nil =>
      simp only
      split <;> rfl
    | cons c r =>
      simp only
      by_cases h61 : (s[n]'hlt).toNat = 61
      · rw [if_pos h61]
        by_cases h34 : c.toNat = 34
        · rw [if_pos ⟨h61, h34⟩, if_pos h34]
        · rw [if_neg (fun h => h34 h.2), if_neg h34]
          rfl
      · rw [if_neg h61, if_neg (fun h => h61 h.1)]
  · rw [dif_neg hlt, List.drop_of_length_le (by rw [← Lib.size_eq]; omega)]
theorem Rk.bad {s : ByteArray} {k : Nat} {acc : Labs} {p : Nat} (h : Rk s k acc p) (hn : rlabR (s.data.toList.drop p) = none ∨ 16 < k) : rreadL s.data.toList = none := by
  have h17 := h.k17
  have := h.eq
  by_cases hk : k ≤ 16
  · have e : 17 - k = (16 - k) + 1 := by omega
    rcases hn with hn | hn
    · rw [e, rreadR, hn] at this
      exact this
    · omega
  · have e : 17 - k = 0 := by omega
    rw [e] at this
    exact this
theorem Rk.last {s : ByteArray} {k : Nat} {acc : Labs} {p e : Nat} {x : List UInt8 × List UInt8} (h : Rk s k acc p) (hk : k ≤ 16) (hl : rlabR (s.data.toList.drop p) = some (x, s.data.toList.drop e)) (hc : ∀ he : e < s.size, (s[e]'he).toNat ≠ 44) : rreadL s.data.toList = some (acc ++ [mkLab x]) := by
  have e1 : 17 - k = (16 - k) + 1 := by omega
  have := h.eq
  rw [e1, rreadR, hl] at this
  by_cases he : e < s.size
  · rw [drop_more s e he] at this
    simp only [if_neg (hc he)] at this
    exact this
  · rw [List.drop_of_length_le (by rw [← Lib.size_eq]; omega)] at this
    exact this
theorem Rk.more {s : ByteArray} {k : Nat} {acc : Labs} {p e : Nat} {x : List UInt8 × List UInt8} (h : Rk s k acc p) (hk : k ≤ 16) (hl : rlabR (s.data.toList.drop p) = some (x, s.data.toList.drop e)) (he : e < s.size) (hc : (s[e]'he).toNat = 44) (hx : (mkLab x).1.size ≤ 100000 ∧ (mkLab x).2.size ≤ 100000) : Rk s (k + 1) (acc ++ [mkLab x]) (e + 1) := by
  have e1 : 17 - k = (16 - k) + 1 := by omega
  have e2 : 17 - (k + 1) = 16 - k := by omega
  have := h.eq
  rw [e1, rreadR, hl, drop_more s e he] at this
  simp only [if_pos hc] at this
  refine ⟨by rw [List.length_append, h.len]; rfl, by omega, by omega, fun y hy => ?_, ?_⟩
  · rcases List.mem_append.1 hy with hy | hy
    · exact h.sm y hy
    · have := List.mem_singleton.1 hy
      subst this
      exact hx
  · rw [this, e2, Option.map_map]
    congr 1
    funext z
    simp
theorem Rk.start {s : ByteArray} (h0 : 0 < s.size) (hc : (s[0]'h0).toNat = 123) : Rk s 0 [] 1 := by
  refine ⟨rfl, by omega, h0, fun y hy => (by cases hy), ?_⟩
  have := drop_more s 0 h0
  rw [List.drop_zero] at this
  rw [this]
  show (if (s[0]'h0).toNat = 123 then rreadR 17 (s.data.toList.drop (0 + 1)) else none) = _
  rw [if_pos hc]
  simp
theorem rread_no {s : ByteArray} (h : ∀ h0 : 0 < s.size, (s[0]'h0).toNat ≠ 123) : rreadL s.data.toList = none := by
  by_cases h0 : 0 < s.size
  · have := drop_more s 0 h0
    rw [List.drop_zero] at this
    rw [this]
    show (if (s[0]'h0).toNat = 123 then _ else none) = none
    rw [if_neg (h h0)]
  · have : s.data.toList = [] := List.length_eq_zero_iff.1 (by rw [← Lib.size_eq]; omega)
    rw [this]
    rfl
theorem valR_len : ∀ (n : Nat) (S v r : List UInt8), S.length ≤ n → valR S = some (v, r) → v.length ≤ S.length := by
  intro n
  induction n with
  | zero =>
    intro S v r hS h
    have : S = [] := List.length_eq_zero_iff.1 (by omega)
    subst this
    rw [valR_nil] at h
    cases h
  | succ n ih =>
    intro S v r hS h
    cases S with
    | nil => rw [valR_nil] at h; cases h
    | cons c S' =>
      rw [valR_cons] at h
      split at h
      · cases h; simp
      · split at h
        · cases hx : hex2 S' with
          | none => rw [hx] at h; cases h
          | some y =>
            rw [hx] at h
            obtain ⟨z, hz, e⟩ := Option.map_eq_some_iff.1 h
            obtain ⟨z1, z2⟩ := z
            cases e
            have := ih (S'.drop 2) z1 z2 (by rw [List.length_drop]; simp at hS; omega) hz
            rw [List.length_drop] at this
            simp
            omega
        · obtain ⟨z, hz, e⟩ := Option.map_eq_some_iff.1 h
          obtain ⟨z1, z2⟩ := z
          cases e
          have := ih S' z1 z2 (by simp at hS; omega) hz
          simp
          omega
theorem valS_len {s : ByteArray} {a : Nat} {v r : List UInt8} (h : valS s a = some (v, r)) : v.length ≤ s.size := by
  unfold valS at h
  split at h
  · rename_i c r' hd
    split at h
    · have h1 := valR_len _ _ _ _ (Nat.le_refl _) h
      have h2 := congrArg List.length hd
      rw [List.length_drop, ← Lib.size_eq, List.length_cons] at h2
      omega
    · cases h
  · cases h

set_option maxRecDepth 100000 in
set_option maxHeartbeats 3200000 in
theorem rparse_any (w : World) (s : ByteArray) (hs : s.size ≤ 100000) :
    Calls Try.prog 18 #[.string s] w fun e w' => (∃ u n, e = .returned (.tuple #[u, .int .i64 n]) ∧ ParseA w' w.heap.size u n (rparseL s.data.toList)) ∧ Kept w w' := by
  have HPd : Hid (rparseL s.data.toList = (rreadL s.data.toList).bind (fun l => (makeL l).bind (fun m => if textL m = s.data.toList then some l else none))) := rfl
  by_cases h0 : 0 < s.size
  · have hne := not_empty (s := s) (by omega)
    by_cases hc : (s[0]'h0).toNat = 123
    · have HR0 := hid (Rk.start h0 hc)
      have hc' : (((s[0]'h0).toNat : Int) != 123) = false := by simp; omega
      have HCc := hid hc
      clear hc
      go_enter Try.func18, Try.ntmps18
      go_wp2
      all_goals try (exfalso; simp_all; done)
      go_loopw [4, 5] (fun i out wr => ∃ (k : Nat) (acc : Labs) (p : Nat), i = .int .i64 (p : Int) ∧ Rk s k acc p ∧ LabAt wr w.heap.size out acc ∧ Kept w wr) (fun _ out _ => 18 - outN out)
      case atStart => exact ⟨0, [], 1, rfl, HR0.out, ⟨rfl, .inl ⟨rfl, rfl⟩⟩, Only.refl _ _⟩
      case round =>
        obtain ⟨k, acc, p, rfl, hr, hat, kr⟩ := hrel
        obtain ⟨oa, oc, rfl⟩ := ownN_slice hat
        have hk := hr.len
        have h17 := hr.k17
        have hps := hr.ps
        have HR := hid hr
        have HA := hid hat
        have HK := hid kr
        have H1 := hid (word_any wr s p hps hs)
        clear hr hat kr
        have HBad : Hid ((rlabR (s.data.toList.drop p) = none ∨ 16 < k) → rparseL s.data.toList = none) := fun h => by rw [HPd.out, HR.out.bad h]; rfl
        go_wp2_with fail
        refine H1.out.mono ?_
        rintro e w1 ⟨⟨n, hW, hst, rfl⟩, hq⟩
        replace hq := hq.symm
        subst hq
        have hlb := rlab_at hW hst
        have hpn := hW.1
        have hns := hW.2.1
        have hsz : (s.extract p n).size = n - p := by rw [ByteArray.size_extract]; omega
        have hsz' : (((s.extract p n).size : Nat) : Int) = (n : Int) - (p : Int) := by omega
        have HWd : Hid ((s.extract p n).data.toList = (s.data.toList.take n).drop p) := by refine hid ?_; exact sub_bytes s p n
        have hadd : (p : Int) + ((n : Int) - (p : Int)) = (n : Int) := by omega
        clear hW hst H1
        generalize s.extract p n = wd at hsz hsz' HWd ⊢
        by_cases hlt : n < s.size
        · rw [dif_pos hlt] at hlb
          by_cases h61 : (s[n]'hlt).toNat = 61
          · rw [if_pos h61] at hlb
            have h61' : (((s[n]'hlt).toNat : Int) != 61) = false := by simp; omega
            have hge : ¬ s.size ≤ n := by omega
            have H2 := hid (value_any wr s (n + 1) (by omega) hs)
            have H61 := hid h61
            have HLb := hid hlb
            clear h61 hlb
            go_wp2_with fail
            have e1 : ((n + 1 : Nat) : Int) = (p : Int) + ((n - p : Nat) : Int) + 1 := by omega
            rw [e1] at H2
            refine H2.out.mono ?_
            clear e1
            rintro e w2 ⟨hV, k2⟩
            have HK2 := hid k2
            clear k2 H2
            cases hv : valS s (n + 1) with
            | none =>
              rw [hv] at hV
              have hV' : e = .returned (.tuple #[.string ⟨#[]⟩, .int .i64 0, .bool false]) := hV
              subst hV'
              have hbad := hid (HBad.out (.inl (by rw [HLb.out, hv]; rfl)))
              clear hV
              go_wp2
              go_ret2
              refine ⟨⟨_, _, rfl, ?_⟩, HK.out.trans HK2.out (fun _ _ f => f)⟩
              rw [hbad.out]
              exact ⟨rfl, rfl⟩
            | some q =>
              obtain ⟨v, r⟩ := q
              rw [hv] at hV
              obtain ⟨q, hqs, hqd, rfl⟩ := hV
              have hvl := valS_len hv
              have HLb2 : Hid (rlabR (s.data.toList.drop p) = some ((wd.data.toList, v), s.data.toList.drop q)) := by
                refine hid ?_
                rw [HLb.out, hv, hqd, HWd.out]
                rfl
              clear hv hqd
              by_cases hk16 : k ≤ 16
              · have hk' : ¬ ((16 : Int) < (k : Int)) := by omega
                have hmk : mkLab (wd.data.toList, v) = (wd, mkB v) := rfl
                obtain ⟨g, cap, w4, Hr, hat4, hk4⟩ := lab_step (w0 := w) (w := w2) (ownN_stay HA.out HK2.out) (HK.out.trans HK2.out (fun _ _ f => f)) (wd, mkB v) (by omega)
                rw [hk] at Hr hat4
                have HA4 := hid hat4
                have HK4 := hid hk4
                have hsx : (mkLab (wd.data.toList, v)).1.size ≤ 100000 ∧ (mkLab (wd.data.toList, v)).2.size ≤ 100000 := by
                  rw [hmk]
                  exact ⟨by show wd.size ≤ _; omega, by show (mkB v).size ≤ _; rw [mkB_size]; omega⟩
                clear hat4 hk4
                by_cases hqc : ∃ he : q < s.size, (s[q]'he).toNat = 44
                · obtain ⟨he, h44⟩ := hqc
                  have HM := HR.out.more hk16 HLb2.out he h44 hsx
                  rw [hmk] at HM
                  have HMo := hid HM
                  have h44' : (((s[q]'he).toNat : Int) == 44) = true := by simp; omega
                  have H44 := hid h44
                  have he' : (q : Int) < (s.size : Int) := by omega
                  clear HM h44 hsx hmk
                  go_wp2_with (at_builtin; refine wpList_append_run rfl _ _ _ rfl rfl rfl Hr ?_)
                  refine ⟨⟨k + 1, acc ++ [(wd, mkB v)], q + 1, by go_num, HMo.out, HA4.out, HK4.out⟩, ?_⟩
                  simp only [outN]
                  omega
                · have HM := HR.out.last hk16 HLb2.out (fun he h => hqc ⟨he, h⟩)
                  rw [hmk] at HM hsx
                  have hsm : Small (acc ++ [(wd, mkB v)]) := fun y hy => by
                    rcases List.mem_append.1 hy with hy | hy
                    · exact HR.out.sm y hy
                    · have := List.mem_singleton.1 hy
                      subst this
                      exact hsx
                  have HTx := hid (rtext_any w4 _ (acc ++ [(wd, mkB v)]) (LabAt.src HA4.out) (by simp; omega) hsm)
                  have HPt : Hid ((txtB (acc ++ [(wd, mkB v)])).data.toList = s.data.toList → rparseL s.data.toList = some (acc ++ [(wd, mkB v)])) := fun h => by
                    rw [HPd.out, HM]
                    show (makeL (acc ++ [(wd, mkB v)])).bind _ = _
                    unfold txtB at h
                    cases hm : makeL (acc ++ [(wd, mkB v)]) with
                    | none =>
                      rw [hm] at h
                      have h' : ([] : List UInt8) = s.data.toList := h
                      have := congrArg List.length h'
                      rw [← Lib.size_eq] at this
                      simp at this
                      omega
                    | some m =>
                      rw [hm] at h
                      have h' : textL m = s.data.toList := h
                      show (if textL m = s.data.toList then _ else none) = _
                      rw [if_pos h']
                  have HPf : Hid ((txtB (acc ++ [(wd, mkB v)])).data.toList ≠ s.data.toList → rparseL s.data.toList = none) := fun h => by
                    rw [HPd.out, HM]
                    show (makeL (acc ++ [(wd, mkB v)])).bind _ = _
                    unfold txtB at h
                    cases hm : makeL (acc ++ [(wd, mkB v)]) with
                    | none => rfl
                    | some m =>
                      rw [hm] at h
                      have h' : textL m ≠ s.data.toList := h
                      show (if textL m = s.data.toList then _ else none) = _
                      rw [if_neg h']
                  have hEq : ((txtB (acc ++ [(wd, mkB v)])).toList == s.toList) = decide ((txtB (acc ++ [(wd, mkB v)])).data.toList = s.data.toList) := by
                    rw [ByteArray.toList_eq, ByteArray.toList_eq]
                    by_cases h : (txtB (acc ++ [(wd, mkB v)])).data.toList = s.data.toList
                    · rw [decide_eq_true h, h]; simp
                    · rw [decide_eq_false h]
                      simpa using h
                  generalize txtB (acc ++ [(wd, mkB v)]) = X at HTx HPt HPf hEq
                  have HEq := hid hEq
                  have HQc := hid hqc
                  clear HM hsm hsx hmk hqc hEq
                  by_cases he : q < s.size
                  · have h44' : (((s[q]'he).toNat : Int) == 44) = false := by
                      have : (s[q]'he).toNat ≠ 44 := fun h => HQc.out ⟨he, h⟩
                      simp
                      omega
                    have he' : (q : Int) < (s.size : Int) := by omega
                    go_wp2_with (at_builtin; refine wpList_append_run rfl _ _ _ rfl rfl rfl Hr ?_)
                    have hEq := HEq.out
                    refine HTx.out.mono ?_
                    rintro e w5 ⟨rfl, k5⟩
                    have HK5 := hid (HK4.out.trans k5 (fun _ _ f => f))
                    have HA5 := hid (ownN_stay HA4.out k5)
                    clear k5 HTx
                    cases hb : decide (X.data.toList = s.data.toList) with
                    | true =>
                      rw [hb] at hEq
                      have hp := hid (HPt.out (of_decide_eq_true hb))
                      clear hb
                      go_wp2
                      go_ret2
                      refine ⟨⟨_, _, rfl, ?_⟩, HK5.out⟩
                      rw [hp.out]
                      exact ⟨rfl, HA5.out⟩
                    | false =>
                      rw [hb] at hEq
                      have hp := hid (HPf.out (of_decide_eq_false hb))
                      clear hb
                      go_wp2
                      go_ret2
                      refine ⟨⟨_, _, rfl, ?_⟩, HK5.out⟩
                      rw [hp.out]
                      exact ⟨rfl, rfl⟩
                  · have he' : ¬ ((q : Int) < (s.size : Int)) := by omega
                    go_wp2_with (at_builtin; refine wpList_append_run rfl _ _ _ rfl rfl rfl Hr ?_)
                    have hEq := HEq.out
                    refine HTx.out.mono ?_
                    rintro e w5 ⟨rfl, k5⟩
                    have HK5 := hid (HK4.out.trans k5 (fun _ _ f => f))
                    have HA5 := hid (ownN_stay HA4.out k5)
                    clear k5 HTx
                    cases hb : decide (X.data.toList = s.data.toList) with
                    | true =>
                      rw [hb] at hEq
                      have hp := hid (HPt.out (of_decide_eq_true hb))
                      clear hb
                      go_wp2
                      go_ret2
                      refine ⟨⟨_, _, rfl, ?_⟩, HK5.out⟩
                      rw [hp.out]
                      exact ⟨rfl, HA5.out⟩
                    | false =>
                      rw [hb] at hEq
                      have hp := hid (HPf.out (of_decide_eq_false hb))
                      clear hb
                      go_wp2
                      go_ret2
                      refine ⟨⟨_, _, rfl, ?_⟩, HK5.out⟩
                      rw [hp.out]
                      exact ⟨rfl, rfl⟩
              · have hk' : (16 : Int) < (k : Int) := by omega
                have hbad := hid (HBad.out (.inr (by omega)))
                go_wp2
                all_goals try (exfalso; omega)
                go_ret2
                refine ⟨⟨_, _, rfl, ?_⟩, HK.out.trans HK2.out (fun _ _ f => f)⟩
                rw [hbad.out]
                exact ⟨rfl, rfl⟩
          · rw [if_neg h61] at hlb
            have hbad := hid (HBad.out (.inl hlb))
            have h61' : (((s[n]'hlt).toNat : Int) != 61) = true := by simp; omega
            have hge : ¬ s.size ≤ n := by omega
            have H61 := hid h61
            clear h61 hlb
            go_wp2
            all_goals try (exfalso; simp_all; done)
            go_ret2
            refine ⟨⟨_, _, rfl, ?_⟩, HK.out⟩
            rw [hbad.out]
            exact ⟨rfl, rfl⟩
        · rw [dif_neg hlt] at hlb
          have hbad := hid (HBad.out (.inl hlb))
          have hge : s.size ≤ n := by omega
          clear hlb
          go_wp2
          all_goals try (exfalso; omega)
          go_ret2
          refine ⟨⟨_, _, rfl, ?_⟩, HK.out⟩
          rw [hbad.out]
          exact ⟨rfl, rfl⟩
    · have hN : Hid (rparseL s.data.toList = none) := by refine hid ?_; rw [HPd.out, rread_no (fun _ => hc)]; rfl
      have hc' : (((s[0]'h0).toNat : Int) != 123) = true := by simp; omega
      have HCc := hid hc
      clear hc
      go_enter Try.func18, Try.ntmps18
      go_wp2
      all_goals try (exfalso; simp_all; done)
      go_ret2
      refine ⟨⟨_, _, rfl, ?_⟩, Only.refl _ _⟩
      rw [hN.out]
      exact ⟨rfl, rfl⟩
  · have hN : Hid (rparseL s.data.toList = none) := by refine hid ?_; rw [HPd.out, rread_no (fun h => absurd h h0)]; rfl
    have es : s = ⟨#[]⟩ := bytes_inj (List.length_eq_zero_iff.1 (by rw [← Lib.size_eq]; omega))
    subst es
    go_enter Try.func18, Try.ntmps18
    go_wp2
    all_goals try (exfalso; simp_all; done)
    go_ret2
    refine ⟨⟨_, _, rfl, ?_⟩, Only.refl _ _⟩
    rw [hN.out]
    exact ⟨rfl, rfl⟩
end Go.Proofs.Ytfpncddoaenffaa.N
