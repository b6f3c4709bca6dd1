/-
  Parse: the matchers of which a text is the Text.
-/
import Derived.Test.YtbdcaikcdhfdoaaMread
import Derived.Test.YtbdcaikcdhfdoaaMfind
namespace Go.Proofs.Ytbdcaikcdhfdoaa.N
open Go.RowKit Go.Proofs.Lys
set_option linter.unusedVariables false
set_option linter.unusedSimpArgs false

theorem matR_small {S r : List UInt8} {m : Mat} (h : matR S = some (m, r)) : r.length ≤ S.length ∧ m.2.1.size ≤ S.length ∧ m.2.2.size ≤ 64 := by
  have hs := matR_some h
  have hl := congrArg List.length hs
  unfold matT at hl
  rw [List.length_append, List.length_append, ← Lib.size_eq] at hl
  refine ⟨by omega, by omega, ?_⟩
  unfold matR at h
  split at h
  · cases h
    show (0 : Nat) ≤ 64
    omega
  · unfold valM at h
    split at h
    · cases h
    · split at h
      · obtain ⟨v, hv, e⟩ := Option.map_eq_some_iff.1 h
        cases e
        have := (unqM_iff.1 hv).2
        show (mkB v).size ≤ 64
        rw [Lib.size_eq]
        exact this
      · cases h
/-- How far a text is taken apart. -/
structure Mk (s : List UInt8) (R : Option Mats) (k : Nat) (acc : Mats) (S : List UInt8) : Prop where
  len : acc.length = k
  k8 : k ≤ 8
  short : S.length ≤ s.length
  sm : SmallM acc
  eq : R = mread (8 - k) acc S
theorem Mk.full {s : List UInt8} {R : Option Mats} {k : Nat} {acc : Mats} {S : List UInt8} (h : Mk s R k acc S) (hk : ¬ k < 8) : R = none := by
  rw [h.eq, show 8 - k = 0 by omega]
  rfl
theorem Mk.bad {s : List UInt8} {R : Option Mats} {k : Nat} {acc : Mats} {S : List UInt8} (h : Mk s R k acc S) (hk : k < 8) (hn : matR S = none) : R = none := by
  rw [h.eq, show 8 - k = (7 - k) + 1 by omega, mread, hn]
theorem Mk.done {s : List UInt8} {R : Option Mats} {k : Nat} {acc : Mats} {S : List UInt8} {m : Mat} (h : Mk s R k acc S) (hk : k < 8) (hn : matR S = some (m, [])) : R = if checkM (acc ++ [m]) = 0 then some (acc ++ [m]) else none := by
  rw [h.eq, show 8 - k = (7 - k) + 1 by omega, mread, hn]
  simp only
  by_cases hc : checkM (acc ++ [m]) = 0
  · rw [if_pos ⟨trivial, hc⟩, if_pos hc]
  · rw [if_neg (fun e => hc e.2), if_neg hc]
theorem Mk.stop {s : List UInt8} {R : Option Mats} {k : Nat} {acc : Mats} {S : List UInt8} {m : Mat} {c : UInt8} {r : List UInt8} (h : Mk s R k acc S) (hk : k < 8) (hn : matR S = some (m, c :: r)) (hc : c.toNat ≠ 44) : R = none := by
  rw [h.eq, show 8 - k = (7 - k) + 1 by omega, mread, hn]
  simp only
  rw [if_neg (by rintro ⟨e, _⟩; cases e), if_neg (fun e => hc (by rw [e]; rfl))]
theorem Mk.more {s : List UInt8} {R : Option Mats} {k : Nat} {acc : Mats} {S : List UInt8} {m : Mat} {c : UInt8} {r : List UInt8} (h : Mk s R k acc S) (hk : k < 8) (hn : matR S = some (m, c :: r)) (hc : c.toNat = 44) (hs : s.length ≤ 100000) : Mk s R (k + 1) (acc ++ [m]) r := by
  have ec : c = 44 := UInt8.toNat_inj.1 hc
  have hsm := matR_small hn
  have hsh := h.short
  refine ⟨by rw [List.length_append, h.len]; rfl, by omega, ?_, fun y hy => ?_, ?_⟩
  · have := hsm.1
    simp at this
    omega
  · rcases List.mem_append.1 hy with hy | hy
    · exact h.sm y hy
    · have := List.mem_singleton.1 hy
      subst this
      omega
  · rw [h.eq, show 8 - k = (7 - k) + 1 by omega, mread, hn]
    simp only
    rw [if_neg (by rintro ⟨e, _⟩; cases e), if_pos ec, show 8 - (k + 1) = 7 - k by omega]

/-- What Parse answers. -/
def ParseM (w : World) (B : Nat) (u : Value) (n : Int) : Option Mats → Prop
  | some m => n = 0 ∧ MatAt w B u m
  | none => n = 4 ∧ u = .slice none 0 0

theorem slice_one (c : UInt8) (r : List UInt8) (W : World) (h : (c :: r).length ≤ 1000000) : (Instr.sliceAt 9 (.string (mkB (c :: r))) (some (.int .i64 1)) none none).run Try.prog W = .ok (.string (mkB r)) W := by
  have hs : (mkB (c :: r)).size = r.length + 1 := by rw [mkB_size]; rfl
  have he : (mkB (c :: r)).extract 1 (r.length + 1) = mkB r := bytes_inj (by
    rw [sub_bytes]
    show ((c :: r).take (r.length + 1)).drop 1 = r
    rw [List.take_of_length_le (by simp)]
    rfl)
  have b1 : 1 ≤ r.length + 1 := by omega
  simp [Instr.sliceAt, Instr.slice, Instr.sliceBounds, Instr.sliceBound, run_underlying Try.underlying9, asIntOf, hs, b1, Result.andThen, he]
  rw [if_pos (by omega)]
  simp [he]

set_option maxRecDepth 100000 in
set_option maxHeartbeats 4000000 in
theorem mparse_any (w : World) (s : ByteArray) (hM : Mx w) (hs : s.size ≤ 10000) :
    Calls Try.prog 17 #[.string s] w fun e w' => (∃ u n, e = .returned (.tuple #[u, .int .i64 n]) ∧ ParseM w' w.heap.size u n (parseM s.data.toList)) ∧ Kept w w' := by
  have HMx := hid hM
  clear hM
  have hstr : (s.toList == [42]) = decide (s.data.toList = [42]) := by
    rw [ByteArray.toList_eq]
    by_cases h : s.data.toList = [42]
    · rw [decide_eq_true h, h]; rfl
    · rw [decide_eq_false h]; simpa using h
  by_cases h42 : s.data.toList = [42]
  · have hp : Hid (parseM s.data.toList = some []) := by refine hid ?_; unfold parseM; rw [if_pos h42]
    rw [decide_eq_true h42] at hstr
    clear h42
    go_enter Try.func17, Try.ntmps17
    go_wp2
    go_step3
    go_wp2
    (try simp only [Exit.noGoto_ret])
    go_ret2
    refine ⟨⟨_, _, rfl, ?_⟩, Only.refl _ _⟩
    rw [hp.out]
    exact ⟨rfl, rfl, .inl ⟨rfl, rfl⟩⟩
  · have hlen : s.data.toList.length ≤ 10000 := by rw [← Lib.size_eq]; exact hs
    have HM0 : Hid (Mk s.data.toList (parseM s.data.toList) 0 [] s.data.toList) := by
      refine hid ⟨rfl, by omega, Nat.le_refl _, fun y hy => (by cases hy), ?_⟩
      unfold parseM
      rw [if_neg h42]
    rw [decide_eq_false h42] at hstr
    generalize parseM s.data.toList = R at HM0 ⊢
    clear h42
    go_enter Try.func17, Try.ntmps17
    go_wp2
    go_step3
    go_wp2
    go_step3
    go_wp2
    go_loopw [4, 5] (fun out r wr => ∃ (k : Nat) (acc : Mats) (S : List UInt8), r = .string (mkB S) ∧ Mk s.data.toList R k acc S ∧ MatAt wr w.heap.size out acc ∧ Kept w wr) (fun out _ _ => 9 - outN out)
    case atStart => exact ⟨0, [], s.data.toList, rfl, HM0.out, ⟨rfl, .inl ⟨rfl, rfl⟩⟩, Only.refl _ _⟩
    case round =>
      obtain ⟨k, acc, S, rfl, hm, hat, kr⟩ := hrel
      obtain ⟨oa, oc, rfl⟩ := ownN_slice hat
      have hk := hm.len
      have hk8 := hm.k8
      have hSl := hm.short
      have HM := hid hm
      have HA := hid hat
      have HK := hid kr
      rw [hk] at HA ⊢
      clear hm hat
      by_cases hlt : k < 8
      · have hlt' : (k : Int) < 8 := by omega
        have H1 := hid (readMatch_any wr (mkB S) (HMx.out.stay kr) (by rw [mkB_size]; omega))
        have e3 : (mkB S).data.toList = S := rfl
        rw [e3] at H1
        clear e3 kr
        go_wp2_with fail
        refine H1.out.mono ?_
        rintro e w1 ⟨hA, k1⟩
        have HK1 := hid (HK.out.trans k1 (fun _ _ f => f))
        have HA1 := hid (ownN_stay HA.out k1)
        clear k1 H1
        cases hr : matR S with
        | none =>
          rw [hr] at hA
          obtain ⟨N, X, Y, RR, rfl⟩ := hA
          have hmk := hid (HM.out.bad hlt hr)
          clear hr
          go_wp2
          (try simp only [Exit.noGoto_ret])
          go_ret2
          refine ⟨⟨_, _, rfl, ?_⟩, HK1.out.alloc _⟩
          rw [hmk.out]
          exact ⟨rfl, rfl⟩
        | some p =>
          obtain ⟨m, r⟩ := p
          rw [hr] at hA
          have hA' : e = .returned (.tuple #[.agg #[.int .i64 m.1, .string m.2.1, .string m.2.2], .string (mkB r), .bool true]) := hA
          subst hA'
          have hsm := matR_small hr
          obtain ⟨g, cap, w4, Hr, hat4, hk4⟩ := mat_step (w0 := w) (w := w1.alloc (.cells #[.int .i64 m.1, .string m.2.1, .string m.2.2] 40)) (ownN_stay HA1.out ((Only.refl _ w1).alloc _)) (HK1.out.alloc _) m (by omega)
          rw [hk] at Hr hat4
          have HSm : Hid (SmallM (acc ++ [m])) := fun y hy => by
            rcases List.mem_append.1 hy with hy | hy
            · exact HM.out.sm y hy
            · have := List.mem_singleton.1 hy
              subst this
              omega
          simp only [World.size_alloc] at Hr
          have HA4 := hid hat4
          have HK4 := hid hk4
          clear hA hat4 hk4
          cases r with
          | nil =>
            have HD := hid (HM.out.done hlt hr)
            have HC := hid (mcheck_any w4 _ (acc ++ [m]) (MatAt.src HA4.out) (by simp; omega) HSm.out)
            have hrr : mkB [] = ⟨#[]⟩ := rfl
            rw [hrr]
            obtain ⟨N, X, Y⟩ := m
            simp only at Hr
            clear hr hsm hrr
            go_wp2_with (at_builtin; refine wpList_append_run rfl _ _ _ rfl rfl rfl Hr ?_)
            refine HC.out.mono ?_
            rintro e w5 ⟨rfl, k5⟩
            have HK5 := hid (HK4.out.trans k5 (fun _ _ f => f))
            have HA5 := hid (ownN_stay HA4.out k5)
            clear k5 HC
            by_cases hc : checkM (acc ++ [(N, X, Y)]) = 0
            · have hmk : Hid (R = some (acc ++ [(N, X, Y)])) := by refine hid ?_; rw [HD.out, if_pos hc]
              rw [hc]
              clear hc
              go_wp2
              (try simp only [Exit.noGoto_ret])
              go_ret2
              refine ⟨⟨_, _, rfl, ?_⟩, HK5.out⟩
              rw [hmk.out]
              exact ⟨rfl, HA5.out⟩
            · have hmk : Hid (R = none) := by refine hid ?_; rw [HD.out, if_neg hc]
              generalize checkM (acc ++ [(N, X, Y)]) = C at hc ⊢
              have hc' : (C == 0) = false := by simpa using hc
              clear hc
              go_wp2
              (try simp only [Exit.noGoto_ret])
              go_ret2
              refine ⟨⟨_, _, rfl, ?_⟩, HK5.out⟩
              rw [hmk.out]
              exact ⟨rfl, rfl⟩
          | cons c r =>
            have hne := not_empty (s := mkB (c :: r)) (by rw [mkB_size]; simp)
            have hsl : ∀ W, (Instr.sliceAt 9 (.string (mkB (c :: r))) (some (.int .i64 1)) none none).run Try.prog W = .ok (.string (mkB r)) W := fun W => slice_one c r W (by have := hsm.1; simp at this ⊢; omega)
            have hz : 0 < (mkB (c :: r)).size := by rw [mkB_size]; simp
            have hg0 : (mkB (c :: r))[0]'hz = c := rfl
            by_cases h44 : c.toNat = 44
            · have HMo := hid (HM.out.more hlt hr h44 (by omega))
              have hq : ((c.toNat : Int) != 44) = false := by simp; omega
              obtain ⟨N, X, Y⟩ := m
              simp only at Hr
              have H44 := hid h44
              clear hr hsm h44
              generalize mkB (c :: r) = CR at hne hsl hz hg0 ⊢
              go_wp2_with (at_builtin; refine wpList_append_run rfl _ _ _ rfl rfl rfl Hr ?_)
              refine ⟨⟨k + 1, _, r, rfl, HMo.out, HA4.out, HK4.out⟩, ?_⟩
              simp only [outN]
              omega
            · have hmk := hid (HM.out.stop hlt hr h44)
              have hq : ((c.toNat : Int) != 44) = true := by simp; omega
              obtain ⟨N, X, Y⟩ := m
              simp only at Hr
              have H44 := hid h44
              clear hr hsm h44
              generalize mkB (c :: r) = CR at hne hsl hz hg0 ⊢
              go_wp2_with (at_builtin; refine wpList_append_run rfl _ _ _ rfl rfl rfl Hr ?_)
              (try simp only [Exit.noGoto_ret])
              go_ret2
              refine ⟨⟨_, _, rfl, ?_⟩, HK4.out⟩
              rw [hmk.out]
              exact ⟨rfl, rfl⟩
      · have hmk := hid (HM.out.full hlt)
        have hlt' : ¬ ((k : Int) < 8) := by omega
        go_wp2
        (try simp only [Exit.noGoto_ret])
        go_ret2
        refine ⟨⟨_, _, rfl, ?_⟩, HK.out⟩
        rw [hmk.out]
        exact ⟨rfl, rfl⟩
end Go.Proofs.Ytbdcaikcdhfdoaa.N
