/-
  The list at the beginning of bytes: Unpack and the document's own.
-/
import Derived.Test.YtpbeenhaaaocpaaOpack
namespace Go.Proofs.Ytpbeenhaaaocpaa.Po
open Go.RowKit Go.Proofs.Lys
set_option linter.unusedVariables false

theorem getA_cases (l : List UInt8) : ∀ i n, n < 2 ^ (7 * i) → n < 18446744073709551616 → (getA l i n = (0, 0, 5) ∨ ∃ u k, getA l i n = (u, k, 0) ∧ u < 18446744073709551616 ∧ k ≤ i + l.length) := by
  induction l with
  | nil => intro i n _ _; exact .inl rfl
  | cons c t ih =>
    intro i n h1 h2
    by_cases ho : 10 ≤ i ∨ (i = 9 ∧ 1 < c.toNat % 128)
    · exact .inl (getA_over ho)
    · have hi : i ≤ 9 := by omega
      have hp : c.toNat % 128 < 128 := by omega
      have hw := piece_word h1 hp hi (by omega)
      by_cases hm : 128 ≤ c.toNat
      · rw [getA_go hi (by omega) hm]
        rcases ih (i + 1) _ (piece_lt h1 hp) hw with h | ⟨u, k, h, hu, hk⟩
        · exact .inl h
        · exact .inr ⟨u, k, h, hu, by rw [List.length_cons]; omega⟩
      · by_cases hz : c.toNat = 0 ∧ 0 < i
        · exact .inl (getA_nought hi hz.1 hz.2)
        · exact .inr ⟨_, _, getA_last hi (by omega) (by omega) (by omega), hw, by rw [List.length_cons]; omega⟩

/-- The number at the beginning of bytes, below the limit, and how many bytes it has. -/
def numB (bs : List UInt8) : Option (Nat × Nat) := if (getA bs 0 0).2.2 = 0 ∧ (getA bs 0 0).1 < 1099511627776 then some ((getA bs 0 0).1, (getA bs 0 0).2.1) else none
/-- n numbers more behind those that were read. -/
def rdA : Nat → Int → List Int → Nat → List UInt8 → Option (List Int × Nat)
  | 0, _, acc, at_, _ => some (acc, at_)
  | n + 1, last, acc, at_, bs => match numB bs with
    | none => none
    | some (d, k) => if last + d + 1 < 1099511627776 then rdA n (last + d + 1) (acc ++ [last + d + 1]) (at_ + k) (bs.drop k) else none
/-- The list at the beginning of bytes. -/
def readR (bs : List UInt8) : Option (List Int × Nat) := match numB bs with
  | none => none
  | some (c, k) => if c ≤ 10000 then rdA c (-1) [] k (bs.drop k) else none
theorem rd_none {n : Nat} {last : Int} {acc : List Int} {at_ : Nat} {bs : List UInt8} (h : numB bs = none) : rdA (n + 1) last acc at_ bs = none := by
  rw [rdA, h]
theorem rd_high {n : Nat} {last : Int} {acc : List Int} {at_ d k : Nat} {bs : List UInt8} (h : numB bs = some (d, k)) (h2 : ¬ last + d + 1 < 1099511627776) : rdA (n + 1) last acc at_ bs = none := by
  rw [rdA, h]
  exact if_neg h2
theorem rd_go {n : Nat} {last : Int} {acc : List Int} {at_ d k : Nat} {bs : List UInt8} (h : numB bs = some (d, k)) (h2 : last + d + 1 < 1099511627776) : rdA (n + 1) last acc at_ bs = rdA n (last + d + 1) (acc ++ [last + d + 1]) (at_ + k) (bs.drop k) := by
  rw [rdA, h]
  exact if_pos h2
theorem num_put {u : Nat} (h : u < 1099511627776) (more : List UInt8) : numB (putN u ++ more) = some (u, (putN u).length) := by
  unfold numB
  rw [get_put0 (by omega) more]
  simp [h]

/-- What Unpack leaves. -/
def UnpPost (w : World) (R : Option (List Int × Nat)) (e : Ending) (w' : World) : Prop :=
  Kept w w' ∧ ((R = none ∧ e = .returned (.tuple #[.slice none 0 0, .int .i64 0, .int .i64 5])) ∨
    ∃ u l k, R = some (l, k) ∧ e = .returned (.tuple #[u, .int .i64 (k : Int), .int .i64 0]) ∧ w'.ownsRow w.heap.size 3 1 u l.length (l.map (Value.int .i64)))

set_option maxRecDepth 100000 in
set_option maxHeartbeats 1600000 in
theorem next1_any (w : World) (B1 B2 at_ : Nat) (v : Value) (bs : List UInt8) (h1 : w.cell? ⟨B1, 0, none⟩ = some v) (h2 : w.cell? ⟨B2, 0, none⟩ = some (.int .i64 (at_ : Int))) (hf : w.frozen? ⟨B2, 0, none⟩ = false)
    (hs : BSrc w v bs) (hl : bs.length ≤ 1000000) (ha : at_ ≤ bs.length) :
    Calls Try.prog 30 #[.pointer (some ⟨B1, 0, none⟩), .pointer (some ⟨B2, 0, none⟩)] w fun e w' =>
      ∃ (n : Int) (k : Nat) (ok : Bool), e = .returned (.tuple #[.int .i64 n, .bool ok]) ∧ w' = w.setCell ⟨B2, 0, none⟩ (.int .i64 ((at_ + k : Nat) : Int)) ∧
        ((ok = false ∧ numB (bs.drop at_) = none) ∨ (ok = true ∧ ∃ d : Nat, n = d ∧ numB (bs.drop at_) = some (d, k) ∧ at_ + k ≤ bs.length ∧ d < 1099511627776)) := by
  obtain ⟨a', c', hr, hb⟩ := hs.tail ha
  have HG := hid (U.get_any w _ (bs.drop at_) hb.1 (by rw [List.length_drop]; omega))
  obtain ⟨a, c, rfl⟩ : ∃ a c, v = .slice a bs.length c := ⟨_, _, hs.2.choose_spec.choose_spec.1⟩
  obtain ⟨L, hL⟩ : ∃ L, bs.length = L := ⟨_, rfl⟩
  have hdl : (bs.drop at_).length = L - at_ := by rw [List.length_drop, hL]
  rcases getA_cases (bs.drop at_) 0 0 (by simp) (by omega) with hg | ⟨u, k, hg, hu, hk⟩
  · have HN : Hid (numB (bs.drop at_) = none) := by
      show _ = _
      unfold numB
      rw [hg]
      rfl
    rw [hg, U.got_err] at HG
    rw [hL] at h1 hr HG ha hl
    clear hb hs hg hL hdl
    go_enter Try.func30, Try.ntmps30
    go_wp2_with fail
    refine HG.out.mono ?_
    rintro e w1 ⟨rfl, hw⟩
    replace hw := hw.symm
    subst hw
    go_wp2_with fail
    go_ret2
    exact ⟨_, 0, _, rfl, rfl, .inl ⟨rfl, HN.out⟩⟩
  · rw [hg, U.got] at HG
    simp only at HG
    have hk2 : at_ + k ≤ L := by rw [hdl] at hk; omega
    have HK2 : Hid (at_ + k ≤ bs.length) := by show _ ≤ _; omega
    by_cases h40 : u < 1099511627776
    · have HN : Hid (numB (bs.drop at_) = some (u, k)) := by
        show _ = _
        unfold numB
        rw [hg]
        simp [h40]
      have hwr : wrap64 (u : Int) = (u : Int) := by unfold wrap64; omega
      rw [hwr] at HG
      have d2 : decide ((u : Int) < 1099511627776) = true := by simp; omega
      have d3 : decide ((0 : Int) ≤ (u : Int)) = true := by simp
      rw [hL] at h1 hr HG ha hl
      clear hb hs hg hL hdl hwr
      go_enter Try.func30, Try.ntmps30
      go_wp2_with fail
      refine HG.out.mono ?_
      rintro e w1 ⟨rfl, hw⟩
      replace hw := hw.symm
      subst hw
      go_wp2_with fail
      go_ret2
      exact ⟨_, k, _, rfl, by rw [show ((at_ + k : Nat) : Int) = (at_ : Int) + (k : Int) by omega], .inr ⟨rfl, u, rfl, HN.out, HK2.out, h40⟩⟩
    · have HN : Hid (numB (bs.drop at_) = none) := by
        show _ = _
        unfold numB
        rw [hg]
        simp [h40]
      obtain ⟨N, hN⟩ : ∃ N, wrap64 (u : Int) = N := ⟨_, rfl⟩
      have hN2 : N < 0 ∨ 1099511627776 ≤ N := by rw [← hN]; unfold wrap64; omega
      rw [hN] at HG
      rw [hL] at h1 hr HG ha hl
      clear hb hs hg hL hdl hN
      have fin : decide (N < 1099511627776) = false ∨ N < 0 := by
        rcases hN2 with h | h
        · exact .inr h
        · exact .inl (by simp; omega)
      rcases fin with d2 | hN2
      · have d3 : decide (0 ≤ N) = true := by simp at d2 ⊢; omega
        clear hN2
        go_enter Try.func30, Try.ntmps30
        go_wp2_with fail
        refine HG.out.mono ?_
        rintro e w1 ⟨rfl, hw⟩
        replace hw := hw.symm
        subst hw
        go_wp2_with fail
        go_ret2
        exact ⟨_, k, _, rfl, by rw [show ((at_ + k : Nat) : Int) = (at_ : Int) + (k : Int) by omega], .inl ⟨rfl, HN.out⟩⟩
      · have d3 : decide (0 ≤ N) = false := by simp; omega
        clear hN2
        go_enter Try.func30, Try.ntmps30
        go_wp2_with fail
        refine HG.out.mono ?_
        rintro e w1 ⟨rfl, hw⟩
        replace hw := hw.symm
        subst hw
        go_wp2_with fail
        go_ret2
        exact ⟨_, k, _, rfl, by rw [show ((at_ + k : Nat) : Int) = (at_ : Int) + (k : Int) by omega], .inl ⟨rfl, HN.out⟩⟩

structure UpIn (w wr : World) (v : Value) (at_ : Nat) : Prop where
  b1 : Blk wr w.heap.size [v] 31
  b2 : Blk wr (w.heap.size + 1) [.int .i64 (at_ : Int)] 3
  kept : Kept w wr
theorem UpIn.next {w wr : World} {v : Value} {at_ : Nat} (h : UpIn w wr v at_) (a' : Nat) : UpIn w (wr.setCell ⟨w.heap.size + 1, 0, none⟩ (.int .i64 (a' : Int))) v a' :=
  ⟨h.b1.other (by simp) _, h.b2.set 0 _, h.kept.setCell (fun hlt => absurd hlt (by simp)) _⟩
theorem UpIn.more {w wr w' : World} {v u : Value} {at_ : Nat} (h : UpIn w wr v at_) (k : Only (fun j => u.ownBlock = some j) wr w') (hu : ∀ j, u.ownBlock = some j → w.heap.size + 2 ≤ j) : UpIn w w' v at_ :=
  ⟨Only.blk k h.b1 (fun e => by have := hu _ e; omega), Only.blk k h.b2 (fun e => by have := hu _ e; omega), h.kept.trans k (fun j hj e => by have := hu _ e; omega)⟩

set_option maxRecDepth 100000 in
set_option maxHeartbeats 3200000 in
theorem unpack_any (w : World) (v : Value) (bs : List UInt8) (hs : BSrc w v bs) (hl : bs.length ≤ 1000000) :
    Calls Try.prog 21 #[v] w (UnpPost w (readR bs)) := by
  have eg : ∀ args w, (callFunc 30 args).run Try.prog w = .ok (.enter 30 args) w := enters_of Try.func30 (by kernel_rfl) rfl
  have HS := hid hs
  have HN := hid (fun (wr : World) (at_ : Nat) (h : UpIn w wr v at_) (ha : at_ ≤ bs.length) => next1_any wr w.heap.size (w.heap.size + 1) at_ v bs (h.b1.cell 0 rfl) (h.b2.cell 0 rfl) (h.b2.frozen 0) (hs.stay h.kept) hl ha)
  obtain ⟨a, c, rfl⟩ : ∃ a c, v = .slice a bs.length c := ⟨_, _, hs.2.choose_spec.choose_spec.1⟩
  have HU0 : Hid (UpIn w ((w.alloc (.cells #[.slice a bs.length c] 31)).alloc (.cells #[.int .i64 0] 3)) (.slice a bs.length c) 0) := by
    refine hid ⟨(Blk.new w [.slice a bs.length c] _).alloc _, ?_, ((Only.refl _ w).alloc _).alloc _⟩
    have := Blk.new (w.alloc (.cells #[.slice a bs.length c] 31)) [.int .i64 0] 3
    simpa using this
  obtain ⟨R, hR⟩ : ∃ R, readR bs = R := ⟨_, rfl⟩
  have HR := hid hR
  rw [hR]
  obtain ⟨L, hL⟩ : ∃ L, bs.length = L := ⟨_, rfl⟩
  have HL := hid hL
  rw [hL] at HN HU0 ⊢
  have hwl : (w.alloc (.cells #[.slice a L c] 31)).heap.size = w.heap.size + 1 := by simp
  clear hs hR hL
  unfold UnpPost
  go_enter Try.func21, Try.ntmps21
  go_wp2_with fail
  refine (HN.out _ _ HU0.out (Nat.zero_le _)).mono ?_
  rintro e w1 ⟨n, k, ok, rfl, rfl, hok⟩
  have HU1 := hid (HU0.out.next (0 + k))
  generalize World.setCell _ _ _ = w1 at HU1 ⊢
  clear HU0
  rcases hok with ⟨rfl, hnum⟩ | ⟨rfl, cnt, rfl, hnum, hkl, hc40⟩
  · have HF : Hid (R = none) := by
      have := HR.out
      unfold readR at this
      rw [List.drop_zero] at hnum
      rw [hnum] at this
      exact this.symm
    clear hnum
    go_wp2_with fail
    go_ret3
    exact ⟨HU1.out.kept, .inl ⟨HF.out, rfl⟩⟩
  · rw [List.drop_zero] at hnum
    by_cases hc : cnt ≤ 10000
    · have HR2 : Hid (rdA cnt (-1) [] k (bs.drop k) = R) := by
        have := HR.out
        unfold readR at this
        rw [hnum] at this
        rw [← this]
        exact (if_pos hc).symm
      have HKL := hid hkl
      clear hnum hkl
      go_wp2_with fail
      go_loopw [9, 10, 11, 12, 26] (fun p t _ _ s wr => ∃ (i at_ : Nat) (last : Int) (acc : List Int), i ≤ cnt ∧ s = .int .i64 (i : Int) ∧ t = .int .i64 last ∧ -1 ≤ last ∧ last < 1099511627776 ∧ acc.length = i ∧ at_ ≤ L ∧ UpIn w wr (.slice a L c) at_ ∧ wr.ownsRow (w.heap.size + 2) 3 1 p acc.length (acc.map (Value.int .i64)) ∧ rdA (cnt - i) last acc at_ (bs.drop at_) = R) (fun _ _ _ _ s _ => cnt - (intOf s).toNat)
      case atStart =>
        refine ⟨0, 0 + k, -1, [], by omega, rfl, rfl, by omega, by omega, rfl, HKL.out, HU1.out, World.ownsRow_nil _ _ _ _, ?_⟩
        rw [Nat.zero_add]
        exact HR2.out
      case round =>
        obtain ⟨i, at_, last, acc, hi, rfl, rfl, hl1, hl2, hal, hat, hU, ho, hP⟩ := hrel
        have HU := hid hU
        have HO := hid ho
        have HAt := hid hat
        have HAl := hid hal
        by_cases hlt : i < cnt
        · obtain ⟨m, hm⟩ : ∃ m, cnt - i = m + 1 := ⟨cnt - i - 1, by omega⟩
          rw [hm] at hP
          have HP := hid hP
          have HM := hid hm
          clear hU ho hat hP hal hm
          go_wp2_with fail
          refine (HN.out _ _ HU.out HAt.out).mono ?_
          rintro e w2 ⟨n, k2, ok, rfl, rfl, hok⟩
          have HU2 := hid (HU.out.next (at_ + k2))
          have HO2 := hid (own_only HO.out (((Only.refl (fun j => j = w.heap.size + 1) wr).setCell (p := ⟨w.heap.size + 1, 0, none⟩) (fun _ => rfl) (.int .i64 ((at_ + k2 : Nat) : Int)))) (fun j hj e => by have := (HO.out.lt j hj).1; omega))
          generalize World.setCell _ _ _ = w2 at HU2 HO2 ⊢
          rcases hok with ⟨rfl, hnum⟩ | ⟨rfl, d, rfl, hnum, hkl2, hd40⟩
          · have HF : Hid (R = none) := by
              have := HP.out
              rw [rd_none hnum] at this
              exact this.symm
            clear hnum
            go_wp2_with fail
            go_ret3
            exact ⟨HU2.out.kept, .inl ⟨HF.out, rfl⟩⟩
          · by_cases h40 : last + d + 1 < 1099511627776
            · have HF : Hid (rdA m (last + d + 1) (acc ++ [last + d + 1]) (at_ + k2) (bs.drop (at_ + k2)) = R) := by
                have := HP.out
                rw [rd_go hnum h40, List.drop_drop] at this
                exact this
              have HK2 := hid hkl2
              obtain ⟨X, hX⟩ : ∃ X : Int, last + ((d : Int) + 1) = X := ⟨_, rfl⟩
              have hX2 : last + (d : Int) + 1 = X := by omega
              rw [hX2] at HF h40
              obtain ⟨g, cap, w3, Hr, hown3, hon3⟩ := own_num HO2.out (Nat.le_trans (by have := HU2.out.b2.lt; omega) (Nat.le_refl _)) (by have := HAl.out; omega) X
              have HE := hid hown3
              have HU3 := hid (HU2.out.more hon3 (fun j e => (HO2.out.lt j e).1))
              have dX : decide (1099511627776 ≤ X) = false := by simp; omega
              clear hnum hkl2 hown3 hon3
              go_wp2_with (at_builtin; refine wpList_append_run rfl _ _ _ rfl rfl rfl Hr ?_)
              go_roundw
              case rel => exact ⟨i + 1, at_ + k2, X, acc ++ [X], by omega, by go_num, rfl, by omega, h40, by have := HAl.out; simp; omega, HK2.out, HU3.out, HE.out, by rw [show cnt - (i + 1) = m by have := HM.out; omega]; exact HF.out⟩
              case measure => simp [intOf]; omega
            · have HF : Hid (R = none) := by
                have := HP.out
                rw [rd_high hnum h40] at this
                exact this.symm
              obtain ⟨X, hX⟩ : ∃ X : Int, last + ((d : Int) + 1) = X := ⟨_, rfl⟩
              have dX : decide (1099511627776 ≤ X) = true := by simp; omega
              clear hnum hkl2
              go_wp2_with fail
              go_ret3
              exact ⟨HU2.out.kept, .inl ⟨HF.out, rfl⟩⟩
        · have e0 : cnt - i = 0 := by omega
          rw [e0, rdA] at hP
          have hc2 := hU.b2.cell 0 rfl
          have HP := hid hP
          clear hU ho hat hP hal e0
          go_wp2_with fail
          go_quiet (fail)
          have K0 : Kept wr (wr.drewN nq) := kept_drewN (Only.refl _ _) nq
          generalize wr.drewN nq = wq at K0 ⊢
          clear nq
          have HK := hid (HU.out.kept.trans K0 (fun _ _ f => f))
          have HOq := hid (own_base (own_only HO.out K0 (fun _ _ f => f)) (b' := w.heap.size) (by omega))
          clear K0
          go_wp2_with fail
          go_ret3
          exact ⟨HK.out, .inr ⟨_, acc, at_, HP.out.symm, rfl, HOq.out⟩⟩
    · have HF : Hid (R = none) := by
        have := HR.out
        unfold readR at this
        rw [hnum] at this
        rw [← this]
        exact if_neg hc
      clear hnum hkl
      go_wp2_with fail
      go_ret3
      exact ⟨HU1.out.kept, .inl ⟨HF.out, rfl⟩⟩

/-- What Get tells, by what stands there. -/
theorem got_cases (bs : List UInt8) : (numB bs = none ∧ ((getA bs 0 0 = (0, 0, 5)) ∨ ∃ (u k : Nat) (N : Int), getA bs 0 0 = (u, k, 0) ∧ wrap64 (u : Int) = N ∧ (N < 0 ∨ 1099511627776 ≤ N))) ∨ (∃ d k : Nat, numB bs = some (d, k) ∧ getA bs 0 0 = (d, k, 0) ∧ wrap64 (d : Int) = (d : Int) ∧ d < 1099511627776 ∧ k ≤ bs.length) := by
  rcases getA_cases bs 0 0 (by simp) (by omega) with hg | ⟨u, k, hg, hu, hk⟩
  · left
    refine ⟨?_, .inl hg⟩
    unfold numB
    rw [hg]
    rfl
  · by_cases h40 : u < 1099511627776
    · right
      refine ⟨u, k, ?_, hg, by unfold wrap64; omega, h40, by omega⟩
      unfold numB
      rw [hg]
      simp [h40]
    · left
      refine ⟨?_, .inr ⟨u, k, _, hg, rfl, by unfold wrap64; omega⟩⟩
      unfold numB
      rw [hg]
      simp [h40]

set_option maxRecDepth 100000 in
set_option maxHeartbeats 6400000 in
theorem rread_any (w : World) (v : Value) (bs : List UInt8) (hs : BSrc w v bs) (hl : bs.length ≤ 1000000) :
    Calls Try.prog 22 #[v] w (UnpPost w (readR bs)) := by
  have HG := hid (fun (W : World) (x : Value) (l : List UInt8) (h : SrcOf W x (l.map bV)) (h2 : l.length ≤ 1000000) => U.rget_any W x l h h2)
  have HRs := hid (fun (W : World) (x : Value) (l : List Int) (h : SrcOf W x (l.map (Value.int .i64))) (h2 : l.length ≤ 9223372036854775807) => rrising_any W x l h h2)
  have HS := hid hs
  obtain ⟨a, c, rfl⟩ : ∃ a c, v = .slice a bs.length c := ⟨_, _, hs.2.choose_spec.choose_spec.1⟩
  obtain ⟨R, hR⟩ : ∃ R, readR bs = R := ⟨_, rfl⟩
  have HR := hid hR
  rw [hR]
  obtain ⟨L, hL⟩ : ∃ L, bs.length = L := ⟨_, rfl⟩
  have HL := hid hL
  rw [hL] at hl HS ⊢
  clear hs hR hL
  unfold UnpPost
  rcases got_cases bs with ⟨hnum, hg⟩ | ⟨cnt, k, hnum, hg, hwr, hc40, hkl⟩
  · have HF : Hid (R = none) := by
      have := HR.out
      unfold readR at this
      rw [hnum] at this
      exact this.symm
    rcases hg with hg | ⟨u, k, N, hg, hN, hN2⟩
    · have HC := hid (HG.out w _ bs HS.out.1 (by have := HL.out; omega))
      rw [hg, U.got_err] at HC
      clear hg hnum
      go_enter Try.func22, Try.ntmps22
      go_wp2_with fail
      refine HC.out.mono ?_
      rintro e w1 ⟨rfl, hw⟩
      replace hw := hw.symm
      subst hw
      go_wp2_with fail
      go_ret3
      exact ⟨Only.refl _ _, .inl ⟨HF.out, rfl⟩⟩
    · have HC := hid (HG.out w _ bs HS.out.1 (by have := HL.out; omega))
      rw [hg, U.got] at HC
      simp only [hN] at HC
      clear hg hnum hN
      have fin : decide (N < 0) = true ∨ (decide (N < 0) = false ∧ decide (10000 < N) = true) := by
        rcases hN2 with h | h
        · exact .inl (by simp; omega)
        · exact .inr ⟨by simp; omega, by simp; omega⟩
      clear hN2
      rcases fin with d1 | ⟨d1, d2⟩ <;>
      · go_enter Try.func22, Try.ntmps22
        go_wp2_with fail
        refine HC.out.mono ?_
        rintro e w1 ⟨rfl, hw⟩
        replace hw := hw.symm
        subst hw
        go_wp2_with fail
        go_ret3
        exact ⟨Only.refl _ _, .inl ⟨HF.out, rfl⟩⟩
  · have HC := hid (HG.out w _ bs HS.out.1 (by have := HL.out; omega))
    rw [hg, U.got] at HC
    simp only [hwr] at HC
    have d1 : decide ((cnt : Int) < 0) = false := by simp
    by_cases hc : cnt ≤ 10000
    · have HR2 : Hid (rdA cnt (-1) [] k (bs.drop k) = R) := by
        have := HR.out
        unfold readR at this
        rw [hnum] at this
        rw [← this]
        exact (if_pos hc).symm
      have d2 : decide (10000 < (cnt : Int)) = false := by simp; omega
      have HKL : Hid (k ≤ L) := by
        have := HL.out
        show _ ≤ _
        omega
      clear hnum hkl hg hwr
      go_enter Try.func22, Try.ntmps22
      go_wp2_with fail
      refine HC.out.mono ?_
      rintro e w1 ⟨rfl, hw⟩
      replace hw := hw.symm
      subst hw
      clear HC
      go_wp2_with fail
      go_loopw [6, 8, 9, 10, 11, 12, 13] (fun q p t s _ _ _ wr => ∃ (i at_ : Nat) (last : Int) (acc : List Int), i ≤ cnt ∧ s = .int .i64 (i : Int) ∧ q = .int .i64 (at_ : Int) ∧ t = .int .i64 last ∧ -1 ≤ last ∧ last ≤ (i : Int) * 1099511627776 - 1 ∧ acc.length = i ∧ at_ ≤ L ∧ Kept w wr ∧ wr.ownsRow w.heap.size 3 1 p acc.length (acc.map (Value.int .i64)) ∧ ((last < 1099511627776 ∧ (∀ x, upB (-1) (acc ++ x) = upB last x) ∧ rdA (cnt - i) last acc at_ (bs.drop at_) = R) ∨ ((∀ x, upB (-1) (acc ++ x) = false) ∧ R = none))) (fun _ _ _ s _ _ _ _ => cnt - (intOf s).toNat)
      case atStart => exact ⟨0, k, -1, [], by omega, rfl, rfl, rfl, by omega, by omega, rfl, HKL.out, Only.refl _ _, World.ownsRow_nil _ _ _ _, .inl ⟨by omega, fun _ => rfl, HR2.out⟩⟩
      case round =>
        obtain ⟨i, at_, last, acc, hi, rfl, rfl, rfl, hl1, hl2, hal, hat, kr, ho, hP⟩ := hrel
        have HK := hid kr
        have HO := hid ho
        have HAl := hid hal
        have HP := hid hP
        by_cases hlt : i < cnt
        · obtain ⟨m, hm⟩ : ∃ m, cnt - i = m + 1 := ⟨cnt - i - 1, by omega⟩
          have HM := hid hm
          obtain ⟨a', c', hr, hb⟩ := (HS.out.stay kr).tail (lo := at_) (by have := HL.out; omega)
          have HC := hid (HG.out wr _ (bs.drop at_) hb.1 (by rw [List.length_drop]; have := HL.out; omega))
          rw [HL.out] at hr HC
          clear kr ho hal hP hm hb
          rcases got_cases (bs.drop at_) with ⟨hnum, hg⟩ | ⟨d, k2, hnum, hg, hwr, hd40, hkl⟩
          · have HF : Hid (R = none) := by
              rcases HP.out with ⟨_, _, h⟩ | ⟨_, h⟩
              · rw [HM.out, rd_none hnum] at h
                exact h.symm
              · exact h
            rcases hg with hg | ⟨u, k3, N, hg, hN, hN2⟩
            · rw [hg, U.got_err] at HC
              clear hg hnum
              go_wp2_with fail
              refine HC.out.mono ?_
              rintro e w2 ⟨rfl, hw⟩
              replace hw := hw.symm
              subst hw
              go_wp2_with fail
              go_ret3
              exact ⟨HK.out, .inl ⟨HF.out, rfl⟩⟩
            · rw [hg, U.got] at HC
              simp only [hN] at HC
              clear hg hnum hN
              have fin : decide (N < 0) = true ∨ (decide (N < 0) = false ∧ decide (1099511627776 ≤ N) = true) := by
                rcases hN2 with h | h
                · exact .inl (by simp; omega)
                · exact .inr ⟨by simp; omega, by simp; omega⟩
              clear hN2
              rcases fin with e1 | ⟨e1, e2⟩ <;>
              · go_wp2_with fail
                refine HC.out.mono ?_
                rintro e w2 ⟨rfl, hw⟩
                replace hw := hw.symm
                subst hw
                go_wp2_with fail
                go_ret3
                exact ⟨HK.out, .inl ⟨HF.out, rfl⟩⟩
          · rw [hg, U.got] at HC
            simp only [hwr] at HC
            have e1 : decide ((d : Int) < 0) = false := by simp
            have e2 : decide (1099511627776 ≤ (d : Int)) = false := by simp; omega
            obtain ⟨X, hX⟩ : ∃ X : Int, last + (d : Int) + 1 = X := ⟨_, rfl⟩
            have HF : Hid ((X < 1099511627776 ∧ (∀ x, upB (-1) ((acc ++ [X]) ++ x) = upB X x) ∧ rdA m X (acc ++ [X]) (at_ + k2) (bs.drop (at_ + k2)) = R) ∨ ((∀ x, upB (-1) ((acc ++ [X]) ++ x) = false) ∧ R = none)) := by
              rcases HP.out with ⟨p1, p2, p3⟩ | ⟨p1, p2⟩
              · rw [HM.out] at p3
                by_cases h40 : X < 1099511627776
                · refine .inl ⟨h40, fun x => ?_, ?_⟩
                  · rw [List.append_assoc, p2]
                    exact up_go (by omega) h40
                  · rw [rd_go hnum (by omega), hX, List.drop_drop] at p3
                    exact p3
                · refine .inr ⟨fun x => ?_, ?_⟩
                  · rw [List.append_assoc, p2]
                    exact up_high (by omega)
                  · rw [rd_high hnum (by omega)] at p3
                    exact p3.symm
              · exact .inr ⟨fun x => by rw [List.append_assoc]; exact p1 _, p2⟩
            obtain ⟨g, cap, w3, Hr, hown3, hon3⟩ := own_num HO.out HK.out.size (by have := HAl.out; omega) X
            have HE := hid hown3
            have HK3 : Hid (Kept w w3) := hid (HK.out.trans hon3 (fun q hq e => absurd hq (by have := (HO.out.lt q e).1; omega)))
            have HKk : Hid (at_ + k2 ≤ L) := by
              have := HL.out
              rw [List.length_drop] at hkl
              show _ ≤ _
              omega
            have hcn : at_ + k2 ≤ 1000000 := by
              have := HKk.out
              omega
            have hb9 : last ≤ 10001 * 1099511627776 := by omega
            have hX9 : X ≤ (i : Int) * 1099511627776 - 1 + 1099511627776 := by omega
            clear hnum hkl hg hwr hown3 hon3 HP
            go_wp2_with fail
            refine HC.out.mono ?_
            rintro e w2 ⟨rfl, hw⟩
            replace hw := hw.symm
            subst hw
            go_wp2_with (at_builtin; refine wpList_append_run rfl _ _ _ rfl rfl rfl Hr ?_)
            go_roundw
            case rel => exact ⟨i + 1, at_ + k2, X, acc ++ [X], by omega, by go_num, by go_num, rfl, by omega, by omega, by have := HAl.out; simp; omega, HKk.out, HK3.out, HE.out, by rw [show cnt - (i + 1) = m by have := HM.out; omega]; exact HF.out⟩
            case measure => simp [intOf]; omega
        · have e0 : cnt - i = 0 := by omega
          have HC := hid (HRs.out wr _ acc (own_src ho) (by omega))
          obtain ⟨B, hB⟩ : ∃ B, upB (-1) acc = B := ⟨_, rfl⟩
          rw [hB] at HC
          have HF : Hid ((B = true ∧ some (acc, at_) = R) ∨ (B = false ∧ R = none)) := by
            rcases hP with ⟨p1, p2, p3⟩ | ⟨p1, p2⟩
            · have := p2 []
              rw [List.append_nil, hB] at this
              rw [e0, rdA] at p3
              exact .inl ⟨this, p3⟩
            · have := p1 []
              rw [List.append_nil, hB] at this
              exact .inr ⟨this, p2⟩
          clear kr ho hat hP hal e0 hB HP
          cases B with
          | true =>
            go_wp2_with fail
            refine HC.out.mono ?_
            rintro e w2 ⟨rfl, k2⟩
            have HK2 := hid (HK.out.trans k2 (fun _ _ f => f))
            have HO2 := hid (own_only HO.out k2 (fun _ _ f => f))
            clear k2
            go_wp2_with fail
            go_ret3
            refine ⟨HK2.out, .inr ⟨_, acc, at_, ?_, rfl, HO2.out⟩⟩
            rcases HF.out with ⟨_, h⟩ | ⟨h, _⟩
            · exact h.symm
            · cases h
          | false =>
            go_wp2_with fail
            refine HC.out.mono ?_
            rintro e w2 ⟨rfl, k2⟩
            have HK2 := hid (HK.out.trans k2 (fun _ _ f => f))
            clear k2
            go_wp2_with fail
            go_ret3
            refine ⟨HK2.out, .inl ⟨?_, rfl⟩⟩
            rcases HF.out with ⟨h, _⟩ | ⟨_, h⟩
            · cases h
            · exact h
    · have HF : Hid (R = none) := by
        have := HR.out
        unfold readR at this
        rw [hnum] at this
        rw [← this]
        exact if_neg hc
      have d2 : decide (10000 < (cnt : Int)) = true := by simp; omega
      clear hnum hkl hg hwr
      go_enter Try.func22, Try.ntmps22
      go_wp2_with fail
      refine HC.out.mono ?_
      rintro e w1 ⟨rfl, hw⟩
      replace hw := hw.symm
      subst hw
      go_wp2_with fail
      go_ret3
      exact ⟨Only.refl _ _, .inl ⟨HF.out, rfl⟩⟩
end Go.Proofs.Ytpbeenhaaaocpaa.Po
