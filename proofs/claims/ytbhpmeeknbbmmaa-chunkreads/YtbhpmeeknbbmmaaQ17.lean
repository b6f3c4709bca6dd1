/-
  Stake.
-/
import Derived.Test.YtbhpmeeknbbmmaaQ09
import Derived.Test.YtbhpmeeknbbmmaaQ03
import Derived.RegionDies

/-
  A reader of times: bits that are taken, a change that is read.
-/
namespace Go.Proofs.Ytbhpmeeknbbmmaa.S
open Go.RowKit Go.Proofs.Lys
set_option linter.unusedVariables false

section
variable {w : World} {b : Nat} {v : Value} {bs : List UInt8} {t : Nat}

theorem getR_drop (bs : List UInt8) (t N : Nat) (ht : t ≤ 8 * bs.length) :
    (8 * bs.length - t < N ∧ getR ((unpackL bs).drop t) N = none) ∨ (t + N ≤ 8 * bs.length ∧ getR ((unpackL bs).drop t) N = some (wrap64 ((valL (((unpackL bs).drop t).take N) : Nat) : Int), (unpackL bs).drop (t + N))) := by
  have hl : ((unpackL bs).drop t).length = 8 * bs.length - t := by rw [List.length_drop, unpackL_length]
  by_cases h : t + N ≤ 8 * bs.length
  · right
    refine ⟨h, ?_⟩
    unfold getR
    rw [if_pos (by omega), List.drop_drop]
  · left
    refine ⟨by omega, ?_⟩
    unfold getR
    rw [if_neg (by omega)]

theorem stake_no (h : RdAt w b v bs t) (N : Nat) (hN : 8 * bs.length - t < N) (hN2 : N ≤ 64) :
    Calls Try.prog 60 #[.pointer (some ⟨b, 0, none⟩), .int .i64 (N : Int)] w fun e w' => e = tooFew ∧ Kept w w' := by
  have hg := get_few h N hN hN2
  clear h hN
  go_enter Try.func60, Try.ntmps60
  go_wp2_with fail
  refine hg.mono ?_
  rintro e w' ⟨rfl, hk⟩
  clear hg
  go_wp2_with fail
  exact ⟨rfl, rfl, hk⟩
theorem stake_any (h : RdAt w b v bs t) (N : Nat) (hN : t + N ≤ 8 * bs.length) (hN2 : N ≤ 64) :
    Calls Try.prog 60 #[.pointer (some ⟨b, 0, none⟩), .int .i64 (N : Int)] w fun e w' => e = .returned (.int .i64 (wrap64 ((valL (((unpackL bs).drop t).take N) : Nat) : Int))) ∧ Only (· = b) w w' ∧ RdAt w' b v bs (t + N) := by
  have hg := get_any h N hN hN2
  generalize wrap64 ((valL (((unpackL bs).drop t).take N) : Nat) : Int) = X at hg ⊢
  clear h hN
  go_enter Try.func60, Try.ntmps60
  go_wp2_with fail
  refine hg.mono ?_
  rintro e w' ⟨rfl, hk, hr⟩
  clear hg
  go_wp2_with fail
  go_ret
  exact ⟨rfl, hk, hr⟩
end

/-- The table of widths in a variable. -/
def TabAt (w : World) (T : Nat) : Prop := Blk w T tabA.toList 99
theorem TabAt.new (w : World) : TabAt (w.alloc (.cells tabA 99)) w.heap.size := Blk.new w tabA.toList _
theorem TabAt.five {w : World} {T : Nat} (h : TabAt w T) (k : Nat) (hk : k ≤ 4) : w.cell? ⟨T, k * 6 + 5, none⟩ = some (.int .i64 (wb k : Int)) := by
  have := Blk.cell h
  rcases k with _ | _ | _ | _ | _ | k
  · exact this 5 rfl
  · exact this 11 rfl
  · exact this 17 rfl
  · exact this 23 rfl
  · exact this 29 rfl
  · omega
theorem TabAt.four {w : World} {T : Nat} (h : TabAt w T) (k : Nat) (hk : k ≤ 4) : w.cell? ⟨T, k * 6 + 4, none⟩ = some (.int .i64 (ws k)) := by
  have := Blk.cell h
  rcases k with _ | _ | _ | _ | _ | k
  · exact this 4 rfl
  · exact this 10 rfl
  · exact this 16 rfl
  · exact this 22 rfl
  · exact this 28 rfl
  · omega
theorem wb_le (k : Nat) : wb k ≤ 64 := by unfold wb; split <;> omega
theorem onesR_add (f : Nat) (l : List Bool) : onesR (f + 1) l = match l with | [] => none | false :: r => some (0, r) | true :: r => (onesR f r).map (fun x => (x.1 + 1, x.2)) := by
  cases l with
  | nil => rfl
  | cons a r => cases a <;> rfl

theorem wrap_is (x : Int) : IntKind.i64.wrap x = wrap64 x := Go.IntWalk.i64_left x
theorem index_any (T k : Nat) (hk : k ≤ 4) (w : World) : (Instr.indexAt 99 (.pointer (some ⟨T, 0, none⟩)) (.int .i64 (k : Int))).run Try.prog w = .ok (.pointer (some ⟨T, k * 6, none⟩)) w := by
  rcases k with _ | _ | _ | _ | _ | k
  · kernel_rfl
  · kernel_rfl
  · kernel_rfl
  · kernel_rfl
  · kernel_rfl
  · omega
theorem drop_one (bs : List UInt8) (t : Nat) (ht : t + 1 ≤ 8 * bs.length) : ∃ a : Bool, (unpackL bs).drop t = a :: (unpackL bs).drop (t + 1) ∧ wrap64 ((valL (((unpackL bs).drop t).take 1) : Nat) : Int) = if a then 1 else 0 := by
  have h : t < (unpackL bs).length := by rw [unpackL_length]; omega
  refine ⟨(unpackL bs)[t], List.drop_eq_getElem_cons h, ?_⟩
  rw [List.drop_eq_getElem_cons h, List.take_succ_cons, List.take_zero]
  cases (unpackL bs)[t] <;> decide +kernel

/-- The reader within a change: the table beside it. -/
structure ChIn (w : World) (b T : Nat) (v : Value) (bs : List UInt8) (wr : World) (t : Nat) : Prop where
  rd : RdAt wr b v bs t
  tab : TabAt wr T
  only : Only (· = b) w wr
theorem ChIn.take {w wr w' : World} {b T : Nat} {v : Value} {bs : List UInt8} {t t' : Nat} (h : ChIn w b T v bs wr t) (hT : T ≠ b) (ho : Only (· = b) wr w') (hr : RdAt w' b v bs t') : ChIn w b T v bs w' t' :=
  ⟨hr, ho.blk h.tab hT, h.only.trans ho (fun _ _ e => e)⟩
theorem ChIn.drew {w wr : World} {b T : Nat} {v : Value} {bs : List UInt8} {t : Nat} (h : ChIn w b T v bs wr t) : ChIn w b T v bs wr.drew t :=
  ⟨h.rd.only (Only.drew (Only.refl (fun _ => False) wr)) (fun f => f) (fun _ _ f => f), h.tab, h.only.drew⟩

set_option maxRecDepth 100000 in
set_option maxHeartbeats 1600000 in
theorem change_any {w : World} {b : Nat} {v : Value} {bs : List UInt8} {t : Nat} (h : RdAt w b v bs t) :
    Calls Try.prog 61 #[.pointer (some ⟨b, 0, none⟩)] w fun e w' => Only (· = b) w w' ∧
      ((chgR ((unpackL bs).drop t) = none ∧ e = tooFew) ∨ ∃ X t', chgR ((unpackL bs).drop t) = some (X, (unpackL bs).drop t') ∧ e = .returned (.int .i64 X) ∧ RdAt w' b v bs t') := by
  have H := hid h
  clear h
  go_enter Try.func61, Try.ntmps61
  go_wp2_with fail
  refine (widths_any w).mono ?_
  rintro e w1 ⟨rfl, k1⟩
  have HC0 : Hid (ChIn w b w1.heap.size v bs (w1.alloc (.cells tabA 99)) t) := ⟨H.out.only (k1.alloc _) (fun f => f) (fun _ _ f => f), TabAt.new w1, (k1.alloc _).mono (fun _ _ f => f.elim)⟩
  have hTb : w1.heap.size ≠ b := by have := H.out.blk.lt; have := k1.size; omega
  go_wp2_with (refine wpList_store_row rfl 99 _ _ rfl w1.heap.size tabA rfl rfl 99 _ (heap_alloc_last w1 _) tab_size rfl tab_one ?_)
  rw [World.setRow_alloc_new]
  generalize w1.heap.size = T at HC0 hTb ⊢
  generalize w1.alloc (.cells tabA 99) = w2 at HC0 ⊢
  generalize tabV = TV
  clear k1
  go_loopw [4] (fun s wr => ∃ (k t' : Nat), k ≤ 4 ∧ s = .int .i64 (k : Int) ∧ ChIn w b T v bs wr t' ∧ onesR 4 ((unpackL bs).drop t) = (onesR (4 - k) ((unpackL bs).drop t')).map (fun x => (x.1 + k, x.2))) (fun s _ => 5 - (intOf s).toNat)
  case atStart => exact ⟨0, t, by omega, rfl, HC0.out, by simp⟩
  case round =>
    obtain ⟨k, t', hk4, rfl, hI, hO⟩ := hrel
    have HI := hid hI
    clear hI
    by_cases hk : k = 4
    · have HO : Hid (onesR 4 ((unpackL bs).drop t) = some (k, (unpackL bs).drop t')) := by show _ = _; rw [hO, hk]; rfl
      have hk3 : ¬ k < 4 := by omega
      clear hO hk
      go_wp2_with fail
      clear hk3
      replace HI := hid HI.out.drew
      have h5 := HI.out.tab.five k hk4
      have h4 := HI.out.tab.four k hk4
      have ix := index_any T k hk4
      rcases getR_drop bs t' (wb k) HI.out.rd.top with ⟨hN, hg⟩ | ⟨hN, hg⟩
      · have hT := stake_no HI.out.rd (wb k) hN (wb_le k)
        have HG : Hid (chgR ((unpackL bs).drop t) = none) := by show _ = _; unfold chgR; rw [HO.out]; simp [hg]
        generalize wb k = B5 at *
        generalize ws k = B4 at *
        clear hg hN
        go_region_dies
        all_goals
          go_at_call 60
          refine hT.mono ?_
          rintro e w4 ⟨rfl, k4⟩
          exact ⟨rfl, HI.out.only.trans (k4.mono (fun _ _ f => f.elim)) (fun _ _ e => e), .inl ⟨HG.out, rfl⟩⟩
      · have hT := stake_any HI.out.rd (wb k) hN (wb_le k)
        generalize wrap64 ((valL (((unpackL bs).drop (t')).take (wb k)) : Nat) : Int) = X at hT hg
        have HG : Hid (chgR ((unpackL bs).drop t) = some (wrap64 (X - ws k), (unpackL bs).drop (t' + wb k))) := by show _ = _; unfold chgR; rw [HO.out]; simp [hg]
        have HT := hid hTb
        have H4 := hid (fun (W : World) (h : TabAt W T) => h.four k hk4)
        have H5 := hid (fun (W : World) (h : TabAt W T) => h.five k hk4)
        generalize wb k = B5 at *
        generalize ws k = B4 at *
        clear hg hN
        go_region_with (go_at_call 60; refine hT.mono ?_; rintro e w4 ⟨rfl, k4, r4⟩; have hI4 := HI.out.take HT.out k4 r4; have h4w := H4.out _ hI4.tab; have h5w := H5.out _ hI4.tab)
        all_goals
          go_wp2_with fail
          go_ret
          refine ⟨HI.out.only.trans k4 (fun _ _ e => e), .inr ⟨_, _, HG.out, ?_, r4⟩⟩
          simp [Act.put]
          exact wrap_is _
    · obtain ⟨f, hf⟩ : ∃ f, 4 - k = f + 1 := ⟨3 - k, by omega⟩
      rw [hf, onesR_add f] at hO
      have hk3 : k < 4 := by omega
      by_cases hN : t' + 1 ≤ 8 * bs.length
      · obtain ⟨a, ha, hv⟩ := drop_one bs t' hN
        rw [ha] at hO
        have hT := stake_any HI.out.rd 1 hN (by omega)
        rw [hv] at hT
        clear ha hv
        cases a
        · have HO : Hid (onesR 4 ((unpackL bs).drop t) = some (k, (unpackL bs).drop (t' + 1))) := by show _ = _; rw [hO]; simp
          clear hO
          go_wp2_with fail
          refine hT.mono ?_
          rintro e w3 ⟨rfl, k3, r3⟩
          have HI3 := hid (HI.out.take hTb k3 r3)
          clear hT
          go_wp2_with fail
          clear HI
          have HI := HI3
          replace HI := hid HI.out.drew
          have h5 := HI.out.tab.five k hk4
          have h4 := HI.out.tab.four k hk4
          have ix := index_any T k hk4
          rcases getR_drop bs (t' + 1) (wb k) HI.out.rd.top with ⟨hN, hg⟩ | ⟨hN, hg⟩
          · have hT := stake_no HI.out.rd (wb k) hN (wb_le k)
            have HG : Hid (chgR ((unpackL bs).drop t) = none) := by show _ = _; unfold chgR; rw [HO.out]; simp [hg]
            generalize wb k = B5 at *
            generalize ws k = B4 at *
            clear hg hN
            go_region_dies
            all_goals
              go_at_call 60
              refine hT.mono ?_
              rintro e w4 ⟨rfl, k4⟩
              exact ⟨rfl, HI.out.only.trans (k4.mono (fun _ _ f => f.elim)) (fun _ _ e => e), .inl ⟨HG.out, rfl⟩⟩
          · have hT := stake_any HI.out.rd (wb k) hN (wb_le k)
            generalize wrap64 ((valL (((unpackL bs).drop ((t' + 1))).take (wb k)) : Nat) : Int) = X at hT hg
            have HG : Hid (chgR ((unpackL bs).drop t) = some (wrap64 (X - ws k), (unpackL bs).drop ((t' + 1) + wb k))) := by show _ = _; unfold chgR; rw [HO.out]; simp [hg]
            have HT := hid hTb
            have H4 := hid (fun (W : World) (h : TabAt W T) => h.four k hk4)
            have H5 := hid (fun (W : World) (h : TabAt W T) => h.five k hk4)
            generalize wb k = B5 at *
            generalize ws k = B4 at *
            clear hg hN
            go_region_with (go_at_call 60; refine hT.mono ?_; rintro e w4 ⟨rfl, k4, r4⟩; have hI4 := HI.out.take HT.out k4 r4; have h4w := H4.out _ hI4.tab; have h5w := H5.out _ hI4.tab)
            all_goals
              go_wp2_with fail
              go_ret
              refine ⟨HI.out.only.trans k4 (fun _ _ e => e), .inr ⟨_, _, HG.out, ?_, r4⟩⟩
              simp [Act.put]
              exact wrap_is _
        · have HO : Hid (onesR 4 ((unpackL bs).drop t) = (onesR (4 - (k + 1)) ((unpackL bs).drop (t' + 1))).map (fun x => (x.1 + (k + 1), x.2))) := by
            show _ = _
            rw [hO, show 4 - (k + 1) = f by omega]
            dsimp only
            cases onesR f ((unpackL bs).drop (t' + 1)) with
            | none => rfl
            | some x => simp; omega
          clear hO
          go_wp2_with fail
          refine hT.mono ?_
          rintro e w3 ⟨rfl, k3, r3⟩
          have HI3 := hid (HI.out.take hTb k3 r3)
          clear hT
          go_wp2_with fail
          go_roundw
          case rel => exact ⟨k + 1, t' + 1, by omega, by go_num, HI3.out, HO.out⟩
          case measure => simp [intOf]; omega
      · have hnil : (unpackL bs).drop t' = [] := List.drop_eq_nil_of_le (by rw [unpackL_length]; omega)
        rw [hnil] at hO
        have HO : Hid (onesR 4 ((unpackL bs).drop t) = none) := by show _ = _; rw [hO]; rfl
        have hT := stake_no HI.out.rd 1 (by have := HI.out.rd.top; omega) (by omega)
        clear hO hnil
        go_wp2_with fail
        refine hT.mono ?_
        rintro e w3 ⟨rfl, k3⟩
        clear hT
        go_wp2_with fail
        exact ⟨rfl, HI.out.only.trans (k3.mono (fun _ _ f => f.elim)) (fun _ _ e => e), .inl ⟨by unfold chgR; rw [HO.out]; rfl, rfl⟩⟩
end Go.Proofs.Ytbhpmeeknbbmmaa.S
