/-
  Stake, Sread, Sunpack.
-/
import Derived.Test.YtllfanlhgnkcfaaGreatDoorQ11
import Derived.Test.YtllfanlhgnkcfaaGreatDoorQ07
import Derived.RegionDies
import Derived.Defers
import Derived.Recover
namespace Go.Proofs.YtllfanlhgnkcfaaGreatDoor.S
open Go.RowKit Go.Proofs.Lys
set_option linter.unusedVariables false
section
variable {w : World} {b : Nat} {v : Value} {bs : List UInt8} {t : Nat}
theorem getR_drop (bs : List UInt8) (t N : Nat) (ht : t ≤ 8 * bs.length) :
  (8 * bs.length - t < N ∧ getR ((unpackL bs).drop t) N = none) ∨ (t + N ≤ 8 * bs.length ∧ getR ((unpackL bs).drop t) N = some (wrap64 ((valL (((unpackL bs).drop t).take N) : Nat) : Int), (unpackL bs).drop (t + N))) := by
 have hl : ((unpackL bs).drop t).length = 8 * bs.length - t := by rw [List.length_drop, unpackL_length]
 by_cases h : t + N ≤ 8 * bs.length
 ·right
  refine ⟨h, ?_⟩
  unfold getR
  rw [if_pos (by omega), List.drop_drop]
 ·left
  refine ⟨by omega, ?_⟩
  unfold getR
  rw [if_neg (by omega)]
theorem stake_no (h : RdAt w b v bs t) (N : Nat) (hN : 8 * bs.length - t < N) (hN2 : N ≤ 64) :
  Calls Tryz.prog 147 #[.pointer (some ⟨b, 0, none⟩), .int .i64 (N : Int)] w fun e w' => e = tooFew ∧ Kept w w' := by
 have hg := get_few h N hN hN2
 clear h hN
 go_enter Tryz.func147, Tryz.ntmps147
 go_wp2_with fail
 refine hg.mono ?_
 rintro e w' ⟨rfl, hk⟩
 clear hg
 go_wp2_with fail
 exact ⟨rfl, rfl, hk⟩
theorem stake_any (h : RdAt w b v bs t) (N : Nat) (hN : t + N ≤ 8 * bs.length) (hN2 : N ≤ 64) :
  Calls Tryz.prog 147 #[.pointer (some ⟨b, 0, none⟩), .int .i64 (N : Int)] w fun e w' => e = .returned (.int .i64 (wrap64 ((valL (((unpackL bs).drop t).take N) : Nat) : Int))) ∧ Only (· = b) w w' ∧ RdAt w' b v bs (t + N) := by
 have hg := get_any h N hN hN2
 generalize wrap64 ((valL (((unpackL bs).drop t).take N) : Nat) : Int) = X at hg ⊢
 clear h hN
 go_enter Tryz.func147, Tryz.ntmps147
 go_wp2_with fail
 refine hg.mono ?_
 rintro e w' ⟨rfl, hk, hr⟩
 clear hg
 go_wp2_with fail
 go_ret
 exact ⟨rfl, hk, hr⟩
end
def TabAt (w : World) (T : Nat) : Prop := Blk w T tabA.toList 193
theorem TabAt.new (w : World) : TabAt (w.alloc (.cells tabA 193)) w.heap.size := Blk.new w tabA.toList _
theorem TabAt.five {w : World} {T : Nat} (h : TabAt w T) (k : Nat) (hk : k ≤ 4) : w.cell? ⟨T, k * 6 + 5, none⟩ = some (.int .i64 (wb k : Int)) := by
 have := Blk.cell h
 rcases k with _ | _ | _ | _ | _ | k
 ·exact this 5 rfl
 ·exact this 11 rfl
 ·exact this 17 rfl
 ·exact this 23 rfl
 ·exact this 29 rfl
 ·omega
theorem TabAt.four {w : World} {T : Nat} (h : TabAt w T) (k : Nat) (hk : k ≤ 4) : w.cell? ⟨T, k * 6 + 4, none⟩ = some (.int .i64 (ws k)) := by
 have := Blk.cell h
 rcases k with _ | _ | _ | _ | _ | k
 ·exact this 4 rfl
 ·exact this 10 rfl
 ·exact this 16 rfl
 ·exact this 22 rfl
 ·exact this 28 rfl
 ·omega
theorem wb_le (k : Nat) : wb k ≤ 64 := by unfold wb; split <;> omega
theorem onesR_add (f : Nat) (l : List Bool) : onesR (f + 1) l = match l with | [] => none | false :: r => some (0, r) | true :: r => (onesR f r).map (fun x => (x.1 + 1, x.2)) := by
 cases l with
 | nil => rfl
 | cons a r => cases a <;> rfl
theorem wrap_is (x : Int) : IntKind.i64.wrap x = wrap64 x := Go.IntWalk.i64_left x
theorem index_any (T k : Nat) (hk : k ≤ 4) (w : World) : (Instr.indexAt 193 (.pointer (some ⟨T, 0, none⟩)) (.int .i64 (k : Int))).run Tryz.prog w = .ok (.pointer (some ⟨T, k * 6, none⟩)) w := by
 rcases k with _ | _ | _ | _ | _ | k
 ·kernel_rfl
 ·kernel_rfl
 ·kernel_rfl
 ·kernel_rfl
 ·kernel_rfl
 ·omega
theorem drop_one (bs : List UInt8) (t : Nat) (ht : t + 1 ≤ 8 * bs.length) : ∃ a : Bool, (unpackL bs).drop t = a :: (unpackL bs).drop (t + 1) ∧ wrap64 ((valL (((unpackL bs).drop t).take 1) : Nat) : Int) = if a then 1 else 0 := by
 have h : t < (unpackL bs).length := by rw [unpackL_length]; omega
 refine ⟨(unpackL bs)[t], List.drop_eq_getElem_cons h, ?_⟩
 rw [List.drop_eq_getElem_cons h, List.take_succ_cons, List.take_zero]
 cases (unpackL bs)[t] <;> decide +kernel
structure ChIn (w : World) (b T : Nat) (v : Value) (bs : List UInt8) (wr : World) (t : Nat) : Prop where
 rd : RdAt wr b v bs t
 tab : TabAt wr T
 only : Only (· = b) w wr
theorem ChIn.take {w wr w' : World} {b T : Nat} {v : Value} {bs : List UInt8} {t t' : Nat} (h : ChIn w b T v bs wr t) (hT : T ≠ b) (ho : Only (· = b) wr w') (hr : RdAt w' b v bs t') : ChIn w b T v bs w' t' :=
 ⟨hr, ho.blk h.tab hT, h.only.trans ho (fun _ _ e => e)⟩
theorem ChIn.drew {w wr : World} {b T : Nat} {v : Value} {bs : List UInt8} {t : Nat} (h : ChIn w b T v bs wr t) : ChIn w b T v bs wr.drew t :=
 ⟨h.rd.only (Only.drew (Only.refl (fun _ => False) wr)) (fun f => f) (fun _ _ f => f), h.tab, h.only.drew⟩
set_option maxRecDepth 100000 in
set_option maxHeartbeats 1600000 in
theorem change_any {w : World} {b : Nat} {v : Value} {bs : List UInt8} {t : Nat} (h : RdAt w b v bs t) :
  Calls Tryz.prog 148 #[.pointer (some ⟨b, 0, none⟩)] w fun e w' => Only (· = b) w w' ∧
   ((chgR ((unpackL bs).drop t) = none ∧ e = tooFew) ∨ ∃ X t', chgR ((unpackL bs).drop t) = some (X, (unpackL bs).drop t') ∧ e = .returned (.int .i64 X) ∧ RdAt w' b v bs t') := by
 have H := hid h
 clear h
 go_enter Tryz.func148, Tryz.ntmps148
 go_wp2_with fail
 refine (widths_any w).mono ?_
 rintro e w1 ⟨rfl, k1⟩
 have HC0 : Hid (ChIn w b w1.heap.size v bs (w1.alloc (.cells tabA 193)) t) := ⟨H.out.only (k1.alloc _) (fun f => f) (fun _ _ f => f), TabAt.new w1, (k1.alloc _).mono (fun _ _ f => f.elim)⟩
 have hTb : w1.heap.size ≠ b := by have := H.out.blk.lt; have := k1.size; omega
 go_wp2_with (refine wpList_store_row rfl 193 _ _ rfl w1.heap.size tabA rfl rfl 193 _ (heap_alloc_last w1 _) tab_size rfl tab_one ?_)
 rw [World.setRow_alloc_new]
 generalize w1.heap.size = T at HC0 hTb ⊢
 generalize w1.alloc (.cells tabA 193) = w2 at HC0 ⊢
 generalize tabV = TV
 clear k1
 go_loopw [4] (fun s wr => ∃ (k t' : Nat), k ≤ 4 ∧ s = .int .i64 (k : Int) ∧ ChIn w b T v bs wr t' ∧ onesR 4 ((unpackL bs).drop t) = (onesR (4 - k) ((unpackL bs).drop t')).map (fun x => (x.1 + k, x.2))) (fun s _ => 5 - (intOf s).toNat)
 case atStart => exact ⟨0, t, by omega, rfl, HC0.out, by simp⟩
 case round =>
  obtain ⟨k, t', hk4, rfl, hI, hO⟩ := hrel
  have HI := hid hI
  clear hI
  by_cases hk : k = 4
  ·have HO : Hid (onesR 4 ((unpackL bs).drop t) = some (k, (unpackL bs).drop t')) := by show _ = _; rw [hO, hk]; rfl
   have hk3 : ¬ k < 4 := by omega
   clear hO hk
   go_wp2_with fail
   clear hk3
   replace HI := hid HI.out.drew
   have h5 := HI.out.tab.five k hk4
   have h4 := HI.out.tab.four k hk4
   have ix := index_any T k hk4
   rcases getR_drop bs t' (wb k) HI.out.rd.top with ⟨hN, hg⟩ | ⟨hN, hg⟩
   ·have hT := stake_no HI.out.rd (wb k) hN (wb_le k)
    have HG : Hid (chgR ((unpackL bs).drop t) = none) := by show _ = _; unfold chgR; rw [HO.out]; simp [hg]
    generalize wb k = B5 at *
    generalize ws k = B4 at *
    clear hg hN
    go_region_dies
    all_goals
     go_at_call 147
     refine hT.mono ?_
     rintro e w4 ⟨rfl, k4⟩
     exact ⟨rfl, HI.out.only.trans (k4.mono (fun _ _ f => f.elim)) (fun _ _ e => e), .inl ⟨HG.out, rfl⟩⟩
   ·have hT := stake_any HI.out.rd (wb k) hN (wb_le k)
    generalize wrap64 ((valL (((unpackL bs).drop (t')).take (wb k)) : Nat) : Int) = X at hT hg
    have HG : Hid (chgR ((unpackL bs).drop t) = some (wrap64 (X - ws k), (unpackL bs).drop (t' + wb k))) := by show _ = _; unfold chgR; rw [HO.out]; simp [hg]
    have HT := hid hTb
    have H4 := hid (fun (W : World) (h : TabAt W T) => h.four k hk4)
    have H5 := hid (fun (W : World) (h : TabAt W T) => h.five k hk4)
    generalize wb k = B5 at *
    generalize ws k = B4 at *
    clear hg hN
    go_region_with (go_at_call 147; refine hT.mono ?_; rintro e w4 ⟨rfl, k4, r4⟩; have hI4 := HI.out.take HT.out k4 r4; have h4w := H4.out _ hI4.tab; have h5w := H5.out _ hI4.tab)
    all_goals
     go_wp2_with fail
     go_ret
     refine ⟨HI.out.only.trans k4 (fun _ _ e => e), .inr ⟨_, _, HG.out, ?_, r4⟩⟩
     simp [Act.put]
     exact wrap_is _
  ·obtain ⟨f, hf⟩ : ∃ f, 4 - k = f + 1 := ⟨3 - k, by omega⟩
   rw [hf, onesR_add f] at hO
   have hk3 : k < 4 := by omega
   by_cases hN : t' + 1 ≤ 8 * bs.length
   ·obtain ⟨a, ha, hv⟩ := drop_one bs t' hN
    rw [ha] at hO
    have hT := stake_any HI.out.rd 1 hN (by omega)
    rw [hv] at hT
    clear ha hv
    cases a
    ·have HO : Hid (onesR 4 ((unpackL bs).drop t) = some (k, (unpackL bs).drop (t' + 1))) := by show _ = _; rw [hO]; simp
     clear hO
     go_wp2_with fail
     refine hT.mono ?_
     rintro e w3 ⟨rfl, k3, r3⟩
     have HI3 := hid (HI.out.take hTb k3 r3)
     clear hT
     go_wp2_with fail
     clear HI
     have HI := HI3
     replace HI := hid HI.out.drew
     have h5 := HI.out.tab.five k hk4
     have h4 := HI.out.tab.four k hk4
     have ix := index_any T k hk4
     rcases getR_drop bs (t' + 1) (wb k) HI.out.rd.top with ⟨hN, hg⟩ | ⟨hN, hg⟩
     ·have hT := stake_no HI.out.rd (wb k) hN (wb_le k)
      have HG : Hid (chgR ((unpackL bs).drop t) = none) := by show _ = _; unfold chgR; rw [HO.out]; simp [hg]
      generalize wb k = B5 at *
      generalize ws k = B4 at *
      clear hg hN
      go_region_dies
      all_goals
       go_at_call 147
       refine hT.mono ?_
       rintro e w4 ⟨rfl, k4⟩
       exact ⟨rfl, HI.out.only.trans (k4.mono (fun _ _ f => f.elim)) (fun _ _ e => e), .inl ⟨HG.out, rfl⟩⟩
     ·have hT := stake_any HI.out.rd (wb k) hN (wb_le k)
      generalize wrap64 ((valL (((unpackL bs).drop ((t' + 1))).take (wb k)) : Nat) : Int) = X at hT hg
      have HG : Hid (chgR ((unpackL bs).drop t) = some (wrap64 (X - ws k), (unpackL bs).drop ((t' + 1) + wb k))) := by show _ = _; unfold chgR; rw [HO.out]; simp [hg]
      have HT := hid hTb
      have H4 := hid (fun (W : World) (h : TabAt W T) => h.four k hk4)
      have H5 := hid (fun (W : World) (h : TabAt W T) => h.five k hk4)
      generalize wb k = B5 at *
      generalize ws k = B4 at *
      clear hg hN
      go_region_with (go_at_call 147; refine hT.mono ?_; rintro e w4 ⟨rfl, k4, r4⟩; have hI4 := HI.out.take HT.out k4 r4; have h4w := H4.out _ hI4.tab; have h5w := H5.out _ hI4.tab)
      all_goals
       go_wp2_with fail
       go_ret
       refine ⟨HI.out.only.trans k4 (fun _ _ e => e), .inr ⟨_, _, HG.out, ?_, r4⟩⟩
       simp [Act.put]
       exact wrap_is _
    ·have HO : Hid (onesR 4 ((unpackL bs).drop t) = (onesR (4 - (k + 1)) ((unpackL bs).drop (t' + 1))).map (fun x => (x.1 + (k + 1), x.2))) := by
      show _ = _
      rw [hO, show 4 - (k + 1) = f by omega]
      dsimp only
      cases onesR f ((unpackL bs).drop (t' + 1)) with
      | none => rfl
      | some x => simp; omega
     clear hO
     go_wp2_with fail
     refine hT.mono ?_
     rintro e w3 ⟨rfl, k3, r3⟩
     have HI3 := hid (HI.out.take hTb k3 r3)
     clear hT
     go_wp2_with fail
     go_roundw
     case rel => exact ⟨k + 1, t' + 1, by omega, by go_num, HI3.out, HO.out⟩
     case measure => simp [intOf]; omega
   ·have hnil : (unpackL bs).drop t' = [] := List.drop_eq_nil_of_le (by rw [unpackL_length]; omega)
    rw [hnil] at hO
    have HO : Hid (onesR 4 ((unpackL bs).drop t) = none) := by show _ = _; rw [hO]; rfl
    have hT := stake_no HI.out.rd 1 (by have := HI.out.rd.top; omega) (by omega)
    clear hO hnil
    go_wp2_with fail
    refine hT.mono ?_
    rintro e w3 ⟨rfl, k3⟩
    clear hT
    go_wp2_with fail
    exact ⟨rfl, HI.out.only.trans (k3.mono (fun _ _ f => f.elim)) (fun _ _ e => e), .inl ⟨by unfold chgR; rw [HO.out]; rfl, rfl⟩⟩
end Go.Proofs.YtllfanlhgnkcfaaGreatDoor.S
namespace Go.Proofs.YtllfanlhgnkcfaaGreatDoor.S
open Go.RowKit Go.Proofs.Lys
set_option linter.unusedVariables false
theorem infoI6 : (Tryz.prog.info? 3).map (fun i => (i.zero, i.size, i.bytes)) = some (some (.int .i64 0), 1, 8) := by kernel_rfl
theorem own_num {w : World} {base : Nat} {vr : Value} {lr : List Int} (hown : w.ownsRow base 3 1 vr lr.length (lr.map (Value.int .i64))) (hb : base ≤ w.heap.size) (hl : lr.length ≤ 1000000) (X : Int) :
  ∃ g cap w1, Hid ((Builtin.append_ #[64, 64] 0 #[vr, .slice (some ⟨w.heap.size, 0, none⟩) 1 1]).run Tryz.prog (w.alloc (.cells #[.int .i64 X] 3)) = .ok (.slice (some ⟨g, 0, none⟩) (lr.length + 1) cap) w1) ∧ w1.ownsRow base 3 1 (.slice (some ⟨g, 0, none⟩) (lr.length + 1) cap) (lr ++ [X]).length ((lr ++ [X]).map (Value.int .i64)) ∧ Only (fun k => vr.ownBlock = some k) w w1 := by
 obtain ⟨v', w1, hrun, hown1, hgrow, hat⟩ := append_src (P := Tryz.prog) (xv := .slice (some ⟨w.heap.size, 0, none⟩) 1 1) (ys := [.int .i64 X]) Tryz.underlying64 infoI6 rfl (by decide) (hown.alloc (.cells #[.int .i64 X] 3)) (own_src (World.ownsRow_lit w #[.int .i64 X] 1 (Nat.zero_le _) (by decide) rfl)) (by intro u hu; simp at hu; subst hu; rfl) (by simp; omega) (by simp; omega)
 obtain ⟨g, cap, rfl⟩ := own_some hown1 (by simp)
 refine ⟨g, cap, w1, hrun, ?_, ((Only.refl _ w).alloc _).grown hgrow (fun j hj _ => hj)⟩
 have e1 : (lr ++ [X]).length = lr.length + [Value.int .i64 X].length := by simp
 have e2 : (lr ++ [X]).map (Value.int .i64) = lr.map (Value.int .i64) ++ [Value.int .i64 X] := by rw [List.map_append]; rfl
 rw [e1, e2]
 exact hown1
theorem bytes_str {w : World} {v : Value} {bs : List UInt8} (h : SrcOf w v (bs.map bV)) : (convert 28 9 v).run Tryz.prog w = .ok (.string ⟨bs.toArray⟩) w := by
 rcases h with ⟨rfl, e⟩ | ⟨a, c, rfl, hc⟩
 ·have : bs = [] := List.map_eq_nil_iff.1 e
  subst this
  exact run_convert_bytes_nil (P := Tryz.prog) w 28 5 Tryz.underlying28 Tryz.underlying5 0 0 9 Tryz.underlying9
 ·rw [List.length_map]
  refine run_convert_bytes_back (P := Tryz.prog) w 28 9 5 a c bs Tryz.underlying28 Tryz.underlying5 Tryz.underlying9 (fun j hj => ?_)
  exact hc j _ (by rw [List.getElem?_map, List.getElem?_eq_getElem hj]; rfl)
theorem str_eq (a b : List UInt8) : ((⟨a.toArray⟩ : ByteArray).toList == (⟨b.toArray⟩ : ByteArray).toList) = decide (a = b) := by
 rw [ByteArray.toList_eq, ByteArray.toList_eq]
 by_cases h : a = b <;> simp [h]
theorem equal_any {w : World} {v u : Value} {a b : List UInt8} (h : SrcOf w v (a.map bV)) (h' : SrcOf w u (b.map bV)) :
  Calls Tryz.prog 64 #[v, u] w fun e w' => w' = w ∧ ((a = b ∧ e = .returned (.bool true)) ∨ (a ≠ b ∧ e = .returned (.bool false))) := by
 have c1 := bytes_str h
 have c2 := bytes_str h'
 have hs := str_eq a b
 generalize (⟨a.toArray⟩ : ByteArray) = sa at c1 hs
 generalize (⟨b.toArray⟩ : ByteArray) = sb at c2 hs
 clear h h'
 by_cases hab : a = b
 ·have hs' : (sa.toList == sb.toList) = true := by rw [hs]; simp [hab]
  have HS := hid hab
  clear hs hab
  go_enter Tryz.func64, Tryz.ntmps64
  go_wp2
  go_ret
  exact ⟨rfl, .inl ⟨HS.out, rfl⟩⟩
 ·have hs' : (sa.toList == sb.toList) = false := by rw [hs]; simp [hab]
  have HS := hid hab
  clear hs hab
  go_enter Tryz.func64, Tryz.ntmps64
  go_wp2
  go_ret
  exact ⟨rfl, .inr ⟨HS.out, rfl⟩⟩
structure RdIn (w : World) (B : Nat) (vb : Value) (bs : List UInt8) (wr : World) (t : Nat) (sv : Value) (acc : List Int) : Prop where
 rd : RdAt wr B vb bs t
 row : wr.ownsRow w.heap.size 3 1 sv acc.length (acc.map (Value.int .i64))
 kept : Kept w wr
 new : w.heap.size ≤ B
 vnew : ∀ j, vb.ownBlock = some j → w.heap.size ≤ j
theorem RdIn.read {w wr w' : World} {B t t' : Nat} {vb sv : Value} {bs : List UInt8} {acc : List Int} (h : RdIn w B vb bs wr t sv acc) (ho : Only (· = B) wr w') (hr : RdAt w' B vb bs t') : RdIn w B vb bs w' t' sv acc :=
 ⟨hr, own_only h.row ho (fun j hj e => (own_typed h.row hj).ne h.rd.blk.typed (by decide) e), h.kept.trans ho (fun j hj e => by have := h.new; omega), h.new, h.vnew⟩
theorem RdIn.add {w wr w' : World} {B t : Nat} {vb sv sv' : Value} {bs : List UInt8} {acc acc' : List Int} (h : RdIn w B vb bs wr t sv acc) (ho : Only (fun k => sv.ownBlock = some k) wr w') (hr : w'.ownsRow w.heap.size 3 1 sv' acc'.length (acc'.map (Value.int .i64))) : RdIn w B vb bs w' t sv' acc' :=
 ⟨h.rd.only ho (fun e => (own_typed h.row e).ne h.rd.blk.typed (by decide) rfl) (fun j hj e => (own_typed h.row e).ne (own_typed h.rd.own hj) (by decide) rfl), hr, h.kept.trans ho (fun j hj e => by have := (h.row.lt j e).1; omega), h.new, h.vnew⟩
theorem readT_first {n : Nat} {L : List Bool} {g p : Int} : readT (n + 1) L g p [] = (getR L 64).bind fun x => readT n x.2 g x.1 ([] ++ [x.1]) := by simp [readT]
theorem readT_next {n : Nat} {L : List Bool} {g p : Int} {acc : List Int} (h : acc ≠ []) : readT (n + 1) L g p acc = (chgR L).bind fun x => readT n x.2 (wrap64 (g + x.1)) (wrap64 (p + wrap64 (g + x.1))) (acc ++ [wrap64 (p + wrap64 (g + x.1))]) := by simp [readT, h]
def ReadPost (w : World) (bs : List UInt8) (n : Nat) (e : Ending) (w' : World) : Prop :=
 Kept w w' ∧ ((∃ m u, readT n (unpackL bs) 0 0 [] = some m ∧ Packs m bs 0 ∧ e = .returned u ∧ w'.ownsRow w.heap.size 3 1 u m.length (m.map (Value.int .i64))) ∨
  (e = tooFew ∧ (readT n (unpackL bs) 0 0 [] = none ∨ ∃ m, readT n (unpackL bs) 0 0 [] = some m ∧ ¬ Packs m bs 0)))
set_option maxRecDepth 100000 in
set_option maxHeartbeats 3200000 in
theorem read_any (w : World) (v : Value) (bs : List UInt8) (n : Nat) (hs : SrcOf w v (bs.map bV)) (hl : bs.length ≤ 10000000) (hn : n ≤ 120) :
  Calls Tryz.prog 137 #[v, .int .i64 (n : Int)] w (ReadPost w bs n) := by
 have hnot : ∀ (x : Bool) (w : World), (Op.unary .not (.bool x)).run Tryz.prog w = .ok (.bool (!x)) w := fun _ _ => rfl
 obtain ⟨i0, hi0, hz0, hz1, hz2⟩ := info_parts infoI6
 have hmk : ∀ w, (Instr.makeSlice 64 (.int .i64 0) (.int .i64 (n : Int))).run Tryz.prog w = .ok (.slice (some ⟨w.heap.size, 0, none⟩) 0 n) (w.alloc (.cells (madeCells #[Value.int .i64 0] n) 3)) := fun w => by
  have := run_make (P := Tryz.prog) w 64 3 i0 (.int .i64 0) Tryz.underlying64 hi0 hz0 .i64 .i64 0 (n : Int) (by omega) (by omega) (by rw [hz2]; omega) (by omega)
  rw [hz1] at this
  simp only [Int.toNat_natCast, Nat.mul_one, Int.toNat_zero] at this
  exact this
 have hrow : Hid ((w.alloc (.cells (madeCells #[Value.int .i64 0] n) 3)).ownsRow w.heap.size 3 1 (.slice (some ⟨w.heap.size, 0, none⟩) 0 n) 0 []) := World.ownsRow_made w _ n (Nat.le_refl _) (by unfold maxLen; omega) (by rw [size_madeCells]; omega)
 obtain ⟨a0, c0, e0⟩ := hs.len
 rw [List.length_map] at e0
 obtain ⟨L, hL⟩ : ∃ L, bs.length = L := ⟨_, rfl⟩
 have HS := hid hs
 rw [hL] at e0 hl
 subst e0
 have HL := hid hL
 clear hL hs hi0 hz0 hz1 hz2
 go_enter Tryz.func137, Tryz.ntmps137
 go_wp2_with fail
 have k1 : Kept w (w.alloc (.cells (madeCells #[Value.int .i64 0] n) 3)) := (Only.refl _ w).alloc _
 refine (newReader_any _ _ bs (HS.out.stay k1) (by have := HL.out; omega)).mono ?_
 rintro e w2 ⟨B, vb, rfl, hB, hblk, hown, k2⟩
 have hI : RdIn w B vb bs w2 0 (.slice (some ⟨w.heap.size, 0, none⟩) 0 n) [] := ⟨⟨hblk, own_base hown (Nat.zero_le _), by have := HL.out; omega, by omega⟩, own_only hrow.out k2 (fun _ _ f => f), k1.trans k2 (fun _ _ f => f), by simp at hB; omega, fun j hj => by have := (hown.lt j hj).1; simp at this; omega⟩
 have HI := hid hI
 clear k1 k2 hB hblk hown hI hrow hmk
 go_wp2_with fail
 go_loopw [5, 7, 8, 17] (fun sv g p i wr => ∃ (k t' : Nat) (acc : List Int) (G P : Int), k ≤ n ∧ acc.length = k ∧ g = .int .i64 G ∧ p = .int .i64 P ∧ i = .int .i64 (k : Int) ∧ RdIn w B vb bs wr t' sv acc ∧ readT n (unpackL bs) 0 0 [] = readT (n - k) ((unpackL bs).drop t') G P acc) (fun _ _ _ i _ => n - (intOf i).toNat)
 case atStart => exact ⟨0, 0, [], 0, 0, by omega, rfl, rfl, rfl, rfl, HI.out, by simp⟩
 case round =>
  obtain ⟨k, t', acc, G, P, hk, hacc, rfl, rfl, rfl, hR, hT⟩ := hrel
  have HR := hid hR
  clear hR HI
  by_cases hlt : k < n
  ·obtain ⟨f, hf⟩ : ∃ f, n - k = f + 1 := ⟨n - k - 1, by omega⟩
   rw [hf] at hT
   by_cases hk0 : k = 0
   ·subst hk0
    have ea : acc = [] := List.length_eq_zero_iff.1 hacc
    subst ea
    rw [readT_first] at hT
    rcases getR_drop bs t' 64 HR.out.rd.top with ⟨hN, hg⟩ | ⟨hN, hg⟩
    ·have HT : Hid (readT n (unpackL bs) 0 0 [] = none) := by show _ = _; rw [hT, hg]; rfl
     have hc := stake_no HR.out.rd 64 hN (by omega)
     clear hT hg hN
     go_wp2_with fail
     refine hc.mono ?_
     rintro e w3 ⟨rfl, k3⟩
     clear hc
     go_wp2_with fail
     exact ⟨rfl, HR.out.kept.trans k3 (fun _ _ f => f), .inr ⟨rfl, .inl HT.out⟩⟩
    ·have hc := stake_any HR.out.rd 64 hN (by omega)
     generalize wrap64 ((valL (((unpackL bs).drop t').take 64) : Nat) : Int) = X at hc hg
     have HT : Hid (readT n (unpackL bs) 0 0 [] = readT f ((unpackL bs).drop (t' + 64)) G X ([] ++ [X])) := by show _ = _; rw [hT, hg]; rfl
     clear hT hg hN
     go_wp2_with fail
     refine hc.mono ?_
     rintro e w3 ⟨rfl, k3, r3⟩
     clear hc
     have HR3 := hid (HR.out.read k3 r3)
     obtain ⟨g, cap, w4, Hr, hown4, hon4⟩ := own_num HR3.out.row HR3.out.kept.size (by simp) X
     have HR4 := hid (HR3.out.add hon4 hown4)
     clear hown4 hon4
     go_wp2_with (at_builtin; refine wpList_append_run rfl _ _ _ rfl rfl rfl Hr ?_)
     go_roundw
     case rel => exact ⟨1, t' + 64, [] ++ [X], G, X, by omega, rfl, rfl, rfl, rfl, HR4.out, by rw [HT.out, show n - 1 = f by omega]⟩
     case measure => simp [intOf]; omega
   ·have ha : acc ≠ [] := fun e => by rw [e] at hacc; simp at hacc; omega
    have hk0' : ((k : Int) == 0) = false := by simp; omega
    rw [readT_next ha] at hT
    have hc := change_any HR.out.rd
    rcases hg : chgR ((unpackL bs).drop t') with _ | ⟨X, R⟩
    ·have HT : Hid (readT n (unpackL bs) 0 0 [] = none) := by show _ = _; rw [hT, hg]; rfl
     have hc' := hc.mono (fun e w' (h : _ ∧ _) => show Only (· = B) wr w' ∧ e = tooFew from ⟨h.1, by
      rcases h.2 with ⟨_, h⟩ | ⟨X, t2, h, _⟩
      ·exact h
      ·rw [hg] at h; cases h⟩)
     clear hT hg hc
     go_wp2_with fail
     refine hc'.mono ?_
     rintro e w3 ⟨k3, rfl⟩
     clear hc'
     go_wp2_with fail
     exact ⟨rfl, HR.out.kept.trans k3 (fun j hj e => by have := HR.out.new; omega), .inr ⟨rfl, .inl HT.out⟩⟩
    ·have hc' := hc.mono (fun e w' (h : _ ∧ _) => show Only (· = B) wr w' ∧ ∃ t2, R = (unpackL bs).drop t2 ∧ e = .returned (.int .i64 X) ∧ RdAt w' B vb bs t2 from ⟨h.1, by
      rcases h.2 with ⟨h, _⟩ | ⟨X', t2, h, h1, h2⟩
      ·rw [hg] at h; cases h
      ·rw [hg] at h
       injection h with h
       injection h with ha hb
       subst ha
       exact ⟨t2, hb, h1, h2⟩⟩)
     rw [hg] at hT
     have HT := hid hT
     clear hT hg hc
     go_wp2_with fail
     refine hc'.mono ?_
     rintro e w3 ⟨k3, t2, hR2, rfl, r3⟩
     clear hc'
     have HR3 := hid (HR.out.read k3 r3)
     have hal : acc.length ≤ 1000000 := by omega
     obtain ⟨g, cap, w4, Hr, hown4, hon4⟩ := own_num HR3.out.row HR3.out.kept.size hal (wrap64 (P + wrap64 (G + X)))
     have HR4 := hid (HR3.out.add hon4 hown4)
     have HR2 := hid hR2
     have HA := hid hacc
     clear hown4 hon4 hR2 hal
     rw [hacc] at Hr HR4
     clear hacc
     go_wp2_with (at_builtin; refine wpList_append_run rfl _ _ _ rfl rfl rfl Hr ?_)
     go_roundw
     case rel => exact ⟨k + 1, t2, acc ++ [wrap64 (P + wrap64 (G + X))], wrap64 (G + X), wrap64 (P + wrap64 (G + X)), by omega, by simp [HA.out], rfl, rfl, by go_num, HR4.out, by rw [HT.out, show n - (k + 1) = f by omega, ← HR2.out]; rfl⟩
     case measure => simp [intOf]; omega
  ·have ek : n - k = 0 := by omega
   rw [ek] at hT
   have HT : Hid (readT n (unpackL bs) 0 0 [] = some acc) := by show _ = _; rw [hT]; rfl
   have hp := pack_any wr _ acc (own_src HR.out.row) (by omega)
   obtain ⟨sa, sc, hsv⟩ := own_slice HR.out.row
   subst hsv
   clear hT ek hacc
   go_wp2_with fail
   refine hp.mono ?_
   rintro e w3 ⟨k3, u, cs, x, rfl, hP, ho3⟩
   clear hp
   have hk3 : Kept w w3 := HR.out.kept.trans k3 (fun _ _ f => f)
   have hsrc := HS.out.stay hk3
   have HP := hid hP
   have HK3 := hid hk3
   have HO3 := hid (own_only HR.out.row k3 (fun _ _ f => f))
   by_cases hx : x = 0
   ·subst hx
    have he := equal_any (own_src ho3) hsrc
    obtain ⟨ua, uc, hu⟩ := own_slice ho3
    subst hu
    by_cases heq : cs = bs
    ·have he' := he.mono (fun e w' (h : _ ∧ _) => show w' = w3 ∧ e = .returned (.bool true) from ⟨h.1, by
      rcases h.2 with ⟨_, h⟩ | ⟨h, _⟩
      ·exact h
      ·exact absurd heq h⟩)
     have HE := hid heq
     clear he heq hP ho3 hsrc hk3
     go_wp2_with fail
     refine he'.mono ?_
     rintro e w4 ⟨hw, rfl⟩
     replace hw := hw.symm
     subst hw
     clear he'
     go_wp2_with fail
     go_ret
     exact ⟨HK3.out, .inl ⟨acc, _, HT.out, by rw [← HE.out]; exact HP.out, rfl, HO3.out⟩⟩
    ·have he' := he.mono (fun e w' (h : _ ∧ _) => show w' = w3 ∧ e = .returned (.bool false) from ⟨h.1, by
      rcases h.2 with ⟨h, _⟩ | ⟨_, h⟩
      ·exact absurd h heq
      ·exact h⟩)
     have HE := hid heq
     clear he heq hP ho3 hsrc hk3
     go_wp2_with fail
     refine he'.mono ?_
     rintro e w4 ⟨hw, rfl⟩
     replace hw := hw.symm
     subst hw
     clear he'
     go_wp2_with fail
     exact ⟨rfl, HK3.out, .inr ⟨rfl, .inr ⟨acc, HT.out, fun h => HE.out (HP.out.inj h).1⟩⟩⟩
   ·have hx' : (x == 0) = false := by simp [hx]
    clear hP ho3 hsrc hk3
    go_wp2_with fail
    exact ⟨rfl, HK3.out, .inr ⟨rfl, .inr ⟨acc, HT.out, fun h => hx (HP.out.inj h).2⟩⟩⟩
end Go.Proofs.YtllfanlhgnkcfaaGreatDoor.S
namespace Go.Proofs.YtllfanlhgnkcfaaGreatDoor.S
open Go.RowKit Go.Proofs.Lys
set_option linter.unusedVariables false
theorem unpNo (p q : Addr) (w : World) :
  CallsD Tryz.prog 136 #[.pointer (some p), .pointer (some q)] .returning w fun e u' w' => e = .returned (.tuple #[]) ∧ u' = .returning ∧ w' = w := by
 refine callsD_of_wpS Tryz.func136 rfl fun c₀ cs hu => ?_
 apply wpS_seq
 apply wpS_region
 simp [wpOpsS, go_sem, recoverD, hu, Tryz.ntmps136, Exit.thenS]
 apply wpS_seq
 apply wpS_region
 simp [wpOpsS, go_sem, Exit.thenS]
 refine wpS_cond (t := false) (by simp [Act.eval, Array.replicate]) ?_
 simp only [Bool.false_eq_true, if_false]
 refine wpS_of_wp (wp_skip ?_)
 cases c₀
 simp_all [bodyPostS, results, Tryz.results136]
theorem unpUp (p q : Nat) (x : Value) (y n : Int) (w : World) (hp : Blk w p [x] 64) (hq : Blk w q [.int .i64 y] 26) :
  CallsD Tryz.prog 136 #[.pointer (some ⟨p, 0, none⟩), .pointer (some ⟨q, 0, none⟩)] (.panicking [{ v := .iface 26 (.int .i64 n), recovered := false }]) w fun e u' w' =>
   e = .returned (.tuple #[]) ∧ u' = .panicking [{ v := .iface 26 (.int .i64 n), recovered := true }] ∧ Only (fun k => k = p ∨ k = q) w w' ∧ Blk w' p [.slice none 0 0] 64 ∧ Blk w' q [.int .i64 n] 26 := by
 have hpq : p ≠ q := hp.ne hq (by decide)
 have c0 := hp.cell 0 rfl
 have c1 := hq.cell 0 rfl
 have f0 := hp.frozen 0
 have f1 := hq.frozen 0
 have hta : ∀ w, (Instr.typeAssert (.iface 26 (.int .i64 n)) 20 26 false).run Tryz.prog w = .ok (.int .i64 n) w := by
  intro w
  simp [Instr.typeAssert, run_underlying Tryz.underlying26, Result.andThen]
 refine callsD_of_wpS Tryz.func136 rfl fun c₀ cs hu => ?_
 apply wpS_seq
 apply wpS_region
 simp [wpOpsS, go_sem, recoverD, hu, Tryz.ntmps136, Exit.thenS]
 apply wpS_seq
 apply wpS_region
 simp [wpOpsS, go_sem, Exit.thenS]
 refine wpS_cond (t := true) (by simp [Act.eval, Array.replicate]) ?_
 simp only [if_true]
 refine wpS_of_wp ?_
 go_region
 all_goals
  refine ⟨rfl, _, rfl, .tuple #[], by simp [results, Tryz.results136], rfl, rfl, (((Only.refl _ w).setCell (fun _ => by simp) _).setCell (fun _ => by simp) _).drew, ?_, ?_⟩
  ·exact ((hp.set 0 _).other hpq _).drew
  ·exact ((hq.other (Ne.symm hpq) _).set 0 _).drew
def UnpackPost (w : World) (bs : List UInt8) (n : Int) (e : Ending) (w' : World) : Prop :=
 Kept w w' ∧ ∃ l u x, e = .returned (.tuple #[u, .int .i64 x]) ∧ Reads bs n l x ∧ w'.ownsRow w.heap.size 3 1 u l.length (l.map (Value.int .i64))
abbrev unpW (w : World) : World := (w.alloc (.cells #[.slice none 0 0] 64)).alloc (.cells #[.int .i64 0] 26)
theorem unpP (w : World) : Blk (unpW w) w.heap.size [.slice none 0 0] 64 := (Blk.new w [.slice none 0 0] 64).alloc _
theorem unpQ (w : World) : Blk (unpW w) (w.heap.size + 1) [.int .i64 0] 26 := by
 have := Blk.new (w.alloc (.cells #[.slice none 0 0] 64)) [.int .i64 0] 26
 simpa using this
theorem unpK (w : World) : Kept w (unpW w) := ((Only.refl _ w).alloc _).alloc _
set_option maxHeartbeats 1600000 in
theorem unpack_arg (w : World) (v : Value) (bs : List UInt8) (n : Int) (hn : n < 0 ∨ 120 < n) : Calls Tryz.prog 123 #[v, .int .i64 n] w (UnpackPost w bs n) := by
 have hmf : ∀ (fn : Fn) (first cap : Array Value) (w : World), (Instr.makeFunc fn first cap).run Tryz.prog w = .ok (.func fn first cap) w := fun _ _ _ _ => rfl
 have hp := unpP w
 have hq := unpQ w
 have c0 := hp.cell 0 rfl
 have c1 := hq.cell 0 rfl
 have f0 := hp.frozen 0
 have f1 := hq.frozen 0
 rcases hn with hn | hn
 ·have hn' : ¬ 120 < n := by omega
  go_enter_defers Tryz.func123, Tryz.ntmps123
  go_wp2
  simp [bodyPostD, Leaves, results, Tryz.results123, go_sem]
  exact ⟨((Only.refl _ w).alloc _).alloc _, [], _, 1, rfl, .inr (.inl ⟨hn, rfl, rfl⟩), World.ownsRow_nil _ _ _ _⟩
 ·go_enter_defers Tryz.func123, Tryz.ntmps123
  go_wp2
  simp [bodyPostD, Leaves, results, Tryz.results123, go_sem]
  exact ⟨((Only.refl _ w).alloc _).alloc _, [], _, 2, rfl, .inl ⟨hn, rfl, rfl⟩, World.ownsRow_nil _ _ _ _⟩
set_option maxHeartbeats 1600000 in
theorem unpack_any (w : World) (v : Value) (bs : List UInt8) (n : Int) (hs : SrcOf w v (bs.map bV)) (hl : bs.length ≤ 10000000) : Calls Tryz.prog 123 #[v, .int .i64 n] w (UnpackPost w bs n) := by
 by_cases hn : n < 0 ∨ 120 < n
 ·exact unpack_arg w v bs n hn
 ·have hmf : ∀ (fn : Fn) (first cap : Array Value) (w : World), (Instr.makeFunc fn first cap).run Tryz.prog w = .ok (.func fn first cap) w := fun _ _ _ _ => rfl
  obtain ⟨N, rfl⟩ : ∃ N : Nat, n = (N : Int) := ⟨n.toNat, by omega⟩
  have hN : N ≤ 120 := by omega
  have hrd := read_any (unpW w) v bs N (hs.stay (unpK w)) hl hN
  have hp := unpP w
  have hq := unpQ w
  have hk0 := unpK w
  have hn' : ¬ (120 : Int) < (N : Int) := by omega
  obtain ⟨a0, c0, e0⟩ := hs.len
  rw [List.length_map] at e0
  subst e0
  clear hs hn
  go_enter_defers Tryz.func123, Tryz.ntmps123
  go_wp2_with fail
  refine hrd.mono ?_
  rintro e w1 ⟨hk, ⟨m, u, hT, hP, rfl, hrow⟩ | ⟨rfl, hno⟩⟩
  ·clear hrd
   have hp1 := hk.blk hp (fun f => f)
   have hq1 := hk.blk hq (fun f => f)
   have c0 := hp1.cell 0 rfl
   have c1 := hq1.cell 0 rfl
   have f0 := hp1.frozen 0
   have f1 := hq1.frozen 0
   obtain ⟨ua, uc, hu⟩ := own_slice hrow
   subst hu
   have HT := hid hT
   have HP := hid hP
   have HR := hid hrow
   clear hT hP hrow
   go_wp2_with fail
   refine leaves_cons (f := 136) (args := #[.pointer (some ⟨w.heap.size, 0, none⟩), .pointer (some ⟨w.heap.size + 1, 0, none⟩)]) (by simp) (by simp [go_sem]) ?_
   refine (unpNo _ _ _).mono ?_
   rintro e u' w'' ⟨rfl, rfl, rfl⟩
   have hs1 := hk.size
   simp at hs1
   have hk2 : Kept w ((w1.setCell ⟨w.heap.size, 0, none⟩ (.slice ua m.length uc)).setCell ⟨w.heap.size + 1, 0, none⟩ (.int .i64 0)) := ((hk0.trans hk (fun _ _ f => f)).setCell (fun hlt => absurd hlt (by simp)) _).setCell (fun hlt => absurd hlt (by simp)) _
   have hp3 := ((hp1.set 0 (.slice ua m.length uc)).other (a := ⟨w.heap.size + 1, 0, none⟩) (by simp) (.int .i64 0)).cell 0 rfl
   have hq3 := ((hq1.other (a := ⟨w.heap.size, 0, none⟩) (by simp) (.slice ua m.length uc)).set 0 (.int .i64 0)).cell 0 rfl
   have hO : Only (fun k => k = w.heap.size ∨ k = w.heap.size + 1) w1 ((w1.setCell ⟨w.heap.size, 0, none⟩ (.slice ua m.length uc)).setCell ⟨w.heap.size + 1, 0, none⟩ (.int .i64 0)) := ((Only.refl _ w1).setCell (fun _ => .inl rfl) _).setCell (fun _ => .inr rfl) _
   have hR3 := own_only HR.out hO (fun j hj e => by have := (HR.out.lt j hj).1; simp at this; omega)
   simp [Leaves, settle, results, Tryz.results123, go_sem, hp3, hq3]
   exact ⟨hk2, m, _, 0, rfl, .inr (.inr ⟨by omega, by omega, .inr ⟨m, by rw [Int.toNat_natCast]; exact HT.out, .inr ⟨HP.out, rfl, rfl⟩⟩⟩), own_base hR3 (unpK w).size⟩
  ·clear hrd
   have hp1 := hk.blk hp (fun f => f)
   have hq1 := hk.blk hq (fun f => f)
   refine leaves_cons (f := 136) (args := #[.pointer (some ⟨w.heap.size, 0, none⟩), .pointer (some ⟨w.heap.size + 1, 0, none⟩)]) (by simp) (by simp [go_sem]) ?_
   refine (unpUp _ _ _ 0 5 _ hp1 hq1).mono ?_
   rintro e u' w'' ⟨rfl, rfl, hk2, hp2, hq2⟩
   have hp3 := hp2.cell 0 rfl
   have hq3 := hq2.cell 0 rfl
   simp [Leaves, settle, results, Tryz.results123, go_sem, hp3, hq3]
   refine ⟨(hk0.trans hk (fun _ _ f => f)).trans hk2 (fun j hj e => by rcases e with e | e <;> omega), [], _, 5, rfl, .inr (.inr ⟨by omega, by omega, ?_⟩), World.ownsRow_nil _ _ _ _⟩
   rw [Int.toNat_natCast]
   rcases hno with h | ⟨m, h1, h2⟩
   ·exact .inl ⟨h, rfl, rfl⟩
   ·exact .inr ⟨m, h1, .inl ⟨h2, rfl, rfl⟩⟩
end Go.Proofs.YtllfanlhgnkcfaaGreatDoor.S
