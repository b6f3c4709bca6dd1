/-
  Kbig, Kal, Kturn, Kbnd, Lreads16, Kback, Kback2, Krbp, Krl.
-/
import Derived.Test.YthpkkhmplkmdnaaGreatDoorQ45
import Derived.Test.YthpkkhmplkmdnaaGreatDoorQ42
import Derived.Test.YthpkkhmplkmdnaaGreatDoorQ29
import Derived.Test.YthpkkhmplkmdnaaGreatDoorQ47
import Derived.Test.YthpkkhmplkmdnaaGreatDoorQ44
import Derived.Test.YthpkkhmplkmdnaaGreatDoorQ31
import Derived.Test.YthpkkhmplkmdnaaGreatDoorQ48
namespace Go.Proofs.YthpkkhmplkmdnaaGreatDoor.K
open Go.RowKit Go.Proofs.Lys Go.Maps Go.Shelf
set_option linter.unusedVariables false
set_option linter.unusedSimpArgs false
end Go.Proofs.YthpkkhmplkmdnaaGreatDoor.K
namespace Go.Proofs.YthpkkhmplkmdnaaGreatDoor.K
open Go.RowKit Go.Proofs.Lys Go.Maps Go.Shelf
open Go.Proofs.YthpkkhmplkmdnaaGreatDoor.N (ownN_slice ownN_lt ownN_only ownN_stay ownN_base ownN_typed ownN_some)
open Go.Proofs.YthpkkhmplkmdnaaGreatDoor.C (oper_append_run)
set_option linter.unusedVariables false
set_option linter.unusedSimpArgs false
attribute [local go_sem] Oper.semAt_some
theorem num16_any (n : Int) (w : World) : Calls Tryz.prog 13 #[.int .i64 n] w fun e w' => e = .returned (.int .i64 n) ∧ w' = w := by
 go_enter Tryz.func13, Tryz.ntmps13
 go_wp2
 go_ret
 exact ⟨rfl, rfl⟩
def headN : List UInt8 := [76, 89, 83, 49, 0, 0, 0]
theorem body_nil : bodyB [] = headN := by decide +kernel
theorem reach_nil : Reach [] := ⟨fun s h => (by cases h), by simp, fun _ => by rw [body_nil]; decide⟩
set_option maxRecDepth 100000 in
set_option maxHeartbeats 1600000 in
theorem alive16_any (w : World) (hT : G.Tab w) (hG : ErrT w) : Calls Tryz.prog 5 #[] w fun e w' => e = .returned (.bool true) ∧ Kept w w' := by
 have HPK := hid (pack_any w (.slice none 0 0) [] (.inl ⟨_, _, rfl, rfl⟩) reach_nil hT hG)
 have HNU := hid (fun W => num16_any 0 W)
 obtain ⟨R, hR⟩ : ∃ R, (fun (e : Ending) (w' : World) => e = .returned (.bool true) ∧ Kept w w') = R := ⟨_, rfl⟩
 rw [hR]
 have HF : Hid (∀ w', Kept w w' → R (.returned (.bool true)) w') := fun w' k => by rw [← hR]; exact ⟨rfl, k⟩
 clear hR hT hG
 go_enter Tryz.func5, Tryz.ntmps5
 go_wp2_with fail
 refine HPK.out.mono ?_
 rintro e w1 ⟨k1, ⟨_, u, rfl, hu⟩ | ⟨h, _⟩⟩
 ·obtain ⟨ua, uc, hue⟩ := ownN_slice hu
  generalize hUN : (blockB []).length = UN at hue
  subst hue
  have HU := hid hu
  have K1 := hid k1
  clear hu k1 hUN HPK
  go_wp2_with fail
  obtain ⟨W2, hW2⟩ : ∃ W2, (w1.alloc (.cells #[.int .u8 76, .int .u8 89, .int .u8 83, .int .u8 49, .int .u8 0, .int .u8 0, .int .u8 0] 5)).drew = W2 := ⟨_, rfl⟩
  have k2 : Kept w1 W2 := by rw [← hW2]; exact ((Only.refl _ w1).alloc _).drew
  have HS2 : Hid (SrcOf W2 (.slice ua UN uc) ((blockB []).map bV)) := own_src (ownN_stay HU.out k2)
  have HH2 : Hid (BytAt W2 w1.heap.size (.slice (some ⟨w1.heap.size, 0, none⟩) 7 7) headN) := by
   show BytAt _ _ _ _
   rw [← hW2]
   exact ownN_stay (World.ownsRow_lit w1 #[.int .u8 76, .int .u8 89, .int .u8 83, .int .u8 49, .int .u8 0, .int .u8 0, .int .u8 0] 7 (Nat.le_refl _) (by decide) rfl) (Only.refl _ _).drew
  have K2 := hid (show Kept w W2 from K1.out.trans k2 (fun _ _ f => f))
  have HSUM := hid (G.rsum_any W2 _ headN (own_src HH2.out) (by decide))
  have hlt := G.sumL_lt headN
  have HFO := hid (G.rfour_any W2 (G.sumL headN) hlt)
  have hsz : w1.heap.size < W2.heap.size := by rw [← hW2]; simp
  have HBB : Hid (blockB [] = headN ++ G.four (G.sumL headN)) := by
   show _ = _
   unfold blockB
   rw [body_nil]
  have hf4 : (G.four (G.sumL headN)).length = 4 := rfl
  generalize G.sumL headN = SM at HSUM HFO HBB hf4 hlt
  have HWS : Hid (w.heap.size ≤ w1.heap.size) := K1.out.size
  have HX : Hid (∀ (B D : World), Kept w1 B → Only (fun j => (Value.slice (some ⟨w1.heap.size, 0, none⟩) 7 7).ownBlock = some j) B D → SrcOf D (.slice ua UN uc) ((blockB []).map bV)) := fun B D kab hO =>
   own_src (ownN_only (ownN_stay HU.out kab) hO (fun j hj e1 => by
    have h5 : w1.heap.size = j := by simpa [Value.ownBlock] using e1
    have h6 := (ownN_lt HU.out hj).2
    omega))
  have K12 := hid k2
  have HW2 := hid hW2
  clear hW2 HU K1 k2
  refine wp_region_noPanic ?_
  refine wp_region_last (L := 1000) (S := fun w' => SrcOf w' (.slice ua UN uc) ((blockB []).map bV)) (by kernel_rfl) ?_
  rw [HW2.out]
  refine wpAnyN_take (i := 0) (v := .int .i64 0) rfl (by kernel_rfl) (by kernel_rfl) (by kernel_rfl) (by decide) (by kernel_rfl) (fun _ _ _ h => h) (Or.inl ⟨by kernel_rfl, ?_⟩) HS2.out ?_
  ·(intro w' hSw; go_simp)
  (try simp only [List.getElem_toArray, List.getElem_cons_succ, List.getElem_cons_zero])
  go_frame
  refine wpAnyL_one (i := 1) (by kernel_rfl) rfl (by kernel_rfl) ?_
  go_simp
  refine (HNU.out _).mono ?_
  rintro e w' ⟨rfl, hw⟩
  replace hw := hw.symm
  subst hw
  refine ⟨HS2.out, ?_⟩
  (try go_frame)
  refine wpAnyN_take (i := 2) (v := .bool true) rfl (by kernel_rfl) (by kernel_rfl) (by kernel_rfl) (by decide) (by kernel_rfl) (fun _ _ _ h => h) (Or.inl ⟨by kernel_rfl, ?_⟩) HS2.out ?_
  ·(intro w' hSw; go_simp)
  (try simp only [List.getElem_toArray, List.getElem_cons_succ, List.getElem_cons_zero])
  go_frame
  refine wpAnyN_take (i := 3) (v := .bool true) rfl (by kernel_rfl) (by kernel_rfl) (by kernel_rfl) (by decide) (by kernel_rfl) (fun _ _ _ h => h) (Or.inl ⟨by kernel_rfl, ?_⟩) HS2.out ?_
  ·(intro w' hSw; go_simp)
  (try simp only [List.getElem_toArray, List.getElem_cons_succ, List.getElem_cons_zero])
  go_frame
  refine wpAnyN_take (i := 4) (v := .slice ua UN uc) rfl (by kernel_rfl) (by kernel_rfl) (by kernel_rfl) (by decide) (by kernel_rfl) (fun _ _ _ h => h) (Or.inl ⟨by kernel_rfl, ?_⟩) HS2.out ?_
  ·(intro w' hSw; go_simp)
  (try simp only [List.getElem_toArray, List.getElem_cons_succ, List.getElem_cons_zero])
  go_frame
  refine wpAnyN_take (i := 5) (v := .string (⟨(blockB []).toArray⟩ : ByteArray)) rfl (by kernel_rfl) (by kernel_rfl) (by kernel_rfl) (by decide) (by kernel_rfl) (fun _ _ _ h => h) (Or.inl ⟨by kernel_rfl, ?_⟩) HS2.out ?_
  ·(intro w' hSw; have s0 := G.bytes_str hSw; clear hSw; go_simp)
  (try simp only [List.getElem_toArray, List.getElem_cons_succ, List.getElem_cons_zero])
  go_frame
  refine wpAnyN_take (i := 6) (v := .slice (some ⟨w1.heap.size, 0, none⟩) 7 7) rfl (by kernel_rfl) (by kernel_rfl) (by kernel_rfl) (by decide) (by kernel_rfl) (fun _ _ _ h => h) (Or.inl ⟨by kernel_rfl, ?_⟩) HS2.out ?_
  ·(intro w' hSw; go_simp)
  (try simp only [List.getElem_toArray, List.getElem_cons_succ, List.getElem_cons_zero])
  go_frame
  refine wpAnyN_take (i := 7) (v := .slice (some ⟨w1.heap.size, 0, none⟩) 7 7) rfl (by kernel_rfl) (by kernel_rfl) (by kernel_rfl) (by decide) (by kernel_rfl) (fun _ _ _ h => h) (Or.inl ⟨by kernel_rfl, ?_⟩) HS2.out ?_
  ·(intro w' hSw; go_simp)
  (try simp only [List.getElem_toArray, List.getElem_cons_succ, List.getElem_cons_zero])
  go_frame
  refine wpAnyL_one (i := 8) (by kernel_rfl) rfl (by kernel_rfl) ?_
  go_simp
  refine HSUM.out.mono ?_
  rintro e w' ⟨rfl, hw⟩
  replace hw := hw.symm
  subst hw
  refine ⟨HS2.out, ?_⟩
  (try go_frame)
  refine wpAnyL_one (i := 9) (by kernel_rfl) rfl (by kernel_rfl) ?_
  go_simp
  refine HFO.out.mono ?_
  rintro e w3 ⟨rfl, ho3, k3⟩
  obtain ⟨a9, n9, c9, w9, r9, hn9, hB9, ho9⟩ := byt_app (ownN_stay HH2.out k3) (own_src ho3) (by rw [hf4]; decide) (by have := k3.size; omega)
  have HS3 := hid (SrcOf.stay HS2.out k3)
  have HB9 : Hid (SrcOf w9 (.slice a9 n9 c9) ((blockB []).map bV)) := by
   show SrcOf _ _ _
   rw [HBB.out]
   exact own_src hB9.out
  have HS9 : Hid (SrcOf w9 (.slice ua UN uc) ((blockB []).map bV)) := HX.out w3 w9 (K12.out.trans k3 (fun _ _ f => f)) ho9.out
  have K9 := hid (show Kept w w9 from (K2.out.trans k3 (fun _ _ f => f)).trans ho9.out (fun j hj e => by
   have : w1.heap.size = j := by simpa [Value.ownBlock] using e
   have := HWS.out
   omega))
  clear hn9 hB9 ho9 ho3 k3
  refine ⟨HS3.out, ?_⟩
  (try go_frame)
  refine wpAnyL_one (i := 10) (by kernel_rfl) rfl (by kernel_rfl) (oper_append_run _ _ _ rfl rfl rfl r9 ?_)
  refine ⟨HS9.out, ?_⟩
  (try go_frame)
  have c9 := G.bytes_str HB9.out
  refine wpAnyL_one (i := 11) (by kernel_rfl) rfl (by kernel_rfl) ?_
  go_simp
  refine ⟨HS9.out, ?_⟩
  (try go_frame)
  refine wpAnyN_take (i := 12) (v := .bool true) rfl (by kernel_rfl) (by kernel_rfl) (by kernel_rfl) (by decide) (by kernel_rfl) (fun _ _ _ h => h) (Or.inl ⟨by kernel_rfl, ?_⟩) HS9.out ?_
  ·(intro w' hSw; go_simp)
  (try simp only [List.getElem_toArray, List.getElem_cons_succ, List.getElem_cons_zero])
  go_frame
  refine wpAnyN_take (i := 13) (v := .bool true) rfl (by kernel_rfl) (by kernel_rfl) (by kernel_rfl) (by decide) (by kernel_rfl) (fun _ _ _ h => h) (Or.inl ⟨by kernel_rfl, ?_⟩) HS9.out ?_
  ·(intro w' hSw; go_simp)
  (try simp only [List.getElem_toArray, List.getElem_cons_succ, List.getElem_cons_zero])
  go_frame
  refine wpAnyN_take (i := 14) (v := .bool true) rfl (by kernel_rfl) (by kernel_rfl) (by kernel_rfl) (by decide) (by kernel_rfl) (fun _ _ _ h => h) (Or.inl ⟨by kernel_rfl, ?_⟩) HS9.out ?_
  ·(intro w' hSw; go_simp)
  (try simp only [List.getElem_toArray, List.getElem_cons_succ, List.getElem_cons_zero])
  go_frame
  refine wpAnyN_done (by kernel_rfl) ?_
  refine NoPanic.normal ?_
  go_wp2_with fail
  exact HF.out _ K9.out
 ·exact absurd rfl h
end Go.Proofs.YthpkkhmplkmdnaaGreatDoor.K
namespace Go.Proofs.YthpkkhmplkmdnaaGreatDoor.K
open Go.RowKit Go.Proofs.Lys Go.Maps Go.Shelf
open Go.Proofs.YthpkkhmplkmdnaaGreatDoor.N (ownN_slice ownN_lt ownN_only ownN_stay ownN_base ownN_typed ownN_some)
open Go.Proofs.YthpkkhmplkmdnaaGreatDoor.G (byte_lt ofNat_toNat bV_ofNat)
set_option linter.unusedVariables false
set_option linter.unusedSimpArgs false
theorem split_chk_len (n : Nat) : ∀ l : C.Smps, l.length = n → ((C.splitL l).flatMap chkB).length ≤ 52 * n := by
 induction n using Nat.strongRecOn with
 | _ n ih =>
  intro l hl
  by_cases h : l = []
  ·subst h
   rw [C.splitL_nil]
   simp
  ·have h0 : 0 < l.length := List.length_pos_iff.2 h
   rw [C.splitL_cons h, List.flatMap_cons, List.length_append]
   have h1 := chk_len (l.take 120) (by rw [List.length_take]; omega)
   rw [List.length_take] at h1
   have h2 := ih (l.drop 120).length (by rw [List.length_drop]; omega) (l.drop 120) rfl
   rw [List.length_drop] at h2
   omega
theorem ser_len {s : Ser} (hm : N.makeL s.1 = some s.1) (hl : s.2.length ≤ 80000) : (serB s).length ≤ 5000 + 52 * s.2.length := by
 have hmd := N.makeL_made hm
 have h1 : (N.txtB s.1).data.toList.length ≤ 4820 := by
  unfold N.txtB
  rw [hm]
  show (N.mkB (N.textL s.1)).data.toList.length ≤ 4820
  have h2 := N.accT_len (l := s.1) (fun x hx => by
   have h9 := hm
   unfold N.makeL at h9
   split at h9
   ·cases h9
   ·split at h9
    ·rename_i h8
     exact List.all_eq_true.1 h8 x hx
    ·cases h9)
  have h3 := hmd.len16
  simp [N.mkB, N.textL]
  omega
 have h4 := split_chk_len _ s.2 rfl
 have p1 := putN_ten (U.uN_lt ((N.txtB s.1).size : Int))
 have p2 := putN_ten (U.uN_lt ((C.splitL s.2).length : Int))
 unfold serB
 simp only [List.length_append]
 omega
end Go.Proofs.YthpkkhmplkmdnaaGreatDoor.K
namespace Go.Proofs.YthpkkhmplkmdnaaGreatDoor.K
open Go.RowKit Go.Proofs.Lys
set_option linter.unusedVariables false
theorem onesR_lt : ∀ (f : Nat) (l : List Bool) {k : Nat} {r : List Bool}, S.onesR (f + 1) l = some (k, r) → r.length < l.length
 | f, [], k, r, h => by rw [S.onesR] at h; cases h
 | f, false :: l, k, r, h => by
  rw [S.onesR] at h
  simp only [Option.some.injEq, Prod.mk.injEq] at h
  rw [← h.2, List.length_cons]
  omega
 | 0, true :: l, k, r, h => by
  rw [S.onesR, S.onesR] at h
  simp only [Option.map_some, Option.some.injEq, Prod.mk.injEq] at h
  rw [← h.2, List.length_cons]
  omega
 | f + 1, true :: l, k, r, h => by
  rw [S.onesR] at h
  cases hx : S.onesR (f + 1) l with
  | none => rw [hx] at h; cases h
  | some x =>
   rw [hx] at h
   simp only [Option.map_some, Option.some.injEq, Prod.mk.injEq] at h
   have := onesR_lt f l (k := x.1) (r := x.2) hx
   rw [← h.2, List.length_cons]
   omega
theorem getR_le {l : List Bool} {N : Nat} {x : Int} {r : List Bool} (h : S.getR l N = some (x, r)) : r.length + N = l.length := by
 unfold S.getR at h
 split at h
 ·simp only [Option.some.injEq, Prod.mk.injEq] at h
  rw [← h.2, List.length_drop]
  omega
 ·cases h
theorem chgR_lt {l : List Bool} {x : Int} {r : List Bool} (h : S.chgR l = some (x, r)) : r.length < l.length := by
 unfold S.chgR at h
 cases hx : S.onesR 4 l with
 | none => rw [hx] at h; cases h
 | some y =>
  rw [hx] at h
  simp only [Option.bind_some] at h
  cases hy : S.getR y.2 (S.wb y.1) with
  | none => rw [hy] at h; cases h
  | some z =>
   rw [hy] at h
   simp only [Option.map_some, Option.some.injEq, Prod.mk.injEq] at h
   have h1 := onesR_lt 3 l (k := y.1) (r := y.2) hx
   have h2 := getR_le (x := z.1) (r := z.2) hy
   rw [← h.2]
   omega
theorem readT_le : ∀ (n : Nat) (l : List Bool) (g p : Int) (acc : List Int) {m : List Int}, S.readT n l g p acc = some m → n ≤ l.length
 | 0, l, g, p, acc, m, h => Nat.zero_le _
 | n + 1, l, g, p, acc, m, h => by
  rw [S.readT] at h
  split at h
  ·cases hx : S.getR l 64 with
   | none => rw [hx] at h; cases h
   | some x =>
    rw [hx] at h
    simp only [Option.bind_some] at h
    have h1 := getR_le (x := x.1) (r := x.2) hx
    have h2 := readT_le n _ _ _ _ h
    omega
  ·cases hx : S.chgR l with
   | none => rw [hx] at h; cases h
   | some x =>
    rw [hx] at h
    simp only [Option.bind_some] at h
    have h1 := chgR_lt (x := x.1) (r := x.2) hx
    have h2 := readT_le n _ _ _ _ h
    omega
theorem cutR_part {bs a r : List UInt8} (h : C.cutR bs = some (a, r)) : a.length + r.length ≤ bs.length := by
 unfold C.cutR at h
 split at h
 ·cases h
 ·simp only [Option.some.injEq, Prod.mk.injEq] at h
  rw [← h.1, ← h.2]
  simp only [List.length_take, List.length_drop]
  omega
theorem reads_eighth {bs : List UInt8} {l : C.Smps} {n : Nat} {x : Int} (h : C.Reads bs l n x) : l.length ≤ 8 * n := by
 rcases h with ⟨_, h1, h2, h3⟩ | ⟨N, a, c, k, hh, t, e, v, f, hs, hv, ⟨_, h1, h2, h3⟩ | ⟨rfl, rfl, h1, h2, h3⟩⟩
 ·rw [h1, h2]; exact Nat.le_refl _
 ·rw [h1, h2]; exact Nat.le_refl _
 ·have ht := C.readsS_len hs
  have h8 : N ≤ 8 * a.length := by
   rcases hs with ⟨_, _, h⟩ | ⟨_, _, h⟩ | ⟨_, _, ⟨_, _, h⟩ | ⟨m, hm, ⟨_, _, h⟩ | ⟨_, rfl, _⟩⟩⟩
   ·cases h
   ·cases h
   ·cases h
   ·cases h
   ·rw [Int.toNat_natCast] at hm
    have := readT_le _ _ _ _ _ hm
    rw [unpackL_length] at this
    exact this
  unfold C.headC at hh
  split at hh
  ·cases hh
  ·cases h4 : C.cutR (bs.drop (getA bs 0 0).2.1) with
   | none => rw [h4] at hh; cases hh
   | some q1 =>
    rw [h4] at hh
    simp only [Option.bind_some] at hh
    cases h5 : C.cutR q1.2 with
    | none => rw [h5] at hh; cases hh
    | some q2 =>
     rw [h5] at hh
     simp only [Option.map_some, Option.some.injEq, Prod.mk.injEq] at hh
     have l1 := cutR_part (a := q1.1) (r := q1.2) h4
     have l2 := cutR_part (a := q2.1) (r := q2.2) h5
     rw [List.length_drop] at l1
     rw [h1, h2, ← hh.2.2.2, List.length_zip, ht]
     rw [← hh.2.1] at h8
     omega
theorem smpsR_bound : ∀ (n : Nat) (bs : List UInt8) (acc : C.Smps) {l : C.Smps} {rest : List UInt8}, SmpsR n bs acc (some (l, rest)) → rest.length + 3 * n ≤ bs.length ∧ l.length + 8 * rest.length ≤ acc.length + 8 * bs.length
 | 0, bs, acc, l, rest, h => by
  unfold SmpsR at h
  simp only [Option.some.injEq, Prod.mk.injEq] at h
  rw [h.1, h.2]
  omega
 | n + 1, bs, acc, l, rest, h => by
  obtain ⟨p, k, x, h1, ⟨_, h2⟩ | ⟨h0, h2⟩⟩ := h
  ·cases h2
  ·obtain ⟨g1, g2⟩ := smpsR_bound n _ _ h2
   rw [List.length_drop] at g1 g2
   rw [List.length_append] at g2
   have b1 := reads_eighth h1
   rcases reads_bounds h1 with ⟨h5, _⟩ | ⟨_, b2, b3, _⟩
   ·omega
   ·omega
theorem smpK_bound {bs : List UInt8} {l : C.Smps} {rest : List UInt8} (h : SmpK bs (some (l, rest))) : rest.length < bs.length ∧ l.length + 8 * rest.length ≤ 8 * bs.length := by
 rcases h with ⟨_, h⟩ | ⟨n, k, h1, h2⟩
 ·cases h
 ·obtain ⟨g1, g2⟩ := smpsR_bound _ _ _ h2
  rw [List.length_drop] at g1 g2
  have := numK_pos h1
  simp only [List.length_nil] at g2
  omega
theorem labK_bound {bs more : List UInt8} {m : N.Labs} (h : labK bs = some (m, more)) : more.length < bs.length ∧ ∃ t, N.parseL t = some m ∧ t.length + more.length ≤ bs.length := by
 unfold labK at h
 cases hn : numK bs with
 | none => rw [hn] at h; cases h
 | some q =>
  rw [hn] at h
  simp only [Option.bind_some] at h
  have hp := numK_pos (n := q.1) (k := q.2) hn
  split at h
  ·cases h
  ·rename_i hlt
   cases hx : N.parseL ((bs.drop q.2).take q.1.toNat) with
   | none => rw [hx] at h; cases h
   | some m' =>
    rw [hx] at h
    simp only [Option.map_some, Option.some.injEq, Prod.mk.injEq] at h
    obtain ⟨rfl, rfl⟩ := h
    simp only [List.length_drop] at hlt ⊢
    refine ⟨by omega, _, hx, ?_⟩
    simp only [List.length_take, List.length_drop]
    omega
def smpN : List Ser → Nat
 | [] => 0
 | s :: r => s.2.length + smpN r
theorem smpN_snoc (l : List Ser) (s : Ser) : smpN (l ++ [s]) = smpN l + s.2.length := by
 induction l with
 | nil => simp [smpN]
 | cons a r ih => rw [List.cons_append, smpN, smpN, ih]; omega
theorem smpN_mem {l : List Ser} {s : Ser} (h : s ∈ l) : s.2.length ≤ smpN l := by
 induction l with
 | nil => cases h
 | cons a r ih =>
  rw [smpN]
  rcases List.mem_cons.1 h with rfl | h
  ·omega
  ·have := ih h
   omega
theorem sersR_bound : ∀ (n : Nat) (bs : List UInt8) (acc : List Ser) {l : List Ser} {rest : List UInt8}, SersR n bs acc (some (l, rest)) →
  l.length + rest.length ≤ acc.length + bs.length ∧ smpN l + 8 * rest.length ≤ smpN acc + 8 * bs.length ∧ ((∀ s ∈ acc, ∃ t, N.parseL t = some s.1 ∧ t.length ≤ 100000) → bs.length ≤ 100000 → ∀ s ∈ l, ∃ t, N.parseL t = some s.1 ∧ t.length ≤ 100000)
 | 0, bs, acc, l, rest, h => by
  unfold SersR at h
  simp only [Option.some.injEq, Prod.mk.injEq] at h
  rw [h.1, h.2]
  exact ⟨Nat.le_refl _, Nat.le_refl _, fun h _ => h⟩
 | n + 1, bs, acc, l, rest, h => by
  rcases h with ⟨_, h⟩ | ⟨m, more, q, h1, hq, ⟨_, h⟩ | ⟨s, rest', rfl, h⟩⟩
  ·cases h
  ·cases h
  ·obtain ⟨g1, g2, g3⟩ := sersR_bound n _ _ h
   obtain ⟨b1, t, ht, hl⟩ := labK_bound h1
   obtain ⟨c1, c2⟩ := smpK_bound hq
   rw [smpN_snoc] at g2
   rw [List.length_append] at g1
   simp only [List.length_cons, List.length_nil] at g1 g2
   refine ⟨by omega, by omega, fun hacc hb => g3 (fun y hy => ?_) (by omega)⟩
   rcases List.mem_append.1 hy with hy | hy
   ·exact hacc y hy
   ·rw [List.mem_singleton.1 hy]
    exact ⟨t, ht, by omega⟩
theorem blkK_bound {B : List UInt8} {l : List Ser} (h : BlkK B (some l)) : l.length ≤ B.length ∧ smpN l ≤ 8 * B.length ∧ (B.length ≤ 100000 → ∀ s ∈ l, ∃ t, N.parseL t = some s.1 ∧ t.length ≤ 100000) := by
 rcases h with ⟨_, h⟩ | ⟨_, ⟨_, h⟩ | ⟨n, k, h1, ⟨_, h⟩ | ⟨n', k', q, h2, hq, h⟩⟩⟩
 ·cases h
 ·cases h
 ·cases h
 ·cases q with
  | none => cases h
  | some x =>
   simp only [Option.map_some, Option.some.injEq] at h
   subst h
   rcases hq with ⟨_, h⟩ | ⟨n3, k3, h3, hq⟩
   ·cases h
   ·have g := sersR_bound _ _ _ (l := x.1) (rest := x.2) hq
    simp only [List.length_drop, List.length_nil, smpN] at g
    obtain ⟨g1, g2, g3⟩ := g
    exact ⟨by omega, by omega, fun hb => g3 (fun s hs => by cases hs) (by omega)⟩
theorem flat_len2 : ∀ (l : List Ser), (∀ s ∈ l, N.makeL s.1 = some s.1 ∧ s.2.length ≤ 80000) → (l.flatMap serB).length ≤ 5000 * l.length + 52 * smpN l
 | [], _ => by simp [smpN]
 | s :: l, h => by
  have h1 := ser_len (h s (List.mem_cons_self ..)).1 (h s (List.mem_cons_self ..)).2
  have h2 := flat_len2 l (fun x hx => h x (List.mem_cons_of_mem _ hx))
  rw [List.flatMap_cons, List.length_append, List.length_cons, smpN]
  omega
theorem parse_made {t : List UInt8} {m : N.Labs} (h : N.parseL t = some m) : N.Made m := by
 unfold N.parseL at h
 cases hx : N.readL t with
 | none => rw [hx] at h; cases h
 | some l =>
  rw [hx] at h
  simp only [Option.bind_some] at h
  cases hy : N.makeL l with
  | none => rw [hy] at h; cases h
  | some m' =>
   rw [hy] at h
   simp only [Option.bind_some] at h
   split at h
   ·injection h with h
    subst h
    exact N.makeL_made hy
   ·cases h
theorem made_small {m : N.Labs} (h : N.Made m) : N.Small m := fun x hx => by
 have := h.ok x hx
 unfold N.labOk N.nameOk N.valOk at this
 simp only [Bool.and_eq_true, decide_eq_true_eq] at this
 omega
theorem read_reach {bs : List UInt8} (hl : bs.length ≤ 10000) : ∀ N l, bs.length = N + 4 → BlkK (bs.take N) (some l) → Reach l := by
 intro N l hN h
 obtain ⟨b1, b2, b3⟩ := blkK_bound h
 have hlen : (bs.take N).length = N := by rw [List.length_take]; omega
 rw [hlen] at b1 b2 b3
 have hp := b3 (by omega)
 refine ⟨fun s hs => ?_, by omega, fun h0 => ?_⟩
 ·obtain ⟨t, ht, htl⟩ := hp s hs
  have hm := parse_made ht
  have := smpN_mem hs
  exact ⟨by have := hm.len16; omega, fun x hx => made_small hm x hx, by omega⟩
 ·obtain ⟨hl0, hf⟩ := check_fit h0
  have h4 := flat_len2 l (fun s hs => by
   obtain ⟨i, hi, rfl⟩ := List.getElem_of_mem hs
   have b := smpN_mem hs
   exact ⟨(hf i hi).made, by omega⟩)
  have hFit : ∀ s ∈ l, s.2 ≠ [] ∧ S.Rising (s.2.map (·.1)) := fun s hs => by
   obtain ⟨i, hi, rfl⟩ := List.getElem_of_mem hs
   exact ⟨(hf i hi).some, (times_iff _).1 (hf i hi).times⟩
  have hsb := span_bounds (l := l) (fun s hs => ⟨(hFit s hs).1, fun x hx => by
   obtain ⟨i, hi, rfl⟩ := List.getElem_of_mem hx
   have := (hFit s hs).2.at (i := i) (by rw [List.length_map]; exact hi)
   rw [List.getElem_map] at this
   exact this⟩)
  have hz1 := putN_ten (zig_lt hsb.1)
  have hz2 := putN_ten (zig_lt hsb.2)
  have hz3 := putN_ten (U.uN_lt (l.length : Int))
  unfold bodyB
  simp only [List.length_append, List.length_cons, List.length_nil]
  omega
end Go.Proofs.YthpkkhmplkmdnaaGreatDoor.K
namespace Go.Proofs.YthpkkhmplkmdnaaGreatDoor.K
open Go Go.RowKit Go.Proofs.Lys Go.Maps Go.Shelf
open Go.Proofs.YthpkkhmplkmdnaaGreatDoor.N (ownN_slice ownN_lt ownN_only ownN_stay ownN_base ownN_typed ownN_some)
set_option linter.unusedVariables false
set_option linter.unusedSimpArgs false
theorem readK_inj {bs : List UInt8} {l m : List Ser} (h : ReadK bs l) (k : ReadK bs m) : l = m := by
 obtain ⟨N, h1, h2, _⟩ := h
 obtain ⟨N', k1, k2, _⟩ := k
 have : N' = N := by omega
 subst this
 have := h2.inj k2
 injection this
def AnsB (bs : List UInt8) (l : List Ser) (x : Int) : Prop := (ReadK bs l ∧ x = 0) ∨ ((∀ m, ¬ ReadK bs m) ∧ l = [] ∧ x = 5)
theorem AnsB.inj {bs : List UInt8} {l m : List Ser} {x y : Int} (h : AnsB bs l x) (k : AnsB bs m y) : l = m ∧ x = y := by
 rcases h with ⟨h, rfl⟩ | ⟨h, rfl, rfl⟩
 ·rcases k with ⟨k, rfl⟩ | ⟨k, rfl, rfl⟩
  ·exact ⟨readK_inj h k, rfl⟩
  ·exact absurd h (k l)
 ·rcases k with ⟨k, rfl⟩ | ⟨k, rfl, rfl⟩
  ·exact absurd k (h m)
  ·exact ⟨rfl, rfl⟩
theorem UkP.ans {w w' : World} {bs : List UInt8} {e : Ending} (h : UkP w bs e w') : Kept w w' ∧ ∃ (qs : List SV) (x : Int) (a : Option Addr) (c : Nat), AnsB bs (qs.map SV.ser) x ∧ e = .returned (.tuple #[.slice a qs.length c, .int .i64 x]) ∧ SerAt w' w.heap.size (.slice a qs.length c) qs := by
 obtain ⟨k, ⟨hno, rfl⟩ | ⟨qs, v, hr, rfl, hs⟩⟩ := h
 ·exact ⟨k, [], 5, none, 0, .inr ⟨hno, rfl, rfl⟩, rfl, SerAt.nil _ _⟩
 ·obtain ⟨a, c, rfl⟩ := ownN_slice hs.row
  exact ⟨k, qs, 0, a, c, .inl ⟨hr, rfl⟩, rfl, hs⟩
theorem LkB.ans {w w' : World} {bs : List UInt8} {e : Ending} (h : LkB w bs e w') : Kept w w' ∧ ∃ (l : List Ser) (x p q : Int), AnsB bs l x ∧ e = .returned (.tuple #[.int .i64 p, .int .i64 q, .int .i64 (l.length : Int), .int .i64 x]) := by
 obtain ⟨k, ⟨hno, rfl⟩ | ⟨l, hr, rfl⟩⟩ := h
 ·exact ⟨k, [], 5, 0, 0, .inr ⟨hno, rfl, rfl⟩, rfl⟩
 ·exact ⟨k, l, 0, _, _, .inl ⟨hr, rfl⟩, rfl⟩
theorem kbyt_copy {w : World} {xv : Value} {bs : List UInt8} (hs : SrcOf w xv (bs.map bV)) (hl : bs.length ≤ 9000000) :
  ∃ a n c w', Hid ((Builtin.append_ #[28, 28] 0 #[.slice none 0 0, xv]).run Tryz.prog w = .ok (.slice a n c) w') ∧ BytAt w' w.heap.size (.slice a n c) bs ∧ Kept w w' := by
 obtain ⟨a, n, c, w', hr, _, h, ho⟩ := byt_app (w := w) (B := w.heap.size) (v := .slice none 0 0) (bs := []) ⟨rfl, .inl ⟨rfl, rfl⟩⟩ hs (by simp; omega) (Nat.le_refl _)
 rw [List.nil_append] at h
 exact ⟨a, n, c, w', hr, h.out, ho.out.mono (fun j hj e => by simp [Value.ownBlock] at e)⟩
theorem ser_small {bs : List UInt8} (hl : bs.length ≤ 10000) {qs : List SV} {x : Int} (h : AnsB bs (qs.map SV.ser) x) : qs.length ≤ 1000 ∧ ∀ q ∈ qs, q.labs.length ≤ 1000 ∧ q.smps.length ≤ 100000 := by
 rcases h with ⟨⟨N, h1, h2, h3, _⟩, _⟩ | ⟨_, h, _⟩
 ·obtain ⟨hlen, hf⟩ := check_fit h3
  rw [List.length_map] at hlen
  obtain ⟨b1, b2, b3⟩ := blkK_bound h2
  refine ⟨hlen, fun q hq => ?_⟩
  have hm : q.ser ∈ qs.map SV.ser := List.mem_map.2 ⟨q, hq, rfl⟩
  have h5 := smpN_mem hm
  obtain ⟨i, hi, e⟩ := List.getElem_of_mem hm
  have h6 := (Go.Proofs.YthpkkhmplkmdnaaGreatDoor.N.makeL_made (hf i hi).made).len16
  rw [e] at h6
  have h7 : (bs.take N).length ≤ 10000 := by rw [List.length_take]; omega
  have e1 : q.ser.1 = q.labs := rfl
  have e2 : q.ser.2 = q.smps := rfl
  rw [e1] at h6
  rw [e2] at h5
  omega
 ·have : qs = [] := List.map_eq_nil_iff.1 h
  subst this
  exact ⟨Nat.zero_le _, fun q hq => by cases hq⟩
set_option maxRecDepth 100000 in
set_option maxHeartbeats 6400000 in
theorem reads16_walk (hRD : ∀ (w : World) (v : Value) (bs : List UInt8), C.BSrc w v bs → bs.length ≤ 10000 → Calls Tryz.prog 18 #[v] w (UkP w bs))
  (w : World) (v : Value) (bs : List UInt8) (hs : C.BSrc w v bs) (hT : G.Tab w) (hG : ErrT w) (hM : N.Mx w) : Calls Tryz.prog 4 #[v] w fun e w' => e = .returned (.bool true) ∧ Kept w w' := by
 obtain ⟨PQ, hPQ⟩ : ∃ PQ, (fun (e : Ending) (w' : World) => e = .returned (.bool true) ∧ Kept w w') = PQ := ⟨_, rfl⟩
 rw [hPQ]
 have HPQ := hid hPQ
 have HF : Hid (∀ W, Kept w W → PQ (.returned (.bool true)) W) := hid (fun W k => by rw [← HPQ.out]; exact ⟨rfl, k⟩)
 have HA := hid (alive16_any w hT hG)
 have HS := hid hs
 have HT := hid hT
 have HG := hid hG
 have HM := hid hM
 have HRD := hid hRD
 obtain ⟨x0, y0, e0, _⟩ := id hs.2
 obtain ⟨L, hL⟩ : ∃ L, bs.length = L := ⟨_, rfl⟩
 rw [hL] at e0
 have HL := hid hL
 subst e0
 clear hs hT hG hM hPQ hL hRD
 go_enter Tryz.func4, Tryz.ntmps4
 go_wp2_with fail
 refine HA.out.mono ?_
 rintro e w1 ⟨rfl, k1⟩
 have HK1 := hid k1
 clear k1 HA
 by_cases hbig : 10000 < L
 ·have d1 : decide (10000 < (L : Int)) = true := decide_eq_true (by omega)
  have HFF := hid (HF.out _ HK1.out)
  clear hbig
  go_wp2_with fail
  (try go_ret)
  exact HFF.out
 ·have d1 : decide (10000 < (L : Int)) = false := decide_eq_false (by omega)
  have hl10 : bs.length ≤ 10000 := by have := HL.out; omega
  have HL10 := hid hl10
  obtain ⟨a2, n2, c2, w2, hr2, hb2, k2⟩ := kbyt_copy (HS.out.1.stay HK1.out) (by omega)
  have HR2 := hid hr2.out
  have HK2 := hid (HK1.out.trans k2 (fun _ _ f => f))
  have HUN := hid (unpack_any w2 (.slice a2 n2 c2) bs (by
   refine ⟨own_src hb2, ?_⟩
   rcases hb2.2 with ⟨hv, h0⟩ | ⟨g, cap, cur, hv, _, _, hcap, _⟩
   ·exact ⟨none, 0, by rw [hv, h0], by omega⟩
   ·exact ⟨_, cap, hv, hcap⟩) (by omega) (HT.out.stay HK2.out) (HG.out.stay HK2.out) (HM.out.stay HK2.out) (read_reach hl10))
  clear hbig hr2 hb2 k2 hl10
  go_wp2_with (at_builtin; refine Lys.wpList_append_run rfl _ _ _ rfl rfl rfl HR2.out ?_)
  refine HUN.out.mono ?_
  intro e1 w3 hu
  obtain ⟨k3, qs, x, a3, c3, hans, rfl, hsr3⟩ := hu.ans
  have HANS := hid hans
  have HK3 := hid (HK2.out.trans k3 (fun _ _ f => f))
  have HSR3 := hid hsr3
  obtain ⟨Q, hQ⟩ : ∃ Q, qs.length = Q := ⟨_, rfl⟩
  have HQ := hid hQ
  have HQL : Hid ((qs.map SV.ser).length = Q) := hid (by rw [List.length_map]; exact hQ)
  have hvq : (Value.slice a3 qs.length c3) = .slice a3 Q c3 := by rw [hQ]
  rw [hvq] at HSR3 ⊢
  have HR3 := hid (HRD.out w3 (.slice x0 L y0) bs ⟨HS.out.1.stay HK3.out, HS.out.2⟩ HL10.out)
  have HZ2 := hid k3.size
  clear hu k3 hans hsr3 HUN HR2 hQ hvq
  go_wp2_with fail
  refine HR3.out.mono ?_
  intro e2 w4 hu
  obtain ⟨k4, ps, x2, a4, c4, hans2, rfl, hsr4⟩ := hu.ans
  obtain ⟨hqp, rfl⟩ := HANS.out.inj hans2
  have HP : Hid (ps.length = Q) := hid (by
   have := congrArg List.length hqp
   rw [List.length_map, List.length_map] at this
   rw [← this]
   exact HQ.out)
  have hvp : (Value.slice a4 ps.length c4) = .slice a4 Q c4 := by rw [HP.out]
  rw [hvp] at hsr4 ⊢
  have hsm := ser_small HL10.out HANS.out
  have HSA := hid (ksame_any w4 (.slice a3 Q c3) (.slice a4 Q c4) (qs.map SV.ser) (HSR3.out.stay k4).serIn (by rw [hqp]; exact hsr4.serIn) (by rw [List.length_map]; omega) (fun y hy => by
   obtain ⟨q, hq, rfl⟩ := List.mem_map.1 hy
   have := hsm.2 q hq
   exact ⟨by show q.labs.length ≤ _; omega, by show q.smps.length ≤ _; omega⟩))
  have HK4 := hid (HK3.out.trans k4 (fun _ _ f => f))
  have HSR4 := hid (HSR3.out.stay k4)
  have HSM := hid hsm
  clear hu k4 hans2 hqp hvp hsr4 hsm HR3
  go_wp2_with fail
  refine HSA.out.mono ?_
  rintro e w5 ⟨rfl, k5⟩
  have HK5 := hid (HK4.out.trans k5 (fun _ _ f => f))
  have HSR5 := hid (HSR4.out.stay k5)
  have HWI := hid (wipe_any HSR5.out HSM.out.1 HSM.out.2)
  clear k5 HSA
  go_wp2_with fail
  refine HWI.out.mono ?_
  rintro e w6 ⟨rfl, o6⟩
  have HK6 : Hid (Kept w w6) := hid (HK5.out.trans o6 (fun j hj e => by
   have hz := HK2.out.size
   rcases e with e | ⟨q, hq, e | e⟩
   ·have := (ownN_lt HSR5.out.row e).1; omega
   ·have := (ownN_lt (HSR5.out.lab q hq) e).1; omega
   ·have := (ownN_lt (HSR5.out.smp q hq) e).1; omega))
  have HLO := hid (lookB_any w6 (.slice x0 L y0) bs ⟨HS.out.1.stay HK6.out, HS.out.2⟩ (by have := HL10.out; omega) (HT.out.stay HK6.out) (HG.out.stay HK6.out) (HM.out.stay HK6.out) (read_reach HL10.out))
  clear o6 HWI
  go_wp2_with fail
  refine HLO.out.mono ?_
  intro e3 w7 hu
  obtain ⟨k7, l7, x7, p7, q7, hans7, rfl⟩ := hu.ans
  obtain ⟨rfl, rfl⟩ := HANS.out.inj hans7
  rw [HQL.out]
  have HFF := hid (HF.out _ (HK6.out.trans k7 (fun _ _ f => f)))
  have HNU := hid (num16_any x w7)
  clear hu k7 hans7 HLO
  go_wp2_with fail
  refine HNU.out.mono ?_
  rintro e w8 ⟨rfl, hw⟩
  replace hw := hw.symm
  subst hw
  go_wp2_with fail
  refine HNU.out.mono ?_
  rintro e w8 ⟨rfl, hw⟩
  replace hw := hw.symm
  subst hw
  go_wp2_with fail
  (try go_ret)
  exact HFF.out
end Go.Proofs.YthpkkhmplkmdnaaGreatDoor.K
namespace Go.Proofs.YthpkkhmplkmdnaaGreatDoor.K
open Go.RowKit Go.Proofs.Lys Go.Maps
set_option linter.unusedVariables false
set_option linter.unusedSimpArgs false
theorem numK_put {u : Nat} (h : u < 18446744073709551616) (more : List UInt8) : numK (putN u ++ more) = some (wrap64 (u : Int), (putN u).length) := by
 unfold numK
 rw [get_put0 h more]
 rfl
theorem drop_put (a b : List UInt8) : (a ++ b).drop a.length = b := List.drop_left
def LabBack : Prop := ∀ (m : N.Labs), N.makeL m = some m → ∀ more : List UInt8, labK (putN (U.uN ((N.txtB m).size : Int)) ++ (N.txtB m).data.toList ++ more) = some (m, more)
theorem packs_of {p : C.Smps} (h0 : p ≠ []) (hl : p.length ≤ 120) (hr : S.Rising (p.map (·.1))) : C.Packs p (chkB p) 0 :=
 .inr (.inr ⟨h0, _, _, .inr (.inr ⟨by rw [List.length_map]; exact hl, hr, rfl, rfl⟩), .inr ⟨by rw [List.length_map]; exact hl, rfl, rfl⟩, rfl, rfl⟩)
theorem smpsR_put : ∀ (ps : List C.Smps) (acc : C.Smps) (more : List UInt8), (∀ p ∈ ps, p ≠ [] ∧ p.length ≤ 120 ∧ S.Rising (p.map (·.1)) ∧ V.In64 (p.map (·.2))) → SmpsR ps.length (ps.flatMap chkB ++ more) acc (some (acc ++ ps.flatten, more))
 | [], acc, more, _ => by
  show some _ = some _
  simp
 | p :: ps, acc, more, h => by
  obtain ⟨h0, hl, hr, hi⟩ := h p (List.mem_cons_self ..)
  have h1 := C.reads_packs (packs_of h0 hl hr) hi (ps.flatMap chkB ++ more)
  have h2 := smpsR_put ps (acc ++ p) more (fun q hq => h q (List.mem_cons_of_mem _ hq))
  refine ⟨p, (chkB p).length, 0, by rw [List.flatMap_cons, List.append_assoc]; exact h1, .inr ⟨rfl, ?_⟩⟩
  rw [List.flatMap_cons, List.append_assoc, drop_put, List.flatten_cons, ← List.append_assoc]
  exact h2
theorem splitL_flat (n : Nat) : ∀ l : C.Smps, l.length = n → (C.splitL l).flatten = l := by
 induction n using Nat.strongRecOn with
 | _ n ih =>
  intro l hl
  by_cases h : l = []
  ·subst h
   rw [C.splitL_nil]
   rfl
  ·have h0 : 0 < l.length := List.length_pos_iff.2 h
   rw [C.splitL_cons h, List.flatten_cons, ih (l.drop 120).length (by rw [List.length_drop]; omega) (l.drop 120) rfl, List.take_append_drop]
theorem splitL_in (n : Nat) : ∀ l : C.Smps, l.length = n → V.In64 (l.map (·.2)) → ∀ p ∈ C.splitL l, V.In64 (p.map (·.2)) := by
 intro l hl hi p hp x hx
 refine hi x ?_
 obtain ⟨y, hy, rfl⟩ := List.mem_map.1 hx
 refine List.mem_map.2 ⟨y, ?_, rfl⟩
 rw [← splitL_flat n l hl]
 exact List.mem_flatten.2 ⟨p, hp, hy⟩
theorem smpK_put {s : C.Smps} (hl : s.length ≤ 1000000) (hr : S.Rising (s.map (·.1))) (hi : V.In64 (s.map (·.2))) (more : List UInt8) : SmpK (putN (U.uN ((C.splitL s).length : Int)) ++ (C.splitL s).flatMap chkB ++ more) (some (s, more)) := by
 have hlen := C.splitL_len _ s rfl
 have hpo := parts_ok _ s rfl hr
 refine .inr ⟨_, _, by rw [List.append_assoc]; exact numK_put (U.uN_lt _) _, ?_⟩
 rw [List.append_assoc, drop_put, U.uN_back ⟨by omega, by omega⟩, Int.toNat_natCast]
 have h := smpsR_put (C.splitL s) [] more (fun p hp => ⟨(hpo p hp).1, (hpo p hp).2.1, (hpo p hp).2.2, splitL_in _ s rfl hi p hp⟩)
 rw [List.nil_append, splitL_flat _ s rfl] at h
 exact h
theorem sersR_put (hLB : LabBack) : ∀ (l acc : List Ser) (more : List UInt8), (∀ s ∈ l, N.makeL s.1 = some s.1 ∧ s.2.length ≤ 1000000 ∧ S.Rising (s.2.map (·.1)) ∧ V.In64 (s.2.map (·.2))) → SersR l.length (l.flatMap serB ++ more) acc (some (acc ++ l, more))
 | [], acc, more, _ => by
  show some _ = some _
  simp
 | s :: l, acc, more, h => by
  obtain ⟨hm, hl, hr, hi⟩ := h s (List.mem_cons_self ..)
  have h2 := sersR_put hLB l (acc ++ [s]) more (fun q hq => h q (List.mem_cons_of_mem _ hq))
  refine .inr ⟨s.1, putN (U.uN ((C.splitL s.2).length : Int)) ++ (C.splitL s.2).flatMap chkB ++ (l.flatMap serB ++ more), some (s.2, l.flatMap serB ++ more), ?_, smpK_put hl hr hi _, .inr ⟨s.2, _, rfl, ?_⟩⟩
  ·have := hLB s.1 hm (putN (U.uN ((C.splitL s.2).length : Int)) ++ (C.splitL s.2).flatMap chkB ++ (l.flatMap serB ++ more))
   rw [← this, List.flatMap_cons]
   unfold serB
   simp only [List.append_assoc]
  ·rw [show acc ++ s :: l = acc ++ [s] ++ l by simp]
   exact h2
theorem blkK_body (hLB : LabBack) {l : List Ser} (h0 : checkB l = 0) (hl : ∀ s ∈ l, s.2.length ≤ 1000000 ∧ V.In64 (s.2.map (·.2))) : BlkK (bodyB l) (some l) := by
 obtain ⟨h1000, hf⟩ := check_fit h0
 have hser := sersR_put hLB l [] [] (fun s hs => by
  obtain ⟨i, hi, rfl⟩ := List.getElem_of_mem hs
  exact ⟨(hf i hi).made, (hl _ hs).1, (times_iff _).1 (hf i hi).times, (hl _ hs).2⟩)
 rw [List.append_nil, List.nil_append] at hser
 have hTm : ∀ s ∈ l, s.2 ≠ [] ∧ ∀ x ∈ s.2, -9007199254740992 ≤ x.1 ∧ x.1 ≤ 9007199254740992 := fun s hs => by
  obtain ⟨i, hi, rfl⟩ := List.getElem_of_mem hs
  refine ⟨(hf i hi).some, fun x hx => ?_⟩
  obtain ⟨j, hj, rfl⟩ := List.getElem_of_mem hx
  have := ((times_iff _).1 (hf i hi).times).at (i := j) (by rw [List.length_map]; exact hj)
  rw [List.getElem_map] at this
  exact this
 have hsb := span_bounds hTm
 have e : bodyB l = [76, 89, 83, 49] ++ (putN (U.zigN (spanB l).1) ++ (putN (U.zigN (spanB l).2) ++ (putN (U.uN (l.length : Int)) ++ l.flatMap serB))) := by
  unfold bodyB
  simp only [List.append_assoc]
 have e4 : (bodyB l).drop 4 = putN (U.zigN (spanB l).1) ++ (putN (U.zigN (spanB l).2) ++ (putN (U.uN (l.length : Int)) ++ l.flatMap serB)) := by
  rw [e]
  rfl
 refine .inr ⟨by rw [e]; simp, .inr ⟨_, _, by rw [e4]; exact numK_put (zig_lt hsb.1) _, .inr ⟨_, _, some (l, []), by rw [e4, drop_put]; exact numK_put (zig_lt hsb.2) _, ?_, rfl⟩⟩⟩
 rw [e4, drop_put, drop_put]
 refine .inr ⟨_, _, numK_put (U.uN_lt _) _, ?_⟩
 rw [drop_put, U.uN_back ⟨by omega, by omega⟩, Int.toNat_natCast]
 exact hser
end Go.Proofs.YthpkkhmplkmdnaaGreatDoor.K
namespace Go.Proofs.YthpkkhmplkmdnaaGreatDoor.K
open Go.RowKit Go.Proofs.Lys Go.Maps
set_option linter.unusedVariables false
set_option linter.unusedSimpArgs false
theorem labK_gen (t more : List UInt8) (m : N.Labs) (hp : N.parseL t = some m) (n : Nat) (hn : t.length = n) (hl : n ≤ 100000) (pb : List UInt8) (hq : numK (pb ++ (t ++ more)) = some ((n : Int), pb.length)) : labK (pb ++ t ++ more) = some (m, more) := by
 rw [List.append_assoc]
 unfold labK
 rw [hq]
 simp only [Option.bind_some]
 rw [drop_put, Int.toNat_natCast, if_neg (by rw [List.length_append]; omega), List.take_left' hn, List.drop_left' hn, hp]
 rfl
theorem numK_len (n : Nat) (hl : n ≤ 100000) (more : List UInt8) : numK (putN (U.uN (n : Int)) ++ more) = some ((n : Int), (putN (U.uN (n : Int))).length) := by
 have h := numK_put (U.uN_lt (n : Int)) more
 rw [U.uN_back ⟨by omega, by omega⟩] at h
 exact h
theorem txt_len {m : N.Labs} (hmd : N.Made m) : (N.textL m).length ≤ 100000 := by
 have h2 := N.accT_len (l := m) hmd.ok
 have h3 := hmd.len16
 unfold N.textL
 rw [List.length_append, List.length_singleton]
 omega
theorem txt_data {m : N.Labs} (hm : N.makeL m = some m) : (N.txtB m).data.toList = N.textL m := by
 unfold N.txtB
 rw [hm]
theorem labBack : LabBack := fun m hm more => by
 have hmd := N.makeL_made hm
 have htx := txt_data hm
 have hsz : (N.txtB m).size = (N.textL m).length := by rw [Lib.size_eq, htx]
 rw [hsz, htx]
 exact labK_gen _ more m (N.parse_iff.2 ⟨hmd, rfl⟩) _ rfl (txt_len hmd) _ (numK_len _ (txt_len hmd) _)
end Go.Proofs.YthpkkhmplkmdnaaGreatDoor.K
namespace Go.Proofs.YthpkkhmplkmdnaaGreatDoor.K
open Go.RowKit Go.Proofs.Lys
set_option linter.unusedVariables false
theorem numD_none {f : List UInt8 → Option (Int × List UInt8)} {s s' : Option (List UInt8)} {n : Int} (h : NumD f s s' n) (hs : s.bind f = none) : s' = none := by
 unfold NumD at h
 rw [hs] at h
 exact h
theorem numD_some {f : List UInt8 → Option (Int × List UInt8)} {s s' : Option (List UInt8)} {n n0 : Int} {r : List UInt8} (h : NumD f s s' n) (hs : s.bind f = some (n0, r)) : s' = some r ∧ n = n0 := by
 unfold NumD at h
 rw [hs] at h
 exact h
theorem numQ_len {bs : List UInt8} {n : Int} {r : List UInt8} (h : numQ bs = some (n, r)) : ∃ k, numK bs = some (n, k) ∧ r = bs.drop k ∧ r.length < bs.length := by
 unfold numQ at h
 cases hx : numK bs with
 | none => rw [hx] at h; cases h
 | some x =>
  rw [hx] at h
  simp only [Option.map_some, Option.some.injEq, Prod.mk.injEq] at h
  have hp := numK_pos (n := x.1) (k := x.2) hx
  refine ⟨x.2, by rw [← h.1], h.2.symm, ?_⟩
  rw [← h.2, List.length_drop]
  omega
theorem numD_from {r0 : List UInt8} {s' : Option (List UInt8)} {n : Int} (h : NumD numQ (some r0) s' n) : (s' = none ∧ numK r0 = none) ∨ ∃ k, numK r0 = some (n, k) ∧ s' = some (r0.drop k) := by
 cases e : numQ r0 with
 | none =>
  refine .inl ⟨numD_none h e, ?_⟩
  unfold numQ at e
  cases hx : numK r0 with
  | none => rfl
  | some x => rw [hx] at e; cases e
 | some x =>
  obtain ⟨h1, h2⟩ := numD_some (n0 := x.1) (r := x.2) h e
  obtain ⟨k, g1, g2, _⟩ := numQ_len (n := x.1) (r := x.2) e
  exact .inr ⟨k, by rw [h2]; exact g1, by rw [h1, g2]⟩
def IsT (B : List UInt8) (T : List Ser) : Prop := BlkK B (some T) ∧ checkB T = 0
theorem head_is {B r0 : List UInt8} {s0 s1 s2 s3 : Option (List UInt8)} {a b n : Int} (h4 : 4 ≤ B.length) (hr : r0 = B.drop 4) (h0 : s0 = some r0) (h1 : NumD numQ s0 s1 a) (h2 : NumD numQ s1 s2 b) (h3 : NumD numQ s2 s3 n) :
  (s3 = none ∧ ∀ T, ¬ IsT B T) ∨ ∃ r, s3 = some r ∧ r.length ≤ r0.length ∧ ∀ T, IsT B T → ∃ rest, SersR n.toNat r [] (some (T, rest)) := by
 subst h0
 have cases3 : ∀ T, IsT B T → ∃ x1 k1 x2 k2 x3 k3 rest, numK r0 = some (x1, k1) ∧ numK (r0.drop k1) = some (x2, k2) ∧ numK ((r0.drop k1).drop k2) = some (x3, k3) ∧ SersR x3.toNat (((r0.drop k1).drop k2).drop k3) [] (some (T, rest)) := by
  intro T hT
  rcases hT.1 with ⟨_, h⟩ | ⟨_, ⟨_, h⟩ | ⟨x1, k1, g1, ⟨_, h⟩ | ⟨x2, k2, q, g2, hq, h⟩⟩⟩
  ·cases h
  ·cases h
  ·cases h
  ·cases q with
   | none => cases h
   | some x =>
    simp only [Option.map_some, Option.some.injEq] at h
    rcases hq with ⟨_, h'⟩ | ⟨x3, k3, g3, hq⟩
    ·cases h'
    ·rw [hr]
     exact ⟨x1, k1, x2, k2, x3, k3, x.2, g1, g2, g3, by rw [h]; exact hq⟩
 rcases numD_from h1 with ⟨rfl, e1⟩ | ⟨k1, e1, rfl⟩
 ·have := numD_none h2 rfl
  subst this
  refine .inl ⟨numD_none h3 rfl, fun T hT => ?_⟩
  obtain ⟨x1, k1, _, _, _, _, _, g1, _⟩ := cases3 T hT
  rw [e1] at g1
  cases g1
 ·rcases numD_from h2 with ⟨rfl, e2⟩ | ⟨k2, e2, rfl⟩
  ·refine .inl ⟨numD_none h3 rfl, fun T hT => ?_⟩
   obtain ⟨x1, k1', x2, k2, _, _, _, g1, g2, _⟩ := cases3 T hT
   rw [e1] at g1
   simp only [Option.some.injEq, Prod.mk.injEq] at g1
   rw [← g1.2, e2] at g2
   cases g2
  ·rcases numD_from h3 with ⟨rfl, e3⟩ | ⟨k3, e3, rfl⟩
   ·refine .inl ⟨rfl, fun T hT => ?_⟩
    obtain ⟨x1, k1', x2, k2', x3, k3, _, g1, g2, g3, _⟩ := cases3 T hT
    rw [e1] at g1
    simp only [Option.some.injEq, Prod.mk.injEq] at g1
    rw [← g1.2, e2] at g2
    simp only [Option.some.injEq, Prod.mk.injEq] at g2
    rw [← g1.2, ← g2.2, e3] at g3
    cases g3
   ·refine .inr ⟨_, rfl, by simp only [List.length_drop]; omega, fun T hT => ?_⟩
    obtain ⟨x1, k1', x2, k2', x3, k3', rest, g1, g2, g3, g4⟩ := cases3 T hT
    rw [e1] at g1
    simp only [Option.some.injEq, Prod.mk.injEq] at g1
    rw [← g1.2, e2] at g2
    simp only [Option.some.injEq, Prod.mk.injEq] at g2
    rw [← g1.2, ← g2.2, e3] at g3
    simp only [Option.some.injEq, Prod.mk.injEq] at g3
    rw [← g1.2, ← g2.2, ← g3.2, ← g3.1] at g4
    exact ⟨rest, g4⟩
theorem sersR_pre : ∀ (n : Nat) (bs : List UInt8) (acc : List Ser) {T : List Ser} {rest : List UInt8}, SersR n bs acc (some (T, rest)) → ∃ tl, T = acc ++ tl ∧ tl.length = n
 | 0, bs, acc, T, rest, h => by
  unfold SersR at h
  simp only [Option.some.injEq, Prod.mk.injEq] at h
  exact ⟨[], by rw [h.1]; simp, rfl⟩
 | n + 1, bs, acc, T, rest, h => by
  rcases h with ⟨_, h⟩ | ⟨m, more, q, h1, hq, ⟨_, h⟩ | ⟨s, rest', rfl, h⟩⟩
  ·cases h
  ·cases h
  ·obtain ⟨tl, e, hl⟩ := sersR_pre n _ _ h
   exact ⟨(m, s) :: tl, by rw [e, List.append_assoc]; rfl, by rw [List.length_cons, hl]⟩
def InvB (B : List UInt8) (n : Nat) (acc : List Ser) (rest : List UInt8) : Prop := ∀ T, IsT B T → ∃ rest', SersR n rest acc (some (T, rest'))
theorem invB_end {B : List UInt8} {acc : List Ser} {rest : List UInt8} (h : InvB B 0 acc rest) : ∀ T, IsT B T → T = acc := by
 intro T hT
 obtain ⟨rest', h'⟩ := h T hT
 unfold SersR at h'
 simp only [Option.some.injEq, Prod.mk.injEq] at h'
 exact h'.1
theorem invB_many {B : List UInt8} {n : Nat} {acc : List Ser} {rest : List UInt8} (h : InvB B n acc rest) (hn : 1000 < acc.length + n) : ∀ T, ¬ IsT B T := by
 intro T hT
 obtain ⟨rest', h'⟩ := h T hT
 obtain ⟨tl, e, hl⟩ := sersR_pre n _ _ h'
 have := (check_fit hT.2).1
 rw [e, List.length_append] at this
 omega
theorem invB_lab {B : List UInt8} {n : Nat} {acc : List Ser} {rest : List UInt8} (h : InvB B (n + 1) acc rest) : (labK rest = none → ∀ T, ¬ IsT B T) ∧
  ∀ m more, labK rest = some (m, more) → (numK more = none → ∀ T, ¬ IsT B T) ∧ ∀ c k, numK more = some (c, k) → ((c < 0 ∨ (more.length : Int) < c) → ∀ T, ¬ IsT B T) ∧
   ∀ T, IsT B T → ∃ l rest1, SmpsR c.toNat (more.drop k) [] (some (l, rest1)) ∧ ∃ rest', SersR n rest1 (acc ++ [(m, l)]) (some (T, rest')) := by
 have key : ∀ T, IsT B T → ∃ m more l rest1 rest', labK rest = some (m, more) ∧ SmpK more (some (l, rest1)) ∧ SersR n rest1 (acc ++ [(m, l)]) (some (T, rest')) := by
  intro T hT
  obtain ⟨rest', h'⟩ := h T hT
  rcases h' with ⟨_, h'⟩ | ⟨m, more, q, h1, hq, ⟨_, h'⟩ | ⟨s, rest1, rfl, h'⟩⟩
  ·cases h'
  ·cases h'
  ·exact ⟨m, more, s, rest1, rest', h1, hq, h'⟩
 refine ⟨fun e T hT => ?_, fun m more e => ⟨fun e2 T hT => ?_, fun c k e2 => ⟨fun hc T hT => ?_, fun T hT => ?_⟩⟩⟩
 ·obtain ⟨m, more, l, rest1, rest', g1, _⟩ := key T hT
  rw [e] at g1
  cases g1
 ·obtain ⟨m', more', l, rest1, rest', g1, g2, _⟩ := key T hT
  rw [e] at g1
  simp only [Option.some.injEq, Prod.mk.injEq] at g1
  rw [← g1.2] at g2
  rcases g2 with ⟨_, g2⟩ | ⟨n, k, g2, _⟩
  ·cases g2
  ·rw [e2] at g2; cases g2
 ·obtain ⟨m', more', l, rest1, rest', g1, g2, g3⟩ := key T hT
  rw [e] at g1
  simp only [Option.some.injEq, Prod.mk.injEq] at g1
  rw [← g1.1] at g3
  rw [← g1.2] at g2
  rcases g2 with ⟨_, g2⟩ | ⟨n', k', g2, g4⟩
  ·cases g2
  ·rw [e2] at g2
   simp only [Option.some.injEq, Prod.mk.injEq] at g2
   rw [← g2.1, ← g2.2] at g4
   obtain ⟨b1, _⟩ := smpsR_bound _ _ _ g4
   rw [List.length_drop] at b1
   rcases hc with hc | hc
   ·have h0 : c.toNat = 0 := by omega
    rw [h0] at g4
    unfold SmpsR at g4
    simp only [Option.some.injEq, Prod.mk.injEq] at g4
    obtain ⟨tl, e5, _⟩ := sersR_pre _ _ _ g3
    have hi : acc.length < T.length := by rw [e5]; simp only [List.length_append, List.length_cons, List.length_nil]; omega
    have hf := (check_fit hT.2).2 acc.length hi
    have e6 : T[acc.length] = (m, l) := by
     have : T[acc.length]? = some (m, l) := by rw [e5, List.append_assoc, List.getElem?_append_right (Nat.le_refl _), Nat.sub_self]; rfl
     rw [List.getElem?_eq_getElem hi] at this
     exact Option.some.inj this
    rw [e6] at hf
    exact hf.some g4.1
   ·omega
 ·obtain ⟨m', more', l, rest1, rest', g1, g2, g3⟩ := key T hT
  rw [e] at g1
  simp only [Option.some.injEq, Prod.mk.injEq] at g1
  rw [← g1.1] at g3
  rw [← g1.2] at g2
  rcases g2 with ⟨_, g2⟩ | ⟨n', k', g2, g4⟩
  ·cases g2
  ·rw [e2] at g2
   simp only [Option.some.injEq, Prod.mk.injEq] at g2
   rw [← g2.1, ← g2.2] at g4
   exact ⟨l, rest1, g4, rest', g3⟩
def InvC (B : List UInt8) (n c : Nat) (acc : List Ser) (m : N.Labs) (sacc : C.Smps) (rest : List UInt8) : Prop :=
 ∀ T, IsT B T → ∃ l rest1, SmpsR c rest sacc (some (l, rest1)) ∧ ∃ rest', SersR n rest1 (acc ++ [(m, l)]) (some (T, rest'))
theorem invC_step {B : List UInt8} {n c : Nat} {acc : List Ser} {m : N.Labs} {sacc : C.Smps} {rest : List UInt8} (h : InvC B n (c + 1) acc m sacc rest) {p : C.Smps} {k : Nat} {x : Int} (hr : C.Reads rest p k x) :
  (x ≠ 0 → ∀ T, ¬ IsT B T) ∧ (x = 0 → InvC B n c acc m (sacc ++ p) (rest.drop k)) := by
 refine ⟨fun hx T hT => ?_, fun hx T hT => ?_⟩
 ·obtain ⟨l, rest1, ⟨p', k', x', h1, ⟨_, h2⟩ | ⟨h0, h2⟩⟩, _⟩ := h T hT
  ·cases h2
  ·obtain ⟨_, _, e⟩ := hr.inj h1
   exact hx (e.trans h0)
 ·obtain ⟨l, rest1, ⟨p', k', x', h1, ⟨_, h2⟩ | ⟨h0, h2⟩⟩, h3⟩ := h T hT
  ·cases h2
  ·obtain ⟨rfl, rfl, _⟩ := hr.inj h1
   exact ⟨l, rest1, h2, h3⟩
theorem invC_end {B : List UInt8} {n : Nat} {acc : List Ser} {m : N.Labs} {sacc : C.Smps} {rest : List UInt8} (h : InvC B n 0 acc m sacc rest) : InvB B n (acc ++ [(m, sacc)]) rest := by
 intro T hT
 obtain ⟨l, rest1, h1, h2⟩ := h T hT
 unfold SmpsR at h1
 simp only [Option.some.injEq, Prod.mk.injEq] at h1
 rw [← h1.1, ← h1.2]
 exact h2
theorem vreadT_in : ∀ (n : Nat) (l : List Bool) (p z t : Nat) (acc : List Int) {m : List Int}, V.readT n l p z t acc = some m → V.In64 acc → V.In64 m
 | 0, l, p, z, t, acc, m, h, ha => by
  rw [V.readT] at h
  injection h with h
  rw [← h]
  exact ha
 | n + 1, l, p, z, t, acc, m, h, ha => by
  have hap : ∀ x : Int, V.In64 (acc ++ [wrap64 x]) := fun x v hv => by
   rcases List.mem_append.1 hv with hv | hv
   ·exact ha v hv
   ·rw [List.mem_singleton.1 hv]
    have := U.wrap64_in x
    unfold U.In64 at this
    omega
  rw [V.readT] at h
  split at h
  ·cases hx : V.getN l 64 with
   | none => rw [hx] at h; cases h
   | some x =>
    rw [hx] at h
    simp only [Option.bind_some] at h
    exact vreadT_in n _ _ _ _ _ h (hap _)
  ·cases hx : V.chgR z t l with
   | none => rw [hx] at h; cases h
   | some x =>
    rw [hx] at h
    simp only [Option.bind_some] at h
    exact vreadT_in n _ _ _ _ _ h (hap _)
theorem reads_in {bs : List UInt8} {l : C.Smps} {n : Nat} {x : Int} (h : C.Reads bs l n x) : V.In64 (l.map (·.2)) := by
 rcases h with ⟨_, h1, h2, h3⟩ | ⟨N, a, c, k, hh, t, e, v, f, hs, hv, ⟨_, h1, h2, h3⟩ | ⟨rfl, rfl, h1, h2, h3⟩⟩
 ·rw [h1]; intro y hy; cases hy
 ·rw [h1]; intro y hy; cases hy
 ·have hvi : V.In64 v := by
   rcases hv with ⟨_, _, h⟩ | ⟨_, _, h⟩ | ⟨_, _, ⟨_, _, h⟩ | ⟨m, hm, ⟨_, _, h⟩ | ⟨_, rfl, _⟩⟩⟩
   ·cases h
   ·cases h
   ·cases h
   ·cases h
   ·exact vreadT_in _ _ _ _ _ _ hm (fun y hy => by cases hy)
  rw [h1]
  intro y hy
  obtain ⟨q, hq, rfl⟩ := List.mem_map.1 hy
  exact hvi _ (List.of_mem_zip (a := q.1) (b := q.2) hq).2
def BdB (LEN : Nat) (acc : List Ser) (rest : List UInt8) : Prop :=
 acc.length + rest.length ≤ LEN ∧ smpN acc + 8 * rest.length ≤ 8 * LEN ∧ (∀ s ∈ acc, ∃ t, N.parseL t = some s.1 ∧ t.length ≤ 100000) ∧ ∀ s ∈ acc, V.In64 (s.2.map (·.2))
theorem bdB_nil {LEN : Nat} {rest : List UInt8} (h : rest.length ≤ LEN) : BdB LEN [] rest := ⟨by simp; exact h, by simp [smpN]; omega, fun s hs => (by cases hs), fun s hs => (by cases hs)⟩
def BdC (LEN : Nat) (acc : List Ser) (m : N.Labs) (sacc : C.Smps) (rest : List UInt8) : Prop :=
 acc.length + 1 + rest.length ≤ LEN ∧ smpN acc + sacc.length + 8 * rest.length ≤ 8 * LEN ∧ (∀ s ∈ acc, ∃ t, N.parseL t = some s.1 ∧ t.length ≤ 100000) ∧ (∀ s ∈ acc, V.In64 (s.2.map (·.2))) ∧ (∃ t, N.parseL t = some m ∧ t.length ≤ 100000) ∧ V.In64 (sacc.map (·.2))
theorem bdC_start {LEN : Nat} {acc : List Ser} {rest more : List UInt8} {m : N.Labs} {c : Int} {k : Nat} (h : BdB LEN acc rest) (hL : LEN ≤ 100000) (h1 : labK rest = some (m, more)) (h2 : numK more = some (c, k)) : BdC LEN acc m [] (more.drop k) := by
 obtain ⟨b1, b2, b3, b4⟩ := h
 obtain ⟨g1, t, g2, g3⟩ := labK_bound h1
 have g4 := numK_pos h2
 refine ⟨by rw [List.length_drop]; omega, by rw [List.length_drop]; simp only [List.length_nil]; omega, b3, b4, ⟨t, g2, by omega⟩, fun y hy => (by cases hy)⟩
theorem bdC_step {LEN : Nat} {acc : List Ser} {rest : List UInt8} {m : N.Labs} {sacc p : C.Smps} {k : Nat} (h : BdC LEN acc m sacc rest) (hr : C.Reads rest p k 0) : BdC LEN acc m (sacc ++ p) (rest.drop k) := by
 obtain ⟨b1, b2, b3, b4, b5, b6⟩ := h
 have g1 := reads_eighth hr
 have g2 := reads_in hr
 rcases reads_bounds hr with ⟨h5, _⟩ | ⟨_, g3, g4, _⟩
 ·cases h5
 ·refine ⟨by rw [List.length_drop]; omega, by rw [List.length_drop, List.length_append]; omega, b3, b4, b5, fun y hy => ?_⟩
  rw [List.map_append] at hy
  rcases List.mem_append.1 hy with hy | hy
  ·exact b6 y hy
  ·exact g2 y hy
theorem bdC_end {LEN : Nat} {acc : List Ser} {rest : List UInt8} {m : N.Labs} {sacc : C.Smps} (h : BdC LEN acc m sacc rest) : BdB LEN (acc ++ [(m, sacc)]) rest := by
 obtain ⟨b1, b2, b3, b4, b5, b6⟩ := h
 refine ⟨by rw [List.length_append]; simp only [List.length_cons, List.length_nil]; omega, by rw [smpN_snoc]; omega, fun s hs => ?_, fun s hs => ?_⟩
 ·rcases List.mem_append.1 hs with hs | hs
  ·exact b3 s hs
  ·rw [List.mem_singleton.1 hs]; exact b5
 ·rcases List.mem_append.1 hs with hs | hs
  ·exact b4 s hs
  ·rw [List.mem_singleton.1 hs]; exact b6
theorem readK_of {LEN : Nat} {bs rest : List UInt8} {acc : List Ser} (h : BdB LEN acc rest) (hL : LEN ≤ 100000) (h0 : checkB acc = 0) (hb : blockB acc = bs) : ReadK bs acc := by
 obtain ⟨b1, b2, b3, b4⟩ := h
 have hbody := blkK_body labBack h0 (fun s hs => ⟨by have := smpN_mem hs; omega, b4 s hs⟩)
 have e : blockB acc = bodyB acc ++ G.four (G.sumL (bodyB acc)) := rfl
 have h4 : (G.four (G.sumL (bodyB acc))).length = 4 := rfl
 refine ⟨(bodyB acc).length, by rw [← hb, e, List.length_append, h4], ?_, h0, hb⟩
 rw [← hb, e, List.take_left]
 exact hbody
theorem isT_of {bs : List UInt8} {N : Nat} (hN : bs.length = N + 4) {T : List Ser} (h : ReadK bs T) : IsT (bs.take N) T := by
 obtain ⟨N', h1, h2, h3, _⟩ := h
 have : N' = N := by omega
 subst this
 exact ⟨h2, h3⟩
theorem bdB_reach {LEN : Nat} {acc : List Ser} {rest : List UInt8} (h : BdB LEN acc rest) (hl : LEN ≤ 10000) : Reach acc := by
 obtain ⟨b1, b2, hp, _⟩ := h
 refine ⟨fun s hs => ?_, by omega, fun h0 => ?_⟩
 ·obtain ⟨t, ht, htl⟩ := hp s hs
  have hm := parse_made ht
  have := smpN_mem hs
  exact ⟨by have := hm.len16; omega, made_small hm, by omega⟩
 ·obtain ⟨hl0, hf⟩ := check_fit h0
  have h4 := flat_len2 acc (fun s hs => by
   obtain ⟨i, hi, rfl⟩ := List.getElem_of_mem hs
   have b := smpN_mem hs
   exact ⟨(hf i hi).made, by omega⟩)
  have hFit : ∀ s ∈ acc, s.2 ≠ [] ∧ S.Rising (s.2.map (·.1)) := fun s hs => by
   obtain ⟨i, hi, rfl⟩ := List.getElem_of_mem hs
   exact ⟨(hf i hi).some, (times_iff _).1 (hf i hi).times⟩
  have hsb := span_bounds (l := acc) (fun s hs => ⟨(hFit s hs).1, fun x hx => by
   obtain ⟨i, hi, rfl⟩ := List.getElem_of_mem hx
   have := (hFit s hs).2.at (i := i) (by rw [List.length_map]; exact hi)
   rw [List.getElem_map] at this
   exact this⟩)
  have hz1 := putN_ten (zig_lt hsb.1)
  have hz2 := putN_ten (zig_lt hsb.2)
  have hz3 := putN_ten (U.uN_lt (acc.length : Int))
  unfold bodyB
  simp only [List.length_append, List.length_cons, List.length_nil]
  omega
end Go.Proofs.YthpkkhmplkmdnaaGreatDoor.K
namespace Go.Proofs.YthpkkhmplkmdnaaGreatDoor.K
open Go Go.RowKit Go.Proofs.Lys Go.Maps Go.Shelf
open Go.Proofs.YthpkkhmplkmdnaaGreatDoor.C (Smps)
open Go.Proofs.YthpkkhmplkmdnaaGreatDoor.N (ownN_slice ownN_lt ownN_only ownN_stay ownN_base ownN_typed ownN_some LabAt)
set_option linter.unusedVariables false
set_option linter.unusedSimpArgs false
theorem RdD.step0 {w0 w : World} {R : Nat} {v : Value} {bs : List UInt8} {n m : Nat} {bad : Bool} (hb : Blk w R [v, .int .i64 (n : Int), .bool bad] 73) (hs : G.BSrc w0 v bs) (hk : Kept w0 w) (hR : w0.heap.size ≤ R) (hm : m ≤ bs.length) (h0 : bad = false) :
  RdD w0 (w.setCell ⟨R, 1, none⟩ (.int .i64 (m : Int))) R v bs (some (bs.drop m)) :=
 ⟨m, bad, hm, hb.set 1 _, hs, hk.setCell (p := ⟨R, 1, none⟩) (fun hl => by have : R < w0.heap.size := hl; omega) _, hR, by rw [h0]; rfl⟩
structure L2 (w w8 w9 wr : World) (R : Nat) (v lv sv : Value) (B : List UInt8) (sacc : Smps) (rest : List UInt8) : Prop where
 rd : RdD w wr R v B (some rest)
 blk : Blk wr w9.heap.size [lv, sv] 52
 smp : SmpAt wr (w9.heap.size + 1) sv sacc
 only : Only (fun j => j = R) w8 wr
 size : w9.heap.size + 1 ≤ wr.heap.size
theorem L2.start {w w8 w9 : World} {R pos9 : Nat} {v lv : Value} {B : List UInt8} (h : Blk w9 R [v, .int .i64 (pos9 : Int), .bool false] 73) (hs : G.BSrc w v B) (hk : Kept w w9) (hle : w.heap.size ≤ R) (hp : pos9 ≤ B.length) (ho : Only (fun j => j = R) w8 w9) :
  L2 w w8 w9 (w9.alloc (.cells #[lv, .slice none 0 0] 52)) R v lv (.slice none 0 0) B [] (B.drop pos9) := by
 have k1 : Kept w9 (w9.alloc (.cells #[lv, .slice none 0 0] 52)) := (Only.refl _ w9).alloc _
 exact ⟨⟨pos9, false, hp, Only.blk k1 h (fun f => f), hs, hk.trans k1 (fun _ _ f => f), hle, rfl⟩, Blk.new w9 [lv, .slice none 0 0] 52, World.ownsRow_nil _ _ _ _, ho.trans k1 (fun _ _ f => f.elim), by simp⟩
theorem L2.stay {w w8 w9 wr wc : World} {R : Nat} {v lv sv : Value} {B : List UInt8} {sacc : Smps} {rest : List UInt8} (h : L2 w w8 w9 wr R v lv sv B sacc rest) (k : Kept wr wc) : L2 w w8 w9 wc R v lv sv B sacc rest :=
 ⟨h.rd.only k (fun f => f) (fun _ f => f.elim), Only.blk k h.blk (fun f => f), ownN_stay h.smp k, h.only.trans k (fun _ _ f => f.elim), Nat.le_trans h.size k.size⟩
theorem L2.add {w w8 w9 wc : World} {R pos n Z : Nat} {v lv sv u : Value} {B : List UInt8} {sacc ps : Smps} (h : L2 w w8 w9 wc R v lv sv B sacc (B.drop pos)) (h8 : w8.heap.size ≤ w9.heap.size) (hR : R < w9.heap.size) (hZ : R < Z)
  (hb : Blk wc R [v, .int .i64 (pos : Int), .bool false] 73) (hp : pos ≤ B.length) (hn : n ≤ (B.drop pos).length) (hu : SmpAt wc Z u ps) (hl : sacc.length + ps.length ≤ 1000000) :
  (wc.setCell ⟨R, 1, none⟩ (.int .i64 ((pos : Int) + (n : Int)))).cell? ⟨w9.heap.size, 1, none⟩ = some sv ∧
  ∃ v' we, Hid ((Builtin.append_ #[50, 50] 0 #[sv, u]).run Tryz.prog (wc.setCell ⟨R, 1, none⟩ (.int .i64 ((pos : Int) + (n : Int)))) = .ok v' we) ∧ Blk we w9.heap.size [lv, sv] 52 ∧
   L2 w w8 w9 (we.setCell ⟨w9.heap.size, 1, none⟩ v') R v lv v' B (sacc ++ ps) ((B.drop pos).drop n) := by
 obtain ⟨_, _, _, _, hsrc, hkc, hle, _⟩ := h.rd
 have hpn : pos + n ≤ B.length := by rw [List.length_drop] at hn; omega
 have r1 := RdD.step0 hb hsrc hkc hle hpn rfl
 rw [Int.natCast_add] at r1
 have o1 : Only (fun j => j = R) wc (wc.setCell ⟨R, 1, none⟩ (.int .i64 ((pos : Int) + (n : Int)))) := (Only.refl (fun j => j = R) wc).setCell (p := ⟨R, 1, none⟩) (fun _ => rfl) _
 generalize wc.setCell ⟨R, 1, none⟩ (.int .i64 ((pos : Int) + (n : Int))) = wd at r1 o1
 have hbd : Blk wd w9.heap.size [lv, sv] 52 := Only.blk o1 h.blk (fun e => by omega)
 have hsd : SmpAt wd (w9.heap.size + 1) sv sacc := ownN_only h.smp o1 (fun j hj e => by have := (ownN_lt h.smp hj).1; omega)
 have hud : SmpAt wd Z u ps := ownN_only hu o1 (fun j hj e => by have := (ownN_lt hu hj).1; omega)
 have hzd : w9.heap.size + 1 ≤ wd.heap.size := Nat.le_trans h.size o1.size
 have hod : Only (fun j => j = R) w8 wd := h.only.trans o1 (fun _ _ e => e)
 obtain ⟨v', we, hr, h4, hg, _⟩ := smp_append hsd hud.src hl hzd
 have oe : Only (fun j => sv.ownBlock = some j) wd we := (Only.refl _ wd).grown hg (fun j hj _ => hj)
 have hge : ∀ j, sv.ownBlock = some j → w9.heap.size + 1 ≤ j := fun j hj => (ownN_lt hsd hj).1
 have hbe : Blk we w9.heap.size [lv, sv] 52 := Only.blk oe hbd (fun e => by have := hge _ e; omega)
 have hoe : Only (fun j => j = R) w8 we := hod.trans oe (fun j hj e => by have := hge _ e; omega)
 have hle' : w.heap.size ≤ w9.heap.size := by omega
 have re : RdD w we R v B (some (B.drop (pos + n))) := r1.only oe (fun e => by have := hge _ e; omega) (fun j e => by have := hge _ e; omega)
 have of : Only (fun j => j = w9.heap.size) we (we.setCell ⟨w9.heap.size, 1, none⟩ v') := (Only.refl (fun j => j = w9.heap.size) we).setCell (p := ⟨w9.heap.size, 1, none⟩) (fun _ => rfl) _
 refine ⟨hbd.cell 1 rfl, v', we, hid hr, hbe, ?_, ?_, ?_, ?_, ?_⟩
 ·rw [List.drop_drop]
  exact re.only of (fun e => by omega) (fun j e => by omega)
 ·exact hbe.set 1 v'
 ·exact ownN_only h4 of (fun j hj e => by have := (ownN_lt h4 hj).1; omega)
 ·exact hoe.trans of (fun j hj e => by omega)
 ·exact Nat.le_trans hzd (Nat.le_trans oe.size of.size)
def Under (xs : List SV) (Z : Nat) : Prop := ∀ y ∈ xs, ∀ k, y.has k → k < Z
theorem SerAt.under {w : World} {B : Nat} {v : Value} {xs : List SV} (h : SerAt w B v xs) : Under xs w.heap.size := fun y hy k hk => by
 rcases hk with hk | hk
 ·exact (ownN_lt (h.lab y hy) hk).2
 ·exact (ownN_lt (h.smp y hy) hk).2
theorem L2.fin {w w8 w9 wr : World} {R Z : Nat} {v lv sv ov : Value} {B : List UInt8} {labs : N.Labs} {sacc : Smps} {rest : List UInt8} {xs : List SV} (h : L2 w w8 w9 wr R v lv sv B sacc rest) (h8 : w8.heap.size ≤ w9.heap.size) (hZ : R + 1 ≤ Z) (hZ8 : Z ≤ w8.heap.size)
  (hser : SerAt w8 (R + 1) ov xs) (hun : Under xs Z) (hlab : LabAt w8 Z lv labs) (hl : xs.length ≤ 100000) (hR : w.heap.size ≤ R) :
  ∃ v' wf, Hid ((Builtin.append_ #[22, 22] 0 #[ov, .slice (some ⟨wr.heap.size, 0, none⟩) 1 1]).run Tryz.prog (wr.alloc (.cells #[lv, sv] 52)) = .ok v' wf) ∧ SerAt wf (R + 1) v' (xs ++ [⟨lv, sv, labs, sacc⟩]) ∧ RdD w wf R v B (some rest) := by
 have hs1 : SerAt wr (R + 1) ov xs := hser.only h.only (fun j hj _ e => by omega)
 have hl1 : LabAt wr Z lv labs := ownN_only hlab h.only (fun j hj e => by have := (ownN_lt hlab hj).1; omega)
 have hsz := h.size
 obtain ⟨v', wf, h1, h2, h3⟩ := serL_app hs1 (by omega) hl ⟨lv, sv, labs, sacc⟩ (ownN_base hl1 hZ) (ownN_base h.smp (by omega)) (fun y hy k hk hx => by
  have g1 := hun y hy k hk
  rcases hx with hx | hx
  ·have := (ownN_lt hl1 hx).1; omega
  ·have := (ownN_lt h.smp hx).1; omega)
 refine ⟨v', wf, h1, h2, h.rd.only h3 (fun e => ?_) (fun j e => ?_)⟩
 ·have := (ownN_lt hs1.row e).1; omega
 ·have := (ownN_lt hs1.row e).1; omega
end Go.Proofs.YthpkkhmplkmdnaaGreatDoor.K
