/-
  Wrread.
-/
import Derived.Test.YthpkkhmplkmdnaaGreatDoorQ16
import Derived.Test.YthpkkhmplkmdnaaGreatDoorQ13
namespace Go.Proofs.YthpkkhmplkmdnaaGreatDoor.V
open Go.RowKit Go.Proofs.Lys
set_option linter.unusedVariables false
structure RRIn (w : World) (B : Nat) (vb : Value) (L : List Bool) (wr : World) (t : Nat) (sv : Value) (acc : List Int) : Prop where
 rd : RrAt wr B vb L t
 row : wr.ownsRow w.heap.size 3 1 sv acc.length (acc.map (Value.int .i64))
 kept : Kept w wr
 new : w.heap.size ≤ B
 vnew : ∀ j, vb.ownBlock = some j → w.heap.size ≤ j
theorem RRIn.read {w wr w' : World} {B t t' : Nat} {vb sv : Value} {L : List Bool} {acc : List Int} (h : RRIn w B vb L wr t sv acc) (ho : Only (· = B) wr w') (hr : RrAt w' B vb L t') : RRIn w B vb L w' t' sv acc :=
 ⟨hr, own_only h.row ho (fun j hj e => (own_typed h.row hj).ne h.rd.blk.typed (by decide) e), h.kept.trans ho (fun j hj e => by have := h.new; omega), h.new, h.vnew⟩
theorem RRIn.stay {w wr w' : World} {B t : Nat} {vb sv : Value} {L : List Bool} {acc : List Int} (h : RRIn w B vb L wr t sv acc) (ho : Kept wr w') : RRIn w B vb L w' t sv acc :=
 ⟨h.rd.only ho (fun f => f) (fun _ _ f => f), own_only h.row ho (fun _ _ f => f), h.kept.trans ho (fun _ _ f => f), h.new, h.vnew⟩
theorem RRIn.add {w wr w' : World} {B t : Nat} {vb sv sv' : Value} {L : List Bool} {acc acc' : List Int} (h : RRIn w B vb L wr t sv acc) (ho : Only (fun k => sv.ownBlock = some k) wr w') (hr : w'.ownsRow w.heap.size 3 1 sv' acc'.length (acc'.map (Value.int .i64))) : RRIn w B vb L w' t sv' acc' :=
 ⟨h.rd.only ho (fun e => (own_typed h.row e).ne h.rd.blk.typed (by decide) rfl) (fun j hj e => (own_typed h.row e).ne (own_typed h.rd.own hj) (by decide) rfl), hr, h.kept.trans ho (fun j hj e => by have := (h.row.lt j e).1; omega), h.new, h.vnew⟩
theorem getN_at (l : List Bool) (t N : Nat) (ht : t ≤ l.length) :
  (l.length - t < N ∧ getN (l.drop t) N = none) ∨ (t + N ≤ l.length ∧ getN (l.drop t) N = some (valL ((l.drop t).take N), l.drop (t + N))) := by
 have hl : (l.drop t).length = l.length - t := by rw [List.length_drop]
 by_cases h : t + N ≤ l.length
 ·right
  refine ⟨h, ?_⟩
  unfold getN
  rw [if_pos (by omega), List.drop_drop]
 ·left
  refine ⟨by omega, ?_⟩
  unfold getN
  rw [if_neg (by omega)]
set_option maxRecDepth 100000 in
set_option maxHeartbeats 12800000 in
theorem rread_any (w : World) (v : Value) (bs : List UInt8) (n : Int) (hs : SrcOf w v (bs.map bV)) (hl : bs.length ≤ 100000) : Calls Tryz.prog 78 #[v, .int .i64 n] w (UnpackPost w bs n) := by
 by_cases hn1 : 120 < n
 ·go_enter Tryz.func78, Tryz.ntmps78
  go_wp2_with fail
  go_ret2
  exact ⟨Only.refl _ w, [], _, 2, rfl, .inl ⟨hn1, rfl, rfl⟩, World.ownsRow_nil _ _ _ _⟩
 ·by_cases hn2 : n < 0
  ·go_enter Tryz.func78, Tryz.ntmps78
   go_wp2_with fail
   go_ret2
   exact ⟨Only.refl _ w, [], _, 1, rfl, .inr (.inl ⟨hn2, rfl, rfl⟩), World.ownsRow_nil _ _ _ _⟩
  ·obtain ⟨n, rfl⟩ : ∃ N : Nat, n = (N : Int) := ⟨n.toNat, by omega⟩
   have hn : n ≤ 120 := by omega
   obtain ⟨a0, c0, e0⟩ := hs.len
   rw [List.length_map] at e0
   obtain ⟨L, hL⟩ : ∃ L, bs.length = L := ⟨_, rfl⟩
   have HS := hid hs
   have ho := of_any w v bs hs (by omega)
   rw [hL] at e0 hl
   subst e0
   have HL := hid hL
   clear hL hs hn1 hn2
   have hn1 : ¬ (120 : Int) < (n : Int) := by omega
   go_enter Tryz.func78, Tryz.ntmps78
   go_wp2_with fail
   refine ho.mono ?_
   rintro e w1 ⟨vb, rfl, hown, k1⟩
   clear ho
   obtain ⟨va, vc, hvb⟩ := own_slice hown
   have HI : Hid (RRIn w w1.heap.size vb (unpackL bs) (w1.alloc (.cells #[vb, .int .i64 0] 146)) 0 (.slice none 0 0) []) := ⟨⟨Blk.new w1 [vb, .int .i64 0] _, by rw [unpackL_length]; exact own_base (hown.alloc _) (Nat.zero_le _), by rw [unpackL_length]; have := HL.out; omega, by omega⟩, World.ownsRow_nil _ _ _ _, k1.alloc _, k1.size, fun j hj => (hown.lt j hj).1⟩
   subst hvb
   clear hown k1
   go_wp2_with fail
   generalize w1.alloc (.cells #[Value.slice va (8 * bs.length) vc, .int .i64 0] 146) = w2 at HI ⊢
   generalize Value.slice va (8 * bs.length) vc = vb at HI ⊢
   generalize w1.heap.size = B at HI ⊢
   go_loopw [7, 8, 9, 10] (fun sv wz wt i wr => ∃ (k n' : Nat) (acc : List Int) (P z t : Nat), k ≤ n ∧ acc.length = k ∧ wz = .int .i64 (z : Int) ∧ wt = .int .i64 (t : Int) ∧ i = .int .i64 (k : Int) ∧ RRIn w B vb (unpackL bs) wr n' sv acc ∧ z ≤ 31 ∧ z + t < 64 ∧ P < 18446744073709551616 ∧ readT n (unpackL bs) 0 0 0 [] = readT (n - k) ((unpackL bs).drop n') P z t acc ∧ (0 < k → acc.getD (k - 1) 0 = wrap64 (P : Int))) (fun _ _ _ i _ => n - (intOf i).toNat)
   case atStart => exact ⟨0, 0, [], 0, 0, 0, by omega, rfl, rfl, rfl, rfl, HI.out, by decide, by decide, by decide, by simp, fun h => absurd h (by decide)⟩
   case round =>
    obtain ⟨k, n', acc, P, z, t, hk, hacc, rfl, rfl, rfl, hR, hz31, hzt, hPl, hT, hP⟩ := hrel
    have HR := hid hR
    clear hR HI
    by_cases hlt : k < n
    ·obtain ⟨f, hf⟩ : ∃ f, n - k = f + 1 := ⟨n - k - 1, by omega⟩
     rw [hf] at hT
     by_cases hk0 : k = 0
     ·have ea : acc = [] := List.length_eq_zero_iff.1 (by omega)
      subst ea
      rw [readT_first] at hT
      have hk0' : ((k : Int) == 0) = true := by simp [hk0]
      have HK0 := hid hk0
      clear hk0 hacc hP hPl
      rcases getN_at (unpackL bs) n' 64 HR.out.rd.top with ⟨hN, hg⟩ | ⟨hN, hg⟩
      ·have HT : Hid (readT n (unpackL bs) 0 0 0 [] = none) := by show _ = _; rw [hT, hg]; rfl
       have hc := rget_few HR.out.rd 64 hN (by omega)
       clear hT hg hN
       go_wp2_with fail
       refine hc.mono ?_
       rintro e w3 ⟨rfl, k3⟩
       clear hc
       go_wp2_with fail
       go_ret2
       exact ⟨HR.out.kept.trans k3 (fun _ _ f => f), [], _, 5, rfl, .inr (.inr ⟨by omega, by omega, .inl ⟨by rw [Int.toNat_natCast]; exact HT.out, rfl, rfl⟩⟩), World.ownsRow_nil _ _ _ _⟩
      ·have hc := rget_any HR.out.rd 64 hN (by omega)
       have hXl := hid (val_take_lt ((unpackL bs).drop n') 64 (by omega))
       obtain ⟨X, hX⟩ : ∃ X, valL (((unpackL bs).drop n').take 64) = X := ⟨_, rfl⟩
       rw [hX] at hc hg hXl
       obtain ⟨XW, hXW⟩ : ∃ x, wrap64 (X : Int) = x := ⟨_, rfl⟩
       rw [hXW] at hc
       have HE3 : Hid (readT n (unpackL bs) 0 0 0 [] = readT (n - (k + 1)) ((unpackL bs).drop (n' + 64)) X z t ([] ++ [XW])) := by show _ = _; rw [hT, hg, ← hXW, show n - (k + 1) = f by omega]; rfl
       clear hT hg hN hX
       go_wp2_with fail
       refine hc.mono ?_
       rintro e w3 ⟨rfl, k3, r3⟩
       clear hc
       have HR3 := hid (HR.out.read k3 r3)
       obtain ⟨g, cap, w4, Hr, hown4, hon4⟩ := own_num HR3.out.row HR3.out.kept.size (by simp) XW
       have HR4 := hid (HR3.out.add hon4 hown4)
       have HE1 : Hid (([] ++ [XW]).length = k + 1) := one_len XW k HK0.out
       have HE2 : Hid (([] ++ [XW]).getD (k + 1 - 1) 0 = wrap64 (X : Int)) := by show _ = _; rw [hXW]; exact one_get XW k HK0.out
       generalize ([] ++ [XW] : List Int) = ac at HR4 HE1 HE2 HE3
       clear hown4 hon4 hXW
       go_wp2_with (at_builtin; refine wpList_append_run rfl _ _ _ rfl rfl rfl Hr ?_)
       go_roundw
       case rel => exact ⟨k + 1, n' + 64, ac, X, z, t, by omega, HE1.out, rfl, rfl, by go_num, HR4.out, hz31, hzt, hXl.out, HE3.out, fun _ => HE2.out⟩
       case measure => simp [intOf]; omega
     ·have hk0' : ((k : Int) == 0) = false := by simp; omega
      have ha : acc ≠ [] := fun e => by rw [e] at hacc; simp at hacc; omega
      rw [readT_next ha] at hT
      have HTX := hid hT
      obtain ⟨m, hm⟩ : ∃ m, k = m + 1 := ⟨k - 1, by omega⟩
      have hmi : (k : Int) - 1 = (m : Int) := by omega
      have hml : m < k := by omega
      have HP : Hid (acc.getD m 0 = wrap64 (P : Int)) := hid (by have := hP (by omega); rw [hm, Nat.add_sub_cancel] at this; exact this)
      have HPl := hid hPl
      have hPu := u_wrap64 hPl
      obtain ⟨PW, hPW⟩ : ∃ x, wrap64 (P : Int) = x := ⟨_, rfl⟩
      rw [hPW] at hPu HP
      have HPW := hid hPW
      obtain ⟨gg, cc, hsv⟩ := own_some HR.out.row (by omega)
      rw [hacc] at hsv
      subst hsv
      have hacc' := hid hacc
      have hold : ∀ {W : World}, W.ownsRow w.heap.size 3 1 (.slice (some ⟨gg, 0, none⟩) k cc) acc.length (acc.map (Value.int .i64)) → W.cell? ⟨gg, m, none⟩ = some (.int .i64 PW) := fun {W} h => by
       have hl := hacc'.out
       have hm2 : m < acc.length := by omega
       have h2 := HP.out
       rw [List.getD_eq_getElem?_getD, List.getElem?_eq_getElem hm2] at h2
       have h3 : acc[m] = PW := h2
       have h4 := int_cells_at (own_src h) h3
       rw [Nat.zero_add] at h4
       exact h4
      clear hm hT hP ha hk0 hacc hPl hPW
      rcases drop_bit (unpackL bs) n' with ⟨h1, a, hda, hva⟩ | ⟨h1, hda⟩
      ·have hc := rget_any HR.out.rd 1 (by omega) (by decide)
       rw [hva] at hc
       cases a with
       | false =>
        rw [show wrap64 ((false.toNat : Nat) : Int) = 0 by decide +kernel] at hc
        have HNX : Hid (readT n (unpackL bs) 0 0 0 [] = readT (n - (k + 1)) ((unpackL bs).drop (n' + 1)) P z t (acc ++ [wrap64 ((P : Nat) : Int)])) := by
         show _ = _
         rw [HTX.out, hda, show n - (k + 1) = f by omega]
         show readT f _ (P ^^^ 0) z t (acc ++ [wrap64 ((P ^^^ 0 : Nat) : Int)]) = _
         rw [Nat.xor_zero]
        have hYl := HPl
        clear hda hva
        go_wp2_with fail
        refine hc.mono ?_
        rintro e w3 ⟨rfl, k3, r3⟩
        clear hc
        have HR3 := hid (HR.out.read k3 r3)
        clear k3 r3
        have hcell : w3.cell? ⟨gg, m, none⟩ = some (.int .i64 PW) := hold HR3.out.row
        have hal : acc.length ≤ 1000000 := by have := hacc'.out; omega
        obtain ⟨g, cap, w4, Hr, hown4, hon4⟩ := own_num HR3.out.row HR3.out.kept.size hal PW
        rw [← HPW.out] at hown4
        have HR4 := hid (HR3.out.add hon4 hown4)
        have HA1 : Hid ((acc ++ [wrap64 ((P : Nat) : Int)]).length = k + 1) := snoc_len _ _ _ hacc'.out
        have HA2 : Hid ((acc ++ [wrap64 ((P : Nat) : Int)]).getD (k + 1 - 1) 0 = wrap64 ((P : Nat) : Int)) := snoc_get _ _ _ hacc'.out
        rw [hacc'.out] at Hr HR4
        clear hown4 hon4 hal
        generalize (acc ++ [wrap64 ((P : Nat) : Int)]) = ac at HR4 HA1 HA2 HNX
        go_wp2_with (at_builtin; refine wpList_append_run rfl _ _ _ rfl rfl rfl Hr ?_)
        go_roundw
        case rel => exact ⟨k + 1, n' + 1, ac, P, z, t, by omega, HA1.out, rfl, rfl, by go_num, HR4.out, hz31, hzt, hYl.out, HNX.out, fun _ => HA2.out⟩
        case measure => simp [intOf]; omega
       | true =>
        rw [show wrap64 ((true.toNat : Nat) : Int) = 1 by decide +kernel] at hc
        have HDA := hid hda
        clear hda hva
        go_wp2_with fail
        refine hc.mono ?_
        rintro e w3 ⟨rfl, k3, r3⟩
        clear hc
        have HR3 := hid (HR.out.read k3 r3)
        clear k3 r3
        rcases drop_bit (unpackL bs) (n' + 1) with ⟨h2, c, hdc, hvc⟩ | ⟨h2, hdc⟩
        ·have hc := rget_any HR3.out.rd 1 (by omega) (by decide)
         rw [hvc] at hc
         cases c with
         | false =>
          rw [show wrap64 ((false.toNat : Nat) : Int) = 0 by decide +kernel] at hc
          have HCH : Hid (chgR z t ((unpackL bs).drop n') = bodyR z t ((unpackL bs).drop (n' + 1 + 1))) := by show _ = _; rw [HDA.out, hdc]; rfl
          clear hdc hvc
          go_wp2_with fail
          refine hc.mono ?_
          rintro e w4 ⟨rfl, k4, r4⟩
          clear hc
          have HR4b := hid (HR3.out.read k4 r4)
          clear k4 r4
          obtain ⟨C, hC⟩ : ∃ C, 64 - z - t = C := ⟨_, rfl⟩
          have hCi : (64 : Int) - (z : Int) - (t : Int) = (C : Int) := by omega
          have hC64 : C ≤ 64 := by omega
          have hbody : bodyR z t ((unpackL bs).drop (n' + 1 + 1)) = (getN ((unpackL bs).drop (n' + 1 + 1)) C).map fun y => (((y.1 <<< t) % 18446744073709551616, z, t), y.2) := by unfold bodyR; rw [hC]
          clear hC
          rcases getN_at (unpackL bs) (n' + 1 + 1) C HR4b.out.rd.top with ⟨hN, hg⟩ | ⟨hN, hg⟩
          ·have HT : Hid (readT n (unpackL bs) 0 0 0 [] = none) := by show _ = _; rw [HTX.out, HCH.out, hbody, hg]; rfl
           have hc := rget_few HR4b.out.rd C hN (by omega)
           clear hN hg hbody
           go_wp2_with fail
           refine hc.mono ?_
           rintro e w51 ⟨rfl, k51⟩
           clear hc
           go_wp2_with fail
           go_ret2
           exact ⟨HR4b.out.kept.trans k51 (fun _ _ f => f), [], _, 5, rfl, .inr (.inr ⟨by omega, by omega, .inl ⟨by rw [Int.toNat_natCast]; exact HT.out, rfl, rfl⟩⟩), World.ownsRow_nil _ _ _ _⟩
          ·have hc := rget_any HR4b.out.rd C hN hC64
           have hVl := val_take_lt ((unpackL bs).drop (n' + 1 + 1)) C hC64
           obtain ⟨V, hVe⟩ : ∃ V, valL (((unpackL bs).drop (n' + 1 + 1)).take C) = V := ⟨_, rfl⟩
           rw [hVe] at hg hc hVl
           have hVu := u_wrap64 hVl
           obtain ⟨VW, hVW⟩ : ∃ x, wrap64 (V : Int) = x := ⟨_, rfl⟩
           rw [hVW] at hVu hc
           obtain ⟨X, hXe⟩ : ∃ X, (V <<< t) % 18446744073709551616 = X := ⟨_, rfl⟩
           have hsh : IntKind.u64.wrap ((V : Int) * 2 ^ t) = (X : Int) := by rw [← hXe]; exact shl_int V t
           have hXl : X < 18446744073709551616 := by rw [← hXe]; exact Nat.mod_lt _ (by decide)
           have hxo : bits .xor .u64 (P : Int) (X : Int) = ((P ^^^ X : Nat) : Int) := u64_xor_nat _ _ HPl.out hXl
           have hYl : Hid (P ^^^ X < 18446744073709551616) := Nat.xor_lt_two_pow (n := 64) HPl.out hXl
           have HNX : Hid (readT n (unpackL bs) 0 0 0 [] = readT (n - (k + 1)) ((unpackL bs).drop (n' + 1 + 1 + C)) (P ^^^ X) z t (acc ++ [wrap64 ((P ^^^ X : Nat) : Int)])) := by
            show _ = _
            rw [HTX.out, HCH.out, hbody, hg, ← hXe, show n - (k + 1) = f by omega]
            rfl
           obtain ⟨Y, hY⟩ : ∃ Y, P ^^^ X = Y := ⟨_, rfl⟩
           rw [hY] at hxo hYl HNX
           clear hg hN hVe hVW hXe hXl hY hVl hbody
           go_wp2_with fail
           refine hc.mono ?_
           rintro e w52 ⟨rfl, k52, r52⟩
           clear hc
           have HR52 := hid (HR4b.out.read k52 r52)
           clear k52 r52
           have hcell : w52.cell? ⟨gg, m, none⟩ = some (.int .i64 PW) := hold HR52.out.row
           have hal : acc.length ≤ 1000000 := by have := hacc'.out; omega
           obtain ⟨g, cap, w53, Hr, hown4, hon4⟩ := own_num HR52.out.row HR52.out.kept.size hal (wrap64 ((Y : Nat) : Int))
           have HR4 := hid (HR52.out.add hon4 hown4)
           have HA1 : Hid ((acc ++ [wrap64 ((Y : Nat) : Int)]).length = k + 1) := snoc_len _ _ _ hacc'.out
           have HA2 : Hid ((acc ++ [wrap64 ((Y : Nat) : Int)]).getD (k + 1 - 1) 0 = wrap64 ((Y : Nat) : Int)) := snoc_get _ _ _ hacc'.out
           rw [hacc'.out] at Hr HR4
           clear hown4 hon4 hal
           generalize (acc ++ [wrap64 ((Y : Nat) : Int)]) = ac at HR4 HA1 HA2 HNX
           go_wp2_with (at_builtin; refine wpList_append_run rfl _ _ _ rfl rfl rfl Hr ?_)
           go_roundw
           case rel => exact ⟨k + 1, n' + 1 + 1 + C, ac, Y, z, t, by omega, HA1.out, rfl, rfl, by go_num, HR4.out, hz31, hzt, hYl.out, HNX.out, fun _ => HA2.out⟩
           case measure => simp [intOf]; omega
         | true =>
          rw [show wrap64 ((true.toNat : Nat) : Int) = 1 by decide +kernel] at hc
          have HCH : Hid (chgR z t ((unpackL bs).drop n') = newR ((unpackL bs).drop (n' + 1 + 1))) := by show _ = _; rw [HDA.out, hdc]; rfl
          clear hdc hvc
          go_wp2_with fail
          refine hc.mono ?_
          rintro e w4 ⟨rfl, k4, r4⟩
          clear hc
          have HR4b := hid (HR3.out.read k4 r4)
          clear k4 r4
          rcases getN_at (unpackL bs) (n' + 1 + 1) 5 HR4b.out.rd.top with ⟨hN, hg⟩ | ⟨hN, hg⟩
          ·have HT : Hid (readT n (unpackL bs) 0 0 0 [] = none) := by show _ = _; rw [HTX.out, HCH.out]; unfold newR; rw [hg]; rfl
           have hc := rget_few HR4b.out.rd 5 hN (by omega)
           have hN6 : (unpackL bs).length - (n' + 1 + 1) < 6 := by omega
           clear hN hg
           go_wp2_with fail
           refine hc.mono ?_
           rintro e w5 ⟨rfl, k5⟩
           clear hc
           have HR5 := hid (HR4b.out.stay k5)
           have hc := rget_few HR5.out.rd 6 hN6 (by omega)
           clear k5 hN6
           go_wp2_with fail
           refine hc.mono ?_
           rintro e w6 ⟨rfl, k6⟩
           clear hc
           go_wp2_with fail
           go_ret2
           exact ⟨HR5.out.kept.trans k6 (fun _ _ f => f), [], _, 5, rfl, .inr (.inr ⟨by omega, by omega, .inl ⟨by rw [Int.toNat_natCast]; exact HT.out, rfl, rfl⟩⟩), World.ownsRow_nil _ _ _ _⟩
          ·have hc := rget_any HR4b.out.rd 5 hN (by omega)
           have hA5 := val_take_pow ((unpackL bs).drop (n' + 1 + 1)) 5
           obtain ⟨A, hA⟩ : ∃ A, valL (((unpackL bs).drop (n' + 1 + 1)).take 5) = A := ⟨_, rfl⟩
           rw [hA] at hc hg hA5
           have hA31 : A ≤ 31 := by omega
           have hAw : wrap64 (A : Int) = (A : Int) := by unfold wrap64; omega
           rw [hAw] at hc
           have HG := hid hg
           clear hg hN hA hA5 hAw
           go_wp2_with fail
           refine hc.mono ?_
           rintro e w5 ⟨rfl, k5, r5⟩
           clear hc
           have HR5 := hid (HR4b.out.read k5 r5)
           clear k5 r5
           rcases getN_at (unpackL bs) (n' + 1 + 1 + 5) 6 HR5.out.rd.top with ⟨hN, hg⟩ | ⟨hN, hg⟩
           ·have HT : Hid (readT n (unpackL bs) 0 0 0 [] = none) := by show _ = _; rw [HTX.out, HCH.out]; unfold newR; rw [HG.out, Option.bind_some, hg]; rfl
            have hc := rget_few HR5.out.rd 6 hN (by omega)
            clear hN hg
            go_wp2_with fail
            refine hc.mono ?_
            rintro e w6 ⟨rfl, k6⟩
            clear hc
            go_wp2_with fail
            go_ret2
            exact ⟨HR5.out.kept.trans k6 (fun _ _ f => f), [], _, 5, rfl, .inr (.inr ⟨by omega, by omega, .inl ⟨by rw [Int.toNat_natCast]; exact HT.out, rfl, rfl⟩⟩), World.ownsRow_nil _ _ _ _⟩
           ·have hc := rget_any HR5.out.rd 6 hN (by omega)
            have hM6 := val_take_pow ((unpackL bs).drop (n' + 1 + 1 + 5)) 6
            obtain ⟨M, hM⟩ : ∃ M, valL (((unpackL bs).drop (n' + 1 + 1 + 5)).take 6) = M := ⟨_, rfl⟩
            rw [hM] at hc hg hM6
            have hM63 : M ≤ 63 := by omega
            have hMw : wrap64 (M : Int) = (M : Int) := by unfold wrap64; omega
            rw [hMw] at hc
            have HG6 := hid hg
            clear hg hN hM hM6 hMw
            go_wp2_with fail
            refine hc.mono ?_
            rintro e w6 ⟨rfl, k6, r6⟩
            clear hc
            have HR6 := hid (HR5.out.read k6 r6)
            clear k6 r6
            by_cases hAM : 63 < A + M
            ·have HT : Hid (readT n (unpackL bs) 0 0 0 [] = none) := by show _ = _; rw [HTX.out, HCH.out]; unfold newR; rw [HG.out, Option.bind_some, HG6.out, Option.bind_some, if_pos hAM]; rfl
             have hneg : (64 : Int) - (A : Int) - (M : Int) - 1 < 0 := by omega
             go_wp2_with fail
             go_ret2
             exact ⟨HR6.out.kept, [], _, 5, rfl, .inr (.inr ⟨by omega, by omega, .inl ⟨by rw [Int.toNat_natCast]; exact HT.out, rfl, rfl⟩⟩), World.ownsRow_nil _ _ _ _⟩
            ·obtain ⟨T, hT⟩ : ∃ T, 63 - A - M = T := ⟨_, rfl⟩
             have hTi : (64 : Int) - (A : Int) - (M : Int) - 1 = (T : Int) := by omega
             have hAT : A + T < 64 := by omega
             have hT0 : ¬ (T : Int) < 0 := by omega
             have HCH3 : Hid (chgR z t ((unpackL bs).drop n') = bodyR A T ((unpackL bs).drop (n' + 1 + 1 + 5 + 6))) := by show _ = _; rw [HCH.out]; unfold newR; rw [HG.out, Option.bind_some, HG6.out, Option.bind_some, if_neg hAM, hT]
             clear hT hAM
             obtain ⟨C, hC⟩ : ∃ C, 64 - A - T = C := ⟨_, rfl⟩
             have hCi : (64 : Int) - (A : Int) - (T : Int) = (C : Int) := by omega
             have hC64 : C ≤ 64 := by omega
             have hbody : bodyR A T ((unpackL bs).drop (n' + 1 + 1 + 5 + 6)) = (getN ((unpackL bs).drop (n' + 1 + 1 + 5 + 6)) C).map fun y => (((y.1 <<< T) % 18446744073709551616, A, T), y.2) := by unfold bodyR; rw [hC]
             clear hC
             rcases getN_at (unpackL bs) (n' + 1 + 1 + 5 + 6) C HR6.out.rd.top with ⟨hN, hg⟩ | ⟨hN, hg⟩
             ·have HT : Hid (readT n (unpackL bs) 0 0 0 [] = none) := by show _ = _; rw [HTX.out, HCH3.out, hbody, hg]; rfl
              have hc := rget_few HR6.out.rd C hN (by omega)
              clear hN hg hbody
              go_wp2_with fail
              refine hc.mono ?_
              rintro e w71 ⟨rfl, k71⟩
              clear hc
              go_wp2_with fail
              go_ret2
              exact ⟨HR6.out.kept.trans k71 (fun _ _ f => f), [], _, 5, rfl, .inr (.inr ⟨by omega, by omega, .inl ⟨by rw [Int.toNat_natCast]; exact HT.out, rfl, rfl⟩⟩), World.ownsRow_nil _ _ _ _⟩
             ·have hc := rget_any HR6.out.rd C hN hC64
              have hVl := val_take_lt ((unpackL bs).drop (n' + 1 + 1 + 5 + 6)) C hC64
              obtain ⟨V, hVe⟩ : ∃ V, valL (((unpackL bs).drop (n' + 1 + 1 + 5 + 6)).take C) = V := ⟨_, rfl⟩
              rw [hVe] at hg hc hVl
              have hVu := u_wrap64 hVl
              obtain ⟨VW, hVW⟩ : ∃ x, wrap64 (V : Int) = x := ⟨_, rfl⟩
              rw [hVW] at hVu hc
              obtain ⟨X, hXe⟩ : ∃ X, (V <<< T) % 18446744073709551616 = X := ⟨_, rfl⟩
              have hsh : IntKind.u64.wrap ((V : Int) * 2 ^ T) = (X : Int) := by rw [← hXe]; exact shl_int V T
              have hXl : X < 18446744073709551616 := by rw [← hXe]; exact Nat.mod_lt _ (by decide)
              have hxo : bits .xor .u64 (P : Int) (X : Int) = ((P ^^^ X : Nat) : Int) := u64_xor_nat _ _ HPl.out hXl
              have hYl : Hid (P ^^^ X < 18446744073709551616) := Nat.xor_lt_two_pow (n := 64) HPl.out hXl
              have HNX : Hid (readT n (unpackL bs) 0 0 0 [] = readT (n - (k + 1)) ((unpackL bs).drop (n' + 1 + 1 + 5 + 6 + C)) (P ^^^ X) A T (acc ++ [wrap64 ((P ^^^ X : Nat) : Int)])) := by
               show _ = _
               rw [HTX.out, HCH3.out, hbody, hg, ← hXe, show n - (k + 1) = f by omega]
               rfl
              obtain ⟨Y, hY⟩ : ∃ Y, P ^^^ X = Y := ⟨_, rfl⟩
              rw [hY] at hxo hYl HNX
              clear hg hN hVe hVW hXe hXl hY hVl hbody
              go_wp2_with fail
              refine hc.mono ?_
              rintro e w72 ⟨rfl, k72, r72⟩
              clear hc
              have HR72 := hid (HR6.out.read k72 r72)
              clear k72 r72
              have hcell : w72.cell? ⟨gg, m, none⟩ = some (.int .i64 PW) := hold HR72.out.row
              have hal : acc.length ≤ 1000000 := by have := hacc'.out; omega
              obtain ⟨g, cap, w73, Hr, hown4, hon4⟩ := own_num HR72.out.row HR72.out.kept.size hal (wrap64 ((Y : Nat) : Int))
              have HR4 := hid (HR72.out.add hon4 hown4)
              have HA1 : Hid ((acc ++ [wrap64 ((Y : Nat) : Int)]).length = k + 1) := snoc_len _ _ _ hacc'.out
              have HA2 : Hid ((acc ++ [wrap64 ((Y : Nat) : Int)]).getD (k + 1 - 1) 0 = wrap64 ((Y : Nat) : Int)) := snoc_get _ _ _ hacc'.out
              rw [hacc'.out] at Hr HR4
              clear hown4 hon4 hal
              generalize (acc ++ [wrap64 ((Y : Nat) : Int)]) = ac at HR4 HA1 HA2 HNX
              go_wp2_with (at_builtin; refine wpList_append_run rfl _ _ _ rfl rfl rfl Hr ?_)
              go_roundw
              case rel => exact ⟨k + 1, n' + 1 + 1 + 5 + 6 + C, ac, Y, A, T, by omega, HA1.out, rfl, rfl, by go_num, HR4.out, hA31, hAT, hYl.out, HNX.out, fun _ => HA2.out⟩
              case measure => simp [intOf]; omega
        ·have HT : Hid (readT n (unpackL bs) 0 0 0 [] = none) := by show _ = _; rw [HTX.out, HDA.out, hdc]; rfl
         have hc := rget_few HR3.out.rd 1 (by omega) (by decide)
         clear hdc
         go_wp2_with fail
         refine hc.mono ?_
         rintro e w4 ⟨rfl, k4⟩
         clear hc
         go_wp2_with fail
         go_ret2
         exact ⟨HR3.out.kept.trans k4 (fun _ _ f => f), [], _, 5, rfl, .inr (.inr ⟨by omega, by omega, .inl ⟨by rw [Int.toNat_natCast]; exact HT.out, rfl, rfl⟩⟩), World.ownsRow_nil _ _ _ _⟩
      ·have HT : Hid (readT n (unpackL bs) 0 0 0 [] = none) := by show _ = _; rw [HTX.out, hda]; rfl
       have hc := rget_few HR.out.rd 1 (by omega) (by decide)
       clear hda
       go_wp2_with fail
       refine hc.mono ?_
       rintro e w3 ⟨rfl, k3⟩
       clear hc
       go_wp2_with fail
       go_ret2
       exact ⟨HR.out.kept.trans k3 (fun _ _ f => f), [], _, 5, rfl, .inr (.inr ⟨by omega, by omega, .inl ⟨by rw [Int.toNat_natCast]; exact HT.out, rfl, rfl⟩⟩), World.ownsRow_nil _ _ _ _⟩
    ·have ek : n - k = 0 := by omega
     rw [ek] at hT
     have HT : Hid (readT n (unpackL bs) 0 0 0 [] = some acc) := by show _ = _; rw [hT]; rfl
     have hp := rvalues_any wr _ acc (own_src HR.out.row) (by omega)
     obtain ⟨sa, sc, hsv⟩ := own_slice HR.out.row
     subst hsv
     clear hT ek hacc hP hPl
     go_wp2_with fail
     refine hp.mono ?_
     rintro e w3 ⟨k3, u, cs, x, rfl, hP, ho3⟩
     clear hp
     have hk3 : Kept w w3 := HR.out.kept.trans k3 (fun _ _ f => f)
     have HP := hid hP
     have HK3 := hid hk3
     have HO3 := hid (own_only HR.out.row k3 (fun _ _ f => f))
     by_cases hx : x = 0
     ·subst hx
      have c1 := bytes_str (own_src ho3)
      have c2 := bytes_str (HS.out.stay hk3)
      obtain ⟨ua, uc, hu⟩ := own_slice ho3
      subst hu
      have hse := str_eq cs bs
      generalize (⟨cs.toArray⟩ : ByteArray) = s1 at c1 hse
      generalize (⟨bs.toArray⟩ : ByteArray) = s2 at c2 hse
      by_cases heq : cs = bs
      ·have hs' : (s1.toList == s2.toList) = true := by rw [hse]; simp [heq]
       have HE := hid heq
       clear hse heq hP ho3 hk3
       go_wp2_with fail
       go_ret2
       exact ⟨HK3.out, acc, _, 0, rfl, .inr (.inr ⟨by omega, by omega, .inr ⟨acc, by rw [Int.toNat_natCast]; exact HT.out, .inr ⟨by rw [← HE.out]; exact HP.out, rfl, rfl⟩⟩⟩), HO3.out⟩
      ·have hs' : (s1.toList == s2.toList) = false := by rw [hse]; simp [heq]
       have HE := hid heq
       clear hse heq hP ho3 hk3
       go_wp2_with fail
       go_ret2
       exact ⟨HK3.out, [], _, 5, rfl, .inr (.inr ⟨by omega, by omega, .inr ⟨acc, by rw [Int.toNat_natCast]; exact HT.out, .inl ⟨fun h => HE.out (HP.out.inj h).1, rfl, rfl⟩⟩⟩), World.ownsRow_nil _ _ _ _⟩
     ·have hx' : (x == 0) = false := by simp [hx]
      clear hP ho3 hk3
      go_wp2_with fail
      go_ret2
      exact ⟨HK3.out, [], _, 5, rfl, .inr (.inr ⟨by omega, by omega, .inr ⟨acc, by rw [Int.toNat_natCast]; exact HT.out, .inl ⟨fun h => hx (HP.out.inj h).2, rfl, rfl⟩⟩⟩), World.ownsRow_nil _ _ _ _⟩
end Go.Proofs.YthpkkhmplkmdnaaGreatDoor.V
