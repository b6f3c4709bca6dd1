/-
  Srread.
-/
import Derived.Test.YtbhpmeeknbbmmaaQ18
import Derived.Test.YtbhpmeeknbbmmaaQ10

/-
  The document's own: times that are read.
-/
namespace Go.Proofs.Ytbhpmeeknbbmmaa.S
open Go.RowKit Go.Proofs.Lys
set_option linter.unusedVariables false

/-- The document's own reader and the times within ReadStamps. -/
structure RRIn (w : World) (B : Nat) (vb : Value) (L : List Bool) (wr : World) (t : Nat) (sv : Value) (acc : List Int) : Prop where
  rd : RrAt wr B vb L t
  row : wr.ownsRow w.heap.size 3 1 sv acc.length (acc.map (Value.int .i64))
  kept : Kept w wr
  new : w.heap.size ≤ B
  vnew : ∀ j, vb.ownBlock = some j → w.heap.size ≤ j
theorem RRIn.read {w wr w' : World} {B t t' : Nat} {vb sv : Value} {L : List Bool} {acc : List Int} (h : RRIn w B vb L wr t sv acc) (ho : Only (· = B) wr w') (hr : RrAt w' B vb L t') : RRIn w B vb L w' t' sv acc :=
  ⟨hr, own_only h.row ho (fun j hj e => (own_typed h.row hj).ne h.rd.blk.typed (by decide) e), h.kept.trans ho (fun j hj e => by have := h.new; omega), h.new, h.vnew⟩
theorem RRIn.stay {w wr w' : World} {B t : Nat} {vb sv : Value} {L : List Bool} {acc : List Int} (h : RRIn w B vb L wr t sv acc) (ho : Kept wr w') : RRIn w B vb L w' t sv acc :=
  ⟨h.rd.only ho (fun f => f) (fun _ _ f => f), own_only h.row ho (fun _ _ f => f), h.kept.trans ho (fun _ _ f => f), h.new, h.vnew⟩
theorem RRIn.add {w wr w' : World} {B t : Nat} {vb sv sv' : Value} {L : List Bool} {acc acc' : List Int} (h : RRIn w B vb L wr t sv acc) (ho : Only (fun k => sv.ownBlock = some k) wr w') (hr : w'.ownsRow w.heap.size 3 1 sv' acc'.length (acc'.map (Value.int .i64))) : RRIn w B vb L w' t sv' acc' :=
  ⟨h.rd.only ho (fun e => (own_typed h.row e).ne h.rd.blk.typed (by decide) rfl) (fun j hj e => (own_typed h.row e).ne (own_typed h.rd.own hj) (by decide) rfl), hr, h.kept.trans ho (fun j hj e => by have := (h.row.lt j e).1; omega), h.new, h.vnew⟩

theorem list_wb (k : Nat) (hk : k ≤ 4) : ([.int .i64 0, .int .i64 7, .int .i64 9, .int .i64 12, .int .i64 64] : List Value)[k]? = some (.int .i64 (wb k : Int)) := by
  rcases k with _ | _ | _ | _ | _ | k
  · rfl
  · rfl
  · rfl
  · rfl
  · rfl
  · omega
theorem list_ws (k : Nat) (hk : k ≤ 4) : ([.int .i64 0, .int .i64 63, .int .i64 255, .int .i64 2047, .int .i64 0] : List Value)[k]? = some (.int .i64 (ws k)) := by
  rcases k with _ | _ | _ | _ | _ | k
  · rfl
  · rfl
  · rfl
  · rfl
  · rfl
  · omega
theorem getR_at (l : List Bool) (t N : Nat) :
    (l.length - t < N ∧ getR (l.drop t) N = none) ∨ (t + N ≤ l.length ∧ getR (l.drop t) N = some (wrap64 ((valL ((l.drop t).take N) : Nat) : Int), l.drop (t + N))) ∨ (l.length < t) := by
  have hl : (l.drop t).length = l.length - t := by rw [List.length_drop]
  by_cases h : t + N ≤ l.length
  · right
    left
    refine ⟨h, ?_⟩
    unfold getR
    rw [if_pos (by omega), List.drop_drop]
  · by_cases h2 : l.length < t
    · exact .inr (.inr h2)
    · left
      refine ⟨by omega, ?_⟩
      unfold getR
      rw [if_neg (by omega)]

theorem chg_none {l r : List Bool} {q B5 : Nat} (h : onesR 4 l = some (q, r)) (h5 : wb q = B5) (hg : getR r B5 = none) : chgR l = none := by
  unfold chgR
  rw [h]
  simp [h5, hg]
theorem chg_some {l r r' : List Bool} {q B5 : Nat} {B4 X : Int} (h : onesR 4 l = some (q, r)) (h5 : wb q = B5) (h4 : ws q = B4) (hg : getR r B5 = some (X, r')) : chgR l = some (wrap64 (X - B4), r') := by
  unfold chgR
  rw [h]
  simp [h5, h4, hg]
theorem one_len (X : Int) (k : Nat) (h : k = 0) : ([] ++ [X] : List Int).length = k + 1 := by subst h; rfl
theorem one_get (X : Int) (k : Nat) (h : k = 0) : ([] ++ [X] : List Int).getD (k + 1 - 1) 0 = X := by subst h; rfl
theorem snoc_len (acc : List Int) (Y : Int) (k : Nat) (h : acc.length = k) : (acc ++ [Y]).length = k + 1 := by rw [List.length_append, h]; rfl
theorem snoc_get (acc : List Int) (Y : Int) (k : Nat) (h : acc.length = k) : (acc ++ [Y]).getD (k + 1 - 1) 0 = Y := by
  subst h
  rw [List.getD_eq_getElem?_getD, Nat.add_sub_cancel]
  simp
theorem drop_bit (l : List Bool) (t : Nat) : (t + 1 ≤ l.length ∧ ∃ a : Bool, l.drop t = a :: l.drop (t + 1) ∧ wrap64 ((valL ((l.drop t).take 1) : Nat) : Int) = if a then 1 else 0) ∨ (l.length ≤ t ∧ l.drop t = []) := by
  by_cases h : t < l.length
  · refine .inl ⟨h, l[t], List.drop_eq_getElem_cons h, ?_⟩
    rw [List.drop_eq_getElem_cons h, List.take_succ_cons, List.take_zero]
    cases l[t] <;> decide +kernel
  · exact .inr ⟨by omega, List.drop_eq_nil_of_le (by omega)⟩

set_option maxRecDepth 100000 in
set_option maxHeartbeats 6400000 in
theorem rread_any (w : World) (v : Value) (bs : List UInt8) (n : Int) (hs : SrcOf w v (bs.map bV)) (hl : bs.length ≤ 100000) : Calls Try.prog 32 #[v, .int .i64 n] w (UnpackPost w bs n) := by
  by_cases hn1 : 120 < n
  · go_enter Try.func32, Try.ntmps32
    go_wp2_with fail
    go_ret2
    exact ⟨Only.refl _ w, [], _, 2, rfl, .inl ⟨hn1, rfl, rfl⟩, World.ownsRow_nil _ _ _ _⟩
  · by_cases hn2 : n < 0
    · go_enter Try.func32, Try.ntmps32
      go_wp2_with fail
      go_ret2
      exact ⟨Only.refl _ w, [], _, 1, rfl, .inr (.inl ⟨hn2, rfl, rfl⟩), World.ownsRow_nil _ _ _ _⟩
    · obtain ⟨n, rfl⟩ : ∃ N : Nat, n = (N : Int) := ⟨n.toNat, by omega⟩
      have hn : n ≤ 120 := by omega
      obtain ⟨a0, c0, e0⟩ := hs.len
      rw [List.length_map] at e0
      obtain ⟨L, hL⟩ : ∃ L, bs.length = L := ⟨_, rfl⟩
      have HS := hid hs
      have ho := of_any w v bs hs (by omega)
      rw [hL] at e0 hl
      subst e0
      have HL := hid hL
      clear hL hs hn1 hn2
      have hn1 : ¬ (120 : Int) < (n : Int) := by omega
      go_enter Try.func32, Try.ntmps32
      go_wp2_with fail
      refine ho.mono ?_
      rintro e w1 ⟨vb, rfl, hown, k1⟩
      clear ho
      obtain ⟨va, vc, hvb⟩ := own_slice hown
      have HI : Hid (RRIn w w1.heap.size vb (unpackL bs) (w1.alloc (.cells #[vb, .int .i64 0] 95)) 0 (.slice none 0 0) []) := ⟨⟨Blk.new w1 [vb, .int .i64 0] _, by rw [unpackL_length]; exact own_base (hown.alloc _) (Nat.zero_le _), by rw [unpackL_length]; have := HL.out; omega, by omega⟩, World.ownsRow_nil _ _ _ _, k1.alloc _, k1.size, fun j hj => (hown.lt j hj).1⟩
      subst hvb
      clear hown k1
      go_wp2_with fail
      generalize w1.alloc (.cells #[Value.slice va (8 * bs.length) vc, .int .i64 0] 95) = w2 at HI ⊢
      generalize Value.slice va (8 * bs.length) vc = vb at HI ⊢
      generalize w1.heap.size = B at HI ⊢
      go_loopw [7, 8, 9] (fun sv g i wr => ∃ (k t' : Nat) (acc : List Int) (G P : Int), k ≤ n ∧ acc.length = k ∧ g = .int .i64 G ∧ i = .int .i64 (k : Int) ∧ RRIn w B vb (unpackL bs) wr t' sv acc ∧ readT n (unpackL bs) 0 0 [] = readT (n - k) ((unpackL bs).drop t') G P acc ∧ acc.getD (k - 1) 0 = P) (fun _ _ i _ => n - (intOf i).toNat)
      case atStart => exact ⟨0, 0, [], 0, 0, by omega, rfl, rfl, rfl, HI.out, by simp, rfl⟩
      case round =>
        obtain ⟨k, t', acc, G, P, hk, hacc, rfl, rfl, hR, hT, hP⟩ := hrel
        have HR := hid hR
        clear hR HI
        by_cases hlt : k < n
        · obtain ⟨f, hf⟩ : ∃ f, n - k = f + 1 := ⟨n - k - 1, by omega⟩
          rw [hf] at hT
          by_cases hk0 : k = 0
          · have ea : acc = [] := List.length_eq_zero_iff.1 (by omega)
            subst ea
            rw [readT_first] at hT
            have hk0' : ((k : Int) == 0) = true := by simp [hk0]
            have HK0 := hid hk0
            clear hk0 hacc
            rcases getR_at (unpackL bs) t' 64 with ⟨hN, hg⟩ | ⟨hN, hg⟩ | hbad
            · have HT : Hid (readT n (unpackL bs) 0 0 [] = none) := by show _ = _; rw [hT, hg]; rfl
              have hc := rget_few HR.out.rd 64 hN (by omega)
              clear hT hg hN hP
              go_wp2_with fail
              refine hc.mono ?_
              rintro e w3 ⟨rfl, k3⟩
              clear hc
              go_wp2_with fail
              go_ret2
              exact ⟨HR.out.kept.trans k3 (fun _ _ f => f), [], _, 5, rfl, .inr (.inr ⟨by omega, by omega, .inl ⟨by rw [Int.toNat_natCast]; exact HT.out, rfl, rfl⟩⟩), World.ownsRow_nil _ _ _ _⟩
            · have hc := rget_any HR.out.rd 64 hN (by omega)
              generalize wrap64 ((valL (((unpackL bs).drop t').take 64) : Nat) : Int) = X at hc hg
              have HT : Hid (readT n (unpackL bs) 0 0 [] = readT f ((unpackL bs).drop (t' + 64)) G X ([] ++ [X])) := by show _ = _; rw [hT, hg]; rfl
              clear hT hg hN hP
              go_wp2_with fail
              refine hc.mono ?_
              rintro e w3 ⟨rfl, k3, r3⟩
              clear hc
              have HR3 := hid (HR.out.read k3 r3)
              obtain ⟨g, cap, w4, Hr, hown4, hon4⟩ := own_num HR3.out.row HR3.out.kept.size (by simp) X
              have HR4 := hid (HR3.out.add hon4 hown4)
              have HE1 : Hid (([] ++ [X]).length = k + 1) := one_len X k HK0.out
              have HE2 : Hid (([] ++ [X]).getD (k + 1 - 1) 0 = X) := one_get X k HK0.out
              have HE3 : Hid (readT n (unpackL bs) 0 0 [] = readT (n - (k + 1)) ((unpackL bs).drop (t' + 64)) G X ([] ++ [X])) := hid (by rw [HT.out, show n - (k + 1) = f by omega])
              generalize ([] ++ [X] : List Int) = ac at HR4 HE1 HE2 HE3
              generalize t' + 64 = t3 at HR4 HE3
              clear hown4 hon4
              go_wp2_with (at_builtin; refine wpList_append_run rfl _ _ _ rfl rfl rfl Hr ?_)
              go_roundw
              case rel => exact ⟨k + 1, t3, ac, G, X, by omega, HE1.out, rfl, by go_num, HR4.out, HE3.out, HE2.out⟩
              case measure => simp [intOf]; omega
            · have := HR.out.rd.top
              omega
          · have ha : acc ≠ [] := fun e => by rw [e] at hacc; simp at hacc; omega
            have hk0' : ((k : Int) == 0) = false := by simp; omega
            rw [readT_next ha] at hT
            have HTX := hid hT
            obtain ⟨m, hm⟩ : ∃ m, k = m + 1 := ⟨k - 1, by omega⟩
            have hmi : (k : Int) - 1 = (m : Int) := by omega
            have hml : m < k := by omega
            have HP : Hid (acc.getD m 0 = P) := hid (by rw [← hP, hm, Nat.add_sub_cancel])
            clear hm
            clear hT hP ha hk0
            obtain ⟨gg, cc, hsv⟩ := own_some HR.out.row (by omega)
            rw [hacc] at hsv
            subst hsv
            have hacc' := hid hacc
            clear hacc
            go_wp2_with fail
            have hacc := hacc'.out
            go_loopw [12] (fun s wq => ∃ (q t2 : Nat), q ≤ 4 ∧ s = .int .i64 (q : Int) ∧ RRIn w B vb (unpackL bs) wq t2 (.slice (some ⟨gg, 0, none⟩) k cc) acc ∧ onesR 4 ((unpackL bs).drop t') = (onesR (4 - q) ((unpackL bs).drop t2)).map (fun x => (x.1 + q, x.2))) (fun s _ => 5 - (intOf s).toNat)
            case atStart => exact ⟨0, t', by omega, rfl, HR.out, by simp⟩
            case round =>
              obtain ⟨q, t2, hq4, rfl, hR2, hO⟩ := hrel
              have HR2 := hid hR2
              clear hR2 HR
              have hq := hq4
              by_cases hq0 : q = 4
              · have HO : Hid (onesR 4 ((unpackL bs).drop t') = some (q, (unpackL bs).drop t2)) := by show _ = _; rw [hO, hq0]; rfl
                have hq3 : ¬ q < 4 := by omega
                clear hO hq0
                obtain ⟨B4, hB4⟩ : ∃ B, ws q = B := ⟨_, rfl⟩
                obtain ⟨B5, hB5⟩ : ∃ B, wb q = B := ⟨_, rfl⟩
                have h64 := wb_le q
                have H4 := hid (list_ws q hq4)
                have hc5 := list_wb q hq4
                rw [hB4] at H4
                rw [hB5] at hc5 h64
                have HB4 := hid hB4
                have HB5 := hid hB5
                clear hB4 hB5
                go_wp2_with fail
                (try clear hq3)
                have HQ : Hid (RRIn w B vb (unpackL bs) (wr.alloc (.cells #[.int .i64 0, .int .i64 7, .int .i64 9, .int .i64 12, .int .i64 64] 3)) t2 (.slice (some ⟨gg, 0, none⟩) k cc) acc) := HR2.out.stay ((Only.refl _ _).alloc _)
                rcases getR_at (unpackL bs) t2 B5 with ⟨hN, hg⟩ | ⟨hN, hg⟩ | hbad
                · have hc := rget_few HQ.out.rd B5 hN h64
                  have HT : Hid (readT n (unpackL bs) 0 0 [] = none) := by show _ = _; rw [HTX.out, chg_none HO.out HB5.out hg]; rfl
                  clear hg hN
                  refine hc.mono ?_
                  rintro e w3 ⟨rfl, k3⟩
                  clear hc
                  go_wp2_with fail
                  go_ret2
                  exact ⟨HQ.out.kept.trans k3 (fun _ _ f => f), [], _, 5, rfl, .inr (.inr ⟨by omega, by omega, .inl ⟨by rw [Int.toNat_natCast]; exact HT.out, rfl, rfl⟩⟩), World.ownsRow_nil _ _ _ _⟩
                · have hc := rget_any HQ.out.rd B5 hN h64
                  generalize wrap64 ((valL (((unpackL bs).drop t2).take B5) : Nat) : Int) = X at hc hg
                  have HT : Hid (readT n (unpackL bs) 0 0 [] = readT f ((unpackL bs).drop (t2 + B5)) (wrap64 (G + wrap64 (X - B4))) (wrap64 (P + wrap64 (G + wrap64 (X - B4)))) (acc ++ [wrap64 (P + wrap64 (G + wrap64 (X - B4)))])) := by show _ = _; rw [HTX.out, chg_some HO.out HB5.out HB4.out hg]; rfl
                  have hG1 : wrap64 (wrap64 (G + X) - B4) = wrap64 (G + wrap64 (X - B4)) := by unfold wrap64; omega
                  generalize wrap64 (G + wrap64 (X - B4)) = G' at HT hG1
                  clear hg hN
                  refine hc.mono ?_
                  rintro e w3 ⟨rfl, k3, r3⟩
                  clear hc
                  have hR3 := HQ.out.read k3 r3
                  have hc4 := H4.out
                  have HR4 : Hid (RRIn w B vb (unpackL bs) (w3.alloc (.cells #[.int .i64 0, .int .i64 63, .int .i64 255, .int .i64 2047, .int .i64 0] 3)) (t2 + B5) (.slice (some ⟨gg, 0, none⟩) k cc) acc) := hR3.stay ((Only.refl _ _).alloc _)
                  have hcp : (w3.alloc (.cells #[.int .i64 0, .int .i64 63, .int .i64 255, .int .i64 2047, .int .i64 0] 3)).cell? ⟨gg, m, none⟩ = some (.int .i64 P) := by
                    have := int_cells (own_src HR4.out.row) m (by omega)
                    rw [Nat.zero_add] at this
                    rw [this, ← HP.out, List.getD_eq_getElem?_getD, List.getElem?_eq_getElem (by omega)]
                    rfl
                  obtain ⟨g5, cap5, w5, Hr, hown5, hon5⟩ := own_num HR4.out.row HR4.out.kept.size (by omega) (wrap64 (P + G'))
                  have HR5 := hid (HR4.out.add hon5 hown5)
                  have hsz : (w3.alloc (.cells #[.int .i64 0, .int .i64 63, .int .i64 255, .int .i64 2047, .int .i64 0] 3)).heap.size = w3.heap.size + 1 := by simp
                  rw [hsz] at Hr
                  rw [hacc] at Hr HR5
                  have HE1 : Hid ((acc ++ [wrap64 (P + G')]).length = k + 1) := snoc_len acc (wrap64 (P + G')) k hacc
                  have HE2 : Hid ((acc ++ [wrap64 (P + G')]).getD (k + 1 - 1) 0 = wrap64 (P + G')) := snoc_get acc (wrap64 (P + G')) k hacc
                  have HE3 : Hid (readT n (unpackL bs) 0 0 [] = readT (n - (k + 1)) ((unpackL bs).drop (t2 + B5)) G' (wrap64 (P + G')) (acc ++ [wrap64 (P + G')])) := hid (by rw [HT.out, show n - (k + 1) = f by omega])
                  generalize acc ++ [wrap64 (P + G')] = ac at HR5 HE1 HE2 HE3
                  generalize t2 + B5 = t5 at HR5 HE3 r3 HR4
                  clear hown5 hon5 hR3 hacc HT
                  go_wp2_with (at_builtin; refine wpList_append_run rfl _ _ _ rfl rfl rfl Hr ?_)
                  go_roundw
                  case rel => exact ⟨k + 1, t5, ac, G', wrap64 (P + G'), by omega, HE1.out, rfl, by go_num, HR5.out, HE3.out, HE2.out⟩
                  case measure => simp [intOf]; omega
                · have := HR2.out.rd.top
                  omega
              · obtain ⟨r, hr⟩ : ∃ r, 4 - q = r + 1 := ⟨3 - q, by omega⟩
                rw [hr, onesR_add r] at hO
                have hq3 : q < 4 := by omega
                rcases drop_bit (unpackL bs) t2 with ⟨hN, a, ha, hv⟩ | ⟨hN, hnil⟩
                · rw [ha] at hO
                  have hc := rget_any HR2.out.rd 1 hN (by omega)
                  rw [hv] at hc
                  clear ha hv
                  cases a
                  · have HO : Hid (onesR 4 ((unpackL bs).drop t') = some (q, (unpackL bs).drop (t2 + 1))) := by show _ = _; rw [hO]; simp
                    clear hO
                    go_wp2_with fail
                    refine hc.mono ?_
                    rintro e w3 ⟨rfl, k3, r3⟩
                    have HR3 := hid (HR2.out.read k3 r3)
                    clear hc HR2
                    have HR2 := HR3
                    clear HR3 hq3 hr
                    obtain ⟨B4, hB4⟩ : ∃ B, ws q = B := ⟨_, rfl⟩
                    obtain ⟨B5, hB5⟩ : ∃ B, wb q = B := ⟨_, rfl⟩
                    have h64 := wb_le q
                    have H4 := hid (list_ws q hq4)
                    have hc5 := list_wb q hq4
                    rw [hB4] at H4
                    rw [hB5] at hc5 h64
                    have HB4 := hid hB4
                    have HB5 := hid hB5
                    clear hB4 hB5
                    go_wp2_with fail
                    (try clear hq3)
                    have HQ : Hid (RRIn w B vb (unpackL bs) (w3.alloc (.cells #[.int .i64 0, .int .i64 7, .int .i64 9, .int .i64 12, .int .i64 64] 3)) (t2 + 1) (.slice (some ⟨gg, 0, none⟩) k cc) acc) := HR2.out.stay ((Only.refl _ _).alloc _)
                    rcases getR_at (unpackL bs) (t2 + 1) B5 with ⟨hN, hg⟩ | ⟨hN, hg⟩ | hbad
                    · have hc := rget_few HQ.out.rd B5 hN h64
                      have HT : Hid (readT n (unpackL bs) 0 0 [] = none) := by show _ = _; rw [HTX.out, chg_none HO.out HB5.out hg]; rfl
                      clear hg hN
                      refine hc.mono ?_
                      rintro e w6 ⟨rfl, k3⟩
                      clear hc
                      go_wp2_with fail
                      go_ret2
                      exact ⟨HQ.out.kept.trans k3 (fun _ _ f => f), [], _, 5, rfl, .inr (.inr ⟨by omega, by omega, .inl ⟨by rw [Int.toNat_natCast]; exact HT.out, rfl, rfl⟩⟩), World.ownsRow_nil _ _ _ _⟩
                    · have hc := rget_any HQ.out.rd B5 hN h64
                      generalize wrap64 ((valL (((unpackL bs).drop (t2 + 1)).take B5) : Nat) : Int) = X at hc hg
                      have HT : Hid (readT n (unpackL bs) 0 0 [] = readT f ((unpackL bs).drop ((t2 + 1) + B5)) (wrap64 (G + wrap64 (X - B4))) (wrap64 (P + wrap64 (G + wrap64 (X - B4)))) (acc ++ [wrap64 (P + wrap64 (G + wrap64 (X - B4)))])) := by show _ = _; rw [HTX.out, chg_some HO.out HB5.out HB4.out hg]; rfl
                      have hG1 : wrap64 (wrap64 (G + X) - B4) = wrap64 (G + wrap64 (X - B4)) := by unfold wrap64; omega
                      generalize wrap64 (G + wrap64 (X - B4)) = G' at HT hG1
                      clear hg hN
                      refine hc.mono ?_
                      rintro e w6 ⟨rfl, k3, r3⟩
                      clear hc
                      have hR3 := HQ.out.read k3 r3
                      have hc4 := H4.out
                      have HR4 : Hid (RRIn w B vb (unpackL bs) (w6.alloc (.cells #[.int .i64 0, .int .i64 63, .int .i64 255, .int .i64 2047, .int .i64 0] 3)) ((t2 + 1) + B5) (.slice (some ⟨gg, 0, none⟩) k cc) acc) := hR3.stay ((Only.refl _ _).alloc _)
                      have hcp : (w6.alloc (.cells #[.int .i64 0, .int .i64 63, .int .i64 255, .int .i64 2047, .int .i64 0] 3)).cell? ⟨gg, m, none⟩ = some (.int .i64 P) := by
                        have := int_cells (own_src HR4.out.row) m (by omega)
                        rw [Nat.zero_add] at this
                        rw [this, ← HP.out, List.getD_eq_getElem?_getD, List.getElem?_eq_getElem (by omega)]
                        rfl
                      obtain ⟨g5, cap5, w5, Hr, hown5, hon5⟩ := own_num HR4.out.row HR4.out.kept.size (by omega) (wrap64 (P + G'))
                      have HR5 := hid (HR4.out.add hon5 hown5)
                      have hsz : (w6.alloc (.cells #[.int .i64 0, .int .i64 63, .int .i64 255, .int .i64 2047, .int .i64 0] 3)).heap.size = w6.heap.size + 1 := by simp
                      rw [hsz] at Hr
                      rw [hacc] at Hr HR5
                      have HE1 : Hid ((acc ++ [wrap64 (P + G')]).length = k + 1) := snoc_len acc (wrap64 (P + G')) k hacc
                      have HE2 : Hid ((acc ++ [wrap64 (P + G')]).getD (k + 1 - 1) 0 = wrap64 (P + G')) := snoc_get acc (wrap64 (P + G')) k hacc
                      have HE3 : Hid (readT n (unpackL bs) 0 0 [] = readT (n - (k + 1)) ((unpackL bs).drop ((t2 + 1) + B5)) G' (wrap64 (P + G')) (acc ++ [wrap64 (P + G')])) := hid (by rw [HT.out, show n - (k + 1) = f by omega])
                      generalize acc ++ [wrap64 (P + G')] = ac at HR5 HE1 HE2 HE3
                      generalize (t2 + 1) + B5 = t5 at HR5 HE3 r3 HR4
                      clear hown5 hon5 hR3 hacc HT
                      go_wp2_with (at_builtin; refine wpList_append_run rfl _ _ _ rfl rfl rfl Hr ?_)
                      go_roundw
                      case rel => exact ⟨k + 1, t5, ac, G', wrap64 (P + G'), by omega, HE1.out, rfl, by go_num, HR5.out, HE3.out, HE2.out⟩
                      case measure => simp [intOf]; omega
                    · have := HR2.out.rd.top
                      omega
                  · have HO : Hid (onesR 4 ((unpackL bs).drop t') = (onesR (4 - (q + 1)) ((unpackL bs).drop (t2 + 1))).map (fun x => (x.1 + (q + 1), x.2))) := by
                      show _ = _
                      rw [hO, show 4 - (q + 1) = r by omega]
                      dsimp only
                      cases onesR r ((unpackL bs).drop (t2 + 1)) with
                      | none => rfl
                      | some x => simp; omega
                    clear hO
                    go_wp2_with fail
                    refine hc.mono ?_
                    rintro e w3 ⟨rfl, k3, r3⟩
                    have HR3 := hid (HR2.out.read k3 r3)
                    clear hc
                    go_wp2_with fail
                    go_roundw
                    case rel => exact ⟨q + 1, t2 + 1, by omega, by go_num, HR3.out, HO.out⟩
                    case measure => simp [intOf]; omega
                · rw [hnil] at hO
                  have HT : Hid (readT n (unpackL bs) 0 0 [] = none) := by show _ = _; rw [HTX.out]; unfold chgR; rw [hO]; rfl
                  have hc := rget_few HR2.out.rd 1 (by have := HR2.out.rd.top; omega) (by omega)
                  clear hO hnil
                  go_wp2_with fail
                  refine hc.mono ?_
                  rintro e w3 ⟨rfl, k3⟩
                  clear hc
                  go_wp2_with fail
                  go_ret2
                  exact ⟨HR2.out.kept.trans k3 (fun _ _ f => f), [], _, 5, rfl, .inr (.inr ⟨by omega, by omega, .inl ⟨by rw [Int.toNat_natCast]; exact HT.out, rfl, rfl⟩⟩), World.ownsRow_nil _ _ _ _⟩
        · have ek : n - k = 0 := by omega
          rw [ek] at hT
          have HT : Hid (readT n (unpackL bs) 0 0 [] = some acc) := by show _ = _; rw [hT]; rfl
          have hp := rstamps_any wr _ acc (own_src HR.out.row) (by omega)
          obtain ⟨sa, sc, hsv⟩ := own_slice HR.out.row
          subst hsv
          clear hT ek hacc hP
          go_wp2_with fail
          refine hp.mono ?_
          rintro e w3 ⟨k3, u, cs, x, rfl, hP, ho3⟩
          clear hp
          have hk3 : Kept w w3 := HR.out.kept.trans k3 (fun _ _ f => f)
          have HP := hid hP
          have HK3 := hid hk3
          have HO3 := hid (own_only HR.out.row k3 (fun _ _ f => f))
          by_cases hx : x = 0
          · subst hx
            have c1 := bytes_str (own_src ho3)
            have c2 := bytes_str (HS.out.stay hk3)
            obtain ⟨ua, uc, hu⟩ := own_slice ho3
            subst hu
            have hse := str_eq cs bs
            generalize (⟨cs.toArray⟩ : ByteArray) = s1 at c1 hse
            generalize (⟨bs.toArray⟩ : ByteArray) = s2 at c2 hse
            by_cases heq : cs = bs
            · have hs' : (s1.toList == s2.toList) = true := by rw [hse]; simp [heq]
              have HE := hid heq
              clear hse heq hP ho3 hk3
              go_wp2_with fail
              go_ret2
              exact ⟨HK3.out, acc, _, 0, rfl, .inr (.inr ⟨by omega, by omega, .inr ⟨acc, by rw [Int.toNat_natCast]; exact HT.out, .inr ⟨by rw [← HE.out]; exact HP.out, rfl, rfl⟩⟩⟩), HO3.out⟩
            · have hs' : (s1.toList == s2.toList) = false := by rw [hse]; simp [heq]
              have HE := hid heq
              clear hse heq hP ho3 hk3
              go_wp2_with fail
              go_ret2
              exact ⟨HK3.out, [], _, 5, rfl, .inr (.inr ⟨by omega, by omega, .inr ⟨acc, by rw [Int.toNat_natCast]; exact HT.out, .inl ⟨fun h => HE.out (HP.out.inj h).1, rfl, rfl⟩⟩⟩), World.ownsRow_nil _ _ _ _⟩
          · have hx' : (x == 0) = false := by simp [hx]
            clear hP ho3 hk3
            go_wp2_with fail
            go_ret2
            exact ⟨HK3.out, [], _, 5, rfl, .inr (.inr ⟨by omega, by omega, .inr ⟨acc, by rw [Int.toNat_natCast]; exact HT.out, .inl ⟨fun h => hx (HP.out.inj h).2, rfl, rfl⟩⟩⟩), World.ownsRow_nil _ _ _ _⟩
end Go.Proofs.Ytbhpmeeknbbmmaa.S
