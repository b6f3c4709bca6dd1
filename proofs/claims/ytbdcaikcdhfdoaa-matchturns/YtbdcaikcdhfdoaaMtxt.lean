/-
  Text: the walk.
-/
import Derived.Test.YtbdcaikcdhfdoaaMtext
namespace Go.Proofs.Ytbdcaikcdhfdoaa.N
open Go.RowKit Go.Proofs.Lys
set_option linter.unusedVariables false
set_option linter.unusedSimpArgs false

theorem tab_mark (N : Int) (h : 1 ≤ N ∧ N ≤ 4) : tabK.toList[N.toNat * 3]? = some (.string (mkB (markB N))) := by
  have : N = 1 ∨ N = 2 ∨ N = 3 ∨ N = 4 := by omega
  rcases this with rfl | rfl | rfl | rfl <;> rfl
theorem not_emptyM {s : ByteArray} (h0 : ¬ s.size = 0) : s.toList.isEmpty = false := by
  rw [ByteArray.toList_eq]
  cases h : s.data.toList with
  | nil => exact absurd (by rw [Lib.size_eq, h]; rfl) h0
  | cons a r => rfl
theorem mark_len (N : Int) : (mkB (markB N)).size ≤ 2 ∧ ((mkB (markB N)).size = 0 ↔ ¬ (N = 1 ∨ N = 2 ∨ N = 3)) := by
  unfold markB
  split
  · subst_vars
    exact ⟨by decide, by simp [ByteArray.size]⟩
  · split
    · subst_vars
      exact ⟨by decide, by simp [ByteArray.size]⟩
    · split
      · subst_vars
        exact ⟨by decide, by simp [ByteArray.size]⟩
      · exact ⟨by decide, by simp [ByteArray.size]; omega⟩

set_option maxRecDepth 100000 in
set_option maxHeartbeats 4000000 in
theorem mtext_any (w : World) (v : Value) (l : Mats) (hs : MatSrc w v l) (hl : l.length ≤ 100000) (hB : SmallM l) :
    Calls Try.prog 15 #[v] w fun e w' => e = .returned (.string (mkB (mtxtL l))) ∧ Kept w w' := by
  have HC := hid (mcheck_any w v l hs hl hB)
  obtain ⟨a1, c1, rfl⟩ := hs.len
  by_cases hck : checkM l = 0
  · have hck8 := (checkM_zero.1 hck).1
    have HOK := hid (checkM_zero.1 hck).2
    rw [hck] at HC
    have HS := hid hs
    obtain ⟨L, hL⟩ : ∃ L, l.length = L := ⟨_, rfl⟩
    have HL := hid hL
    rw [hL] at HS HC hl hck8 ⊢
    by_cases h0 : L = 0
    · subst h0
      have Ht : Hid (mkB (mtxtL l) = ⟨#[42]⟩) := by
        refine hid ?_
        have : l = [] := List.length_eq_zero_iff.1 hL
        subst this
        rfl
      clear hs hL hck hB
      go_enter Try.func15, Try.ntmps15
      go_wp2_with fail
      refine HC.out.mono ?_
      rintro e w1 ⟨rfl, k1⟩
      go_wp2
      go_ret
      exact ⟨by rw [Ht.out]; rfl, k1⟩
    · have hne : l ≠ [] := fun e => h0 (by rw [← hL, e]; rfl)
      have Ht : Hid (mtxtL l = matsT l) := by refine hid ?_; unfold mtxtL; rw [if_pos hck, if_neg hne]
      have h0' : ¬ ((L : Int) = 0) := by omega
      clear hs hL hck hB hne
      go_enter Try.func15, Try.ntmps15
      go_wp2_with fail
      refine HC.out.mono ?_
      rintro e w1 ⟨rfl, k1⟩
      have HK1 := hid k1
      clear k1 HC
      go_wp2_with fail
      refine (kinds_any w1).mono ?_
      rintro e w2 ⟨rfl, k2⟩
      have HK2 := hid (HK1.out.trans k2 (fun _ _ f => f))
      clear k2
      have HBT : Hid (Blk (w2.alloc (.cells tabK 49)) w2.heap.size tabK.toList 49) := Blk.new w2 tabK.toList 49
      have HK3 := hid (HK2.out.alloc (.cells tabK 49))
      clear HK1 HK2
      have hszT : w2.heap.size < (w2.alloc (.cells tabK 49)).heap.size := by simp
      have HS0 : Hid (∀ W : World, Bld (W.alloc (.cells #[.pointer none, .slice none 0 0] 57)) W.heap.size W.heap.size [] ∧ Below W.heap.size W (W.alloc (.cells #[.pointer none, .slice none 0 0] 57))) :=
        fun W => ⟨Lib.IsBuilderF.of (Lib.fresh_isBuilder 57 5 W), (Below.refl _ W).alloc (Nat.le_refl _) _⟩
      go_wp2_with (refine wpList_store_row rfl 49 _ _ rfl w2.heap.size tabK rfl rfl 49 _ (heap_alloc_last w2 _) tabK_size rfl tabK_one ?_; rw [World.setRow_alloc_new]; generalize w2.alloc (.cells tabK 49) = w3 at HBT HK3 hszT ⊢)
      have hS0 := HS0.out w3
      generalize w2.heap.size = T at HBT hszT ⊢
      generalize w3.alloc (.cells #[.pointer none, .slice none 0 0] 57) = w4 at hS0 ⊢
      have HS1 := hid hS0
      clear hS0
      go_loopw [5, 18] (fun q i wr => ∃ (k : Nat) (Q : ByteArray), k ≤ L ∧ i = .int .i64 (k : Int) ∧ q = .string Q ∧ Q.data.toList = (if l.take k = [] then [] else [44]) ∧ Bld wr w3.heap.size w3.heap.size (matsT (l.take k)) ∧ Below w3.heap.size w3 wr ∧ w3.heap.size < wr.heap.size) (fun _ i _ => L - (intOf i).toNat)
      case atStart => exact ⟨0, _, by omega, rfl, rfl, rfl, HS1.out.1, HS1.out.2, by
        rcases HS1.out.1 with h | h
        · exact (Array.getElem?_eq_some_iff.1 h.2.choose_spec.1).1
        · exact (Array.getElem?_eq_some_iff.1 h.2.choose_spec.1).1⟩
      case round =>
        obtain ⟨k, Q, hk, rfl, rfl, hQ, hb, hw, hlt0⟩ := hrel
        have hQs : Q.size ≤ 1 := by rw [Lib.size_eq, hQ]; split <;> simp
        have HQ := hid hQ
        have HB := hid hb
        have HW := hid hw
        have hKw : Kept w3 wr := ⟨hw.os, hw.tape, hw.output, hw.size, fun q hq _ => hw.block q hq⟩
        have HKw := hid hKw
        have hal : (matsT (l.take k)).length ≤ 301 * 8 := by
          have h1 := matsT_len (l := l.take k) (fun x hx => HOK.out x (List.mem_of_mem_take hx))
          have h2 : (l.take k).length ≤ 8 := by rw [List.length_take]; omega
          omega
        by_cases hlt : k < L
        · have hkl : k < l.length := by have := HL.out; omega
          obtain ⟨b1, o1, rfl, x1, y1, z1⟩ := (HS.out.stay (HK3.out.trans hKw (fun _ _ f => f))).cell HL.out k hlt
          have hmo := matOk_parts (HOK.out _ (List.getElem_mem hkl))
          have HT : Hid (matsT (l.take (k + 1)) = matsT (l.take k) ++ ((if l.take k = [] then [] else [44]) ++ matT (l[k]'hkl))) := by
            refine hid ?_
            rw [← List.take_append_getElem hkl, matsT_snoc]
          have hnil : Hid ((if l.take (k + 1) = [] then ([] : List UInt8) else [44]) = [44]) := by
            refine hid ?_
            rw [if_neg]
            intro e
            have h5 := congrArg List.length e
            rw [List.length_take, List.length_nil] at h5
            omega
          have HBr := hid (Only.blk hKw HBT.out (fun f => f))
          clear hb hw hQ hKw
          generalize l[k]'hkl = x at x1 y1 z1 hmo HT
          obtain ⟨N, X, Y⟩ := x
          simp only at x1 y1 z1 hmo
          obtain ⟨hN1, hN4, hnX, hvY⟩ := hmo
          have hX : X.size ≤ 64 := by
            simp only [nameOk, Bool.and_eq_true, decide_eq_true_eq] at hnX
            exact hnX.1.1.2
          have hY : Y.size ≤ 64 := by
            have : roomN N ≤ 64 := by unfold roomN; split <;> omega
            omega
          have hc1 : Q.size + X.size ≤ 9223372036854775807 := by omega
          have Hcat : Hid ((Q ++ X).data.toList = (if l.take k = [] then [] else [44]) ++ X.data.toList) := by
            refine hid ?_
            rw [ByteArray.data_append, Array.toList_append, HQ.out]
          generalize hpre : (if l.take k = [] then ([] : List UInt8) else [44]) = pre at HT Hcat
          have hprl : pre.length ≤ 1 := by rw [← hpre]; split <;> simp
          clear hpre HQ
          have H1 := hid (wstring_any (Lib.IsBuilderF.alloc HB.out (.cells #[.int .i64 N, .string X, .string Y] 40)) (Q ++ X) (by rw [ByteArray.size_append]; omega) (by simp; omega))
          rw [Hcat.out] at H1
          clear hnX hvY
          go_wp2_with fail
          have hbox := Blk.new wr [.int .i64 N, .string X, .string Y] 40
          have HBel := hid (HW.out.alloc (Nat.le_of_lt hlt0) (.cells #[.int .i64 N, .string X, .string Y] 40))
          have hsz1 : (wr.alloc (.cells #[.int .i64 N, .string X, .string Y] 40)).heap.size = wr.heap.size + 1 := by simp
          have hbt := Only.blk ((Only.refl (fun _ => False) wr).alloc (.cells #[.int .i64 N, .string X, .string Y] 40)) HBr.out (fun f => f)
          generalize hw5 : wr.alloc (.cells #[.int .i64 N, .string X, .string Y] 40) = w5 at H1 hbox HBel hsz1 hbt ⊢
          clear hw5
          refine H1.out.mono ?_
          rintro e w6 ⟨rfl, hb6, hk6⟩
          have hs6 := hk6.size
          have hbox6 : Blk w6 wr.heap.size [.int .i64 N, .string X, .string Y] 40 := hk6.others _ _ hbox (fun e => by have := Option.some.inj e; omega) (fun c f e => by cases e)
          have hbt6 : Blk w6 T tabK.toList 49 := hk6.others _ _ hbt (fun e => by have := Option.some.inj e; omega) (fun c f e => by cases e)
          have b0 := hbox6.cell 0 rfl
          have b2 := hbox6.cell 2 rfl
          have bt := hbt6.cell (N.toNat * 3) (tab_mark N ⟨hN1, hN4⟩)
          obtain ⟨hm2, hm0⟩ := mark_len N
          have hMd : Hid ((mkB (markB N)).data.toList = markB N) := rfl
          have HK6 := hid hk6
          have HB6 := hid hb6
          have i0 : 0 ≤ N := by omega
          have i5 : N < 5 := by omega
          clear hbox hbt hbt6 hbox6 hk6 hb6 H1
          generalize mkB (markB N) = MK at bt hm2 hm0 hMd
          by_cases h4 : N = 4
          · have hMz : MK.size = 0 := hm0.2 (by omega)
            have eM : MK = ⟨#[]⟩ := bytes_inj (List.length_eq_zero_iff.1 (by rw [← Lib.size_eq]; exact hMz))
            subst eM
            have Hfin : Hid (Bld w6 w3.heap.size w3.heap.size (matsT (l.take (k + 1)))) := by
              refine hid ?_
              rw [HT.out]
              have e : matT (N, X, Y) = X.data.toList := by
                unfold matT valT
                rw [if_neg (show ¬ N < 4 by omega)]
                simp
              rw [e]
              exact HB6.out
            subst h4
            have bt' : w6.cell? ⟨T, 12, none⟩ = some (.string ⟨#[]⟩) := bt
            clear hm0 hMz hMd HB6 bt
            go_wp2
            refine ⟨⟨k + 1, _, by omega, by go_num, rfl, ?_, Hfin.out, HBel.out.trans HK6.out.below, by omega⟩, ?_⟩
            · rw [hnil.out]
            · simp [intOf]
              omega
          · have hMz : ¬ MK.size = 0 := fun e => (hm0.1 e) (by omega)
            have hne := not_emptyM hMz
            have HQt := hid (fun W => mquoted_any W Y hY)
            have hqy := quote_len Y.data.toList
            rw [← Lib.size_eq] at hqy
            have hqs : (mkB (quoteL Y.data.toList)).size ≤ 192 := by rw [Lib.size_eq]; show (quoteL Y.data.toList).length ≤ _; omega
            have hqd : Hid ((mkB (quoteL Y.data.toList)).data.toList = quoteL Y.data.toList) := rfl
            generalize mkB (quoteL Y.data.toList) = QY at HQt hqs hqd
            have hl34 : (⟨#[34]⟩ : ByteArray).size = 1 := rfl
            have g1 : MK.size + 1 ≤ 9223372036854775807 := by omega
            have g2 : MK.size + 1 + QY.size ≤ 9223372036854775807 := by omega
            have g3 : MK.size + 1 + QY.size + 1 ≤ 9223372036854775807 := by omega
            clear hm0 hqy
            go_wp2_with fail
            refine (HQt.out _).mono ?_
            rintro e w7 ⟨rfl, k7⟩
            have hs7 := k7.size
            have hcatl : Hid ((MK ++ ⟨#[34]⟩ ++ QY ++ ⟨#[34]⟩ : ByteArray).data.toList = markB N ++ [34] ++ quoteL Y.data.toList ++ [34]) := by
              refine hid ?_
              rw [ByteArray.data_append, ByteArray.data_append, ByteArray.data_append, Array.toList_append, Array.toList_append, Array.toList_append, hMd.out, hqd.out]
            have H2 := hid (wstring_any (HB6.out.stay k7) (MK ++ ⟨#[34]⟩ ++ QY ++ ⟨#[34]⟩) (by
              rw [ByteArray.size_append, ByteArray.size_append, ByteArray.size_append, hl34, List.length_append, List.length_append, ← Lib.size_eq]
              omega) (by omega))
            rw [hcatl.out] at H2
            have HK7 := hid k7
            clear k7 HQt
            go_wp2_with (go_at_call 25; refine H2.out.mono ?_)
            rintro e w8 ⟨rfl, hb8, hk8⟩
            have hs8 := hk8.size
            have Hfin : Hid (Bld w8 w3.heap.size w3.heap.size (matsT (l.take (k + 1)))) := by
              refine hid ?_
              rw [HT.out]
              have e : matsT (l.take k) ++ (pre ++ X.data.toList) ++ (markB N ++ [34] ++ quoteL Y.data.toList ++ [34]) = matsT (l.take k) ++ (pre ++ matT (N, X, Y)) := by
                unfold matT valT
                rw [if_pos (show N < 4 by omega)]
                simp
              rw [← e]
              exact hb8
            have HBl := hid (HBel.out.trans (HK6.out.below.trans (Below.trans (⟨HK7.out.os, HK7.out.tape, HK7.out.output, HK7.out.size, fun q hq => HK7.out.block q (by omega) (fun f => f)⟩ : Below w3.heap.size w6 w7) hk8.below)))
            clear hb8 hk8 H2
            go_wp2
            refine ⟨⟨k + 1, _, by omega, by go_num, rfl, ?_, Hfin.out, HBl.out, by omega⟩, ?_⟩
            · rw [hnil.out]
            · simp [intOf]
              omega
        · have e : k = L := by omega
          subst e
          have H2 := hid (bstring_any HB.out (by omega))
          clear hb
          go_wp2_with (go_at_call 27; refine H2.out.mono ?_)
          rintro e w5 ⟨rfl, hk5⟩
          go_wp2
          go_ret
          refine ⟨?_, ?_⟩
          · rw [Ht.out]
            have : l.take k = l := List.take_of_length_le (by have := HL.out; omega)
            rw [this]
            rfl
          · have hb := HW.out.trans hk5
            exact HK3.out.trans (O' := fun _ => False) ⟨hb.os, hb.tape, hb.output, hb.size, fun q hq _ => hb.block q hq⟩ (fun _ _ f => f)
  · have Ht : Hid (mkB (mtxtL l) = ⟨#[]⟩) := by refine hid ?_; unfold mtxtL; rw [if_neg hck]
    generalize checkM l = C at HC hck
    have hC : (C != 0) = true := by simpa using hck
    go_enter Try.func15, Try.ntmps15
    go_wp2_with fail
    refine HC.out.mono ?_
    rintro e w1 ⟨rfl, k1⟩
    go_wp2
    go_ret
    exact ⟨by rw [Ht.out]; rfl, k1⟩
end Go.Proofs.Ytbdcaikcdhfdoaa.N
