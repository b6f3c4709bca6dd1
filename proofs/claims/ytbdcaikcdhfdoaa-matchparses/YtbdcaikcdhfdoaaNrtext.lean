/-
  The document's own Text.
-/
import Derived.Test.YtbdcaikcdhfdoaaNrmake
import Derived.Test.YtbdcaikcdhfdoaaNread
import Derived.Shelf.RegionOpenPlain
namespace Go.Proofs.Ytbdcaikcdhfdoaa.N
open Go.RowKit Go.Proofs.Lys
set_option linter.unusedVariables false
set_option linter.unusedSimpArgs false

theorem bytes_conv {w : World} {v : Value} {bs : List UInt8} (h : SrcOf w v (bs.map bV)) : (convert 55 9 v).run Try.prog w = .ok (.string (mkB bs)) w := by
  rcases h with ⟨rfl, e⟩ | ⟨a, c, rfl, hc⟩
  · have : bs = [] := List.map_eq_nil_iff.1 e
    subst this
    exact run_convert_bytes_nil (P := Try.prog) w 55 5 Try.underlying55 Try.underlying5 0 0 9 Try.underlying9
  · rw [List.length_map]
    refine run_convert_bytes_back (P := Try.prog) w 55 9 5 a c bs Try.underlying55 Try.underlying5 Try.underlying9 (fun j hj => ?_)
    exact hc j _ (by rw [List.getElem?_map, List.getElem?_eq_getElem hj]; rfl)

/-- A row of bytes that is owned. -/
abbrev BytAt (w : World) (B : Nat) (v : Value) (l : List UInt8) : Prop := w.ownsRow B 5 1 v l.length (l.map bV)
/-- It grows by bytes that are laid just now. -/
theorem byt_step {w0 w : World} {v : Value} {l : List UInt8} (hown : BytAt w w0.heap.size v l) (hk : Kept w0 w) (q : List UInt8) (hq : 0 < q.length) (hl : l.length + q.length < 1000000) :
    ∃ g cap w', Hid ((Builtin.append_ #[55, 55] 0 #[v, .slice (some ⟨w.heap.size, 0, none⟩) q.length q.length]).run Try.prog (w.alloc (.cells (q.map bV).toArray 5)) = .ok (.slice (some ⟨g, 0, none⟩) (l.length + q.length) cap) w') ∧ BytAt w' w0.heap.size (.slice (some ⟨g, 0, none⟩) (l.length + q.length) cap) (l ++ q) ∧ Kept w0 w' := by
  have k1 : Kept w (w.alloc (.cells (q.map bV).toArray 5)) := (Only.refl _ w).alloc _
  have hs1 := hk.size
  have hsrc : SrcOf (w.alloc (.cells (q.map bV).toArray 5)) (.slice (some ⟨w.heap.size, 0, none⟩) q.length q.length) (q.map bV) := by
    refine .inr ⟨⟨w.heap.size, 0, none⟩, q.length, by rw [List.length_map], fun j u hu => ?_⟩
    rw [add_none, Nat.zero_add]
    exact (Blk.new w (q.map bV) 5).cell j hu
  obtain ⟨v', w', hr, h1, h2, h3⟩ := append_src (P := Try.prog) (base := w0.heap.size) Try.underlying55 Try.infoByteN rfl (by decide) (own_only hown k1 (fun _ _ f => f)) hsrc (bytes_one q) (by rw [List.length_map]; omega) (Nat.le_trans hs1 k1.size)
  obtain ⟨g, cap, rfl⟩ := own_some h1 (by rw [List.length_map]; omega)
  rw [List.length_map] at hr h1
  refine ⟨g, cap, w', hr, ?_, (hk.trans k1 (fun _ _ f => f)).grown h2 (fun j hj hlt => by have := (own_only hown k1 (fun _ _ f => f)).lt j hj; omega)⟩
  unfold BytAt
  rw [List.length_append, List.map_append]
  exact h1

theorem append_step {P : Program} {ops : Array Oper} {o : Oper} {a : Act} {w : World} {K : Act → World → Prop} {Q : Exit → Act → World → Prop} {E : Prop} (hgd : o.guard = none) (s x : Operand) (t : TypeId)
    (ho : o.op = .call { callee := .builtin .append, args := #[s, x], argTypes := #[t, t] }) {sv xv : Value} (hs : a.eval s = sv) (hx : a.eval x = xv) {v : Value} {w' : World}
    (hrun : Hid ((Builtin.append_ #[t, t] 0 #[sv, xv]).run P w = .ok v w')) (h : K (a.put o.dst v) w') : if Region.wanted o (yielded ops a.tmps) = true then Oper.wp P o a w K Q else E := by
  rw [if_pos (by simp [Region.wanted, hgd])]
  exact oper_append s x t ho hs hx hrun h

theorem quote_snoc (s : ByteArray) (k : Nat) (h : k < s.size) : quoteL (s.data.toList.take (k + 1)) = quoteL (s.data.toList.take k) ++ quoteB (s[k]'h) := by
  rw [take_snoc s k h, quoteL_app]
  simp [quoteL]
set_option maxRecDepth 100000 in
set_option maxHeartbeats 3200000 in
theorem rquote_any (w : World) (s : ByteArray) (hs : s.size ≤ 1000) :
    Calls Try.prog 28 #[.string s] w fun e w' => e = .returned (.string (mkB (34 :: (quoteL s.data.toList ++ [34])))) ∧ Kept w w' := by
  have HS0 : Hid (BytAt (w.alloc (.cells #[.int .u8 34] 5)) w.heap.size (.slice (some ⟨w.heap.size, 0, none⟩) 1 1) (34 :: quoteL (s.data.toList.take 0)) ∧ Kept w (w.alloc (.cells #[.int .u8 34] 5))) := by
    refine ⟨?_, (Only.refl _ w).alloc _⟩
    have := World.ownsRow_lit (base := w.heap.size) (e := 5) (size := 1) w #[.int .u8 34] 1 (Nat.le_refl _) (by unfold maxLen; omega) rfl
    exact this
  have mixed : Try.prog.follows Departure.mixedOrders = true := by kernel_rfl
  go_enter Try.func28, Try.ntmps28
  go_wp2
  generalize w.alloc (.cells #[.int .u8 34] 5) = w0 at HS0 ⊢
  go_loopw [3, 4] (fun b i wr => ∃ (k : Nat), k ≤ s.size ∧ i = .int .i64 (k : Int) ∧ BytAt wr w.heap.size b (34 :: quoteL (s.data.toList.take k)) ∧ Kept w wr) (fun _ i _ => s.size - (intOf i).toNat)
  case atStart => exact ⟨0, by omega, rfl, HS0.out⟩
  case round =>
    obtain ⟨k, hk, rfl, hat, kr⟩ := hrel
    obtain ⟨oa, oc, rfl⟩ := own_slice hat
    have hql := quote_len (s.data.toList.take k)
    rw [List.length_take] at hql
    have hln : (34 :: quoteL (s.data.toList.take k)).length ≤ 1 + 3 * s.size := by simp; omega
    have HA := hid hat
    have HK := hid kr
    by_cases hlt : k < s.size
    · have HQ := hid (quote_snoc s k hlt)
      have hcl := (s[k]'hlt).toNat_lt
      cases hsh : shownB (s[k]'hlt) with
      | true =>
        have hq1 : quoteB (s[k]'hlt) = [s[k]'hlt] := by unfold quoteB; rw [hsh]; rfl
        obtain ⟨g, cap, w4, Hr, hat4, hk4⟩ := byt_step (w0 := w) hat kr [s[k]'hlt] (by simp) (by simp only [List.length_singleton]; omega)
        simp only [List.map_cons, List.map_nil, List.length_singleton, bV] at Hr hat4
        rw [List.cons_append, ← hq1, ← HQ.out] at hat4
        have HA4 := hid hat4
        have HK4 := hid hk4
        clear hat4 hk4 hat kr hq1
        simp only [shownB, Bool.and_eq_true, decide_eq_true_eq] at hsh
        generalize (34 :: quoteL (s.data.toList.take k)).length = N at Hr HA4 hln ⊢
        generalize hc : s[k]'hlt = c at Hr hsh hcl
        have p1 : ¬ ((c.toNat : Int) < 32) := by omega
        have p2 : ¬ ((126 : Int) < (c.toNat : Int)) := by omega
        have p3 : ((c.toNat : Int) == 34) = false := by simp; omega
        have p4 : ((c.toNat : Int) == 92) = false := by simp; omega
        clear HA HQ hsh
        go_wp2_with (at_builtin; refine wpList_append_run rfl _ _ _ rfl rfl rfl Hr ?_)
        refine ⟨⟨k + 1, by omega, by go_num, HA4.out, HK4.out⟩, ?_⟩
        simp [intOf]
        omega
      | false =>
        have hq1 : quoteB (s[k]'hlt) = [92, hexD ((s[k]'hlt).toNat / 16), hexD ((s[k]'hlt).toNat % 16)] := by unfold quoteB; rw [hsh]; rfl
        obtain ⟨g, cap, w4, Hr, hat4, hk4⟩ := byt_step (w0 := w) (w := wr.drew) (own_only hat ((Only.refl _ wr).drew) (fun _ _ f => f)) kr.drew [92, hexD ((s[k]'hlt).toNat / 16), hexD ((s[k]'hlt).toNat % 16)] (by simp) (by simp only [List.length_cons, List.length_nil] at hln ⊢; omega)
        simp only [List.map_cons, List.map_nil, bV] at Hr
        rw [List.cons_append, ← hq1, ← HQ.out] at hat4
        have hl3 : ([92, hexD ((s[k]'hlt).toNat / 16), hexD ((s[k]'hlt).toNat % 16)] : List UInt8).length = 3 := rfl
        rw [hl3] at Hr
        rw [hq1, hl3] at hat4
        have HA4 := hid hat4
        have HK4 := hid hk4
        clear hat4 hk4 hat kr hq1 hl3
        have hns : ¬ (32 ≤ (s[k]'hlt).toNat ∧ (s[k]'hlt).toNat ≤ 126 ∧ (s[k]'hlt).toNat ≠ 34 ∧ (s[k]'hlt).toNat ≠ 92) := by
          rintro ⟨q1, q2, q3, q4⟩
          have : shownB (s[k]'hlt) = true := by
            simp only [shownB, Bool.and_eq_true, decide_eq_true_eq]
            exact ⟨⟨⟨q1, q2⟩, q3⟩, q4⟩
          rw [hsh] at this
          cases this
        generalize (34 :: quoteL (s.data.toList.take k)).length = N at Hr HA4 hln ⊢
        generalize hc : s[k]'hlt = c at Hr hns hcl
        have d1 := digits_at (c.toNat / 16) (by omega)
        have d2 := digits_at (c.toNat % 16) (by omega)
        clear HA HQ hsh
        have q0 : IntKind.u8.wrap ((c.toNat : Int) / 16) = ((c.toNat / 16 : Nat) : Int) := by
          simp [IntKind.wrap, IntKind.bits, IntKind.signed]
          omega
        have a0 : (0 : Int) ≤ (c.toNat : Int) / 16 := by omega
        have a1 : (c.toNat : Int) / 16 < 16 := by omega
        have a2 : ((c.toNat : Int) / 16).toNat = c.toNat / 16 := by omega
        have m0 : (c.toNat : Int).tmod 16 = (c.toNat : Int) % 16 := Int.tmod_eq_emod_of_nonneg (by omega)
        have b0 : (0 : Int) ≤ (c.toNat : Int) % 16 := by omega
        have b1 : (c.toNat : Int) % 16 < 16 := by omega
        have b2 : ((c.toNat : Int) % 16).toNat = c.toNat % 16 := by omega
        by_cases z1 : c.toNat < 32
        · have p1 : (c.toNat : Int) < 32 := by omega
          go_wp2_with fail
          go_region_law_o (refine append_step rfl _ _ 55 rfl (by simp [Act.eval, Act.put]) (by simp [Act.eval, Act.put]) Hr ?_)
          all_goals go_wp2_with fail
          all_goals refine ⟨⟨k + 1, by omega, by go_num, HA4.out, HK4.out⟩, ?_⟩
          all_goals simp [intOf]
          all_goals omega
        by_cases z2 : 126 < c.toNat
        · have p1 : ¬ ((c.toNat : Int) < 32) := by omega
          have p2 : (126 : Int) < (c.toNat : Int) := by omega
          go_wp2_with fail
          go_region_law_o (refine append_step rfl _ _ 55 rfl (by simp [Act.eval, Act.put]) (by simp [Act.eval, Act.put]) Hr ?_)
          all_goals go_wp2_with fail
          all_goals refine ⟨⟨k + 1, by omega, by go_num, HA4.out, HK4.out⟩, ?_⟩
          all_goals simp [intOf]
          all_goals omega
        have p1 : ¬ ((c.toNat : Int) < 32) := by omega
        have p2 : ¬ ((126 : Int) < (c.toNat : Int)) := by omega
        by_cases z3 : c.toNat = 34
        · have p3 : ((c.toNat : Int) == 34) = true := by simp; omega
          have HZ := hid z3
          clear z3 hns
          go_wp2_with fail
          go_region_law_o (refine append_step rfl _ _ 55 rfl (by simp [Act.eval, Act.put]) (by simp [Act.eval, Act.put]) Hr ?_)
          all_goals go_wp2_with fail
          all_goals refine ⟨⟨k + 1, by omega, by go_num, HA4.out, HK4.out⟩, ?_⟩
          all_goals simp [intOf]
          all_goals omega
        have p3 : ((c.toNat : Int) == 34) = false := by simp; omega
        have p4 : ((c.toNat : Int) == 92) = true := by simp; omega
        clear hns
        go_wp2_with fail
        go_region_law_o (refine append_step rfl _ _ 55 rfl (by simp [Act.eval, Act.put]) (by simp [Act.eval, Act.put]) Hr ?_)
        all_goals go_wp2_with fail
        all_goals refine ⟨⟨k + 1, by omega, by go_num, HA4.out, HK4.out⟩, ?_⟩
        all_goals simp [intOf]
        all_goals omega
    · have e : k = s.size := by omega
      subst e
      have htk : s.data.toList.take s.size = s.data.toList := List.take_of_length_le (by rw [← Lib.size_eq]; omega)
      rw [htk] at hat hln ⊢
      obtain ⟨g, cap, w4, Hr, hat4, hk4⟩ := byt_step (w0 := w) hat kr [34] (by simp) (by simp only [List.length_singleton]; omega)
      have hcv := bytes_conv (own_src hat4)
      have HE : Hid (34 :: quoteL s.data.toList ++ [34] = 34 :: (quoteL s.data.toList ++ [34])) := rfl
      rw [HE.out] at hcv
      simp only [List.map_cons, List.map_nil, List.length_singleton, bV] at Hr hcv
      have HK4 := hid hk4
      clear hat4 hk4 hat kr htk HA
      generalize (34 :: quoteL s.data.toList).length = N at Hr hln hcv ⊢
      generalize hR : mkB (34 :: (quoteL s.data.toList ++ [34])) = R at hcv
      have HRR := hid hR
      clear hR
      go_wp2_with (at_builtin; refine wpList_append_run rfl _ _ _ rfl rfl rfl Hr ?_)
      go_ret
      exact ⟨by rw [HRR.out]; rfl, HK4.out⟩

/-- What the document's own Text has gathered. -/
def refT (l : Labs) : List UInt8 := if l = [] then [123] else accT l
theorem refT_snoc {m : Labs} {k : Nat} (hk : k < m.length) : refT (m.take (k + 1)) = (if k = 0 then refT (m.take k) else refT (m.take k) ++ [44]) ++ labT m[k] := by
  rw [← List.take_append_getElem hk]
  unfold refT
  rw [if_neg (fun e => by have := congrArg List.length e; rw [List.length_append] at this; simp at this), accT_snoc]
  by_cases h : k = 0
  · subst h
    simp [accT]
  · have hne : m.take k ≠ [] := fun e => by
      have := congrArg List.length e
      rw [List.length_take, List.length_nil] at this
      omega
    rw [if_neg hne, if_neg h, if_neg hne]
    simp
end Go.Proofs.Ytbdcaikcdhfdoaa.N
